/- The reference's constants and its first state. -/
import Derived.Test.YtikdpiedjkailaaDoorR1
import Derived.Test.YtikdpiedjkailaaDoorT7
import Derived.Test.YtikdpiedjkailaaDoorT8
namespace Go.Proofs.YtikdpiedjkailaaDoor
open Go.RowKit

def karr : Array Value := (kts.map fun (n : Nat) => Value.int .u32 (Int.ofNat n)).toArray
theorem karr_eq : karr = arr 64 fun t => wv (kt t) := by kernel_rfl
theorem karr_size : karr.size = 64 := by kernel_rfl
theorem karr_all : karr.all (·.oneCell') = true := by kernel_rfl
theorem info69 : (Tryd.prog.info? 100).map (·.size) = some 64 := by kernel_rfl
set_option maxRecDepth 100000 in
set_option maxHeartbeats 1000000 in
theorem k_any (w : World) : Calls Tryd.prog 51 #[] w fun e w' => e = .returned (.agg (arr 64 fun t => wv (kt t))) ∧ Ch (fun _ => False) w w' := by
  rw [← karr_eq]
  go_enter Tryd.func51, Tryd.ntmps51
  go_wp2_with (first | (refine wpList_build rfl 69 _ rfl karr (by kernel_rfl) ?_) | (refine wpList_store_row rfl 100 (.tmp 0) (.tmp 1) rfl w.heap.size karr rfl rfl 100 (arr 64 fun _ => .int .u32 0) (World.alloc_heap_new w _) (by rw [karr_size]; exact info69) (by rw [arr_size, karr_size]) karr_all ?_))
  refine bodyPost_ret (results_cell_row (h := Tryd.results51) _ _ w.heap.size 100 karr (0, 0) _ rfl (heap_setRow (World.alloc_heap_new w _)) Tryd.underlying100 rfl (by rw [karr_size]; exact info69)) rfl ⟨rfl, ?_⟩
  exact (((Ch.refl _ w).alloc _)).setRow (by simp) _

set_option maxHeartbeats 400000 in
theorem rfirst_any (w : World) : Calls Tryd.prog 35 #[] w fun e w' => e = .returned (.agg #[wv st0.a, wv st0.b, wv st0.c, wv st0.d, wv st0.e, wv st0.f, wv st0.g, wv st0.h]) ∧ w' = w.alloc (.cells #[wv st0.a, wv st0.b, wv st0.c, wv st0.d, wv st0.e, wv st0.f, wv st0.g, wv st0.h] 81) := by
  rw [← st0_a, ← st0_b, ← st0_c, ← st0_d, ← st0_e, ← st0_f, ← st0_g, ← st0_h]
  go_enter Tryd.func35, Tryd.ntmps35
  go_wp2
  refine bodyPost_ret (v := .agg #[.int .u32 1779033703, .int .u32 3144134277, .int .u32 1013904242, .int .u32 2773480762, .int .u32 1359893119, .int .u32 2600822924, .int .u32 528734635, .int .u32 1541459225]) (by simp [results, Tryd.results35, go_sem]) rfl ⟨rfl, rfl⟩
end Go.Proofs.YtikdpiedjkailaaDoor
