import Derived.Test.YtdmeeghgbiffmaaDoorT9
namespace Go.Proofs.YtdmeeghgbiffmaaDoor
open Go.RowKit

set_option maxRecDepth 100000 in
set_option maxHeartbeats 200000 in
theorem twice_any (a off N cap : Nat) (sp : Option Addr) (P : Nat → Option Addr) (L C : Nat → Nat) (f : Nat → UInt8) (w : World) (hsp : sp = some ⟨a, off, none⟩ ∨ N = 0) (hN : N ≤ 1000000)
    (hn : upto L N ≤ 1000000000000) (hP : PartsAt w a off N P L C f) (hK : KAt w) :
    Calls Tryd.prog 19 #[.slice sp N cap] w fun e w' => e = .returned (.agg (hv (hashB (hashB f (upto L N)) 32))) ∧ Ch (fun _ => False) w w' := by
  have h1 := Go.Lib.hid (sum_any a off N cap sp P L C f (w.alloc (.cells (arr 32 fun _ => .int .u8 0) 31)) hsp hN hn (hP.ch ((Ch.refl _ w).alloc _) (fun _ _ => id)) (hK.ch ((Ch.refl (fun _ => False) w).alloc _) id))
  have HK := Go.Lib.hid hK
  clear hK hP
  generalize hashB f (upto L N) = g at *
  go_enter Tryd.func19, Tryd.ntmps19
  go_wp2_with fail
  refine h1.out.mono ?_; rintro e w1 ⟨rfl, hw1⟩; have HW1 := Go.Lib.hid hw1; clear hw1
  go_wp2_with (refine wpList_store_row rfl 31 (.tmp 3) (.tmp 5) rfl w1.heap.size (hv g) rfl rfl 31 _ (World.alloc_heap_new w1 _) (hv_info _) (by rw [show (hv g).size = 32 from arr_size _ _]; rfl) (hv_all _) ?_)
  generalize hA : (w1.alloc _).setRow w1.heap.size (hv g) = W2
  have hh2 : W2.heap[w1.heap.size]? = some (.cells (hv g) 31) := by rw [← hA]; exact heap_setRow (World.alloc_heap_new w1 _)
  have hs2 : W2.heap.size = w1.heap.size + 1 := by rw [← hA]; simp
  have hc2 : Ch (fun _ => False) w1 W2 := by rw [← hA]; exact ((Ch.refl _ _).alloc _).setRow (fun h => absurd h (Nat.lt_irrefl _)) _
  have hc0 : Ch (fun _ => False) w w1 := ((Ch.refl _ w).alloc _).trans (HW1.out.mono (fun _ _ h => h))
  have hh0 : W2.heap[w.heap.size]? = some (.cells (arr 32 fun _ => .int .u8 0) 31) := hc2.heap (HW1.out.heap (World.alloc_heap_new w _) id) id
  clear hA
  rw [← hs2]
  generalize hO : (Obj.cells #[Value.slice (some ⟨w1.heap.size, 0, none⟩) 32 32] 34) = O
  have hc3 : Ch (fun _ => False) W2 (W2.alloc O) := (Ch.refl _ _).alloc _
  have hp : PartsAt (W2.alloc O) W2.heap.size 0 1 (fun _ => some ⟨w1.heap.size, 0, none⟩) (fun _ => 32) (fun _ => 32) g := by
    refine ⟨fun i hi => ?_, fun i hi => ⟨w1.heap.size, 0, .inl rfl, by have := hc3.size; omega, fun j hj => ?_⟩⟩
    · obtain rfl : i = 0 := by omega
      rw [← hO]; exact cell_fresh W2 _ 34 0
    · obtain rfl : i = 0 := by omega
      refine hc3.get ((cell_of_heap hh2 _).trans ?_) id
      rw [Nat.zero_add, show upto (fun _ => 32) 0 = 0 from rfl, Nat.zero_add]
      exact arr_get 32 _ j hj
  have HH3 := Go.Lib.hid (hc3.heap hh0 id)
  have HC3 := Go.Lib.hid ((hc0.trans hc2).trans hc3)
  have hss := hs2
  have h2 := sum_any W2.heap.size 0 1 1 (some ⟨W2.heap.size, 0, none⟩) (fun _ => some ⟨w1.heap.size, 0, none⟩) (fun _ => 32) (fun _ => 32) g (W2.alloc O) (.inl rfl) (by omega) (by decide) hp (HK.out.ch HC3.out id)
  clear hp hh2 hs2 hc2 hc0 hh0 hO
  generalize W2.alloc O = W3 at *
  refine h2.mono ?_
  rintro e w4 ⟨rfl, hw4⟩
  rw [show upto (fun _ => 32) 1 = 32 from rfl]
  have HH4 := Go.Lib.hid (hw4.heap HH3.out id)
  have HC4 := Go.Lib.hid (HC3.out.trans hw4)
  clear h2 hw4
  go_wp2_with (refine wpList_store_row rfl 31 (.tmp 2) (.tmp 8) rfl w.heap.size (hv (hashB g 32)) rfl rfl 31 (arr 32 fun _ => .int .u8 0) HH4.out (hv_info _) (by rw [arr_size]; exact (arr_size _ _).symm) (hv_all _) ?_)
  refine bodyPost_ret (results_cell_row (h := Tryd.results19) _ _ w.heap.size 31 _ (0, 0) _ rfl (heap_setRow HH4.out) Tryd.underlying31 rfl (hv_info _)) rfl ⟨rfl, ?_⟩
  exact HC4.out.setRow (fun h => absurd h (Nat.lt_irrefl _)) _
end Go.Proofs.YtdmeeghgbiffmaaDoor
