/- The reference's Twice. -/
import Derived.Test.YtdmeeghgbiffmaaDoorR6
namespace Go.Proofs.YtdmeeghgbiffmaaDoor
open Go.RowKit

set_option maxRecDepth 100000 in
set_option maxHeartbeats 1000000 in
theorem rtwice_any (p : Option Addr) (n c : Nat) (f : Nat → UInt8) (w : World) (hn : n ≤ 1000000000000) (hb : BytesAt w p n c f) :
    Calls Tryd.prog 20 #[.slice p n c] w fun e w' => e = .returned (.agg (hv (hashB (hashB f n) 32))) ∧ Ch (fun _ => False) w w' := by
  have HP := Go.Lib.hid (fun (W : World) (h : Ch (fun _ => False) w W) => rsum_any p n c f W hn (hb.ch h (fun _ _ => id)))
  clear hb
  generalize hashB f n = g at *
  have HI1 := Go.Lib.hid (hv_info g); have HI2 := Go.Lib.hid (hv_all g)
  have HI3 := Go.Lib.hid (show (arr 32 fun _ => (.int .u8 0 : Value)).size = (hv g).size by rw [arr_size]; exact (arr_size _ _).symm)
  have HB := Go.Lib.hid (fun (W : World) (b : Nat) (h : W.heap[b]? = some (.cells (hv g) 31)) => rsum_any (some ⟨b, 0, none⟩) 32 32 g W (by omega) (.inl ⟨b, 0, rfl, Nat.le_refl _, fun j hj => (cell_of_heap h _).trans (by rw [Nat.zero_add]; exact arr_get 32 _ j hj)⟩))
  have HJ1 := Go.Lib.hid (hv_info (hashB g 32)); have HJ2 := Go.Lib.hid (hv_all (hashB g 32))
  have HJ3 := Go.Lib.hid (show (arr 32 fun _ => (.int .u8 0 : Value)).size = (hv (hashB g 32)).size by rw [arr_size]; exact (arr_size _ _).symm)
  generalize hv g = R at *
  generalize hv (hashB g 32) = R2 at *
  go_enter Tryd.func20, Tryd.ntmps20
  go_wp2_with fail
  refine (HP.out _ ((Ch.refl _ w).alloc _)).mono ?_; rintro e w1 ⟨rfl, hw1⟩
  have HR1 := Go.Lib.hid (hw1.heap (World.alloc_heap_new w (.cells (arr 32 fun _ => .int .u8 0) 31)) id)
  have HC1 := Go.Lib.hid (((Ch.refl _ w).alloc _).trans hw1)
  clear hw1
  go_upto_region 2 with (refine wpList_store_row rfl 31 (.tmp 3) (.tmp 5) rfl w1.heap.size R rfl rfl 31 (arr 32 fun _ => .int .u8 0) (World.alloc_heap_new w1 _) HI1.out HI3.out HI2.out ?_)
  generalize hW2 : (w1.alloc _).setRow w1.heap.size R = W2
  have hx2 : W2.heap[w1.heap.size]? = some (.cells R 31) := by rw [← hW2]; exact heap_setRow (World.alloc_heap_new w1 _)
  have hc2 : Ch (fun _ => False) w1 W2 := by rw [← hW2]; exact ((Ch.refl _ _).alloc _).setRow (fun h => absurd h (Nat.lt_irrefl _)) _
  have HX2 := Go.Lib.hid hx2; have HR2 := Go.Lib.hid (hc2.heap HR1.out id); have HC2 := Go.Lib.hid (HC1.out.trans hc2)
  clear hW2 hx2 hc2 HR1 HC1
  generalize w1.heap.size = X at *
  go_wp2_with fail
  refine (HB.out _ X HX2.out).mono ?_; rintro e w3 ⟨rfl, hw3⟩
  have HR3 := Go.Lib.hid (hw3.heap HR2.out id); have HC3 := Go.Lib.hid (HC2.out.trans hw3)
  clear hw3
  go_wp2_with (refine wpList_store_row rfl 31 (.tmp 2) (.tmp 7) rfl w.heap.size R2 rfl rfl 31 _ HR3.out HJ1.out HJ3.out HJ2.out ?_)
  refine bodyPost_ret (results_cell_row (h := Tryd.results20) _ _ w.heap.size 31 R2 (0, 0) _ rfl (heap_setRow HR3.out) Tryd.underlying31 rfl HJ1.out) rfl ⟨rfl, ?_⟩
  exact HC3.out.setRow (fun h => absurd h (Nat.lt_irrefl _)) _
end Go.Proofs.YtdmeeghgbiffmaaDoor
