/- The code's Press; a region of values and of stores, in whatever order. -/
import Derived.Test.YtdmeeghgbiffmaaDoorR3
import Derived.Test.YtdmeeghgbiffmaaDoorReg
namespace Go.Proofs.YtdmeeghgbiffmaaDoor
open Go Go.RowKit

theorem ring_zero {w : World} {b : Nat} (h : w.heap[b]? = some (.cells (arr 16 fun _ => .int .u32 0) 63)) : Ring w b (fun _ => 0#32) := fun j hj =>
  ⟨(cell_of_heap h j).trans (arr_get _ _ _ hj), frozen_of_heap h j⟩
theorem cells_size13 (T : St) : T.cells.size = 8 := by rw [cells_arr, arr_size]
theorem cells_info13 (T : St) : (Tryd.prog.info? 26).map (·.size) = some T.cells.size := by rw [cells_size13]; exact info26
theorem index_22 (B : Array Value) (k : Nat) (hk : k < 64) (c : UInt8) (hb : B[k]? = some (.int .u8 (c.toNat : Int))) (w : World) : (Instr.index 22 (.agg B) (.int .i64 (k : Int))).run Tryd.prog w = .ok (.int .u8 (c.toNat : Int)) w := by
  have h1 : (k : Int) < 64 := by omega
  have h2 : ¬ 64 ≤ k := by omega
  simp [Instr.index, run_underlying Tryd.underlying22, asIntOf, h1, h2, hb, go_sem]
set_option maxRecDepth 100000 in
set_option maxHeartbeats 1000000 in
theorem press_any (s : St) (f : Nat → UInt8) (w : World) (hK : KAt w) :
    Calls Tryd.prog 13 #[s.val, .agg (arr 64 fun i => .int .u8 ((f i).toNat : Int))] w fun e w' => e = .returned (press1 s (wordOf f 0)).val ∧ Ch (fun _ => False) w w' := by
  unfold St.val
  have HK := Go.Lib.hid hK
  have hw0 : 0 < w.heap.size := cell_lt (hK 0 (by omega))
  have HW0 := Go.Lib.hid hw0
  clear hK hw0
  have HP1 := Go.Lib.hid (show (Tryd.prog.info? 26).map (·.size) = some s.cells.size from info26)
  have HSV := Go.Lib.hid (show Value.agg s.cells = s.val from rfl)
  generalize hcs : s.cells = cs at *
  generalize hB : (arr 64 fun i => Value.int .u8 ((f i).toNat : Int)) = B
  have HB1 := Go.Lib.hid (show (Tryd.prog.info? 22).map (·.size) = some B.size by rw [← hB, arr_size]; exact info22)
  have HB2 := Go.Lib.hid (show B.size = 64 by rw [← hB, arr_size])
  have HB3 := Go.Lib.hid (fun i (hi : i < 64) => (show B[i]? = some (.int .u8 ((f i).toNat : Int)) by rw [← hB]; exact arr_get _ _ _ hi))
  clear hB hcs
  go_enter Tryd.func13, Tryd.ntmps13
  go_upto_region 2 with (fail)
  generalize hW0 : World.alloc (World.alloc (World.alloc (World.alloc w _) _) _) _ = W0
  have hg0 : W0.heap[w.heap.size]? = some (.cells cs 26) := by
    rw [← hW0]; exact Ch.heap ((((Ch.refl (fun _ => False) _).alloc _).alloc _).alloc _) (World.alloc_heap_new w _) id
  have hg1 : W0.heap[w.heap.size + 1]? = some (.cells B 22) := by
    rw [← hW0]; exact Ch.heap (((Ch.refl (fun _ => False) (((w.alloc _)).alloc (.cells B 22))).alloc _).alloc _) (by rw [← World.size_alloc w]; exact World.alloc_heap_new _ _) id
  have hg2 : W0.heap[w.heap.size + 1 + 1]? = some (.cells (arr 8 fun _ => .int .u32 0) 26) := by
    rw [← hW0]; exact Ch.heap (((Ch.refl (fun _ => False) ((((w.alloc _)).alloc _).alloc (.cells (arr 8 fun _ => .int .u32 0) 26))).alloc _)) (by rw [← World.size_alloc w, ← World.size_alloc (w.alloc _)]; exact World.alloc_heap_new _ _) id
  have hg3 : W0.heap[w.heap.size + 1 + 1 + 1]? = some (.cells (arr 16 fun _ => .int .u32 0) 63) := by
    rw [← hW0, ← World.size_alloc w, ← World.size_alloc (w.alloc _), ← World.size_alloc ((w.alloc _).alloc _)]; exact World.alloc_heap_new _ _
  have hc0 : Ch (fun _ => False) w W0 := by rw [← hW0]; exact ((((Ch.refl _ w).alloc _).alloc _).alloc _).alloc _
  clear hW0
  generalize hA : w.heap.size = A at *
  have HA := Go.Lib.hid hA
  have HG0 := Go.Lib.hid hg0; have HG1 := Go.Lib.hid hg1; have HG2 := Go.Lib.hid hg2; have HG3 := Go.Lib.hid hg3; have HC0 := Go.Lib.hid hc0
  clear hA hg0 hg1 hg2 hg3 hc0
  go_upto_region 3 with (refine wpList_load_row rfl 22 (.tmp 3) rfl (A + 1) rfl 22 B (0, 0) _ HG1.out Tryd.underlying22 rfl HB1.out ?_)
  go_loopw [6, 7, 9] (fun _ _ i wr => ∃ (t : Nat) (m : Nat → BitVec 32), t ≤ 64 ∧ i = .int .i64 t ∧ Ring wr (A + 1 + 1 + 1) m ∧ Part f 0 t m ∧ Ch (fun k => k = A + 1 + 1 + 1) W0 wr) (fun _ _ i _ => 64 - (intOf i).toNat)
  case atStart => exact ⟨0, _, by omega, rfl, ring_zero HG3.out, Part.zero _ _ _, Ch.refl _ _⟩
  case round =>
    obtain ⟨t, m, ht, rfl, hr, hp, hC⟩ := hrel
    have HR := Go.Lib.hid hr; have HP := Go.Lib.hid hp; have HC := Go.Lib.hid hC
    clear hr hp hC
    by_cases hlt : t < 64
    · have hb := HB3.out t hlt
      have hti : (t : Int) < 64 := by omega
      have HL := Go.Lib.hid (lay_at (A + 1 + 1 + 1) t (t : Int) (f t) m wr rfl hlt HR.out)
      have hix := index_22 B t hlt (f t) hb
      clear hb
      go_wp2_with fail
      refine HL.out.mono ?_; rintro e w1 ⟨rfl, hr1, hc1⟩
      have HR1 := Go.Lib.hid hr1; have HC1 := Go.Lib.hid (HC.out.trans (hc1.ch.mono (fun k _ h => h.elim id (fun h => h.elim))))
      have HP1' := Go.Lib.hid (show Part f 0 (t + 1) (laid m t (f t)) by have h := HP.out.step hlt; rwa [Nat.zero_add] at h)
      clear hr1 hc1 hix
      go_wp2_with fail
      go_roundw
      case rel => exact ⟨t + 1, _, by omega, by go_num, HR1.out, HP1'.out, HC1.out⟩
      case measure => simp [intOf]; omega
    · obtain rfl : t = 64 := by omega
      have HW1 := Go.Lib.hid (show Ch (fun _ => False) w wr from HC0.out.then HC.out (fun i hi h => by have := HA.out; omega))
      have HI := Go.Lib.hid (fun (W : World) (h : Ch (fun _ => False) wr W) => into_any (A + 1 + 1 + 1) s m kt W (fun j hj => ⟨h.get (HR.out j hj).1 id, (h.frozen (cell_lt (HR.out j hj).1) id).trans (HR.out j hj).2⟩) (fun j hj => (HW1.out.trans h).get (HK.out j hj) id) (by omega))
      have HPR := Go.Lib.hid (show s.plus (turns kt m s 64) = press1 s (wordOf f 0) by unfold press1; rw [turns_congr (fun k hk => HP.out.full k hk)])
      rw [← HSV.out] at HI
      generalize s.plus (turns kt m s 64) = T at *
      have hx : wr.heap[A]? = some (.cells cs 26) := HC.out.heap HG0.out (by omega)
      have HX := Go.Lib.hid hx
      have HRR := Go.Lib.hid (HC.out.heap HG2.out (by omega))
      have HTV := Go.Lib.hid (show T.val = .agg T.cells from rfl)
      have HT1 := Go.Lib.hid (cells_info13 T); have HT2 := Go.Lib.hid (cells_size13 T); have HT3 := Go.Lib.hid (st_cells_all T)
      rw [HTV.out] at HI
      clear hx hlt HTV
      generalize hpc : T.cells = pc at *
      have HPC := Go.Lib.hid hpc
      clear hpc
      go_wp2_with (refine wpList_load_row rfl 26 (.tmp 2) rfl A rfl 26 cs (0, 0) _ HX.out Tryd.underlying26 rfl HP1.out ?_)
      refine (HI.out _ (Ch.refl _ _)).mono ?_; rintro e w2 ⟨rfl, hw2, _⟩
      have HC2 := Go.Lib.hid (show Ch (fun k => k = A + 1 + 1 + 1) wr w2 from hw2.ch.mono (fun k _ h => h.elim id (fun h => h.elim)))
      have HR2 := Go.Lib.hid (HC2.out.heap HRR.out (by omega))
      clear hw2
      go_wp2_with (refine wpList_store_row rfl 26 (.tmp 4) (.tmp 18) rfl (A + 1 + 1) pc rfl rfl 26 (arr 8 fun _ => .int .u32 0) HR2.out HT1.out (by rw [arr_size, HT2.out]) HT3.out ?_)
      refine bodyPost_ret (results_cell_row (h := Tryd.results13) _ _ (A + 1 + 1) 26 pc (0, 0) _ rfl (heap_setRow HR2.out) Tryd.underlying26 rfl HT1.out) rfl ⟨?_, ?_⟩
      · rw [← HPR.out, ← HPC.out]
      · exact (HW1.out.then HC2.out (fun i hi h => by have := HA.out; omega)).setRow (fun h => by have := HA.out; omega) _
end Go.Proofs.YtdmeeghgbiffmaaDoor
