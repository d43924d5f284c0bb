/- ShaConstants: the function. -/
import Derived.Test.YtdmeeghgbiffmaaDoorR10
import Derived.Test.YtdmeeghgbiffmaaDoorR16
import Derived.Test.YtdmeeghgbiffmaaDoorRegD
namespace Go.Proofs.YtdmeeghgbiffmaaDoor
open Go Go.RowKit

theorem wp_eql {P : Program} {o : Oper} {a : Act} {w : World} {K : Act → World → Prop} {Q : Exit → Act → World → Prop} (x y : Operand) (t t2 : TypeId) (ho : o.op = .binOp .eql t x y t2)
    (R S : Array Value) (hx : a.eval x = .agg R) (hy : a.eval y = .agg S) (hg : P.eqGuardType P.depth t = false) {b : Bool} (he : (Op.equalIn 10000 t (.agg R) (.agg S)).run P w = .ok b w) (h : K (a.put o.dst (.bool b)) w) : o.wp P a w K Q := by
  unfold Oper.wp execOp
  have h1 : (eqGuard .eql t x y (.agg R) (.agg S)).run P w = .ok () w := by
    simp [eqGuard, hg]
  have h2 : (binOp .eql t (.agg R) (.agg S)).run P w = .ok (.bool b) w := by
    simp only [binOp, Op.equal, Sem.run_bind]
    rw [show (Op.equalIn Op.maxDepth t (.agg R) (.agg S)).run P w = .ok b w from he]
    rfl
  simp only [ho, hx, hy, Sem.run_bind, h1, h2, Result.andThen]
  exact h
set_option maxRecDepth 100000 in
set_option maxHeartbeats 4000000 in
theorem constants_any (f : Nat → UInt8) (w : World) (hK : KAt w) :
    Calls Tryd.prog 3 #[.agg (arr 64 fun i => .int .u8 ((f i).toNat : Int))] w fun e w' => e = .returned (.bool true) ∧ Ch (fun _ => False) w w' := by
  have HK := Go.Lib.hid hK
  clear hK
  have HRT := Go.Lib.hid (fun W => rooted_any W)
  have HF := Go.Lib.hid (fun W => (show Calls Tryd.prog 11 #[] W fun e w' => e = .returned (.agg st0.cells) ∧ Ch (fun _ => False) W w' from (first_any W).mono (fun e w' h => ⟨h.1, by rw [h.2]; exact (Ch.refl _ _).alloc _⟩)))
  have HRF := Go.Lib.hid (fun W => (show Calls Tryd.prog 12 #[] W fun e w' => e = .returned (.agg st0.cells) ∧ Ch (fun _ => False) W w' from (rfirst_any W).mono (fun e w' h => ⟨h.1, by rw [h.2]; exact (Ch.refl _ _).alloc _⟩)))
  have HP := Go.Lib.hid (fun W (h : KAt W) => (show Calls Tryd.prog 13 #[.agg st0.cells, .agg (arr 64 fun i => .int .u8 ((f i).toNat : Int))] W fun e w' => e = .returned (.agg (press1 st0 (wordOf f 0)).cells) ∧ Ch (fun _ => False) W w' from press_any st0 f W h))
  have HRP := Go.Lib.hid (fun W => (show Calls Tryd.prog 14 #[.agg st0.cells, .agg (arr 64 fun i => .int .u8 ((f i).toNat : Int))] W fun e w' => e = .returned (.agg (press1 st0 (wordOf f 0)).cells) ∧ Ch (fun _ => False) W w' from rpress_any st0 f W))
  have HW := Go.Lib.hid (fun W (h : KAt W) => works_any W h)
  have HEQ0 := Go.Lib.hid (fun W => eq_st st0 W)
  have HEQ1 := Go.Lib.hid (fun W => eq_st (press1 st0 (wordOf f 0)) W)
  have HIB := Go.Lib.hid (show (Tryd.prog.info? 22).map (·.size) = some (arr 64 fun i => (.int .u8 ((f i).toNat : Int) : Value)).size by rw [arr_size]; exact info22)
  generalize (press1 st0 (wordOf f 0)).cells = S1 at *
  generalize st0.cells = S0 at *
  generalize (arr 64 fun i => Value.int .u8 ((f i).toNat : Int)) = B at *
  go_enter Tryd.func3, Tryd.ntmps3
  go_upto_region 1 with (fail)
  refine wp_region_any (by kernel_rfl) ?_
  generalize hwx : ({ (w.alloc (.cells B 22)) with drawn := (w.alloc (.cells B 22)).drawn + 1 } : World) = wx
  have hcx : Ch (fun _ => False) (w.alloc (.cells B 22)) wx := by rw [← hwx]; exact (Ch.refl _ _).drew
  have hc0 : Ch (fun _ => False) w wx := ((Ch.refl _ w).alloc _).trans hcx
  have HBX := Go.Lib.hid (hcx.heap (World.alloc_heap_new w (.cells B 22)) id)
  have HC0 := Go.Lib.hid hc0
  have HKX := Go.Lib.hid (HK.out.ch hc0 id)
  clear hwx hcx hc0
  generalize hax : Act.mk _ _ = ax
  have HSZ := Go.Lib.hid (show ax.tmps.size = 21 by rw [← hax]; rfl)
  have F1 := Go.Lib.hid (show gt ax 1 = .pointer (some ⟨w.heap.size, 0, none⟩) by rw [← hax]; rfl)
  have HAX := Go.Lib.hid hax
  clear hax
  have HND := Go.Lib.hid (show ([3, 4, 5, 6, 7, 8, 9, 10, 11, 12, 13, 14, 15, 16, 17, 18, 19, 20, 2] : List Nat).Nodup by decide)
  refine wpAny_inv (InvD 21 [(3, .bool true), (4, .bool true), (5, .agg S0), (6, .agg S0), (7, .bool true), (8, .bool true), (9, .bool true), (10, .agg S0), (11, .agg B), (12, .agg S1), (13, .agg S0), (14, .agg B), (15, .agg S1), (16, .bool true), (17, .bool true), (18, .bool true), (19, .bool true), (20, .bool true), (2, .bool true)] (fun _ w' => Ch (fun _ => False) wx w') ax) ?_ ?_ _ _ _ _ rfl (by decide) (InvD.start rfl HSZ.out (Ch.refl _ _))
  · intro L a w' i hI hr
    obtain ⟨h1, o, ho, hall⟩ := mem_ready.1 hr
    have hlt : i < 19 := (Array.getElem?_eq_some_iff.1 ho).1
    have hsplit : i = 0 ∨ i = 1 ∨ i = 2 ∨ i = 3 ∨ i = 4 ∨ i = 5 ∨ i = 6 ∨ i = 7 ∨ i = 8 ∨ i = 9 ∨ i = 10 ∨ i = 11 ∨ i = 12 ∨ i = 13 ∨ i = 14 ∨ i = 15 ∨ i = 16 ∨ i = 17 ∨ i = 18 := by omega
    clear hlt h1 hr
    rcases hsplit with rfl | rfl | rfl | rfl | rfl | rfl | rfl | rfl | rfl | rfl | rfl | rfl | rfl | rfl | rfl | rfl | rfl | rfl | rfl
    · clear hall
      have HCT := Go.Lib.hid (HRT.out w')
      refine wpOp_step (o := _) rfl (fun K' hK' => ?_)
      go_simp
      refine HCT.out.mono ?_
      rintro e w3 ⟨rfl, hc⟩
      exact hK' _ _ (hI.put 0 rfl (by decide) HND.out  (hI.wld.trans hc))
    · simp at ho
      have e0 : lg L 0 = true := by unfold lg; simpa using hall ⟨0, .data⟩ (by rw [← ho]; simp) rfl
      have f0 : gt a 3 = .bool true := hI.val 0 (3, .bool true) rfl e0
      unfold gt at f0
      clear hall
      clear ho
      refine wpOp_step (o := _) rfl (fun K' hK' => ?_)
      go_simp
      exact hK' _ _ (hI.put 1 rfl (by decide) HND.out  hI.wld)
    · simp at ho
      have eg : lg L 1 = true := by unfold lg; simpa using hall ⟨1, .guard⟩ (by rw [← ho]; simp) rfl
      have fg := guard_of (hI.val 1 (4, .bool true) rfl eg) (by rw [hI.size]; decide)
      clear eg
      clear hall
      clear ho
      have HCT := Go.Lib.hid (HF.out w')
      refine wpOp_step (o := _) rfl (fun K' hK' => ?_)
      go_simp
      refine HCT.out.mono ?_
      rintro e w3 ⟨rfl, hc⟩
      exact hK' _ _ (hI.put 2 rfl (by decide) HND.out  (hI.wld.trans hc))
    · simp at ho
      have eg : lg L 1 = true := by unfold lg; simpa using hall ⟨1, .guard⟩ (by rw [← ho]; simp) rfl
      have fg := guard_of (hI.val 1 (4, .bool true) rfl eg) (by rw [hI.size]; decide)
      clear eg
      clear hall
      clear ho
      have HCT := Go.Lib.hid (HRF.out w')
      refine wpOp_step (o := _) rfl (fun K' hK' => ?_)
      go_simp
      refine HCT.out.mono ?_
      rintro e w3 ⟨rfl, hc⟩
      exact hK' _ _ (hI.put 3 rfl (by decide) HND.out  (hI.wld.trans hc))
    · simp at ho
      have e2 : lg L 2 = true := by unfold lg; simpa using hall ⟨2, .data⟩ (by rw [← ho]; simp) rfl
      have f2 : gt a 5 = .agg S0 := hI.val 2 (5, .agg S0) rfl e2
      have e3 : lg L 3 = true := by unfold lg; simpa using hall ⟨3, .data⟩ (by rw [← ho]; simp) rfl
      have f3 : gt a 6 = .agg S0 := hI.val 3 (6, .agg S0) rfl e3
      have eg : lg L 1 = true := by unfold lg; simpa using hall ⟨1, .guard⟩ (by rw [← ho]; simp) rfl
      have fg := guard_of (hI.val 1 (4, .bool true) rfl eg) (by rw [hI.size]; decide)
      clear eg
      unfold gt at f2 f3
      clear hall
      clear ho
      refine wpOp_step (o := _) rfl (fun K' hK' => ?_)
      rw [if_pos (by simp [Region.wanted, yielded, fg])]
      exact wp_eql (.tmp 5) (.tmp 6) 26 26 rfl S0 S0 (by simpa [Act.eval] using f2) (by simpa [Act.eval] using f3) eqg26 (HEQ0.out _) (hK' _ _ (hI.put 4 rfl (by decide) HND.out  hI.wld))
    · simp at ho
      have e1 : lg L 1 = true := by unfold lg; simpa using hall ⟨1, .data⟩ (by rw [← ho]; simp) rfl
      have f1 : gt a 4 = .bool true := hI.val 1 (4, .bool true) rfl e1
      have e4 : lg L 4 = true := by unfold lg; simpa using hall ⟨4, .data⟩ (by rw [← ho]; simp) rfl
      have f4 : gt a 7 = .bool true := hI.val 4 (7, .bool true) rfl e4
      unfold gt at f1 f4
      clear hall
      clear ho
      refine wpOp_step (o := _) rfl (fun K' hK' => ?_)
      go_simp
      exact hK' _ _ (hI.put 5 rfl (by decide) HND.out  hI.wld)
    · simp at ho
      have e5 : lg L 5 = true := by unfold lg; simpa using hall ⟨5, .data⟩ (by rw [← ho]; simp) rfl
      have f5 : gt a 8 = .bool true := hI.val 5 (8, .bool true) rfl e5
      unfold gt at f5
      clear hall
      clear ho
      refine wpOp_step (o := _) rfl (fun K' hK' => ?_)
      go_simp
      exact hK' _ _ (hI.put 6 rfl (by decide) HND.out  hI.wld)
    · simp at ho
      have eg : lg L 6 = true := by unfold lg; simpa using hall ⟨6, .guard⟩ (by rw [← ho]; simp) rfl
      have fg := guard_of (hI.val 6 (9, .bool true) rfl eg) (by rw [hI.size]; decide)
      clear eg
      clear hall
      clear ho
      have HCT := Go.Lib.hid (HF.out w')
      refine wpOp_step (o := _) rfl (fun K' hK' => ?_)
      go_simp
      refine HCT.out.mono ?_
      rintro e w3 ⟨rfl, hc⟩
      exact hK' _ _ (hI.put 7 rfl (by decide) HND.out  (hI.wld.trans hc))
    · simp at ho
      have q1 := (hI.fixed 1 (by simp)).trans F1.out
      have eg : lg L 6 = true := by unfold lg; simpa using hall ⟨6, .guard⟩ (by rw [← ho]; simp) rfl
      have fg := guard_of (hI.val 6 (9, .bool true) rfl eg) (by rw [hI.size]; decide)
      clear eg
      unfold gt at q1
      clear hall
      clear ho
      refine wpOp_step (o := _) rfl (fun K' hK' => ?_)
      rw [if_pos (by simp [Region.wanted, yielded, fg])]
      exact wp_load_row 22 (.tmp 1) rfl w.heap.size (by simpa [Act.eval] using q1) 22 B (0, 0) _ (hI.wld.heap HBX.out id) Tryd.underlying22 rfl HIB.out (hK' _ _ (hI.put 8 rfl (by decide) HND.out  hI.wld))
    · simp at ho
      have e7 : lg L 7 = true := by unfold lg; simpa using hall ⟨7, .data⟩ (by rw [← ho]; simp) rfl
      have f7 : gt a 10 = .agg S0 := hI.val 7 (10, .agg S0) rfl e7
      have e8 : lg L 8 = true := by unfold lg; simpa using hall ⟨8, .data⟩ (by rw [← ho]; simp) rfl
      have f8 : gt a 11 = .agg B := hI.val 8 (11, .agg B) rfl e8
      have eg : lg L 6 = true := by unfold lg; simpa using hall ⟨6, .guard⟩ (by rw [← ho]; simp) rfl
      have fg := guard_of (hI.val 6 (9, .bool true) rfl eg) (by rw [hI.size]; decide)
      clear eg
      unfold gt at f7 f8
      clear hall
      clear ho
      have HCT := Go.Lib.hid (HP.out w' (HKX.out.ch hI.wld id))
      refine wpOp_step (o := _) rfl (fun K' hK' => ?_)
      go_simp
      refine HCT.out.mono ?_
      rintro e w3 ⟨rfl, hc⟩
      exact hK' _ _ (hI.put 9 rfl (by decide) HND.out  (hI.wld.trans hc))
    · simp at ho
      have eg : lg L 6 = true := by unfold lg; simpa using hall ⟨6, .guard⟩ (by rw [← ho]; simp) rfl
      have fg := guard_of (hI.val 6 (9, .bool true) rfl eg) (by rw [hI.size]; decide)
      clear eg
      clear hall
      clear ho
      have HCT := Go.Lib.hid (HRF.out w')
      refine wpOp_step (o := _) rfl (fun K' hK' => ?_)
      go_simp
      refine HCT.out.mono ?_
      rintro e w3 ⟨rfl, hc⟩
      exact hK' _ _ (hI.put 10 rfl (by decide) HND.out  (hI.wld.trans hc))
    · simp at ho
      have q1 := (hI.fixed 1 (by simp)).trans F1.out
      have eg : lg L 6 = true := by unfold lg; simpa using hall ⟨6, .guard⟩ (by rw [← ho]; simp) rfl
      have fg := guard_of (hI.val 6 (9, .bool true) rfl eg) (by rw [hI.size]; decide)
      clear eg
      unfold gt at q1
      clear hall
      clear ho
      refine wpOp_step (o := _) rfl (fun K' hK' => ?_)
      rw [if_pos (by simp [Region.wanted, yielded, fg])]
      exact wp_load_row 22 (.tmp 1) rfl w.heap.size (by simpa [Act.eval] using q1) 22 B (0, 0) _ (hI.wld.heap HBX.out id) Tryd.underlying22 rfl HIB.out (hK' _ _ (hI.put 11 rfl (by decide) HND.out  hI.wld))
    · simp at ho
      have e10 : lg L 10 = true := by unfold lg; simpa using hall ⟨10, .data⟩ (by rw [← ho]; simp) rfl
      have f10 : gt a 13 = .agg S0 := hI.val 10 (13, .agg S0) rfl e10
      have e11 : lg L 11 = true := by unfold lg; simpa using hall ⟨11, .data⟩ (by rw [← ho]; simp) rfl
      have f11 : gt a 14 = .agg B := hI.val 11 (14, .agg B) rfl e11
      have eg : lg L 6 = true := by unfold lg; simpa using hall ⟨6, .guard⟩ (by rw [← ho]; simp) rfl
      have fg := guard_of (hI.val 6 (9, .bool true) rfl eg) (by rw [hI.size]; decide)
      clear eg
      unfold gt at f10 f11
      clear hall
      clear ho
      have HCT := Go.Lib.hid (HRP.out w')
      refine wpOp_step (o := _) rfl (fun K' hK' => ?_)
      go_simp
      refine HCT.out.mono ?_
      rintro e w3 ⟨rfl, hc⟩
      exact hK' _ _ (hI.put 12 rfl (by decide) HND.out  (hI.wld.trans hc))
    · simp at ho
      have e9 : lg L 9 = true := by unfold lg; simpa using hall ⟨9, .data⟩ (by rw [← ho]; simp) rfl
      have f9 : gt a 12 = .agg S1 := hI.val 9 (12, .agg S1) rfl e9
      have e12 : lg L 12 = true := by unfold lg; simpa using hall ⟨12, .data⟩ (by rw [← ho]; simp) rfl
      have f12 : gt a 15 = .agg S1 := hI.val 12 (15, .agg S1) rfl e12
      have eg : lg L 6 = true := by unfold lg; simpa using hall ⟨6, .guard⟩ (by rw [← ho]; simp) rfl
      have fg := guard_of (hI.val 6 (9, .bool true) rfl eg) (by rw [hI.size]; decide)
      clear eg
      unfold gt at f9 f12
      clear hall
      clear ho
      refine wpOp_step (o := _) rfl (fun K' hK' => ?_)
      rw [if_pos (by simp [Region.wanted, yielded, fg])]
      exact wp_eql (.tmp 12) (.tmp 15) 26 26 rfl S1 S1 (by simpa [Act.eval] using f9) (by simpa [Act.eval] using f12) eqg26 (HEQ1.out _) (hK' _ _ (hI.put 13 rfl (by decide) HND.out  hI.wld))
    · simp at ho
      have e6 : lg L 6 = true := by unfold lg; simpa using hall ⟨6, .data⟩ (by rw [← ho]; simp) rfl
      have f6 : gt a 9 = .bool true := hI.val 6 (9, .bool true) rfl e6
      have e13 : lg L 13 = true := by unfold lg; simpa using hall ⟨13, .data⟩ (by rw [← ho]; simp) rfl
      have f13 : gt a 16 = .bool true := hI.val 13 (16, .bool true) rfl e13
      unfold gt at f6 f13
      clear hall
      clear ho
      refine wpOp_step (o := _) rfl (fun K' hK' => ?_)
      go_simp
      exact hK' _ _ (hI.put 14 rfl (by decide) HND.out  hI.wld)
    · simp at ho
      have e14 : lg L 14 = true := by unfold lg; simpa using hall ⟨14, .data⟩ (by rw [← ho]; simp) rfl
      have f14 : gt a 17 = .bool true := hI.val 14 (17, .bool true) rfl e14
      unfold gt at f14
      clear hall
      clear ho
      refine wpOp_step (o := _) rfl (fun K' hK' => ?_)
      go_simp
      exact hK' _ _ (hI.put 15 rfl (by decide) HND.out  hI.wld)
    · simp at ho
      have eg : lg L 15 = true := by unfold lg; simpa using hall ⟨15, .guard⟩ (by rw [← ho]; simp) rfl
      have fg := guard_of (hI.val 15 (18, .bool true) rfl eg) (by rw [hI.size]; decide)
      clear eg
      clear hall
      clear ho
      have HCT := Go.Lib.hid (HW.out w' (HKX.out.ch hI.wld id))
      refine wpOp_step (o := _) rfl (fun K' hK' => ?_)
      go_simp
      refine HCT.out.mono ?_
      rintro e w3 ⟨rfl, hc⟩
      exact hK' _ _ (hI.put 16 rfl (by decide) HND.out  (hI.wld.trans hc))
    · simp at ho
      have e15 : lg L 15 = true := by unfold lg; simpa using hall ⟨15, .data⟩ (by rw [← ho]; simp) rfl
      have f15 : gt a 18 = .bool true := hI.val 15 (18, .bool true) rfl e15
      have e16 : lg L 16 = true := by unfold lg; simpa using hall ⟨16, .data⟩ (by rw [← ho]; simp) rfl
      have f16 : gt a 19 = .bool true := hI.val 16 (19, .bool true) rfl e16
      unfold gt at f15 f16
      clear hall
      clear ho
      refine wpOp_step (o := _) rfl (fun K' hK' => ?_)
      go_simp
      exact hK' _ _ (hI.put 17 rfl (by decide) HND.out  hI.wld)
    · simp at ho
      have e17 : lg L 17 = true := by unfold lg; simpa using hall ⟨17, .data⟩ (by rw [← ho]; simp) rfl
      have f17 : gt a 20 = .bool true := hI.val 17 (20, .bool true) rfl e17
      unfold gt at f17
      clear hall
      clear ho
      refine wpOp_step (o := _) rfl (fun K' hK' => ?_)
      go_simp
      exact hK' _ _ (hI.put 18 rfl (by decide) HND.out  hI.wld)
  · intro L a w' hI hr
    have hal := all_listed' (md := .any) (by kernel_rfl) hI.lsize hr
    have hfr := hI.frame HSZ.out (by simp) (fun i hi => hal i hi)
    rw [hfr, ← HAX.out]
    have HCZ := Go.Lib.hid hI.wld
    clear hfr hI hr hal
    simp only [List.foldl_cons, List.foldl_nil, List.setIfInBounds_toArray, List.set_cons_succ, List.set_cons_zero]
    go_wp2_with fail
    go_ret
    exact ⟨rfl, HC0.out.trans HCZ.out⟩
end Go.Proofs.YtdmeeghgbiffmaaDoor
