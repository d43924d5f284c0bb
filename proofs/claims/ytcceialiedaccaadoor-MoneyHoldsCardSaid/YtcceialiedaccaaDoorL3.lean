/- The reference's fees; MoneyFees: the function. -/
import Derived.Test.YtcceialiedaccaaDoorA11
namespace Go.Proofs.YtcceialiedaccaaDoor
open Go Go.RowKit

set_option maxRecDepth 100000 in
set_option maxHeartbeats 1000000 in
theorem rfee_any (b r : Int) (w : World) : Calls Tryd.prog 41 #[.agg #[.int .i64 b, .int .i64 r]] w fun e w' => e = .returned (.bool (rightB b && rateB r)) ∧ Ch (fun _ => False) w w' := by
  have HC := Go.Lib.hid (show Ch (fun _ => False) w (w.alloc (.cells #[.int .i64 b, .int .i64 r] 40)) from (Ch.refl _ w).alloc _)
  have HA := Go.Lib.hid (right_any b (w.alloc (.cells #[.int .i64 b, .int .i64 r] 40)))
  have HB := Go.Lib.hid (rate_any r (w.alloc (.cells #[.int .i64 b, .int .i64 r] 40)))
  cases hb : rightB b <;> rw [hb] at HA
  · clear hb
    go_enter Tryd.func41, Tryd.ntmps41
    go_wp2_with (go_at_call 16; refine HA.out.mono ?_; rintro e w' ⟨rfl, rfl⟩)
    go_ret
    exact ⟨rfl, HC.out⟩
  · cases hr : rateB r <;> rw [hr] at HB
    all_goals
      clear hb hr
      go_enter Tryd.func41, Tryd.ntmps41
      go_wp2_with (first | (go_at_call 16; refine HA.out.mono ?_; rintro e w' ⟨rfl, rfl⟩) | (go_at_call 40; refine HB.out.mono ?_; rintro e w' ⟨rfl, rfl⟩))
      go_ret
      exact ⟨rfl, HC.out⟩
theorem share_bounds {b r am : Int} (h : tollOk b r am = true) : 0 ≤ shareF am r ∧ shareF am r ≤ 1125899906842624 := by
  obtain ⟨_, ⟨hr, hr2⟩, ha, ha2⟩ := toll_of h
  have hP : 0 ≤ am * r := Int.mul_nonneg ha hr
  have hP2 : am * r ≤ 1125899906842624 * 1000000 := Int.le_trans (Int.mul_le_mul_of_nonneg_right ha2 hr) (Int.mul_le_mul_of_nonneg_left hr2 (by omega))
  unfold shareF
  omega
set_option maxRecDepth 100000 in
set_option maxHeartbeats 1000000 in
theorem rtake_any (b r am : Int) (w : World) : Calls Tryd.prog 26 #[.agg #[.int .i64 b, .int .i64 r], .int .i64 am] w fun e w' => e = .returned (.tuple #[.int .i64 (takeV b r am), .int .i64 (takeE b r am)]) ∧ Ch (fun _ => False) w w' := by
  have HC0 := Go.Lib.hid (show Ch (fun _ => False) w (w.alloc (.cells #[.int .i64 b, .int .i64 r] 40)) from (Ch.refl _ w).alloc _)
  have HROW := Go.Lib.hid (World.alloc_heap_new w (.cells #[.int .i64 b, .int .i64 r] 40))
  have HF := Go.Lib.hid (fun W => rfee_any b r W)
  have HA := Go.Lib.hid (fun W => right_any am W)
  have HS := Go.Lib.hid (fun W => rshare_any am r W)
  have HT := Go.Lib.hid (show tollOk b r am = (rightB b && rightB am && rateB r) from rfl)
  have HTE := Go.Lib.hid (show takeE b r am = if tollOk b r am then addE (two b (shareF am r)) 2 else 2 from rfl)
  have HTV := Go.Lib.hid (show takeV b r am = if tollOk b r am then addV (two b (shareF am r)) 2 else 0 from rfl)
  have HSV := Go.Lib.hid (show shareV am r = if rightB am && rateB r then shareF am r else 0 from rfl)
  cases hf : rightB b && rateB r
  case false =>
    have ht : tollOk b r am = false := by rw [HT.out]; cases h1 : rightB b <;> cases h2 : rateB r <;> simp_all
    rw [hf] at HF; rw [ht] at HTE HTV
    clear hf ht
    go_enter Tryd.func26, Tryd.ntmps26
    go_wp2_with fail
    refine (HF.out _).mono ?_
    rintro e w1 ⟨rfl, hc1⟩
    have HC1 := Go.Lib.hid (HC0.out.trans hc1)
    clear hc1
    go_wp2_with fail
    refine bodyPost_ret (v := .tuple #[.int .i64 0, .int .i64 2]) (by simp [results, Tryd.results26, go_sem]) rfl ⟨by rw [HTE.out, HTV.out]; rfl, HC1.out⟩
  case true =>
  cases ha : rightB am
  case false =>
    have ht : tollOk b r am = false := by rw [HT.out, ha]; simp
    rw [hf] at HF; rw [ht] at HTE HTV; rw [ha] at HA
    clear hf ht ha
    go_enter Tryd.func26, Tryd.ntmps26
    go_wp2_with fail
    refine (HF.out _).mono ?_
    rintro e w1 ⟨rfl, hc1⟩
    have HC1 := Go.Lib.hid (HC0.out.trans hc1)
    clear hc1
    go_wp2_with (go_at_call 16; refine (HA.out _).mono ?_; rintro e w' ⟨rfl, rfl⟩)
    refine bodyPost_ret (v := .tuple #[.int .i64 0, .int .i64 2]) (by simp [results, Tryd.results26, go_sem]) rfl ⟨by rw [HTE.out, HTV.out]; rfl, HC1.out⟩
  case true =>
    have hbr : rightB b = true ∧ rateB r = true := by simpa using hf
    have ht : tollOk b r am = true := by rw [HT.out, ha, hbr.1, hbr.2]; rfl
    have HSV2 : shareV am r = shareF am r := by rw [HSV.out, ha, hbr.2]; rfl
    rw [hf] at HF; rw [ht] at HTE HTV; rw [ha] at HA
    rw [HSV2] at HS
    clear hf ht ha hbr HSV HSV2
    generalize shareF am r = S at *
    generalize shareE am r = SE at *
    go_enter Tryd.func26, Tryd.ntmps26
    go_wp2_with fail
    refine (HF.out _).mono ?_
    rintro e w1 ⟨rfl, hc1⟩
    have hrow1 := hc1.heap HROW.out id
    have HC1 := Go.Lib.hid (HC0.out.trans hc1)
    have d0 : w1.cell? ⟨w.heap.size, 0, none⟩ = some (.int .i64 b) := cell_of_heap hrow1 0
    have d1 : w1.cell? ⟨w.heap.size, 1, none⟩ = some (.int .i64 r) := cell_of_heap hrow1 1
    have HAD := Go.Lib.hid (radd_any _ 2 2 _ _ (ints_new2 w1 b S) (by omega))
    have HC2 := Go.Lib.hid (HC1.out.trans ((Ch.refl (fun _ => False) w1).alloc (.cells #[.int .i64 b, .int .i64 S] 2)))
    clear hc1 hrow1
    go_wp2_with (first | (go_at_call 16; refine (HA.out _).mono ?_; rintro e w' ⟨rfl, rfl⟩) | (go_at_call 23; refine (HS.out _).mono ?_; rintro e w' ⟨rfl, rfl⟩) | (go_at_call 14; refine HAD.out.mono ?_; rintro e w' ⟨rfl, rfl⟩))
    refine bodyPost_ret (v := .tuple #[.int .i64 (addV (two b S) 2), .int .i64 (addE (two b S) 2)]) (by simp [results, Tryd.results26, go_sem]) rfl ⟨by rw [HTE.out, HTV.out]; rfl, HC2.out⟩
theorem bad_three (x y z : Int) : bad (three x y z) 3 = !(rightB x && rightB y && rightB z) := by
  have h1 := bad_one x; have h2 := bad_one y; have h3 := bad_one z
  simp only [bad, outs, Bool.false_or] at h1 h2 h3
  simp only [bad, outs, Bool.false_or, three]
  simp [h1, h2, h3]
theorem right_of {x : Int} (h0 : 0 ≤ x) (h1 : x ≤ 1125899906842624) : rightB x = true := by unfold rightB; simp [h0, h1]
/-- What is sent is the amount and the fee. -/
theorem send_take (b r am : Int) : (sendE b r am = if takeE b r am = 0 then addE (two am (takeV b r am)) 2 else takeE b r am) ∧ (sendV b r am = if takeE b r am = 0 then addV (two am (takeV b r am)) 2 else 0) := by
  unfold sendE sendV takeE takeV
  cases h : tollOk b r am
  · simp
  · simp only [if_true]
    obtain ⟨s0, s1⟩ := share_bounds h
    obtain ⟨⟨b0, b1⟩, _, a0, a1⟩ := toll_of h
    generalize shareF am r = S at *
    have g2 : bad (two b S) 2 = false := by rw [bad_two, right_of b0 b1, right_of s0 s1]; rfl
    have g3 : bad (three am b S) 3 = false := by rw [bad_three, right_of a0 a1, right_of b0 b1, right_of s0 s1]; rfl
    have e2 : sumZ (two b S) 2 = b + S := by simp [sumZ, two]
    have e3 : sumZ (three am b S) 3 = am + b + S := by simp [sumZ, three]
    by_cases hs : 1125899906842624 < b + S
    · have k2 := addE_over g2 (by omega)
      have k3 := addE_over (z := three am b S) (n := 3) g3 (by omega)
      rw [k2.1, k3.1, k3.2]; simp
    · have k2 := addE_ok g2 (by omega)
      rw [k2.1, k2.2, e2]
      have g4 : bad (two am (b + S)) 2 = false := by rw [bad_two, right_of a0 a1, right_of (by omega) (by omega)]; rfl
      have e4 : sumZ (two am (b + S)) 2 = am + (b + S) := by simp [sumZ, two]
      by_cases hs2 : 1125899906842624 < am + b + S
      · have k3 := addE_over (z := three am b S) (n := 3) g3 (by omega)
        have k4 := addE_over (z := two am (b + S)) (n := 2) g4 (by omega)
        rw [k3.1, k3.2, k4.1, k4.2]; simp
      · have k3 := addE_ok (z := three am b S) (n := 3) g3 (by omega)
        have k4 := addE_ok (z := two am (b + S)) (n := 2) g4 (by omega)
        rw [k3.1, k3.2, k4.1, k4.2, e3, e4]; simp; omega
set_option maxRecDepth 100000 in
set_option maxHeartbeats 1000000 in
theorem rsend_any (b r am : Int) (w : World) : Calls Tryd.prog 27 #[.agg #[.int .i64 b, .int .i64 r], .int .i64 am] w fun e w' => e = .returned (.tuple #[.int .i64 (sendV b r am), .int .i64 (sendE b r am)]) ∧ Ch (fun _ => False) w w' := by
  have HC0 := Go.Lib.hid (show Ch (fun _ => False) w (w.alloc (.cells #[.int .i64 b, .int .i64 r] 40)) from (Ch.refl _ w).alloc _)
  have HT := Go.Lib.hid (fun W => rtake_any b r am W)
  have HE := Go.Lib.hid (send_take b r am)
  generalize takeV b r am = TV at *
  generalize takeE b r am = TE at *
  by_cases hE : TE = 0
  · subst hE
    go_enter Tryd.func27, Tryd.ntmps27
    go_wp2_with fail
    refine (HT.out _).mono ?_
    rintro e w1 ⟨rfl, hc1⟩
    have HC1 := Go.Lib.hid (HC0.out.trans hc1)
    have HAD := Go.Lib.hid (radd_any _ 2 2 _ _ (ints_new2 w1 am TV) (by omega))
    have HC2 := Go.Lib.hid (HC1.out.trans ((Ch.refl (fun _ => False) w1).alloc (.cells #[.int .i64 am, .int .i64 TV] 2)))
    clear hc1
    go_wp2_with (go_at_call 14; refine HAD.out.mono ?_; rintro e w' ⟨rfl, rfl⟩)
    refine bodyPost_ret (v := .tuple #[.int .i64 (addV (two am TV) 2), .int .i64 (addE (two am TV) 2)]) (by simp [results, Tryd.results27, go_sem]) rfl ⟨by rw [HE.out.1, HE.out.2]; rfl, HC2.out⟩
  · have hne : (TE != 0) = true := by rw [bne_iff_ne]; exact hE
    have HNE := Go.Lib.hid hE
    clear hE
    go_enter Tryd.func27, Tryd.ntmps27
    go_wp2_with fail
    refine (HT.out _).mono ?_
    rintro e w1 ⟨rfl, hc1⟩
    have HC1 := Go.Lib.hid (HC0.out.trans hc1)
    clear hc1
    go_wp2_with fail
    refine bodyPost_ret (v := .tuple #[.int .i64 0, .int .i64 TE]) (by simp [results, Tryd.results27, go_sem]) rfl ⟨by rw [HE.out.1, HE.out.2, if_neg HNE.out, if_neg HNE.out], HC1.out⟩
set_option maxRecDepth 100000 in
set_option maxHeartbeats 1000000 in
theorem fees_law (b r am : Int) (w : World) (hV : Vs w) : Calls Tryd.prog 6 #[.agg #[.int .i64 b, .int .i64 r], .int .i64 am] w fun e w' => e = .returned (.bool true) ∧ Ch (fun _ => False) w w' := by
  have HW := Go.Lib.hid (fun W (h : Ch (fun _ => False) w W) => works_any W (hV.ch h))
  have HC0 := Go.Lib.hid (show Ch (fun _ => False) w (w.alloc (.cells #[.int .i64 b, .int .i64 r] 40)) from (Ch.refl _ w).alloc _)
  have HROW := Go.Lib.hid (World.alloc_heap_new w (.cells #[.int .i64 b, .int .i64 r] 40))
  have H1 := Go.Lib.hid (fun W => take_any b r am W)
  have H2 := Go.Lib.hid (fun W => send_any b r am W)
  have H3 := Go.Lib.hid (fun W => rtake_any b r am W)
  have H4 := Go.Lib.hid (fun W => rsend_any b r am W)
  clear hV
  generalize takeV b r am = tv at *
  generalize takeE b r am = te at *
  generalize sendV b r am = sv at *
  generalize sendE b r am = se at *
  go_enter Tryd.func6, Tryd.ntmps6
  go_wp2_with fail
  refine (H1.out _).mono ?_
  rintro e w1 ⟨rfl, hc1⟩
  have HR1 := Go.Lib.hid (hc1.heap HROW.out id)
  have HC1 := Go.Lib.hid (HC0.out.trans hc1)
  have d0 : w1.cell? ⟨w.heap.size, 0, none⟩ = some (.int .i64 b) := cell_of_heap HR1.out 0
  have d1 : w1.cell? ⟨w.heap.size, 1, none⟩ = some (.int .i64 r) := cell_of_heap HR1.out 1
  clear hc1 HROW HC0
  go_wp2_with fail
  refine (H2.out _).mono ?_
  rintro e w2 ⟨rfl, hc2⟩
  have HR2 := Go.Lib.hid (hc2.heap HR1.out id)
  have HC2 := Go.Lib.hid (HC1.out.trans hc2)
  clear d0 d1
  have d0 : w2.cell? ⟨w.heap.size, 0, none⟩ = some (.int .i64 b) := cell_of_heap HR2.out 0
  have d1 : w2.cell? ⟨w.heap.size, 1, none⟩ = some (.int .i64 r) := cell_of_heap HR2.out 1
  clear hc2 HR1 HC1
  go_wp2_with fail
  refine (H3.out _).mono ?_
  rintro e w3 ⟨rfl, hc3⟩
  have HR3 := Go.Lib.hid (hc3.heap HR2.out id)
  have HC3 := Go.Lib.hid (HC2.out.trans hc3)
  clear d0 d1
  have d0 : w3.cell? ⟨w.heap.size, 0, none⟩ = some (.int .i64 b) := cell_of_heap HR3.out 0
  have d1 : w3.cell? ⟨w.heap.size, 1, none⟩ = some (.int .i64 r) := cell_of_heap HR3.out 1
  clear hc3 HR2 HC2
  go_wp2_with fail
  refine (H4.out _).mono ?_
  rintro e w4 ⟨rfl, hc4⟩
  have HC4 := Go.Lib.hid (HC3.out.trans hc4)
  clear d0 d1 hc4 HR3 HC3
  go_wp2_with (first | (go_at_call 17; refine (num_any _ _).mono ?_; rintro e w' ⟨rfl, rfl⟩) | (go_at_call 11; refine (HW.out _ HC4.out).mono ?_; rintro e w3 ⟨rfl, hc3⟩; have HC5 := Go.Lib.hid (HC4.out.trans hc3); clear hc3))
  go_ret
  exact ⟨rfl, HC5.out⟩
end Go.Proofs.YtcceialiedaccaaDoor
