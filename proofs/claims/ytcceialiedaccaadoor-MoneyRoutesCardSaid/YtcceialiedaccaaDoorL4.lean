/- What each is sent: the reference's Route; MoneyRoutes: the function. -/
import Derived.Test.YtcceialiedaccaaDoorL3
import Derived.Test.YtcceialiedaccaaDoorO1
namespace Go.Proofs.YtcceialiedaccaaDoor
open Go Go.RowKit

def outZ (b r : Nat → Int) (am : Int) (N k : Nat) : Nat → Int := fun j => rtV b r am N (k - j)
theorem outZ_next (b r : Nat → Int) (am : Int) (N k : Nat) : [Value.int .i64 (rtV b r am N (k + 1))] ++ zL (outZ b r am N k) (k + 1) = zL (outZ b r am N (k + 1)) (k + 1 + 1) := by
  unfold zL
  rw [List.range_succ_eq_map (n := k + 1), List.map_cons, List.map_map]
  show _ :: _ = _ :: _
  congr 1
  refine List.map_congr_left fun j hj => ?_
  show Value.int .i64 (rtV b r am N (k - j)) = .int .i64 (rtV b r am N (k + 1 - (j + 1)))
  rw [show k + 1 - (j + 1) = k - j by omega]
set_option maxRecDepth 100000 in
set_option maxHeartbeats 4000000 in
theorem rroute_any (am : Int) (p : Option Addr) (N c : Nat) (b r : Nat → Int) (w : World) (h : FeesAt w p N b r) (hN : N ≤ 1000) :
    Calls Tryd.prog 29 #[.int .i64 am, .slice p N c] w fun e w' => RouteIs b r am N e w' ∧ Ch (fun _ => False) w w' := by
  have HF := Go.Lib.hid h
  have HA := Go.Lib.hid (right_any am w)
  have HRE := Go.Lib.hid (show routeE b r am N = if rightB am then (if feesOk b r N then rtE b r am N N else 2) else 2 from rfl)
  have HFE := Go.Lib.hid (fun k W => rfee_any (b k) (r k) W)
  clear h
  cases hr : rightB am <;> rw [hr] at HA HRE
  case false =>
    clear hr
    go_enter Tryd.func29, Tryd.ntmps29
    go_wp2_with (go_at_call 16; refine HA.out.mono ?_; rintro e w' ⟨rfl, rfl⟩)
    refine bodyPost_ret (v := .tuple #[.slice none 0 0, .int .i64 2]) (by simp [results, Tryd.results29, go_sem]) rfl ⟨route_refused _ (by rw [HRE.out]; rfl) (by decide), Ch.refl _ _⟩
  case true =>
    have HAM := Go.Lib.hid hr
    clear hr
    go_enter Tryd.func29, Tryd.ntmps29
    go_wp2_with (go_at_call 16; refine HA.out.mono ?_; rintro e w' ⟨rfl, rfl⟩)
    go_loopw [6] (fun i wr => ∃ k : Nat, k ≤ N ∧ i = .int .i64 k ∧ feesOk b r k = true ∧ Ch (fun _ => False) w wr) (fun i _ => N - (intOf i).toNat)
    case atStart => exact ⟨0, by omega, rfl, rfl, Ch.refl _ _⟩
    case round =>
      obtain ⟨k, hk, rfl, ho, hC⟩ := hrel
      have HO := Go.Lib.hid ho; have HC := Go.Lib.hid hC
      clear ho hC
      by_cases hkn : k < N
      · obtain ⟨x, y, rfl, hxs, hcb, hcr⟩ := (HF.out.ch HC.out).at hkn
        have HFB := Go.Lib.hid (show feesOk b r (k + 1) = (feesOk b r k && (rightB (b k) && rateB (r k))) from rfl)
        have HFK := Go.Lib.hid (HFE.out k)
        cases hfo : rightB (b k) && rateB (r k) <;> rw [hfo] at HFK HFB
        · have HBD := Go.Lib.hid (feesOk_bad hkn hfo)
          clear hfo
          generalize b k = bk at *
          generalize r k = rk at *
          go_wp2_with fail
          refine (HFK.out _).mono ?_
          rintro e w2 ⟨rfl, hc2⟩
          have HC2 := Go.Lib.hid (HC.out.trans hc2)
          clear hc2
          go_wp2_with fail
          refine bodyPost_ret (v := .tuple #[.slice none 0 0, .int .i64 2]) (by simp [results, Tryd.results29, go_sem]) rfl ⟨route_refused _ (by rw [HRE.out, HBD.out]; rfl) (by decide), HC2.out⟩
        · have HFB2 := Go.Lib.hid (show feesOk b r (k + 1) = true by rw [HFB.out, HO.out]; rfl)
          clear hfo
          generalize b k = bk at *
          generalize r k = rk at *
          go_wp2_with fail
          refine (HFK.out _).mono ?_
          rintro e w2 ⟨rfl, hc2⟩
          have HC2 := Go.Lib.hid (HC.out.trans hc2)
          clear hc2
          go_wp2_with fail
          go_roundw
          case rel => exact ⟨k + 1, by omega, by go_num, HFB2.out, HC2.out⟩
          case measure => simp [intOf]; omega
      · obtain rfl : k = N := by omega
        have HREK := Go.Lib.hid (show routeE b r am k = rtE b r am k k by rw [HRE.out, HO.out]; rfl)
        have HOW0 := Go.Lib.hid (show (wr.alloc (.cells #[.int .i64 am] 2)).ownsRow w.heap.size 2 1 (.slice (some ⟨wr.heap.size, 0, none⟩) 1 1) 1 (zL (outZ b r am k 0) 1) from
          World.ownsRow_lit wr #[.int .i64 am] 1 HC.out.size (by simp [maxLen]) rfl)
        have HC1 := Go.Lib.hid (HC.out.alloc (.cells #[.int .i64 am] 2))
        have hwk : wrap64 ((k : Int) - 1) = (k : Int) - 1 := by unfold wrap64; omega
        clear HA HRE HFE HO HC
        go_wp2_with fail
        generalize hW1 : World.alloc wr _ = W1 at *
        clear hW1
        go_loopw [7, 8, 9, 10] (fun v i _ _ wz => ∃ t : Nat, t ≤ k ∧ i = .int .i64 ((k : Int) - 1 - (t : Int)) ∧ rtE b r am k t = 0 ∧ wz.ownsRow w.heap.size 2 1 v (t + 1) (zL (outZ b r am k t) (t + 1)) ∧ Ch (fun _ => False) w wz) (fun _ i _ _ _ => (intOf i + 1).toNat)
        case atStart => exact ⟨0, by omega, by congr 1; omega, rfl, HOW0.out, HC1.out⟩
        case round =>
          obtain ⟨t, ht, rfl, ho, hown, hC⟩ := hrel
          have HO2 := Go.Lib.hid ho; have HC4 := Go.Lib.hid hC; have HOW4 := Go.Lib.hid hown
          obtain ⟨og, oc, ocur, rfl, hog, hoh, hoc, htk⟩ := own_some hown
          have HOI := Go.Lib.hid (show IntsAt wr (some ⟨og, 0, none⟩) (t + 1) (outZ b r am k t) from ints_of_row (ys := []) hoh (by rw [List.append_nil]; exact htk) (Nat.le_refl _))
          clear ho hC hown hog hoh htk HOW0 HC1
          by_cases htk : t < k
          · obtain ⟨pl, hpl⟩ : ∃ pl, pl + t + 1 = k := ⟨k - 1 - t, by omega⟩
            obtain ⟨fx, fy, rfl, hxs, hcb, hcr⟩ := (HF.out.ch HC4.out).at (show pl < k by omega)
            obtain ⟨ox, oy, hoa, hcell0⟩ := HOI.out.at (show 0 < t + 1 by omega)
            cases hoa
            have HCB := Go.Lib.hid hcb; have HCR0 := Go.Lib.hid hcr; have HCO := Go.Lib.hid (show wr.cell? ⟨og, 0, none⟩ = some (.int .i64 (rtV b r am k t)) from hcell0)
            have HV1 := Go.Lib.hid (show rtV b r am k (t + 1) = sendV (b pl) (r pl) (rtV b r am k t) by rw [rtV, show k - 1 - t = pl by omega])
            have HE1 := Go.Lib.hid (show rtE b r am k (t + 1) = sendE (b pl) (r pl) (rtV b r am k t) by rw [rtE, if_pos HO2.out, show k - 1 - t = pl by omega])
            have HSD := Go.Lib.hid (fun W => rsend_any (b pl) (r pl) (rtV b r am k t) W)
            have HSTAY := Go.Lib.hid (fun (h : rtE b r am k (t + 1) ≠ 0) => show rtE b r am k k = rtE b r am k (t + 1) by
              have := rtE_stays h (k - (t + 1)); rwa [show t + 1 + (k - (t + 1)) = k by omega] at this)
            have HROK := Go.Lib.hid (fun (W : World) => route_refused (b := b) (r := r) (am := am) (N := k) (x := rtE b r am k (t + 1)) W)
            have HNX := Go.Lib.hid (outZ_next b r am k t)
            rw [← HV1.out, ← HE1.out] at HSD
            have hpe : (k : Int) - 1 - (t : Int) = (pl : Int) := by omega
            have HPE := Go.Lib.hid hpe
            rw [hpe]
            clear hcb hcr hcell0 HV1 HE1 hpe
            have hplk : pl < k := by omega
            obtain ⟨E1, hE1⟩ : ∃ E1, rtE b r am k (t + 1) = E1 := ⟨_, rfl⟩
            rw [hE1] at HSD HSTAY HROK
            have HE1Z := Go.Lib.hid hE1
            clear hE1
            generalize rtV b r am k (t + 1) = V1 at *
            generalize rtV b r am k t = V0 at *
            generalize b pl = bk at *
            generalize r pl = rk at *
            go_upto_region 12 with (fail)
            generalize hax : Act.mk _ _ = ax
            have HSZ := Go.Lib.hid (show ax.tmps.size = 54 by rw [← hax]; rfl)
            have F1 := Go.Lib.hid (show gt ax 1 = .slice (some ⟨fx, fy, none⟩) k c by rw [← hax]; rfl)
            have F7 := Go.Lib.hid (show gt ax 7 = .slice (some ⟨og, 0, none⟩) (t + 1) oc by rw [← hax]; rfl)
            have F8 := Go.Lib.hid (show gt ax 8 = .int .i64 (pl : Int) by rw [← hax]; rfl)
            have HAX := Go.Lib.hid hax
            clear hax
            have HND := Go.Lib.hid (show ([36, 37, 38, 39, 40, 41, 42, 43, 35, 44, 45, 9] : List Nat).Nodup by decide)
            have HLS : Hid (Lasts [(36, fun x _ => x = .slice (some ⟨fx, fy, none⟩) k c), (37, fun x _ => x = .int .i64 (pl : Int)), (38, fun x _ => x = .pointer (some ⟨fx, fy + pl * 2, none⟩)), (39, fun x _ => x = .agg #[.int .i64 bk, .int .i64 rk]), (40, fun x _ => x = .slice (some ⟨og, 0, none⟩) (t + 1) oc), (41, fun x _ => x = .pointer (some ⟨og, 0, none⟩)), (42, fun x _ => x = .int .i64 V0), (43, fun x _ => x = .tuple #[.int .i64 V1, .int .i64 E1]), (35, fun x _ => x = .tuple #[.int .i64 V1, .int .i64 E1]), (44, fun x _ => x = .int .i64 V1), (45, fun x _ => x = .int .i64 E1), (9, fun x _ => x = .int .i64 V1)]) := Go.Lib.hid (by
              intro p hp v w1 w2 hc h
              simp only [List.mem_cons, List.not_mem_nil, or_false] at hp
              rcases hp with rfl | rfl | rfl | rfl | rfl | rfl | rfl | rfl | rfl | rfl | rfl | rfl
              all_goals first | exact h | (obtain ⟨g, h1, h2⟩ := h; exact ⟨g, h1, hc.heap h2 id⟩) | (obtain ⟨g, c, h1, h2⟩ := h; exact ⟨g, c, h1, h2.ch hc (fun _ _ h => h)⟩))
            refine wp_region_open_tail 12 (InvQ 54 [(36, fun x _ => x = .slice (some ⟨fx, fy, none⟩) k c), (37, fun x _ => x = .int .i64 (pl : Int)), (38, fun x _ => x = .pointer (some ⟨fx, fy + pl * 2, none⟩)), (39, fun x _ => x = .agg #[.int .i64 bk, .int .i64 rk]), (40, fun x _ => x = .slice (some ⟨og, 0, none⟩) (t + 1) oc), (41, fun x _ => x = .pointer (some ⟨og, 0, none⟩)), (42, fun x _ => x = .int .i64 V0), (43, fun x _ => x = .tuple #[.int .i64 V1, .int .i64 E1]), (35, fun x _ => x = .tuple #[.int .i64 V1, .int .i64 E1]), (44, fun x _ => x = .int .i64 V1), (45, fun x _ => x = .int .i64 E1), (9, fun x _ => x = .int .i64 V1)] (fun _ w' => Ch (fun _ => False) wr w') ax) (by kernel_rfl) (by kernel_rfl) (InvQ.start (by simp) HSZ.out (Ch.refl _ _).drew) ?_ ?_
            · intro L a w' i hI hr hlt
              obtain ⟨h1, o, ho, hall⟩ := mem_ready.1 hr
              have hsplit : i = 0 ∨ i = 1 ∨ i = 2 ∨ i = 3 ∨ i = 4 ∨ i = 5 ∨ i = 6 ∨ i = 7 ∨ i = 8 ∨ i = 9 ∨ i = 10 ∨ i = 11 := by omega
              clear hlt h1 hr
              rcases hsplit with rfl | rfl | rfl | rfl | rfl | rfl | rfl | rfl | rfl | rfl | rfl | rfl
              · have q1 := (hI.fixed 1 (by simp)).trans F1.out
                unfold gt at q1
                clear hall
                refine wpOp_step (o := _) rfl (fun K' hK' => ?_)
                go_simp
                exact hK' _ _ (hI.put 0 rfl (by decide) HND.out HLS.out  (Ch.refl _ _) rfl hI.wld)
              · have q8 := (hI.fixed 8 (by simp)).trans F8.out
                unfold gt at q8
                clear hall
                refine wpOp_step (o := _) rfl (fun K' hK' => ?_)
                go_simp
                exact hK' _ _ (hI.put 1 rfl (by decide) HND.out HLS.out  (Ch.refl _ _) rfl hI.wld)
              · simp at ho
                have e0 : lg L 0 = true := by unfold lg; simpa using hall ⟨0, .data⟩ (by rw [← ho]; simp) rfl
                have f0 : gt a 36 = .slice (some ⟨fx, fy, none⟩) k c := hI.val 0 _ rfl e0
                have e1 : lg L 1 = true := by unfold lg; simpa using hall ⟨1, .data⟩ (by rw [← ho]; simp) rfl
                have f1 : gt a 37 = .int .i64 (pl : Int) := hI.val 1 _ rfl e1
                unfold gt at f0 f1
                clear hall
                clear ho
                refine wpOp_step (o := _) rfl (fun K' hK' => ?_)
                go_simp
                exact hK' _ _ (hI.put 2 rfl (by decide) HND.out HLS.out  (Ch.refl _ _) rfl hI.wld)
              · simp at ho
                have e2 : lg L 2 = true := by unfold lg; simpa using hall ⟨2, .data⟩ (by rw [← ho]; simp) rfl
                have f2 : gt a 38 = .pointer (some ⟨fx, fy + pl * 2, none⟩) := hI.val 2 _ rfl e2
                have hc0 := hI.wld.get HCB.out id
                have hc1 := hI.wld.get HCR0.out id
                unfold gt at f2
                clear hall
                clear ho
                refine wpOp_step (o := _) rfl (fun K' hK' => ?_)
                go_simp
                exact hK' _ _ (hI.put 3 rfl (by decide) HND.out HLS.out  (Ch.refl _ _) rfl hI.wld)
              · have q7 := (hI.fixed 7 (by simp)).trans F7.out
                unfold gt at q7
                clear hall
                refine wpOp_step (o := _) rfl (fun K' hK' => ?_)
                go_simp
                exact hK' _ _ (hI.put 4 rfl (by decide) HND.out HLS.out  (Ch.refl _ _) rfl hI.wld)
              · simp at ho
                have e4 : lg L 4 = true := by unfold lg; simpa using hall ⟨4, .data⟩ (by rw [← ho]; simp) rfl
                have f4 : gt a 40 = .slice (some ⟨og, 0, none⟩) (t + 1) oc := hI.val 4 _ rfl e4
                unfold gt at f4
                clear hall
                clear ho
                refine wpOp_step (o := _) rfl (fun K' hK' => ?_)
                go_simp
                exact hK' _ _ (hI.put 5 rfl (by decide) HND.out HLS.out  (Ch.refl _ _) rfl hI.wld)
              · simp at ho
                have e5 : lg L 5 = true := by unfold lg; simpa using hall ⟨5, .data⟩ (by rw [← ho]; simp) rfl
                have f5 : gt a 41 = .pointer (some ⟨og, 0, none⟩) := hI.val 5 _ rfl e5
                have hc0 := hI.wld.get HCO.out id
                unfold gt at f5
                clear hall
                clear ho
                refine wpOp_step (o := _) rfl (fun K' hK' => ?_)
                go_simp
                exact hK' _ _ (hI.put 6 rfl (by decide) HND.out HLS.out  (Ch.refl _ _) rfl hI.wld)
              · simp at ho
                have e3 : lg L 3 = true := by unfold lg; simpa using hall ⟨3, .data⟩ (by rw [← ho]; simp) rfl
                have f3 : gt a 39 = .agg #[.int .i64 bk, .int .i64 rk] := hI.val 3 _ rfl e3
                have e6 : lg L 6 = true := by unfold lg; simpa using hall ⟨6, .data⟩ (by rw [← ho]; simp) rfl
                have f6 : gt a 42 = .int .i64 V0 := hI.val 6 _ rfl e6
                unfold gt at f3 f6
                clear hall
                clear ho
                have HCT := Go.Lib.hid (HSD.out w')
                refine wpOp_step (o := _) rfl (fun K' hK' => ?_)
                go_simp
                refine HCT.out.mono ?_
                rintro e w3 ⟨rfl, hc⟩
                exact hK' _ _ (hI.put 7 rfl (by decide) HND.out HLS.out  hc rfl (hI.wld.trans hc))
              · simp at ho
                have e7 : lg L 7 = true := by unfold lg; simpa using hall ⟨7, .data⟩ (by rw [← ho]; simp) rfl
                have f7 : gt a 43 = .tuple #[.int .i64 V1, .int .i64 E1] := hI.val 7 _ rfl e7
                unfold gt at f7
                clear hall
                clear ho
                refine wpOp_step (o := _) rfl (fun K' hK' => ?_)
                go_simp
                exact hK' _ _ (hI.put 8 rfl (by decide) HND.out HLS.out  (Ch.refl _ _) rfl hI.wld)
              · simp at ho
                have e8 : lg L 8 = true := by unfold lg; simpa using hall ⟨8, .data⟩ (by rw [← ho]; simp) rfl
                have f8 : gt a 35 = .tuple #[.int .i64 V1, .int .i64 E1] := hI.val 8 _ rfl e8
                unfold gt at f8
                clear hall
                clear ho
                refine wpOp_step (o := _) rfl (fun K' hK' => ?_)
                go_simp
                exact hK' _ _ (hI.put 9 rfl (by decide) HND.out HLS.out  (Ch.refl _ _) rfl hI.wld)
              · simp at ho
                have e8 : lg L 8 = true := by unfold lg; simpa using hall ⟨8, .data⟩ (by rw [← ho]; simp) rfl
                have f8 : gt a 35 = .tuple #[.int .i64 V1, .int .i64 E1] := hI.val 8 _ rfl e8
                unfold gt at f8
                clear hall
                clear ho
                refine wpOp_step (o := _) rfl (fun K' hK' => ?_)
                go_simp
                exact hK' _ _ (hI.put 10 rfl (by decide) HND.out HLS.out  (Ch.refl _ _) rfl hI.wld)
              · simp at ho
                have e9 : lg L 9 = true := by unfold lg; simpa using hall ⟨9, .data⟩ (by rw [← ho]; simp) rfl
                have f9 : gt a 44 = .int .i64 V1 := hI.val 9 _ rfl e9
                unfold gt at f9
                clear hall
                clear ho
                refine wpOp_step (o := _) rfl (fun K' hK' => ?_)
                go_simp
                exact hK' _ _ (hI.put 11 rfl (by decide) HND.out HLS.out  (Ch.refl _ _) rfl hI.wld)
            · intro L a w' hI hal
              have hfr := hI.frame HSZ.out (by simp) (fun i hi => hal i hi)
              have k0 : gt a 36 = .slice (some ⟨fx, fy, none⟩) k c := hI.val 0 _ rfl (hal 0 (by decide))
              have k1 : gt a 37 = .int .i64 (pl : Int) := hI.val 1 _ rfl (hal 1 (by decide))
              have k2 : gt a 38 = .pointer (some ⟨fx, fy + pl * 2, none⟩) := hI.val 2 _ rfl (hal 2 (by decide))
              have k3 : gt a 39 = .agg #[.int .i64 bk, .int .i64 rk] := hI.val 3 _ rfl (hal 3 (by decide))
              have k4 : gt a 40 = .slice (some ⟨og, 0, none⟩) (t + 1) oc := hI.val 4 _ rfl (hal 4 (by decide))
              have k5 : gt a 41 = .pointer (some ⟨og, 0, none⟩) := hI.val 5 _ rfl (hal 5 (by decide))
              have k6 : gt a 42 = .int .i64 V0 := hI.val 6 _ rfl (hal 6 (by decide))
              have k7 : gt a 43 = .tuple #[.int .i64 V1, .int .i64 E1] := hI.val 7 _ rfl (hal 7 (by decide))
              have k8 : gt a 35 = .tuple #[.int .i64 V1, .int .i64 E1] := hI.val 8 _ rfl (hal 8 (by decide))
              have k9 : gt a 44 = .int .i64 V1 := hI.val 9 _ rfl (hal 9 (by decide))
              have k10 : gt a 45 = .int .i64 E1 := hI.val 10 _ rfl (hal 10 (by decide))
              have k11 : gt a 9 = .int .i64 V1 := hI.val 11 _ rfl (hal 11 (by decide))
              rw [hfr, ← HAX.out]
              have HCR := Go.Lib.hid hI.wld
              simp only [List.map_cons, List.map_nil, List.foldl_cons, List.foldl_nil, k0, k1, k2, k3, k4, k5, k6, k7, k8, k9, k10, k11, List.setIfInBounds_toArray, List.set_cons_succ, List.set_cons_zero]
              clear hfr hI hal k0 k1 k2 k3 k4 k5 k6 k7 k8 k9 k10 k11  HSZ HND HLS HAX F1 F7 F8
              simp only [List.drop_succ_cons, List.drop_zero]
              have HC5 := Go.Lib.hid (HC4.out.trans HCR.out)
              have HOW5 := Go.Lib.hid (HOW4.out.kept (w' := w') (row := none) ⟨HCR.out.os, HCR.out.tape, HCR.out.output, HCR.out.size, fun k hk _ => HCR.out.block k hk id⟩ (by simp [Value.ownBlock]))
              have HOI5 := Go.Lib.hid (HOI.out.ch HCR.out)
              clear HC4 HCR HOW4 HOI
              by_cases hE : E1 = 0
              · subst hE
                have HNB := Go.Lib.hid (show (w'.alloc (.cells #[.int .i64 V1] 2)).ownsRow w.heap.size 2 1 (.slice (some ⟨w'.heap.size, 0, none⟩) 1 1) 1 [.int .i64 V1] from
                  World.ownsRow_lit w' #[.int .i64 V1] 1 HC5.out.size (by simp [maxLen]) rfl)
                have HC6 := Go.Lib.hid (HC5.out.alloc (.cells #[.int .i64 V1] 2))
                have hwp : wrap64 ((pl : Int) - 1) = (pl : Int) - 1 := by unfold wrap64; omega
                go_wp2_with (at_builtin; refine wpList_append_ints rfl (.tmp 50) (.tmp 51) rfl w.heap.size _ _ _ rfl HNB.out (some ⟨og, 0, none⟩) (t + 1) oc _ rfl (HOI5.out.ch ((Ch.refl (fun _ => False) _).alloc _)) (fun h => by cases h) (by omega) (HC6.out.size) ?_; intro v1 w8 hown1 hgrow1; have HO8 := Go.Lib.hid hown1; have HW8 := Go.Lib.hid hgrow1; clear hown1 hgrow1)
                go_roundw
                case rel =>
                  refine ⟨t + 1, by omega, by have := HPE.out; rw [show (pl : Int) - 1 = (k : Int) - 1 - ((t + 1 : Nat) : Int) by omega], HE1Z.out, ?_, ?_⟩
                  · have := HO8.out
                    rw [HNX.out, show 1 + (t + 1) = t + 1 + 1 by omega] at this
                    exact this
                  · exact Ch.grown HC6.out HW8.out (fun k hk hlt => by
                      have h : some w'.heap.size = some k := hk
                      cases h; have := HC5.out.size; omega)
                case measure => simp [intOf]
              · have hne : (E1 != 0) = true := by rw [bne_iff_ne]; exact hE
                go_wp2_with fail
                refine bodyPost_ret (v := .tuple #[.slice none 0 0, .int .i64 E1]) (by simp [results, Tryd.results29, go_sem]) rfl ⟨HROK.out _ (by rw [HREK.out]; exact HSTAY.out hE) hE, HC5.out⟩
          · obtain rfl : t = k := by omega
            have hneg : (t : Int) - 1 - (t : Int) < 0 := by omega
            have hneg2 : (t : Int) - 1 - (t : Int) = -1 := by omega
            rw [hneg2]
            go_wp2_with fail
            refine bodyPost_ret (v := .tuple #[.slice (some ⟨og, 0, none⟩) (t + 1) oc, .int .i64 0]) (by simp [results, Tryd.results29, go_sem]) rfl ⟨⟨_, _, _, by rw [HREK.out, HO2.out], by rw [HREK.out, HO2.out, if_pos rfl], HOI.out⟩, HC4.out⟩
set_option maxRecDepth 100000 in
set_option maxHeartbeats 1000000 in
theorem routes_law (am : Int) (p : Option Addr) (N c : Nat) (b r : Nat → Int) (w : World) (hV : Vs w) (hb : FeesAt w p N b r) : Calls Tryd.prog 7 #[.int .i64 am, .slice p N c] w fun e w' => e = .returned (.bool true) ∧ Ch (fun _ => False) w w' := by
  by_cases hN : N ≤ 20
  · have hN' : (N : Int) ≤ 20 := by omega
    have HW := Go.Lib.hid (fun W (h : Ch (fun _ => False) w W) => works_any W (hV.ch h))
    have H1 := Go.Lib.hid (route_any am p N c b r w hb (by omega))
    have H2 := Go.Lib.hid (fun W (h : Ch (fun _ => False) w W) => rroute_any am p N c b r W (hb.ch h) (by omega))
    have HNB := Go.Lib.hid (show (if routeE b r am N = 0 then N + 1 else 0) ≤ 1000000 by split <;> omega)
    clear hV hb
    go_enter Tryd.func7, Tryd.ntmps7
    go_wp2_with fail
    refine H1.out.mono ?_
    rintro e w1 ⟨⟨p1, n1, c1, rfl, hn1, hi1⟩, hc1⟩
    have HC1 := Go.Lib.hid hc1; have HI1 := Go.Lib.hid hi1; have HN1 := Go.Lib.hid hn1
    clear hc1 hi1 hn1
    go_wp2_with fail
    refine (H2.out _ HC1.out).mono ?_
    rintro e w2 ⟨⟨p2, n2, c2, rfl, hn2, hi2⟩, hc2⟩
    have hnn : n1 = n2 := HN1.out.trans hn2.symm
    rw [← HN1.out] at HNB
    clear hn2 HN1
    subst hnn
    have HS := Go.Lib.hid (same_any p1 p2 n1 c1 n1 c2 _ _ w2 (HI1.out.ch hc2) hi2 HNB.out HNB.out)
    rw [show sameB (fun j => rtV b r am N (N - j)) n1 (fun j => rtV b r am N (N - j)) n1 = true by unfold sameB; rw [decide_eq_true rfl, Bool.true_and, eqUp_iff]; exact fun _ _ => rfl] at HS
    have HC2 := Go.Lib.hid (HC1.out.trans hc2)
    clear hc2 hi2 HI1 HNB
    generalize routeE b r am N = E at *
    go_wp2_with (first | (go_at_call 19; refine HS.out.mono ?_; rintro e w3 ⟨rfl, hc3⟩; have HC3 := Go.Lib.hid (HC2.out.trans hc3); clear hc3) | (go_at_call 17; refine (num_any _ _).mono ?_; rintro e w' ⟨rfl, rfl⟩) | (go_at_call 11; refine (HW.out _ HC3.out).mono ?_; rintro e w4 ⟨rfl, hc4⟩; have HC4 := Go.Lib.hid (HC3.out.trans hc4); clear hc4))
    go_ret
    exact ⟨rfl, HC4.out⟩
  · have hN' : 20 < (N : Int) := by omega
    have HW := Go.Lib.hid (works_any w hV)
    clear hV hb
    go_enter Tryd.func7, Tryd.ntmps7
    go_wp2_with fail
    refine HW.out.mono ?_
    rintro e w1 ⟨rfl, hc1⟩
    have HC1 := Go.Lib.hid hc1
    clear hc1
    go_wp2_with fail
    go_ret
    exact ⟨rfl, HC1.out⟩
end Go.Proofs.YtcceialiedaccaaDoor
