/- MoneySums: the function. -/
import Derived.Test.YtcceialiedaccaaDoorO1
namespace Go.Proofs.YtcceialiedaccaaDoor
open Go Go.RowKit

set_option maxRecDepth 100000 in
set_option maxHeartbeats 1000000 in
theorem sums_out (a : Int) (p : Option Addr) (n c : Nat) (w : World) (hV : Vs w) (hn : 40 < n) : Calls Tryd.prog 3 #[.int .i64 a, .slice p n c] w fun e w' => e = .returned (.bool true) ∧ Ch (fun _ => False) w w' := by
  have HW := Go.Lib.hid (works_any w hV)
  have hn' : 40 < (n : Int) := by omega
  clear hV
  go_enter Tryd.func3, Tryd.ntmps3
  go_wp2_with fail
  refine HW.out.mono ?_
  rintro e w1 ⟨rfl, hc1⟩
  have HC1 := Go.Lib.hid hc1
  clear hc1
  go_wp2_with fail
  go_ret
  exact ⟨rfl, HC1.out⟩
set_option maxRecDepth 100000 in
set_option maxHeartbeats 4000000 in
theorem sums_in (a : Int) (p : Option Addr) (n c : Nat) (z : Nat → Int) (w : World) (hV : Vs w) (hb : IntsAt w p n z) (hp : p = none → n = 0 ∧ c = 0) (hn : n ≤ 40) : Calls Tryd.prog 3 #[.int .i64 a, .slice p n c] w fun e w' => e = .returned (.bool true) ∧ Ch (fun _ => False) w w' := by
  obtain ⟨ti, hi, hz0, hz1, hz2⟩ := info_parts info2
  have HW := Go.Lib.hid (fun W (h : Ch (fun _ => False) w W) => works_any W (hV.ch h))
  have HB := Go.Lib.hid hb; have HPN := Go.Lib.hid hp
  have i0 : (n : Int) ≤ 40 := by omega
  clear hV hb hp
  go_enter Tryd.func3, Tryd.ntmps3
  go_wp2_with (at_builtin; first
    | (refine wpList_append_ints rfl (.tmp 20) (.tmp 21) rfl w.heap.size _ _ _ rfl (ownsRow_empty w _ (Nat.le_refl _)) p n c z rfl (HB.out.ch ((Ch.refl (fun _ => False) w).alloc _)) HPN.out (by omega) (by simp) ?_
       intro v1 w1 hown1 hgrow1
       rw [Nat.zero_add, List.nil_append] at hown1
       have HO1 := Go.Lib.hid hown1; have HW1 := Go.Lib.hid hgrow1; clear hown1 hgrow1)
    | (refine wpList_append_own _ rfl (.tmp 22) (.tmp 23) 22 rfl w.heap.size 2 ti (.int .i64 0) 1 8 Tryd.underlying22 hi hz0 hz1 hz2 rfl (by decide) _ _ _ rfl (HO1.out.alloc _) ⟨w1.heap.size, 0, none⟩ 1 1 [.int .i64 77] rfl rfl (one_at w1 _ _) (by simp [Value.oneCell']) (by simp [maxLen]; omega) (by omega) (by have := HW1.out.size; simp at this ⊢; omega) ?_
       intro v2 w2 hown2 hgrow2 hx2; clear hx2
       have hc2 : Ch (fun _ => False) w w2 := Ch.grown (Ch.alloc (Ch.grown ((Ch.refl _ w).alloc _) HW1.out (fun k hk hlt => by
         have h : some w.heap.size = some k := hk
         cases h; omega)) _) hgrow2 (fun k hk hlt => by
         have := (World.ownsRow.lt HO1.out) k hk; omega)
       obtain ⟨gm, cm, cur, rfl, hgm, hgh, hcm, htk⟩ := own_some hown2
       have HC2 := Go.Lib.hid hc2; have HGM := Go.Lib.hid hgm; have HGH := Go.Lib.hid hgh; have HTK := Go.Lib.hid htk
       have hsl := fun w => slice_to (some ⟨gm, 0, none⟩) (n + 1) cm n (by omega) w
       clear hown2 hgrow2 hc2 hgm hgh htk HO1 HW1))
  have HM := Go.Lib.hid (ints_of_row HGH.out HTK.out (show n ≤ n + 1 by omega))
  have h77 : w2.cell? ⟨gm, n, none⟩ = some (.int .i64 77) := by
    refine (cell_of_heap HGH.out n).trans ((take_at HTK.out n (by omega)).trans ?_)
    rw [List.getElem?_append_right (by rw [zL_len]; omega), zL_len]; simp
  have H77 := Go.Lib.hid h77
  have HB2 := Go.Lib.hid (HB.out.ch HC2.out)
  have HADD := Go.Lib.hid (add_any _ n cm z w2 HM.out (by omega))
  have HLESS := Go.Lib.hid (less_any a _ n cm z w2 HM.out (by omega))
  clear h77 HTK HGH HB
  have HRA := Go.Lib.hid (fun W (h : IntsAt W p n z) => radd_any p n c z W h (by omega))
  have HRL := Go.Lib.hid (fun W (h : IntsAt W p n z) => rless_any a p n c z W h (by omega))
  have HCK := Go.Lib.hid (fun W (h : IntsAt W (some ⟨gm, 0, none⟩) n z) => check_any _ n cm z W h (by omega))
  have HSM := Go.Lib.hid (fun W (h : IntsAt W (some ⟨gm, 0, none⟩) n z) (h2 : IntsAt W p n z) => same_any _ p n cm n c z z W h h2 (by omega) (by omega))
  rw [show sameB z n z n = true by unfold sameB; rw [decide_eq_true rfl, Bool.true_and, eqUp_iff]; exact fun _ _ => rfl] at HSM
  generalize addV z n = av at *
  generalize addE z n = ae at *
  generalize lessV a z n = lv at *
  generalize lessE a z n = le at *
  go_wp2_with fail
  refine HADD.out.mono ?_
  rintro e w' ⟨rfl, rfl⟩
  go_wp2_with fail
  refine HLESS.out.mono ?_
  rintro e w3 ⟨rfl, hc3⟩
  have HC3 := Go.Lib.hid (HC2.out.trans hc3)
  have HM3 := Go.Lib.hid (HM.out.ch hc3)
  have HB3 := Go.Lib.hid (HB2.out.ch hc3)
  have H773 := Go.Lib.hid (hc3.get H77.out id)
  clear hc3 HADD HLESS HM HB2 H77 HC2
  go_wp2_with (first | (go_at_call 14; refine (HRA.out _ HB3.out).mono ?_; rintro e w' ⟨rfl, rfl⟩) | (go_at_call 15; refine (HRL.out _ HB3.out).mono ?_; rintro e w' ⟨rfl, rfl⟩))
  clear HRA HRL
  go_loopw [14, 15] (fun r i wr => ∃ k : Nat, k ≤ n ∧ i = .int .i64 k ∧ r = .int .i64 (if bad z k then 2 else 0) ∧ wr = w3) (fun _ i _ => n - (intOf i).toNat)
  case atStart => exact ⟨0, by omega, rfl, rfl, rfl⟩
  case round =>
    obtain ⟨k, hk, rfl, rfl, rfl⟩ := hrel
    by_cases hkn : k < n
    · obtain ⟨x, y, rfl, hc⟩ := HB3.out.at hkn
      have HR := Go.Lib.hid (fun W => right_any (z k) W)
      have HBS := Go.Lib.hid (show bad z (k + 1) = (bad z k || !rightB (z k)) by
        have := bad_one (z k)
        simp only [bad, outs, Bool.false_or] at this ⊢
        rw [this])
      cases hr : rightB (z k) <;> rw [hr] at HR HBS
      · have HB4 := Go.Lib.hid (show bad z (k + 1) = true by rw [HBS.out]; simp)
        clear hr HBS
        generalize z k = zk at *
        go_wp2_with (go_at_call 16; refine (HR.out _).mono ?_; rintro e w' ⟨rfl, rfl⟩)
        go_roundw
        case rel => exact ⟨k + 1, by omega, by go_num, by rw [HB4.out]; rfl, trivial⟩
        case measure => simp [intOf]; omega
      · have HB4 := Go.Lib.hid (show bad z (k + 1) = bad z k by rw [HBS.out]; simp)
        clear hr HBS
        generalize z k = zk at *
        go_wp2_with (go_at_call 16; refine (HR.out _).mono ?_; rintro e w' ⟨rfl, rfl⟩)
        go_roundw
        case rel => exact ⟨k + 1, by omega, by go_num, by rw [HB4.out], trivial⟩
        case measure => simp [intOf]; omega
    · obtain rfl : k = n := by omega
      have HS3 := Go.Lib.hid (HSM.out _ HM3.out HB3.out)
      have HC33 := Go.Lib.hid (HCK.out _ HM3.out)
      generalize (if bad z k = true then (2 : Int) else 0) = cr at *
      have hk1 : wrap64 ((k : Int) + 1) = ((k + 1 : Nat) : Int) := by unfold wrap64; omega
      have hsl2 := fun w => slice_to (some ⟨gm, 0, none⟩) k cm (k + 1) (by omega) w
      clear hsl HSM HCK
      go_wp2_with (first | (go_at_call 17; refine (num_any _ _).mono ?_; rintro e w' ⟨rfl, rfl⟩) | (go_at_call 18; refine HC33.out.mono ?_; rintro e w' ⟨rfl, rfl⟩) | (go_at_call 19; refine HS3.out.mono ?_; rintro e w4 ⟨rfl, hc4⟩; have HC4 := Go.Lib.hid (HC3.out.trans hc4); have h774 := hc4.get H773.out id; clear hc4) | (go_at_call 11; refine (HW.out _ HC4.out).mono ?_; rintro e w5 ⟨rfl, hc5⟩; have HC5 := Go.Lib.hid (HC4.out.trans hc5); clear hc5))
      go_ret
      exact ⟨rfl, HC5.out⟩
end Go.Proofs.YtcceialiedaccaaDoor
