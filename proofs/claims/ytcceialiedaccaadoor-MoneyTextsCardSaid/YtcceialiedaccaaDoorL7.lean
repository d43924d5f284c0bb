/- MoneyTexts: the function. -/
import Derived.Test.YtcceialiedaccaaDoorA11
import Derived.Test.YtcceialiedaccaaDoorL6
namespace Go.Proofs.YtcceialiedaccaaDoor
open Go Go.RowKit

theorem rparse_any (s : ByteArray) (w : World) (hV : Vs w) (hs : s.size ≤ 60) :
    Calls Tryd.prog 35 #[.string s] w fun e w' => e = .returned (.tuple #[.int .i64 (parV s.data.toList), .int .i64 (parE s.data.toList)]) ∧ Ch (fun _ => False) w w' := by
  by_cases h : ∃ a, isText a s.data.toList = true
  · obtain ⟨a, ha⟩ := h
    rw [(par_of a _ ha).1, (par_of a _ ha).2]
    exact rparse_yes a s w hV ha
  · have hno : ∀ a, isText a s.data.toList = false := fun a => by
      cases e : isText a s.data.toList with
      | false => rfl
      | true => exact absurd ⟨a, e⟩ h
    rw [(par_none _ hno).1, (par_none _ hno).2]
    exact rparse_no s w hV hs hno
set_option maxRecDepth 100000 in
set_option maxHeartbeats 1000000 in
theorem texts_law (a : Int) (s : ByteArray) (w : World) (hV : Vs w) : Calls Tryd.prog 9 #[.int .i64 a, .string s] w fun e w' => e = .returned (.bool true) ∧ Ch (fun _ => False) w w' := by
  by_cases hs : s.size ≤ 60
  · have hs' : (s.size : Int) ≤ 60 := by omega
    have HW := Go.Lib.hid (fun W (h : Ch (fun _ => False) w W) => works_any W (hV.ch h))
    have H1 := Go.Lib.hid (text_any a w hV)
    have H2 := Go.Lib.hid (fun W (h : Ch (fun _ => False) w W) => rtext_any a W (hV.ch h))
    have H3 := Go.Lib.hid (fun W (h : Ch (fun _ => False) w W) => parse_any s W (hV.ch h) (by omega))
    have H4 := Go.Lib.hid (fun W (h : Ch (fun _ => False) w W) => rparse_any s W (hV.ch h) hs)
    clear hV
    generalize textS a = ts at *
    generalize textE a = te at *
    generalize parV s.data.toList = pv at *
    generalize parE s.data.toList = pe at *
    have hts : (ts.toList == ts.toList) = true := by simp
    go_enter Tryd.func9, Tryd.ntmps9
    go_wp2_with fail
    refine H1.out.mono ?_
    rintro e w1 ⟨rfl, hc1⟩
    have HC1 := Go.Lib.hid hc1
    clear hc1
    go_wp2_with fail
    refine (H2.out _ HC1.out).mono ?_
    rintro e w2 ⟨rfl, hc2⟩
    have HC2 := Go.Lib.hid (HC1.out.trans hc2)
    clear hc2
    go_wp2_with fail
    refine (H3.out _ HC2.out).mono ?_
    rintro e w3 ⟨rfl, hc3⟩
    have HC3 := Go.Lib.hid (HC2.out.trans hc3)
    clear hc3
    go_wp2_with fail
    refine (H4.out _ HC3.out).mono ?_
    rintro e w4 ⟨rfl, hc4⟩
    have HC4 := Go.Lib.hid (HC3.out.trans hc4)
    clear hc4
    go_wp2_with (first | (go_at_call 17; refine (num_any _ _).mono ?_; rintro e w' ⟨rfl, rfl⟩) | (go_at_call 11; refine (HW.out _ HC4.out).mono ?_; rintro e w5 ⟨rfl, hc5⟩; have HC5 := Go.Lib.hid (HC4.out.trans hc5); clear hc5))
    go_ret
    exact ⟨rfl, HC5.out⟩
  · have hs' : 60 < (s.size : Int) := by omega
    have HW := Go.Lib.hid (works_any w hV)
    clear hV
    go_enter Tryd.func9, Tryd.ntmps9
    go_wp2_with fail
    refine HW.out.mono ?_
    rintro e w1 ⟨rfl, hc1⟩
    have HC1 := Go.Lib.hid hc1
    clear hc1
    go_wp2_with fail
    go_ret
    exact ⟨rfl, HC1.out⟩
end Go.Proofs.YtcceialiedaccaaDoor
