/- MoneyMids, MoneyShares: the functions. -/
import Derived.Test.YtcceialiedaccaaDoorA11
namespace Go.Proofs.YtcceialiedaccaaDoor
open Go Go.RowKit

set_option maxRecDepth 100000 in
set_option maxHeartbeats 1000000 in
theorem mids_law (a b : Int) (w : World) (hV : Vs w) : Calls Tryd.prog 4 #[.int .i64 a, .int .i64 b] w fun e w' => e = .returned (.bool true) ∧ Ch (fun _ => False) w w' := by
  have HA := Go.Lib.hid (mid_any a b w)
  have HB := Go.Lib.hid (fun W => rmid_any a b W)
  have HW := Go.Lib.hid (fun W (h : Ch (fun _ => False) w W) => works_any W (hV.ch h))
  clear hV
  generalize midV a b = v at *
  generalize midE a b = er at *
  go_enter Tryd.func4, Tryd.ntmps4
  go_wp2_with fail
  refine HA.out.mono ?_
  rintro e w1 ⟨rfl, hc1⟩
  have HC1 := Go.Lib.hid hc1
  clear hc1
  go_wp2_with fail
  refine (HB.out _).mono ?_
  rintro e w2 ⟨rfl, rfl⟩
  go_wp2_with (first | (go_at_call 17; refine (num_any _ _).mono ?_; rintro e w' ⟨rfl, rfl⟩) | (go_at_call 11; refine (HW.out _ HC1.out).mono ?_; rintro e w3 ⟨rfl, hc3⟩; have HC3 := Go.Lib.hid (HC1.out.trans hc3); clear hc3))
  go_ret
  exact ⟨rfl, HC3.out⟩
set_option maxRecDepth 100000 in
set_option maxHeartbeats 1000000 in
theorem shares_law (a b : Int) (w : World) (hV : Vs w) : Calls Tryd.prog 5 #[.int .i64 a, .int .i64 b] w fun e w' => e = .returned (.bool true) ∧ Ch (fun _ => False) w w' := by
  have HA := Go.Lib.hid (share_any a b w)
  have HB := Go.Lib.hid (fun W => rshare_any a b W)
  have HW := Go.Lib.hid (fun W (h : Ch (fun _ => False) w W) => works_any W (hV.ch h))
  clear hV
  generalize shareV a b = v at *
  generalize shareE a b = er at *
  go_enter Tryd.func5, Tryd.ntmps5
  go_wp2_with fail
  refine HA.out.mono ?_
  rintro e w1 ⟨rfl, hc1⟩
  have HC1 := Go.Lib.hid hc1
  clear hc1
  go_wp2_with fail
  refine (HB.out _).mono ?_
  rintro e w2 ⟨rfl, rfl⟩
  go_wp2_with (first | (go_at_call 17; refine (num_any _ _).mono ?_; rintro e w' ⟨rfl, rfl⟩) | (go_at_call 11; refine (HW.out _ HC1.out).mono ?_; rintro e w3 ⟨rfl, hc3⟩; have HC3 := Go.Lib.hid (HC1.out.trans hc3); clear hc3))
  go_ret
  exact ⟨rfl, HC3.out⟩
end Go.Proofs.YtcceialiedaccaaDoor
