/- What no sum under way tells. -/
import Derived.Test.YtdmeeghgbiffmaaDoorF2
import Derived.Test.YtdmeeghgbiffmaaDoorR8
namespace Go.Proofs.YtdmeeghgbiffmaaDoor
open Go.RowKit

set_option maxRecDepth 100000 in
set_option maxHeartbeats 400000 in
theorem nothing_any (x : Value) (w : World) (h : NoRun x w) : Calls Tryd.prog 33 #[x] w fun e w' => e = .returned (.bool true) ∧ Ch (fun _ => False) w w' := by
  have HN := Go.Lib.hid (fun w' (hc : Ch (fun _ => False) w w') => h.ch hc)
  clear h
  have HWR := Go.Lib.hid (fun w' (hc : Ch (fun _ => False) w w') y => write_no x y w' (HN.out w' hc))
  have HSU := Go.Lib.hid (fun w' (hc : Ch (fun _ => False) w w') => sumr_no x w' (HN.out w' hc))
  have HLE := Go.Lib.hid (fun w' (hc : Ch (fun _ => False) w w') => len_no x w' (HN.out w' hc))
  have HCO := Go.Lib.hid (fun w' (hc : Ch (fun _ => False) w w') => copy_no x w' (HN.out w' hc))
  have HZ := Go.Lib.hid (show (arr 32 fun _ => (.int .u8 0 : Value)) = hv fun _ => 0 from rfl)
  have HEQ := Go.Lib.hid (fun W => eq_self' (fun _ => 0) W)
  clear HN
  generalize hv (fun _ => 0) = Z at *
  go_enter Tryd.func33, Tryd.ntmps33
  go_wp2_with fail
  refine (HWR.out _ ((Ch.refl _ w).alloc _) _).mono ?_
  rintro e w1 ⟨rfl, rfl⟩
  have HC1 := Go.Lib.hid (show Ch (fun _ => False) w (w.alloc (.cells #[.int .u8 1] 5)) from (Ch.refl _ w).alloc _)
  generalize w.alloc (.cells #[.int .u8 1] 5) = w1 at *
  go_wp2_with (first
    | (go_at_call 26; refine (num_any 1 _).mono ?_; rintro e w2 ⟨rfl, rfl⟩)
    | (go_at_call 31; refine (HSU.out _ HC1.out).mono ?_; rintro e w2 ⟨rfl, hc2⟩; have HC2 := Go.Lib.hid (HC1.out.trans hc2); clear hc2)
    | (refine wpList_eql_wanted (by simp [Region.wanted, yielded]) (.tmp 10) (.tmp 11) 31 31 rfl Z (arr 32 fun _ => .int .u8 0) rfl rfl eqg31 (b := true) (by rw [HZ.out]; exact HEQ.out _) ?_)
    | (go_at_call 32; refine (HLE.out _ HC2.out).mono ?_; rintro e w3 ⟨rfl, rfl⟩)
    | (go_at_call 29; refine (HCO.out _ HC2.out).mono ?_; rintro e w3 ⟨rfl, rfl⟩))
  go_ret
  exact ⟨rfl, HC2.out⟩
end Go.Proofs.YtdmeeghgbiffmaaDoor
