import Derived.Test.YtdmeeghgbiffmaaDoorT17
namespace Go.Proofs.YtdmeeghgbiffmaaDoor
open Go.RowKit

set_option maxRecDepth 100000 in
set_option maxHeartbeats 400000 in
/-- The law where it asks only whether the machine works. -/
theorem hexes_out (s : ByteArray) (g : Nat → UInt8) (x c : Int) (w : World) (hK : KAt w) (hx : 500 < s.size ∨ x < 0 ∨ 63 < x) :
    Calls Tryd.prog 7 #[.string s, .agg (hv g), .int .i64 x, .int .u8 c] w fun e w' => e = .returned (.bool true) ∧ Ch (fun _ => False) w w' := by
  have hw := Go.Lib.hid (works_any (w.alloc (.cells (hv g) 31)) (hK.ch ((Ch.refl (fun _ => False) w).alloc _) id))
  clear hK
  by_cases h1 : 500 < (s.size : Int)
  · go_enter Tryd.func7, Tryd.ntmps7
    go_wp2_with fail
    refine hw.out.mono ?_; rintro e w1 ⟨rfl, hw1⟩; have HC := Go.Lib.hid hw1; clear hw1
    go_wp2_with fail
    go_ret
    exact ⟨rfl, ((Ch.refl _ w).alloc _).trans (HC.out.mono (fun _ _ h => h))⟩
  · by_cases h2 : x < 0
    · go_enter Tryd.func7, Tryd.ntmps7
      go_wp2_with fail
      refine hw.out.mono ?_; rintro e w1 ⟨rfl, hw1⟩; have HC := Go.Lib.hid hw1; clear hw1
      go_wp2_with fail
      go_ret
      exact ⟨rfl, ((Ch.refl _ w).alloc _).trans (HC.out.mono (fun _ _ h => h))⟩
    · have h3 : 63 < x := by omega
      go_enter Tryd.func7, Tryd.ntmps7
      go_wp2_with fail
      refine hw.out.mono ?_; rintro e w1 ⟨rfl, hw1⟩; have HC := Go.Lib.hid hw1; clear hw1
      go_wp2_with fail
      go_ret
      exact ⟨rfl, ((Ch.refl _ w).alloc _).trans (HC.out.mono (fun _ _ h => h))⟩
end Go.Proofs.YtdmeeghgbiffmaaDoor
