/- ShaNames outside its bounds. -/
import Derived.Test.YtdmeeghgbiffmaaDoorN2
namespace Go.Proofs.YtdmeeghgbiffmaaDoor
open Go.RowKit

set_option maxRecDepth 100000 in
set_option maxHeartbeats 1000000 in
theorem names_out (s : ByteArray) (e0 : Nat → UInt8) (p : Option Addr) (n c : Nat) (w : World) (hK : KAt w) (h : 200 < s.size ∨ 300 < n) :
    Calls Tryd.prog 6 #[.string s, .agg (hv e0), .slice p n c] w fun e w' => e = .returned (.bool true) ∧ Ch (fun _ => False) w w' := by
  have hwk := Go.Lib.hid (works_any (w.alloc (.cells (hv e0) 31)) (hK.ch ((Ch.refl (fun _ => False) w).alloc _) id))
  clear hK
  have HIE := Go.Lib.hid (hv_info e0)
  generalize hv e0 = E at *
  by_cases h0 : 200 < s.size
  · have h0' : (200 : Int) < (s.size : Int) := by omega
    clear h
    go_enter Tryd.func6, Tryd.ntmps6
    go_wp2_with fail
    refine hwk.out.mono ?_; rintro e w1 ⟨rfl, hw1⟩; have HC := Go.Lib.hid (((Ch.refl _ w).alloc _).trans hw1); clear hw1
    go_wp2_with fail
    go_ret
    exact ⟨rfl, HC.out⟩
  · have h1 : (300 : Int) < (n : Int) := by omega
    have h2 : (s.size : Int) ≤ 200 := by omega
    clear h
    go_enter Tryd.func6, Tryd.ntmps6
    go_wp2_with fail
    refine hwk.out.mono ?_; rintro e w1 ⟨rfl, hw1⟩; have HC := Go.Lib.hid (((Ch.refl _ w).alloc _).trans hw1); clear hw1
    go_wp2_with fail
    go_ret
    exact ⟨rfl, HC.out⟩
end Go.Proofs.YtdmeeghgbiffmaaDoor
