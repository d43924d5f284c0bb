/- HmacExpands: the function. -/
import Derived.Test.YtikdpiedjkailaaDoorH19
namespace Go.Proofs.YtikdpiedjkailaaDoor
open Go Go.RowKit

set_option maxRecDepth 100000 in
set_option maxHeartbeats 4000000 in
theorem expands_out (p : Option Addr) (nk ck : Nat) (s : ByteArray) (n : Int) (w : World) (hK : KAt w) (h : 200 < nk ∨ 200 < s.size ∨ (400 < n ∧ n < 8160)) :
    Calls Tryd.prog 5 #[.slice p nk ck, .string s, .int .i64 n] w fun e w' => e = .returned (.bool true) ∧ Ch (fun _ => False) w w' := by
  have HW := Go.Lib.hid (works_any w hK)
  clear hK
  by_cases h1 : 200 < nk
  · have h1' : (200 : Int) < (nk : Int) := by omega
    go_enter Tryd.func5, Tryd.ntmps5
    go_wp2_with fail
    refine HW.out.mono ?_
    rintro e w1 ⟨rfl, hc1⟩
    have HC1 := Go.Lib.hid hc1
    clear hc1
    go_wp2_with fail
    go_ret
    exact ⟨rfl, HC1.out⟩
  · have h1' : ¬ (200 : Int) < (nk : Int) := by omega
    by_cases h2 : 200 < s.size
    · have h2' : (200 : Int) < (s.size : Int) := by omega
      go_enter Tryd.func5, Tryd.ntmps5
      go_wp2_with fail
      refine HW.out.mono ?_
      rintro e w1 ⟨rfl, hc1⟩
      have HC1 := Go.Lib.hid hc1
      clear hc1
      go_wp2_with fail
      go_ret
      exact ⟨rfl, HC1.out⟩
    · have h2' : ¬ (200 : Int) < (s.size : Int) := by omega
      have h3 : 400 < n := by omega
      have h4 : n < 8160 := by omega
      go_enter Tryd.func5, Tryd.ntmps5
      go_wp2_with fail
      refine HW.out.mono ?_
      rintro e w1 ⟨rfl, hc1⟩
      have HC1 := Go.Lib.hid hc1
      clear hc1
      go_wp2_with fail
      go_ret
      exact ⟨rfl, HC1.out⟩

set_option maxRecDepth 100000 in
set_option maxHeartbeats 4000000 in
theorem expands_err (p : Option Addr) (nk ck : Nat) (s : ByteArray) (n : Int) (w : World) (hK : KAt w) (h1 : nk ≤ 200) (h2 : s.size ≤ 200) (h : n < 0 ∨ 8160 < n) :
    Calls Tryd.prog 5 #[.slice p nk ck, .string s, .int .i64 n] w fun e w' => e = .returned (.bool true) ∧ Ch (fun _ => False) w w' := by
  have HW := Go.Lib.hid (fun W (hc : Ch (fun _ => False) w W) => works_any W (hK.ch hc id))
  have HE := Go.Lib.hid (fun W => expand_err p nk ck s n W h); have HR := Go.Lib.hid (fun W => rexpand_err p nk ck s n W h)
  have h1' : ¬ (200 : Int) < (nk : Int) := by omega
  have h2' : ¬ (200 : Int) < (s.size : Int) := by omega
  have hcv := fun W => conv_bytes (w := W) (f := fun _ => 0) (.inr ⟨rfl, rfl, rfl⟩ : BytesAt W none 0 0 (fun _ => 0))
  generalize bS (fun _ => 0) 0 = X at *
  clear hK
  by_cases h0 : n < 0
  · have h3 : ¬ 400 < n := by omega
    clear h
    go_enter Tryd.func5, Tryd.ntmps5
    go_wp2_with fail
    refine (HE.out _).mono ?_
    rintro e w1 ⟨rfl, hc1⟩
    have HC1 := Go.Lib.hid hc1
    clear hc1
    go_wp2_with fail
    refine (HR.out _).mono ?_
    rintro e w2 ⟨rfl, hc2⟩
    have HC2 := Go.Lib.hid (HC1.out.trans hc2)
    clear hc2 HC1
    go_wp2_with (first | (go_at_call 17; refine (num17 _ _).mono ?_; rintro e w' ⟨rfl, rfl⟩))
    refine (HW.out _ HC2.out).mono ?_
    rintro e w3 ⟨rfl, hc3⟩
    have HC3 := Go.Lib.hid (HC2.out.trans hc3)
    clear hc3
    go_wp2_with fail
    go_ret
    exact ⟨rfl, HC3.out⟩
  · have h3 : 400 < n := by omega
    have h4 : ¬ n < 8160 := by omega
    clear h
    go_enter Tryd.func5, Tryd.ntmps5
    go_wp2_with fail
    refine (HE.out _).mono ?_
    rintro e w1 ⟨rfl, hc1⟩
    have HC1 := Go.Lib.hid hc1
    clear hc1
    go_wp2_with fail
    refine (HR.out _).mono ?_
    rintro e w2 ⟨rfl, hc2⟩
    have HC2 := Go.Lib.hid (HC1.out.trans hc2)
    clear hc2 HC1
    go_wp2_with (first | (go_at_call 17; refine (num17 _ _).mono ?_; rintro e w' ⟨rfl, rfl⟩))
    refine (HW.out _ HC2.out).mono ?_
    rintro e w3 ⟨rfl, hc3⟩
    have HC3 := Go.Lib.hid (HC2.out.trans hc3)
    clear hc3
    go_wp2_with fail
    go_ret
    exact ⟨rfl, HC3.out⟩

set_option maxRecDepth 100000 in
set_option maxHeartbeats 4000000 in
theorem expands_in (p : Option Addr) (nk ck : Nat) (key : Nat → UInt8) (s : ByteArray) (n : Nat) (w : World) (hK : KAt w) (hkey : BytesAt w p nk ck key) (h1 : nk ≤ 200) (h2 : s.size ≤ 200) (h : n ≤ 400 ∨ n = 8160) :
    Calls Tryd.prog 5 #[.slice p nk ck, .string s, .int .i64 (n : Int)] w fun e w' => e = .returned (.bool true) ∧ Ch (fun _ => False) w w' := by
  have HW := Go.Lib.hid (fun W (hc : Ch (fun _ => False) w W) => works_any W (hK.ch hc id))
  have HE := Go.Lib.hid (expand_any p nk ck key s n w (by omega) hkey (by omega) (by omega) hK); have HR := Go.Lib.hid (fun W (hc : Ch (fun _ => False) w W) => rexpand_any p nk ck key s n W (by omega) (hkey.ch hc (fun _ _ h => h)) (by omega) (by omega))
  have h1' : ¬ (200 : Int) < (nk : Int) := by omega
  have h2' : ¬ (200 : Int) < (s.size : Int) := by omega
  generalize expB (kb key nk) s = E at *
  have HX := Go.Lib.hid (fun W q c (hb : BytesAt W q n c E) => conv_bytes hb)
  generalize bS E n = X at *
  clear hK hkey
  by_cases h0 : n ≤ 400
  · have h3 : ¬ 400 < (n : Int) := by omega
    clear h
    go_enter Tryd.func5, Tryd.ntmps5
    go_wp2_with fail
    refine HE.out.mono ?_
    rintro e w1 ⟨q1, c1, rfl, hb1, hc1⟩
    have HC1 := Go.Lib.hid hc1; have HB1 := Go.Lib.hid hb1
    clear hc1 hb1
    go_wp2_with fail
    refine (HR.out _ HC1.out).mono ?_
    rintro e w2 ⟨q2, c2, rfl, hb2, hc2⟩
    have hx1 := HX.out w2 q1 c1 (HB1.out.ch hc2 (fun _ _ h => h))
    have hx2 := HX.out w2 q2 c2 hb2
    have HC2 := Go.Lib.hid (HC1.out.trans hc2)
    clear hc2 HC1 hb2
    go_wp2_with (first | (go_at_call 17; refine (num17 _ _).mono ?_; rintro e w' ⟨rfl, rfl⟩))
    refine (HW.out _ HC2.out).mono ?_
    rintro e w3 ⟨rfl, hc3⟩
    have HC3 := Go.Lib.hid (HC2.out.trans hc3)
    clear hc3
    go_wp2_with fail
    go_ret
    exact ⟨rfl, HC3.out⟩
  · have h3 : 400 < (n : Int) := by omega
    have h4 : ¬ (n : Int) < 8160 := by omega
    clear h
    go_enter Tryd.func5, Tryd.ntmps5
    go_wp2_with fail
    refine HE.out.mono ?_
    rintro e w1 ⟨q1, c1, rfl, hb1, hc1⟩
    have HC1 := Go.Lib.hid hc1; have HB1 := Go.Lib.hid hb1
    clear hc1 hb1
    go_wp2_with fail
    refine (HR.out _ HC1.out).mono ?_
    rintro e w2 ⟨q2, c2, rfl, hb2, hc2⟩
    have hx1 := HX.out w2 q1 c1 (HB1.out.ch hc2 (fun _ _ h => h))
    have hx2 := HX.out w2 q2 c2 hb2
    have HC2 := Go.Lib.hid (HC1.out.trans hc2)
    clear hc2 HC1 hb2
    go_wp2_with (first | (go_at_call 17; refine (num17 _ _).mono ?_; rintro e w' ⟨rfl, rfl⟩))
    refine (HW.out _ HC2.out).mono ?_
    rintro e w3 ⟨rfl, hc3⟩
    have HC3 := Go.Lib.hid (HC2.out.trans hc3)
    clear hc3
    go_wp2_with fail
    go_ret
    exact ⟨rfl, HC3.out⟩
end Go.Proofs.YtikdpiedjkailaaDoor
