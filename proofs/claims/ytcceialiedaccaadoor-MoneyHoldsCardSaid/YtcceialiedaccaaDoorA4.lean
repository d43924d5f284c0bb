/- A product of two words, divided by a million; shares. -/
import Derived.Test.YtcceialiedaccaaDoorA3
import Derived.Test.YtcceialiedaccaaDoorShelf
namespace Go.Proofs.YtcceialiedaccaaDoor
open Go Go.RowKit

theorem lz_million (w : World) : Calls Tryd.prog 75 #[.int .u64 1000000] w fun e w' => e = .returned (.int .i64 44) ∧ w' = w :=
  (Tryd.bits_LeadingZeros64 1000000 w (by omega) (by omega)).mono fun e w' ⟨h1, h2⟩ => ⟨by rw [h1, show ((64 : Int) - ((Lib.bitLen (1000000 : Int).toNat : Nat) : Int)) = 44 by decide], h2⟩

set_option maxRecDepth 100000 in
set_option maxHeartbeats 1000000 in
theorem div_low (lo : Nat) (w : World) (h1 : lo < 18446744073709551616) :
    Calls Tryd.prog 61 #[.int .u64 0, .int .u64 (lo : Int), .int .u64 1000000] w fun e w' => e = .returned (.tuple #[.int .u64 ((lo / 1000000 : Nat) : Int), .int .u64 ((lo % 1000000 : Nat) : Int)]) ∧ Ch (fun _ => False) w w' := by
  go_enter Tryd.func61, Tryd.ntmps61
  go_upto_region 6 with (fail)
  go_quiet (fail)
  go_wp2_with fail
  refine bodyPost_ret (v := .tuple #[.int .u64 ((lo / 1000000 : Nat) : Int), .int .u64 ((lo % 1000000 : Nat) : Int)]) (by simp [results, Tryd.results61, go_sem]) rfl ⟨rfl, (Ch.refl _ w).drewN _⟩
theorem or_high (a b : Int) (ha : 0 ≤ a) (ha2 : a ≤ 61) (hb : 0 ≤ b) (hb2 : b < 17592186044416) : bits .or .u64 (a * 17592186044416) b = a * 17592186044416 + b := by
  rw [u64_or _ _ (by omega) (by omega) hb (by omega)]
  rw [show (a * 17592186044416).toNat = a.toNat <<< 44 by rw [Nat.shiftLeft_eq]; omega]
  rw [← Nat.shiftLeft_add_eq_or_of_lt (by omega : b.toNat < 2 ^ 44), Nat.shiftLeft_eq]
  omega
theorem and_low (m : Int) (h0 : 0 ≤ m) (h1 : m < 1048576) : bits .and .u64 (m * 17592186044416) 4294967295 = 0 := by
  rw [u64_and _ _ (by omega) (by omega) (by omega) (by omega)]
  rw [show (4294967295 : Int).toNat = 2 ^ 32 - 1 by decide, Nat.and_two_pow_sub_one_eq_mod]
  omega
theorem wrap_lo (lo : Int) : IntKind.u64.wrap (lo * 17592186044416) = (lo % 1048576) * 17592186044416 := by
  rw [IntKind.wrap_u64]; omega
set_option maxRecDepth 100000 in
set_option maxHeartbeats 1000000 in
theorem div_high (hi lo q r : Int) (w : World) (h0 : 0 < hi) (h2 : hi ≤ 61) (h3 : 0 ≤ lo) (h1 : lo ≤ 18446744073709551615) (hq : q = (hi * 18446744073709551616 + lo) / 1000000) (hr : r = (hi * 18446744073709551616 + lo) % 1000000) :
    Calls Tryd.prog 61 #[.int .u64 hi, .int .u64 lo, .int .u64 1000000] w fun e w' => e = .returned (.tuple #[.int .u64 q, .int .u64 r]) ∧ w = w' := by
  have HQ := Go.Lib.hid hq; have HR := Go.Lib.hid hr
  clear hq hr
  have hA : bits .and .u64 17592186044416000000 4294967295 = 0 := by decide
  have hO := or_high hi (lo / 1048576) (by omega) h2 (by omega) (by omega)
  have hW := wrap_lo lo
  have hL := and_low (lo % 1048576) (by omega) (by omega)
  have hM : (lo % 1048576) * 17592186044416 / 4294967296 = (lo % 1048576) * 4096 := by omega
  go_enter Tryd.func61, Tryd.ntmps61
  go_upto_region 7 with (fail)
  go_upto_region 15 with (go_at_call 75; refine (lz_million _).mono ?_; rintro e w' ⟨rfl, rfl⟩)
  clear hA hO hW hL hM
  generalize hX : hi * 17592186044416 + lo / 1048576 = X
  generalize hm : lo % 1048576 = m
  have hX0 : 0 ≤ X := by omega
  have hX1 : X ≤ 1090715534753792 := by omega
  have hm0 : 0 ≤ m := by omega
  have hm1 : m ≤ 1048575 := by omega
  have HX := Go.Lib.hid hX; have HMM := Go.Lib.hid hm
  clear hX hm
  generalize h12 : m * 17592186044416 = u12
  have hu0 : 0 ≤ u12 := by omega
  have HU12 := Go.Lib.hid h12
  clear h12
  generalize hq1 : X / 4096000000 = q1
  have hq10 : 0 ≤ q1 := by omega
  have hq11 : q1 ≤ 266289 := by omega
  have hr1 : X - q1 * 4096000000 = X % 4096000000 := by omega
  have hw1 : IntKind.u64.wrap (q1 * 4096000000) = q1 * 4096000000 := by rw [IntKind.wrap_u64]; omega
  generalize hr1' : X % 4096000000 = r1 at *
  have hr10 : 0 ≤ r1 := by omega
  have hr11 : r1 < 4096000000 := by omega
  have hw2 : IntKind.u64.wrap r1 = r1 := by rw [IntKind.wrap_u64]; omega
  have HQ1 := Go.Lib.hid hq1; have HR1 := Go.Lib.hid hr1'
  clear hq1 hr1'
  go_wp2_with fail
  go_loopw [15, 16] (fun a b wr => a = .int .u64 q1 ∧ b = .int .u64 r1 ∧ wr = w') (fun _ _ _ => 0)
  case atStart => exact ⟨by rw [HQ1.out], by congr 1; have := HQ1.out; have := HR1.out; omega, rfl⟩
  case round =>
    obtain ⟨rfl, rfl, rfl⟩ := hrel
    go_upto_region 21 with (fail)
    clear hw1 hw2 hr1
    have hv : IntKind.u64.wrap (IntKind.u64.wrap (IntKind.u64.wrap (X * 4294967296) + m * 4096) - IntKind.u64.wrap (q1 * 17592186044416000000)) = r1 * 4294967296 + m * 4096 := by
      have e1 := HQ1.out; have e2 := HR1.out
      simp only [IntKind.wrap_u64]
      omega
    generalize hV : r1 * 4294967296 + m * 4096 = V at *
    generalize hq0 : V / 4096000000 = q0
    have hV0 : 0 ≤ V := by omega
    have hV1 : V < 17592186044416000000 := by omega
    have hq00 : 0 ≤ q0 := by omega
    have hq01 : q0 < 4294967296 := by omega
    have hr2 : V - q0 * 4096000000 = V % 4096000000 := by omega
    have hw1 : IntKind.u64.wrap (q0 * 4096000000) = q0 * 4096000000 := by rw [IntKind.wrap_u64]; omega
    generalize hr2' : V % 4096000000 = r2 at *
    have hr20 : 0 ≤ r2 := by omega
    have hr21 : r2 < 4096000000 := by omega
    have hw2 : IntKind.u64.wrap r2 = r2 := by rw [IntKind.wrap_u64]; omega
    have HQ0 := Go.Lib.hid hq0; have HR2 := Go.Lib.hid hr2'; have HV := Go.Lib.hid hV
    clear hq0 hr2' hV
    go_wp2_with fail
    go_loopw [16, 18] (fun b a wr' => a = .int .u64 q0 ∧ b = .int .u64 r2 ∧ wr' = wr) (fun _ _ _ => 0)
    case atStart => exact ⟨by rw [HQ0.out], by congr 1; have := HQ0.out; have := HR2.out; omega, rfl⟩
    case round =>
      obtain ⟨rfl, rfl, rfl⟩ := hrel
      go_upto_region 28 with (fail)
      clear hw1 hw2 hr2 hv
      have e1 : q = q1 * 4294967296 + q0 := by
        have := HQ1.out; have := HR1.out; have := HQ0.out; have := HV.out; have := HX.out; have := HMM.out; have := HQ.out
        omega
      have e2 : r = r2 / 4096 := by
        have := HQ1.out; have := HR1.out; have := HQ0.out; have := HV.out; have := HX.out; have := HMM.out; have := HR.out; have := HR2.out
        omega
      have e3 : IntKind.u64.wrap (IntKind.u64.wrap (IntKind.u64.wrap (V * 4294967296)) - IntKind.u64.wrap (q0 * 17592186044416000000)) / 17592186044416 = r := by
        have := HQ0.out; have := HR2.out
        simp only [IntKind.wrap_u64]
        omega
      have e4 : q1 * 4294967296 + q0 = q := e1.symm
      clear e1 e2
      go_wp2_with fail
      refine bodyPost_ret (v := .tuple #[.int .u64 q, .int .u64 r]) (by simp [results, Tryd.results61, go_sem, e3, e4]) rfl ⟨rfl, rfl⟩

/-- The share of an amount by a rate. -/
def shareF (a r : Int) : Int := a * r / 1000000
theorem conv_u64 (x : Int) (h0 : 0 ≤ x) (h1 : x ≤ 9223372036854775807) : IntKind.u64.wrap x = x := by rw [IntKind.wrap_u64]; omega
set_option maxRecDepth 100000 in
set_option maxHeartbeats 1000000 in
/-- The closure that tells shares by a rate. -/
theorem by_any (a r : Int) (b o : Nat) (w : World) (ha : 0 ≤ a) (ha2 : a ≤ 1125899906842624) (hr : 0 ≤ r) (hr2 : r ≤ 1000000) (hb : w.cell? ⟨b, o, none⟩ = some (.int .i64 r)) :
    Calls Tryd.prog 59 #[.int .i64 a, .pointer (some ⟨b, o, none⟩)] w fun e w' => e = .returned (.int .i64 (shareF a r)) ∧ Ch (fun _ => False) w w' := by
  have hP : 0 ≤ a * r := Int.mul_nonneg ha hr
  have hP2 : a * r ≤ 1125899906842624000000 := by
    have h1 : a * r ≤ 1125899906842624 * r := Int.mul_le_mul_of_nonneg_right ha2 hr
    omega
  have hs0 : 0 ≤ shareF a r := by unfold shareF; omega
  have hs1 : shareF a r ≤ 1125899906842624 := by unfold shareF; omega
  have HM := Go.Lib.hid (show Calls Tryd.prog 60 #[.int .u64 a, .int .u64 r] w fun e w' => e = .returned (.tuple #[.int .u64 (a * r / 18446744073709551616), .int .u64 (a * r % 18446744073709551616)]) ∧ w = w' from by
    obtain ⟨x, rfl⟩ := Int.eq_ofNat_of_zero_le ha
    obtain ⟨y, rfl⟩ := Int.eq_ofNat_of_zero_le hr
    refine (Tryd.bits_Mul64 x y (by omega) (by omega) w).mono ?_
    rintro e w' ⟨rfl, rfl⟩
    exact ⟨by simp, rfl⟩)
  have HD := Go.Lib.hid (show Calls Tryd.prog 61 #[.int .u64 (a * r / 18446744073709551616), .int .u64 (a * r % 18446744073709551616), .int .u64 1000000] w fun e w' => ∃ x, e = .returned (.tuple #[.int .u64 (shareF a r), .int .u64 x]) ∧ Ch (fun _ => False) w w' from by
    by_cases h : 0 < a * r / 18446744073709551616
    · refine (div_high (a * r / 18446744073709551616) (a * r % 18446744073709551616) (shareF a r) ((a * r / 18446744073709551616 * 18446744073709551616 + a * r % 18446744073709551616) % 1000000) w h (by omega) (by omega) (by omega) (by unfold shareF; omega) rfl).mono ?_
      rintro e w' ⟨rfl, rfl⟩
      exact ⟨_, rfl, Ch.refl _ _⟩
    · have e0 : a * r / 18446744073709551616 = 0 := by omega
      have hpos : 0 ≤ a * r % 18446744073709551616 := by omega
      obtain ⟨lo, hlo⟩ := Int.eq_ofNat_of_zero_le hpos
      rw [e0, hlo]
      refine (div_low lo w (by omega)).mono ?_
      rintro e w' ⟨rfl, hc⟩
      refine ⟨((lo % 1000000 : Nat) : Int), ?_, hc⟩
      rw [show ((lo / 1000000 : Nat) : Int) = shareF a r by unfold shareF; omega])
  have hc1 := conv_u64 a ha (by omega)
  have hc2 := conv_u64 r hr (by omega)
  have hc3 : wrap64 (shareF a r) = shareF a r := by unfold wrap64; omega
  clear hP hP2
  generalize shareF a r = s at *
  generalize a * r / 18446744073709551616 = hi at *
  generalize a * r % 18446744073709551616 = lo at *
  go_enter Tryd.func59, Tryd.ntmps59
  go_wp2_with fail
  refine HM.out.mono ?_
  rintro e w' ⟨rfl, rfl⟩
  go_wp2_with fail
  refine HD.out.mono ?_
  rintro e w2 ⟨x, rfl, hC⟩
  have HC := Go.Lib.hid hC
  clear hC hb
  go_wp2_with fail
  go_ret
  exact ⟨rfl, HC.out⟩
theorem sharesBy_any (r : Int) (w : World) :
    Calls Tryd.prog 48 #[.int .i64 r] w fun e w' => ∃ b, e = .returned (.func (.func 59) #[] #[.pointer (some ⟨b, 0, none⟩)]) ∧ w'.cell? ⟨b, 0, none⟩ = some (.int .i64 r) ∧ Ch (fun _ => False) w w' := by
  go_enter Tryd.func48, Tryd.ntmps48
  go_wp2
  go_ret
  exact ⟨w.heap.size, rfl, cell_fresh w _ _ 0, (Ch.refl _ w).alloc _⟩
end Go.Proofs.YtcceialiedaccaaDoor
