/- Numbers as bytes: a mark, how many bytes it tells, withNumber. -/
import Derived.Test.YtljllfdigfojdaaT8
namespace Go.Proofs.Ytljllfdigfojdaa
open Go Go.RowKit

/-- A number's first byte, how many bytes stand behind it, how many bytes it has, and these. -/
def mkN (n : Nat) : Nat := if n < 253 then n else if n ≤ 65535 then 253 else if n ≤ 4294967295 then 254 else 255
def wdN (m : Nat) : Nat := if m = 253 then 2 else if m = 254 then 4 else 8
def numL (n : Nat) : Nat := if n < 253 then 1 else 1 + wdN (mkN n)
def numB (n j : Nat) : UInt8 := if j = 0 then UInt8.ofNat (mkN n) else UInt8.ofNat (n / 2 ^ (8 * (numL n - 1 - j)))
theorem mkN_lt (n : Nat) : mkN n < 256 := by unfold mkN; split <;> (try split) <;> (try split) <;> omega
theorem u8_wrap (n : Nat) : IntKind.u8.wrap (n : Int) = ((UInt8.ofNat n).toNat : Int) := by
  rw [UInt8.toNat_ofNat']
  simp [IntKind.wrap, IntKind.bits, IntKind.signed]
theorem u8_small {n : Nat} (h : n < 256) : ((UInt8.ofNat n).toNat : Int) = (n : Int) := by
  rw [UInt8.toNat_ofNat', Nat.mod_eq_of_lt h]

set_option maxHeartbeats 400000 in
theorem mark_any (n : Nat) (w : World) : Calls Try.prog 79 #[.int .u64 (n : Int)] w fun e w' => e = .returned (.int .u8 (mkN n : Int)) ∧ w = w' := by
  unfold mkN
  by_cases h1 : n < 253
  · have g1 : (n : Int) < 253 := by omega
    have hw : IntKind.u8.wrap (n : Int) = (n : Int) := by rw [u8_wrap, u8_small (by omega)]
    rw [if_pos h1]
    go_enter Try.func79, Try.ntmps79
    go_wp2
    go_ret
    exact ⟨rfl, rfl⟩
  · have g1 : ¬ (n : Int) < 253 := by omega
    rw [if_neg h1]
    by_cases h2 : n ≤ 65535
    · have g2 : (n : Int) ≤ 65535 := by omega
      rw [if_pos h2]
      go_enter Try.func79, Try.ntmps79
      go_wp2
      go_ret
      exact ⟨rfl, rfl⟩
    · have g2 : ¬ (n : Int) ≤ 65535 := by omega
      rw [if_neg h2]
      by_cases h3 : n ≤ 4294967295
      · have g3 : (n : Int) ≤ 4294967295 := by omega
        rw [if_pos h3]
        go_enter Try.func79, Try.ntmps79
        go_wp2
        go_ret
        exact ⟨rfl, rfl⟩
      · have g3 : ¬ (n : Int) ≤ 4294967295 := by omega
        rw [if_neg h3]
        go_enter Try.func79, Try.ntmps79
        go_wp2
        go_ret
        exact ⟨rfl, rfl⟩
theorem width_any (m : Nat) (w : World) (h : m = 253 ∨ m = 254 ∨ m = 255) : Calls Try.prog 80 #[.int .u8 (m : Int)] w fun e w' => e = .returned (.int .i64 (wdN m : Int)) ∧ w = w' := by
  rcases h with rfl | rfl | rfl
  all_goals
    go_enter Try.func80, Try.ntmps80
    go_wp2
    go_ret
    exact ⟨rfl, rfl⟩
end Go.Proofs.Ytljllfdigfojdaa
