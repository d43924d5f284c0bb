/- A step and its powers, and the reference's word behind a byte. -/
import Derived.Test.YtljllfdigfojdaaMath
import Derived.Test.YtljllfdigfojdaaProg
namespace Go.Proofs.Ytljllfdigfojdaa
open Go Go.RowKit
attribute [local go_sem high] b_add b_xor b_and b_or b_shr b_shl not32 wrap_un beq32 neg32

def CC : BitVec 32 := 2197175160#32
theorem un_CC : (2197175160 : Int) = un CC := by decide
theorem un_1 : (1 : Int) = un 1#32 := by decide
/-- A step. -/
def stp (x : BitVec 32) : BitVec 32 := x >>> 1 ^^^ (CC &&& -(x &&& 1#32))
theorem b_and1 (t : TypeId) (x : BitVec 32) : binOp .and t (.int .u32 (un x)) (.int .u32 1) = pure (.int .u32 (un (x &&& 1#32))) := by
  rw [un_1]; exact b_and t x _
theorem b_andC (t : TypeId) (x : BitVec 32) : binOp .and t (.int .u32 2197175160) (.int .u32 (un x)) = pure (.int .u32 (un (CC &&& x))) := by
  rw [un_CC]; exact b_and t _ x
theorem one_cases (x : BitVec 32) : x &&& 1#32 = 0#32 ∨ x &&& 1#32 = 1#32 := by
  have h := and1_nat x
  have : (x &&& 1#32).toNat = 0 ∨ (x &&& 1#32).toNat = 1 := by omega
  rcases this with h | h
  · exact .inl (BitVec.eq_of_toNat_eq h)
  · exact .inr (BitVec.eq_of_toNat_eq h)
theorem stp_if (x : BitVec 32) : stp x = if x &&& 1#32 = 1#32 then x >>> 1 ^^^ CC else x >>> 1 := by
  unfold stp
  rcases one_cases x with h | h
  · rw [h, if_neg (by decide)]
    rw [show CC &&& -0#32 = 0#32 by decide, BitVec.xor_zero]
  · rw [h, if_pos rfl]
    rw [show CC &&& -1#32 = CC by decide]

attribute [local go_sem high] b_and1 b_andC
set_option maxHeartbeats 400000 in
theorem step_any (x : BitVec 32) (w : World) : Calls Try.prog 103 #[.int .u32 (un x)] w fun e w' => e = .returned (.int .u32 (un (stp x))) ∧ w = w' := by
  go_enter Try.func103, Try.ntmps103

  go_wp2
  go_ret
  exact ⟨rfl, rfl⟩

theorem b_rem2 (t : TypeId) (x : BitVec 32) : binOp .rem t (.int .u32 (un x)) (.int .u32 2) = pure (.int .u32 (un (x &&& 1#32))) := by
  show Op.intDiv .rem .u32 (un x) 2 = _
  unfold Op.intDiv
  rw [if_neg (by decide), and1_val]
  show pure (Value.int .u32 ((un x).tmod 2)) = _
  rw [Int.tmod_eq_emod_of_nonneg (un_nonneg x)]
theorem b_quo2 (t : TypeId) (x : BitVec 32) : binOp .quo t (.int .u32 (un x)) (.int .u32 2) = pure (.int .u32 (un (x >>> 1))) := by
  show Op.intDiv .quo .u32 (un x) 2 = _
  unfold Op.intDiv
  rw [if_neg (by decide)]
  show pure (Value.int .u32 (IntKind.u32.wrap ((un x).tdiv 2))) = _
  rw [Int.tdiv_eq_ediv_of_nonneg (un_nonneg x), ← shr1_val, wrap_un]
theorem b_xorC (t : TypeId) (x : BitVec 32) : binOp .xor t (.int .u32 (un x)) (.int .u32 2197175160) = pure (.int .u32 (un (x ^^^ CC))) := by
  rw [un_CC]; exact b_xor t x _
theorem beq_1 (x : BitVec 32) : (un x == 1) = (x == 1#32) := by rw [un_1, beq32]
attribute [local go_sem high] b_rem2 b_quo2 b_xorC beq_1
set_option maxHeartbeats 400000 in
theorem rstep_any (x : BitVec 32) (w : World) : Calls Try.prog 104 #[.int .u32 (un x)] w fun e w' => e = .returned (.int .u32 (un (stp x))) ∧ w = w' := by
  rw [stp_if]
  go_enter Try.func104, Try.ntmps104
  rcases one_cases x with h | h
  · rw [if_neg (by rw [h]; decide)]
    have h2 : (x &&& 1#32 == 1#32) = false := by rw [h]; decide
    go_wp2
    go_ret
    exact ⟨rfl, rfl⟩
  · rw [if_pos h]
    have h2 : (x &&& 1#32 == 1#32) = true := by rw [h]; decide
    go_wp2
    go_ret
    exact ⟨rfl, rfl⟩

/-- n steps. -/
def sN : Nat → BitVec 32 → BitVec 32
  | 0, x => x
  | n + 1, x => stp (sN n x)
theorem byte_u32 (c : UInt8) : IntKind.u32.wrap (c.toNat : Int) = un (BitVec.ofNat 32 c.toNat) := wrap32_nat _
set_option maxHeartbeats 400000 in
theorem byteOn_any (x : BitVec 32) (c : UInt8) (w : World) : Calls Try.prog 101 #[.int .u32 (un x), .int .u8 (c.toNat : Int)] w fun e w' => e = .returned (.int .u32 (un (sN 8 (x ^^^ BitVec.ofNat 32 c.toNat)))) ∧ w = w' := by
  have hb := byte_u32 c
  generalize hy : x ^^^ BitVec.ofNat 32 c.toNat = y
  go_enter Try.func101, Try.ntmps101
  go_wp2
  clear hy
  go_loop [0, 5] (fun z i => ∃ k : Nat, k ≤ 8 ∧ i = .int .i64 k ∧ z = .int .u32 (un (sN k y))) (fun _ i => 8 - (intOf i).toNat)
  case atStart => exact ⟨0, by omega, rfl, rfl⟩
  case round =>
    obtain ⟨k, hk, rfl, rfl⟩ := hrel
    have HS := Go.Lib.hid (show sN (k + 1) y = stp (sN k y) from rfl)
    by_cases hlt : k < 8
    · generalize sN k y = z at *
      go_wp2_with (go_at_call 104; refine (rstep_any _ _).mono ?_; rintro e w' ⟨rfl, rfl⟩)
      go_round
      case rel => exact ⟨k + 1, by omega, by go_num, by rw [HS.out]⟩
      case measure => simp [intOf]; omega
    · obtain rfl : k = 8 := by omega
      go_wp2
      go_ret
      exact ⟨rfl, rfl⟩

set_option maxHeartbeats 400000 in
theorem wordOf_any (x : BitVec 32) (w : World) : Calls Try.prog 97 #[.int .u32 (un x)] w fun e w' => e = .returned (.int .u32 (un (~~~x))) ∧ w = w' := by
  go_enter Try.func97, Try.ntmps97
  go_wp2
  go_ret
  exact ⟨rfl, rfl⟩
set_option maxHeartbeats 400000 in
theorem wsum_any (x : BitVec 32) (w : World) : Calls Try.prog 100 #[.int .u32 (un x)] w fun e w' => e = .returned (.int .u32 (un (~~~x))) ∧ w = w' := by
  go_enter Try.func100, Try.ntmps100
  go_wp2
  go_ret
  exact ⟨rfl, rfl⟩
set_option maxHeartbeats 400000 in
theorem num_any (n : Int) (w : World) : Calls Try.prog 14 #[.int .i64 n] w fun e w' => e = .returned (.int .i64 n) ∧ w = w' := by
  go_enter Try.func14, Try.ntmps14
  go_wp2
  go_ret
  exact ⟨rfl, rfl⟩
end Go.Proofs.Ytljllfdigfojdaa
