/- The product, and the reference's matrix. -/
import Derived.Test.YthbpfgcgfhlmnaaT9
import Derived.Test.YthbpfgcgfhlmnaaM1
namespace Go.Proofs.Ythbpfgcgfhlmnaa
open Go Go.RowKit
attribute [local go_sem high] b_add b_xor b_and b_or b_shr b_shl not32 wrap_un beq32 neg32 b_and1 b_andC b_rem2 b_quo2 beq_1

theorem bit_of (y : BitVec 32) (n : Nat) : (y >>> n) &&& 1#32 = if y.getLsbD n then 1#32 else 0#32 := by
  rcases one_cases (y >>> n) with h | h
  · rw [h, if_neg]
    intro hb
    have : ((y >>> n) &&& 1#32).getLsbD 0 = true := by simp [hb]
    rw [h] at this; simp at this
  · rw [h, if_pos]
    have : ((y >>> n) &&& 1#32).getLsbD 0 = true := by rw [h]; decide
    simpa using this
theorem mask_of (x y : BitVec 32) (n : Nat) : x &&& -((y >>> n) &&& 1#32) = if y.getLsbD n then x else 0#32 := by
  rw [bit_of]
  by_cases h : y.getLsbD n = true
  · rw [if_pos h, if_pos h, show -1#32 = BitVec.allOnes 32 by decide, BitVec.and_allOnes]
  · rw [if_neg h, if_neg h, show -0#32 = 0#32 by decide, BitVec.and_zero]
set_option maxRecDepth 100000 in
set_option maxHeartbeats 1000000 in
theorem times_any (x y : BitVec 32) (w : World) : Calls Try.prog 40 #[.int .u32 (un x), .int .u32 (un y)] w fun e w' => e = .returned (.int .u32 (un (times x y))) ∧ w = w' := by
  go_enter Try.func40, Try.ntmps40
  go_wp2
  go_loop [0, 5, 6, 7] (fun z p _ i => ∃ k : Nat, k ≤ 32 ∧ i = .int .i64 k ∧ z = .int .u32 (un (sN k x)) ∧ p = .int .u32 (un (tm x y k))) (fun _ _ _ i => 32 - (intOf i).toNat)
  case atStart => exact ⟨0, by omega, rfl, rfl, rfl⟩
  case round =>
    obtain ⟨k, hk, rfl, rfl, rfl⟩ := hrel
    by_cases hlt : k < 32
    · have HS := Go.Lib.hid (show sN (k + 1) x = stp (sN k x) from rfl)
      have HT := Go.Lib.hid (show tm x y (k + 1) = tm x y k ^^^ (sN k x &&& -((y >>> (31 - k)) &&& 1#32)) by rw [mask_of]; rfl)
      have h1 : (k : Int) ≤ 31 := by omega
      have h2 : 31 - (k : Int) ≤ 31 := by omega
      have h3 : (31 - (k : Int)).toNat = 31 - k := by omega
      generalize sN k x = z at *
      generalize tm x y k = p at *
      go_wp2_with (go_at_call 32; refine (step_any _ _).mono ?_; rintro e w' ⟨rfl, rfl⟩)
      go_round
      case rel => exact ⟨k + 1, by omega, by go_num, by rw [HS.out], by rw [HT.out]⟩
      case measure => simp [intOf]; omega
    · obtain rfl : k = 32 := by omega
      go_wp2
      go_ret
      exact ⟨rfl, rfl⟩
end Go.Proofs.Ythbpfgcgfhlmnaa
