/- The reference's small functions on words: r, s, picked, most. -/
import Derived.Test.YtikdpiedjkailaaDoorT1
import Derived.Test.YtikdpiedjkailaaDoorSpec
namespace Go.Proofs.YtikdpiedjkailaaDoor
open Go.RowKit

theorem bit_shr (x : BitVec 32) (k : Nat) : (x >>> k).toNat % 2 = if x.getLsbD k then 1 else 0 := by
  rw [BitVec.toNat_ushiftRight, Nat.shiftRight_eq_div_pow, BitVec.getLsbD, Nat.testBit_eq_decide_div_mod_eq]
  by_cases h : x.toNat / 2 ^ k % 2 = 1
  · simp [h]
  · have : x.toNat / 2 ^ k % 2 = 0 := by omega
    simp [this]
theorem b_rem2 (t : TypeId) (x : BitVec 32) (k : Nat) : binOp .rem t (.int .u32 (un (x >>> k))) (.int .u32 2) = pure (.int .u32 (if x.getLsbD k then 1 else 0)) := by
  show Op.intDiv .rem .u32 (un (x >>> k)) 2 = _
  have h : (un (x >>> k)).tmod 2 = (((if x.getLsbD k then 1 else 0) : Nat) : Int) := by
    rw [Int.tmod_eq_emod_of_nonneg (un_nonneg _), ← bit_shr]
    unfold un
    omega
  simp only [Op.intDiv, h]
  cases x.getLsbD k <;> rfl
theorem b_rem_t (t : TypeId) (x : BitVec 32) (k : Nat) (h : x.getLsbD k = true) : binOp .rem t (.int .u32 (un (x >>> k))) (.int .u32 2) = pure (.int .u32 1) := by rw [b_rem2, h]; rfl
theorem b_rem_f (t : TypeId) (x : BitVec 32) (k : Nat) (h : x.getLsbD k = false) : binOp .rem t (.int .u32 (un (x >>> k))) (.int .u32 2) = pure (.int .u32 0) := by rw [b_rem2, h]; rfl
theorem un_one : un 1#32 = 1 := rfl
theorem un_zero : un 0#32 = 0 := rfl
theorem b_shl1 (t : TypeId) (yk : IntKind) (n : Int) (h0 : 0 ≤ n) (h : n ≤ 31) : binOp .shl t (.int .u32 1) (.int yk n) = pure (.int .u32 (un (1#32 <<< n.toNat))) := b_shl t yk 1#32 n h0 h
theorem b_shl0 (t : TypeId) (yk : IntKind) (n : Int) (h0 : 0 ≤ n) (h : n ≤ 31) : binOp .shl t (.int .u32 0) (.int yk n) = pure (.int .u32 (un 0#32)) := by
  refine (b_shl t yk 0#32 n h0 h).trans ?_
  rw [BitVec.zero_shiftLeft]
attribute [local go_sem high] b_add b_xor b_and b_or b_shr b_shl not32 wrap_un beq32 b_shl1 b_shl0

set_option maxHeartbeats 400000 in
theorem r_any (x : BitVec 32) (a b n : Int) (w : World) (ha : 1 ≤ a ∧ a ≤ 31) (hb : 1 ≤ b ∧ b ≤ 31) (hn : 0 ≤ n ∧ n ≤ 31) :
    Calls Tryd.prog 50 #[.int .u32 (un x), .int .i64 a, .int .i64 b, .int .i64 n] w fun e w' => e = .returned (.int .u32 (un (sx x [a, b] ^^^ x >>> n.toNat))) ∧ w' = w := by
  obtain ⟨ha1, ha2⟩ := ha
  obtain ⟨hb1, hb2⟩ := hb
  obtain ⟨hn1, hn2⟩ := hn
  have e1 : IntKind.i64.wrap (-a) = -a := by simp [IntKind.wrap, IntKind.bits, IntKind.signed]; omega
  have e2 : IntKind.i64.wrap (-b) = -b := by simp [IntKind.wrap, IntKind.bits, IntKind.signed]; omega
  have e3 : IntKind.u64.wrap n = n := by simp [IntKind.wrap, IntKind.bits, IntKind.signed]; omega
  have R1 := Go.Lib.hid (rot_any x (-a) w (by omega) (by omega))
  have R2 := Go.Lib.hid (rot_any x (-b) w (by omega) (by omega))
  go_enter Tryd.func50, Tryd.ntmps50
  go_wp2_with fail
  refine R1.out.mono ?_; rintro e w' ⟨rfl, rfl⟩
  go_wp2_with fail
  refine R2.out.mono ?_; rintro e w' ⟨rfl, rfl⟩
  go_wp2_with fail
  go_ret
  exact ⟨by simp [sx], rfl⟩

set_option maxHeartbeats 400000 in
theorem s_any (x : BitVec 32) (a b n : Int) (w : World) (ha : 1 ≤ a ∧ a ≤ 31) (hb : 1 ≤ b ∧ b ≤ 31) (hn : 1 ≤ n ∧ n ≤ 31) :
    Calls Tryd.prog 52 #[.int .u32 (un x), .int .i64 a, .int .i64 b, .int .i64 n] w fun e w' => e = .returned (.int .u32 (un (sx x [a, b, n]))) ∧ w' = w := by
  obtain ⟨ha1, ha2⟩ := ha
  obtain ⟨hb1, hb2⟩ := hb
  obtain ⟨hn1, hn2⟩ := hn
  have e1 : IntKind.i64.wrap (-a) = -a := by simp [IntKind.wrap, IntKind.bits, IntKind.signed]; omega
  have e2 : IntKind.i64.wrap (-b) = -b := by simp [IntKind.wrap, IntKind.bits, IntKind.signed]; omega
  have e3 : IntKind.i64.wrap (-n) = -n := by simp [IntKind.wrap, IntKind.bits, IntKind.signed]; omega
  have R1 := Go.Lib.hid (rot_any x (-a) w (by omega) (by omega))
  have R2 := Go.Lib.hid (rot_any x (-b) w (by omega) (by omega))
  have R3 := Go.Lib.hid (rot_any x (-n) w (by omega) (by omega))
  go_enter Tryd.func52, Tryd.ntmps52
  go_wp2_with fail
  refine R1.out.mono ?_; rintro e w' ⟨rfl, rfl⟩
  go_wp2_with fail
  refine R2.out.mono ?_; rintro e w' ⟨rfl, rfl⟩
  go_wp2_with fail
  refine R3.out.mono ?_; rintro e w' ⟨rfl, rfl⟩
  go_wp2_with fail
  go_ret
  exact ⟨by simp [sx], rfl⟩

/-- The low k bits of a word. -/
def low (x : BitVec 32) (k : Nat) : BitVec 32 := BitVec.ofNat 32 (x.toNat % 2 ^ k)
theorem low_zero (x : BitVec 32) : low x 0 = 0#32 := by simp [low, Nat.mod_one]
theorem low_all (x : BitVec 32) : low x 32 = x := by
  unfold low
  rw [Nat.mod_eq_of_lt x.isLt]; simp
theorem low_succ (x : BitVec 32) (k : Nat) (hk : k < 32) : low x (k + 1) = low x k + (if x.getLsbD k then 1#32 <<< k else 0#32) := by
  have h := bit_shr x k
  rw [BitVec.toNat_ushiftRight, Nat.shiftRight_eq_div_pow] at h
  have hp : 2 ^ k ≤ 2 ^ 31 := Nat.pow_le_pow_right (by omega) (by omega)
  have hq : 0 < 2 ^ k := Nat.two_pow_pos k
  have e : x.toNat % 2 ^ (k + 1) = x.toNat % 2 ^ k + 2 ^ k * (x.toNat / 2 ^ k % 2) := by
    rw [Nat.pow_succ, Nat.mod_mul]
  have hlt : x.toNat % 2 ^ k < 2 ^ k := Nat.mod_lt _ hq
  apply BitVec.eq_of_toNat_eq
  unfold low
  rw [e, h]
  split
  · simp [BitVec.toNat_shiftLeft, Nat.shiftLeft_eq]
  · simp
theorem low_t (x : BitVec 32) (k : Nat) (hk : k < 32) (h : x.getLsbD k = true) : low x k + 1#32 <<< k = low x (k + 1) := by rw [low_succ x k hk, h]; rfl
theorem low_f (x : BitVec 32) (k : Nat) (hk : k < 32) (h : x.getLsbD k = false) : low x k = low x (k + 1) := by rw [low_succ x k hk, h]; simp
def pick (e f g : BitVec 32) : BitVec 32 := (e &&& f) ^^^ ((~~~ e) &&& g)
def maj (a b c : BitVec 32) : BitVec 32 := (a &&& b) ^^^ (a &&& c) ^^^ (b &&& c)
theorem pick_bit (e f g : BitVec 32) (k : Nat) (hk : k < 32) : (pick e f g).getLsbD k = if e.getLsbD k then f.getLsbD k else g.getLsbD k := by
  unfold pick
  simp only [BitVec.getLsbD_xor, BitVec.getLsbD_and, BitVec.getLsbD_not]
  cases e.getLsbD k <;> simp [hk]
theorem maj_bit (a b c : BitVec 32) (k : Nat) : (maj a b c).getLsbD k = ((a.getLsbD k && b.getLsbD k) ^^ (a.getLsbD k && c.getLsbD k) ^^ (b.getLsbD k && c.getLsbD k)) := by
  unfold maj
  simp only [BitVec.getLsbD_xor, BitVec.getLsbD_and]

set_option maxHeartbeats 1000000 in
theorem picked_any (e f g : BitVec 32) (w : World) :
    Calls Tryd.prog 53 #[.int .u32 (un e), .int .u32 (un f), .int .u32 (un g)] w fun x w' => x = .returned (.int .u32 (un (pick e f g))) ∧ w' = w := by
  go_enter Tryd.func53, Tryd.ntmps53
  go_wp2
  go_loop [7, 8, 9] (fun o i _ => ∃ k : Nat, k ≤ 32 ∧ i = .int .u64 k ∧ o = .int .u32 (un (low (pick e f g) k))) (fun _ i _ => 32 - (intOf i).toNat)
  case atStart => exact ⟨0, Nat.zero_le _, rfl, by rw [low_zero]; rfl⟩
  case round =>
    obtain ⟨k, hk, rfl, rfl⟩ := hrel
    by_cases hlt : k < 32
    · have hp := pick_bit e f g k hlt
      have rg : binOp .rem 79 (.int .u32 (un (g >>> k))) (.int .u32 2) = pure (.int .u32 (if g.getLsbD k then 1 else 0)) := b_rem2 79 g k
      have re : binOp .rem 79 (.int .u32 (un (e >>> k))) (.int .u32 2) = pure (.int .u32 (if e.getLsbD k then 1 else 0)) := b_rem2 79 e k
      have rf : binOp .rem 79 (.int .u32 (un (f >>> k))) (.int .u32 2) = pure (.int .u32 (if f.getLsbD k then 1 else 0)) := b_rem2 79 f k
      have k0 : (0 : Int) ≤ (k : Int) := by omega
      have k1 : (k : Int) ≤ 31 := by omega
      cases he : e.getLsbD k with
      | true =>
        cases hf : f.getLsbD k with
        | true =>
          rw [he] at re; rw [hf] at rf
          have HL := Go.Lib.hid (low_t _ k hlt (hp.trans (by rw [he, hf]; rfl)))
          clear hp he hf
          cases hg : g.getLsbD k
          all_goals
            rw [hg] at rg; clear hg
            simp only [if_true, if_false, Bool.false_eq_true] at re rf rg
            go_wp2
            go_round
            case rel => exact ⟨k + 1, by omega, by go_num, by rw [← HL.out]⟩
            case measure => simp [intOf]; omega
        | false =>
          rw [he] at re; rw [hf] at rf
          have HL := Go.Lib.hid (low_f _ k hlt (hp.trans (by rw [he, hf]; rfl)))
          clear hp he hf
          cases hg : g.getLsbD k
          all_goals
            rw [hg] at rg; clear hg
            simp only [if_true, if_false, Bool.false_eq_true] at re rf rg
            go_wp2
            go_round
            case rel => exact ⟨k + 1, by omega, by go_num, by rw [← HL.out]⟩
            case measure => simp [intOf]; omega
      | false =>
        cases hg : g.getLsbD k with
        | true =>
          rw [he] at re; rw [hg] at rg
          have HL := Go.Lib.hid (low_t _ k hlt (hp.trans (by rw [he, hg]; rfl)))
          clear hp he hg rf
          simp only [if_true, if_false, Bool.false_eq_true] at re rg
          go_wp2
          go_round
          case rel => exact ⟨k + 1, by omega, by go_num, by rw [← HL.out]⟩
          case measure => simp [intOf]; omega
        | false =>
          rw [he] at re; rw [hg] at rg
          have HL := Go.Lib.hid (low_f _ k hlt (hp.trans (by rw [he, hg]; rfl)))
          clear hp he hg rf
          simp only [if_true, if_false, Bool.false_eq_true] at re rg
          go_wp2
          go_round
          case rel => exact ⟨k + 1, by omega, by go_num, by rw [← HL.out]⟩
          case measure => simp [intOf]; omega
    · obtain rfl : k = 32 := by omega
      rw [low_all]
      go_wp2
      go_ret
      exact ⟨rfl, rfl⟩

set_option maxHeartbeats 2000000 in
theorem most_any (a b c : BitVec 32) (w : World) :
    Calls Tryd.prog 54 #[.int .u32 (un a), .int .u32 (un b), .int .u32 (un c)] w fun x w' => x = .returned (.int .u32 (un (maj a b c))) ∧ w' = w := by
  go_enter Tryd.func54, Tryd.ntmps54
  go_wp2
  go_loop [7, 8] (fun o i => ∃ k : Nat, k ≤ 32 ∧ i = .int .u64 k ∧ o = .int .u32 (un (low (maj a b c) k))) (fun _ i => 32 - (intOf i).toNat)
  case atStart => exact ⟨0, Nat.zero_le _, rfl, by rw [low_zero]; rfl⟩
  case round =>
    obtain ⟨k, hk, rfl, rfl⟩ := hrel
    by_cases hlt : k < 32
    · have hp := maj_bit a b c k
      have ra : binOp .rem 79 (.int .u32 (un (a >>> k))) (.int .u32 2) = pure (.int .u32 (if a.getLsbD k then 1 else 0)) := b_rem2 79 a k
      have rb : binOp .rem 79 (.int .u32 (un (b >>> k))) (.int .u32 2) = pure (.int .u32 (if b.getLsbD k then 1 else 0)) := b_rem2 79 b k
      have rc : binOp .rem 79 (.int .u32 (un (c >>> k))) (.int .u32 2) = pure (.int .u32 (if c.getLsbD k then 1 else 0)) := b_rem2 79 c k
      have k0 : (0 : Int) ≤ (k : Int) := by omega
      have k1 : (k : Int) ≤ 31 := by omega
      have HL := Go.Lib.hid (fun h => low_t (maj a b c) k hlt h)
      have HM := Go.Lib.hid (fun h => low_f (maj a b c) k hlt h)
      cases ha : a.getLsbD k <;> cases hb : b.getLsbD k <;> cases hc : c.getLsbD k
      all_goals
        rw [ha] at ra hp; rw [hb] at rb hp; rw [hc] at rc hp
        have HP := Go.Lib.hid hp
        clear ha hb hc hp
        simp only [if_true, if_false, Bool.false_eq_true] at ra rb rc
        go_wp2
        go_round
        case rel =>
          first
          | exact ⟨k + 1, by omega, by go_num, by rw [← HL.out HP.out]⟩
          | exact ⟨k + 1, by omega, by go_num, by rw [← HM.out HP.out]⟩
        case measure => simp [intOf]; omega
    · obtain rfl : k = 32 := by omega
      rw [low_all]
      go_wp2
      go_ret
      exact ⟨rfl, rfl⟩
end Go.Proofs.YtikdpiedjkailaaDoor
