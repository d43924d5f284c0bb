/-
  Words of 32 bits in a walk: 'un x' is the integer of the word x, and the walk's operations on such integers are those on words.
-/
import Derived.WalkKit
import Derived.WalkSpells
import Derived.WalkLawsBesides
import Derived.Lib.Hide
import Derived.Deep.QuietTactic
import Derived.BigQuiet
import Derived.BigRegion
import Derived.StillTailTactics
import Derived.Handy
import Derived.Deep.LoopGhost
import Derived.Deep.DeepCutAuto
import Derived.Deep.DeepFit
import Derived.Deep.RegionWith
import Derived.Deep.RegionLaw
namespace Go.Proofs.YtikdpiedjkailaaDoor
open Go.RowKit

/-- A word's integer. -/
def un (x : BitVec 32) : Int := (x.toNat : Int)
theorem un_nonneg (x : BitVec 32) : 0 ≤ un x := by unfold un; omega
theorem un_lt (x : BitVec 32) : un x < 4294967296 := by have := x.isLt; unfold un; omega
theorem un_inj {x y : BitVec 32} (h : un x = un y) : x = y := by
  unfold un at h; apply BitVec.eq_of_toNat_eq; omega
theorem un_ofNat (n : Nat) (h : n < 4294967296) : un (BitVec.ofNat 32 n) = (n : Int) := by
  unfold un; rw [BitVec.toNat_ofNat, Nat.mod_eq_of_lt (by omega)]
theorem un_of_int (n : Int) (h0 : 0 ≤ n) (h1 : n ≤ 4294967295) : ∃ x, n = un x :=
  ⟨BitVec.ofNat 32 n.toNat, by rw [un_ofNat _ (by omega)]; omega⟩

theorem wrap32_nat (n : Nat) : IntKind.u32.wrap (n : Int) = un (BitVec.ofNat 32 n) := by
  rw [IntKind.wrap_u32']; simp [un]
theorem ofInt_un (x : BitVec 32) : BitVec.ofInt 32 (un x) = x := by
  apply BitVec.eq_of_toNat_eq; simp [un]
theorem back32 (r : BitVec 32) : IntKind.u32.wrap (r.toNat : Int) = un r := by
  rw [wrap32_nat]; simp
theorem wrap_un (x : BitVec 32) : IntKind.u32.wrap (un x) = un x := back32 x

theorem wrap_add (x y : BitVec 32) : IntKind.u32.wrap (un x + un y) = un (x + y) := by
  unfold un
  rw [show ((x.toNat : Int) + (y.toNat : Int)) = ((x.toNat + y.toNat : Nat) : Int) by simp, wrap32_nat]
  simp [un]
theorem add32 (x y : BitVec 32) : Op.intArith .add .u32 (un x) (un y) = pure (.int .u32 (un (x + y))) := by
  show pure (Value.int .u32 (IntKind.u32.wrap (un x + un y))) = _
  rw [wrap_add]
theorem xor32 (x y : BitVec 32) : Op.intBits .xor .u32 (un x) (un y) = pure (.int .u32 (un (x ^^^ y))) := by
  show pure (Value.int .u32 (IntKind.u32.wrap ((BitVec.ofInt 32 (un x) ^^^ BitVec.ofInt 32 (un y)).toNat : Int))) = _
  rw [ofInt_un, ofInt_un, back32]
theorem and32 (x y : BitVec 32) : Op.intBits .and .u32 (un x) (un y) = pure (.int .u32 (un (x &&& y))) := by
  show pure (Value.int .u32 (IntKind.u32.wrap ((BitVec.ofInt 32 (un x) &&& BitVec.ofInt 32 (un y)).toNat : Int))) = _
  rw [ofInt_un, ofInt_un, back32]
theorem or32 (x y : BitVec 32) : Op.intBits .or .u32 (un x) (un y) = pure (.int .u32 (un (x ||| y))) := by
  show pure (Value.int .u32 (IntKind.u32.wrap ((BitVec.ofInt 32 (un x) ||| BitVec.ofInt 32 (un y)).toNat : Int))) = _
  rw [ofInt_un, ofInt_un, back32]
theorem not32 (x : BitVec 32) : Op.unary .xor (.int .u32 (un x)) = pure (.int .u32 (un (~~~ x))) := by
  show pure (Value.int .u32 (IntKind.u32.wrap ((BitVec.ofInt 32 (IntKind.u32.max) ^^^ BitVec.ofInt 32 (un x)).toNat : Int))) = _
  rw [ofInt_un, back32]
  rw [show BitVec.ofInt 32 (IntKind.u32.max) = BitVec.allOnes 32 by decide, BitVec.allOnes_xor]
theorem shr32n (yk : IntKind) (x : BitVec 32) (n : Nat) (h : n ≤ 31) : Op.shift .shr .u32 (un x) yk (n : Int) = pure (.int .u32 (un (x >>> n))) := by
  simp only [Op.shift]
  rw [if_neg (by omega)]
  show pure (Value.int .u32 ((un x).fdiv (2 ^ min ((n : Int).toNat) 32))) = _
  rw [show min ((n : Int).toNat) 32 = n by omega]
  rw [Int.fdiv_eq_ediv_of_nonneg _ (by exact_mod_cast Nat.zero_le (2 ^ n))]
  simp [un, BitVec.toNat_ushiftRight, Nat.shiftRight_eq_div_pow]
theorem shl32n (yk : IntKind) (x : BitVec 32) (n : Nat) (h : n ≤ 31) : Op.shift .shl .u32 (un x) yk (n : Int) = pure (.int .u32 (un (x <<< n))) := by
  simp only [Op.shift]
  rw [if_neg (by omega)]
  show pure (Value.int .u32 (IntKind.u32.wrap ((un x) * (2 ^ min ((n : Int).toNat) 32)))) = _
  rw [show min ((n : Int).toNat) 32 = n by omega, show ((un x) * 2 ^ n) = ((x.toNat * 2 ^ n : Nat) : Int) by simp [un], wrap32_nat]
  simp [un, BitVec.toNat_shiftLeft, Nat.shiftLeft_eq]
theorem shr32 (yk : IntKind) (x : BitVec 32) (n : Int) (h0 : 0 ≤ n) (h : n ≤ 31) : Op.shift .shr .u32 (un x) yk n = pure (.int .u32 (un (x >>> n.toNat))) := by
  obtain ⟨m, rfl⟩ := Int.eq_ofNat_of_zero_le h0
  rw [shr32n yk x m (by omega), Int.toNat_natCast]
theorem shl32 (yk : IntKind) (x : BitVec 32) (n : Int) (h0 : 0 ≤ n) (h : n ≤ 31) : Op.shift .shl .u32 (un x) yk n = pure (.int .u32 (un (x <<< n.toNat))) := by
  obtain ⟨m, rfl⟩ := Int.eq_ofNat_of_zero_le h0
  rw [shl32n yk x m (by omega), Int.toNat_natCast]
section
variable (t : TypeId) (yk : IntKind) (x y : BitVec 32) (n : Int)
theorem b_add : binOp .add t (.int .u32 (un x)) (.int .u32 (un y)) = pure (.int .u32 (un (x + y))) := add32 x y
theorem b_xor : binOp .xor t (.int .u32 (un x)) (.int .u32 (un y)) = pure (.int .u32 (un (x ^^^ y))) := xor32 x y
theorem b_and : binOp .and t (.int .u32 (un x)) (.int .u32 (un y)) = pure (.int .u32 (un (x &&& y))) := and32 x y
theorem b_or : binOp .or t (.int .u32 (un x)) (.int .u32 (un y)) = pure (.int .u32 (un (x ||| y))) := or32 x y
theorem b_shr (h0 : 0 ≤ n) (h : n ≤ 31) : binOp .shr t (.int .u32 (un x)) (.int yk n) = pure (.int .u32 (un (x >>> n.toNat))) := shr32 yk x n h0 h
theorem b_shl (h0 : 0 ≤ n) (h : n ≤ 31) : binOp .shl t (.int .u32 (un x)) (.int yk n) = pure (.int .u32 (un (x <<< n.toNat))) := shl32 yk x n h0 h
end
theorem beq32 (x y : BitVec 32) : (un x == un y) = (x == y) := by
  by_cases h : x = y
  · subst h; rw [beq_self_eq_true, beq_self_eq_true]
  · rw [beq_eq_false_iff_ne.2 h, beq_eq_false_iff_ne.2 (fun e => h (un_inj e))]

/-- The turn of a word to the right, as math/bits has it. -/
theorem rot_bits (k : Int) (h1 : -31 ≤ k) (h2 : k ≤ -1) : bits .and .u64 (IntKind.u64.wrap k) 31 = k + 32 := by
  have hw : IntKind.u64.wrap k = k + 18446744073709551616 := by
    simp [IntKind.wrap, IntKind.bits, IntKind.signed]; omega
  rw [hw, u64_and _ _ (by omega) (by omega) (by omega) (by omega)]
  rw [show (31 : Int).toNat = 2 ^ 5 - 1 by decide, Nat.and_two_pow_sub_one_eq_mod]
  omega
theorem rot_wrap (k : Int) (h1 : -31 ≤ k) (h2 : k ≤ -1) : IntKind.u64.wrap (32 - (k + 32)) = -k := by
  simp [IntKind.wrap, IntKind.bits, IntKind.signed]; omega
theorem rot_eq (x : BitVec 32) (k : Int) (h1 : -31 ≤ k) (h2 : k ≤ -1) : x <<< (k + 32).toNat ||| x >>> (-k).toNat = x.rotateRight (-k).toNat := by
  obtain ⟨m, hm, h3, h4⟩ : ∃ m : Nat, k = -(m : Int) ∧ 1 ≤ m ∧ m ≤ 31 := ⟨(-k).toNat, by omega, by omega, by omega⟩
  subst hm
  rw [show (-(m : Int) + 32).toNat = 32 - m by omega, show (- -(m : Int)).toNat = m by omega]
  rw [BitVec.rotateRight_def, Nat.mod_eq_of_lt (by omega), BitVec.or_comm]

theorem quiet_q {P : Program} {f : FuncId} {args : Array Value} {w : World} {n : Nat} {v : Value}
    (h : Calls P f args (w.drewN n) fun e w' => e = .returned v ∧ w.drewN n = w') : Calls P f args (w.drewN n) fun e w'' => e = .returned v ∧ ∃ m, w'' = w.drewN m :=
  h.mono fun _ _ ⟨he, hm⟩ => ⟨he, n, hm.symm⟩

/-- S of the chapter, over a list of places. -/
def sx (x : BitVec 32) (ns : List Int) : BitVec 32 := ns.foldl (fun a n => a ^^^ x.rotateRight n.toNat) 0#32
theorem sx_take (x : BitVec 32) (ns : List Int) (k : Nat) (h : k < ns.length) : sx x (ns.take (k + 1)) = sx x (ns.take k) ^^^ x.rotateRight (ns.getD k 0).toNat := by
  unfold sx
  rw [List.take_succ_eq_append_getElem h, List.foldl_append]
  simp [List.getD_eq_getElem?_getD, h]

end Go.Proofs.YtikdpiedjkailaaDoor
