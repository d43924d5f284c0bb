/- Bytes that are taken by the table. -/
import Derived.Test.YtljllfdigfojdaaT3
namespace Go.Proofs.Ytljllfdigfojdaa
open Go Go.RowKit
attribute [local go_sem high] b_add b_xor b_and b_or b_shr b_shl not32 wrap_un beq32 neg32 b_and1 b_andC

/-- The lowest byte of a word. -/
def lowB (x : BitVec 32) : UInt8 := UInt8.ofNat x.toNat
theorem lowB_wrap (x : BitVec 32) : IntKind.u8.wrap (un x) = ((lowB x).toNat : Int) := by
  unfold lowB un
  rw [UInt8.toNat_ofNat']
  simp [IntKind.wrap, IntKind.bits, IntKind.signed]
theorem xor_u8 (c d : UInt8) : bits .xor .u8 (c.toNat : Int) (d.toNat : Int) = ((c ^^^ d).toNat : Int) := by
  have hc := c.toNat_lt; have hd := d.toNat_lt
  have h : (c.toNat ^^^ d.toNat) < 256 := Nat.xor_lt_two_pow (n := 8) hc hd
  rw [UInt8.toNat_xor]
  show IntKind.u8.wrap ((BitVec.ofInt 8 (c.toNat : Int) ^^^ BitVec.ofInt 8 (d.toNat : Int)).toNat : Int) = _
  have e : (BitVec.ofInt 8 (c.toNat : Int) ^^^ BitVec.ofInt 8 (d.toNat : Int)).toNat = c.toNat ^^^ d.toNat := by
    rw [BitVec.toNat_xor]
    congr 1
    · simp
    · simp
  rw [e]
  simp [IntKind.wrap, IntKind.bits, IntKind.signed]
  omega
theorem b_xor8 (t : TypeId) (c d : UInt8) : binOp .xor t (.int .u8 (c.toNat : Int)) (.int .u8 (d.toNat : Int)) = pure (.int .u8 ((c ^^^ d).toNat : Int)) := by
  show pure (Value.int .u8 (bits .xor .u8 (c.toNat : Int) (d.toNat : Int))) = _
  rw [xor_u8]
theorem pow_s (a k : Nat) : a * 2 ^ (k + 1) = 2 * (a * 2 ^ k) := by rw [Nat.pow_succ, ← Nat.mul_assoc, Nat.mul_comm]
theorem stp_shl (y : BitVec 32) (k : Nat) (h : y.toNat * 2 ^ (k + 1) < 4294967296) : stp (y <<< (k + 1)) = y <<< k := by
  have e : (y <<< (k + 1)).toNat = y.toNat * 2 ^ (k + 1) := by
    rw [BitVec.toNat_shiftLeft, Nat.shiftLeft_eq, Nat.mod_eq_of_lt h]
  rw [pow_s] at h e
  have e0 : (y <<< k).toNat = y.toNat * 2 ^ k := by
    rw [BitVec.toNat_shiftLeft, Nat.shiftLeft_eq, Nat.mod_eq_of_lt]
    omega
  generalize y.toNat * 2 ^ k = M at *
  rw [stp_if, if_neg]
  · apply BitVec.eq_of_toNat_eq
    rw [BitVec.toNat_ushiftRight, e, e0, Nat.shiftRight_eq_div_pow]
    omega
  · intro h1
    have := and1_nat (y <<< (k + 1))
    rw [h1, e] at this
    simp at this
theorem sN_shl (y : BitVec 32) (k : Nat) (h : y.toNat * 2 ^ k < 4294967296) : sN k (y <<< k) = y := by
  induction k with
  | zero => show y <<< 0 = y; simp
  | succ k ih =>
    rw [show sN (k + 1) (y <<< (k + 1)) = sN k (stp (y <<< (k + 1))) from sN_add k 1 _, stp_shl y k h]
    exact ih (by rw [pow_s] at h; omega)
/-- A word behind a byte. -/
def behind (x : BitVec 32) (c : UInt8) : BitVec 32 := sN 8 (x ^^^ BitVec.ofNat 32 c.toNat)
theorem split8 (x : BitVec 32) (c : UInt8) : x ^^^ BitVec.ofNat 32 c.toNat = (x >>> 8) <<< 8 ^^^ BitVec.ofNat 32 (lowB x ^^^ c).toNat := by
  have h1 : BitVec.ofNat 32 (lowB x ^^^ c).toNat = BitVec.ofNat 32 (lowB x).toNat ^^^ BitVec.ofNat 32 c.toNat := by
    rw [UInt8.toNat_xor]
    apply BitVec.eq_of_toNat_eq; simp
  have h2 : x = (x >>> 8) <<< 8 ^^^ BitVec.ofNat 32 (lowB x).toNat := by
    have hx : (lowB x).toNat = x.toNat % 256 := by unfold lowB; rw [UInt8.toNat_ofNat']
    rw [hx]
    apply BitVec.eq_of_getLsbD_eq
    intro i hi
    simp only [BitVec.getLsbD_xor, BitVec.getLsbD_shiftLeft, BitVec.getLsbD_ushiftRight, BitVec.getLsbD_ofNat]
    rw [show (256 : Nat) = 2 ^ 8 from rfl, Nat.testBit_mod_two_pow]
    by_cases h8 : i < 8
    · simp [h8, hi, BitVec.getLsbD]
    · simp [h8, hi, show 8 + (i - 8) = i by omega]
  rw [h1, ← BitVec.xor_assoc, ← h2]
theorem look (x : BitVec 32) (c : UInt8) : x >>> 8 ^^^ tb (lowB x ^^^ c).toNat = behind x c := by
  unfold behind tb
  rw [split8, sN_xor, sN_shl]
  have := x.isLt
  rw [BitVec.toNat_ushiftRight, Nat.shiftRight_eq_div_pow]
  omega

def runRow (x : BitVec 32) : Array Value := arr 257 fun i => if i = 0 then wv x else wv (tb (i - 1))
theorem info57 : (Try.prog.info? 155).map (·.size) = some 257 := by kernel_rfl
theorem runRow_size (x : BitVec 32) : (runRow x).size = 257 := arr_size _ _
theorem runRow_all (x : BitVec 32) : (runRow x).all (·.oneCell') = true := arr_all _ _ (fun i _ => by by_cases e : i = 0 <;> simp [e, Value.oneCell'])
theorem built57 (x : BitVec 32) : Try.prog.built 155 [(0, wv x), (1, .agg tabR)] = some (runRow x) := by kernel_rfl
end Go.Proofs.Ytljllfdigfojdaa
