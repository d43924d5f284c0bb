/- The table of both sides. -/
import Derived.Test.YtljllfdigfojdaaT1
namespace Go.Proofs.Ytljllfdigfojdaa
open Go Go.RowKit
attribute [local go_sem high] b_add b_xor b_and b_or b_shr b_shl not32 wrap_un beq32 neg32 b_and1 b_andC

theorem stp_xor (x y : BitVec 32) : stp (x ^^^ y) = stp x ^^^ stp y := by
  rw [stp_if, stp_if, stp_if]
  have e : (x ^^^ y) &&& 1#32 = (x &&& 1#32) ^^^ (y &&& 1#32) := by
    ext i hi; simp; cases x[i] <;> cases y[i] <;> simp
  have s : (x ^^^ y) >>> 1 = x >>> 1 ^^^ y >>> 1 := by
    ext i hi; simp
  rw [e, s]
  rcases one_cases x with h | h <;> rcases one_cases y with k | k <;> rw [h, k]
  · simp
  · simp; ac_rfl
  · simp; ac_rfl
  · simp
    rw [show x >>> 1 ^^^ CC ^^^ (y >>> 1 ^^^ CC) = x >>> 1 ^^^ y >>> 1 ^^^ (CC ^^^ CC) by ac_rfl, BitVec.xor_self, BitVec.xor_zero]
theorem sN_xor (n : Nat) (x y : BitVec 32) : sN n (x ^^^ y) = sN n x ^^^ sN n y := by
  induction n with
  | zero => rfl
  | succ n ih => show stp _ = stp _ ^^^ stp _; rw [ih, stp_xor]
theorem sN_add (n m : Nat) (x : BitVec 32) : sN (n + m) x = sN n (sN m x) := by
  induction n with
  | zero => rw [Nat.zero_add]; rfl
  | succ n ih => rw [show n + 1 + m = (n + m) + 1 by omega]; show stp _ = stp _; rw [ih]
/-- The table's word of i. -/
def tb (i : Nat) : BitVec 32 := sN 8 (BitVec.ofNat 32 i)
theorem add_xor : ∀ q : Fin 8, ∀ v : Fin 256, v.val % (2 * 2 ^ q.val) = 0 → v.val + 2 ^ q.val = v.val ^^^ 2 ^ q.val := by decide +kernel
theorem tb_add (q v : Nat) (hq : q < 8) (hv : v < 256) (h : v % (2 * 2 ^ q) = 0) : tb (v + 2 ^ q) = tb v ^^^ tb (2 ^ q) := by
  unfold tb
  rw [add_xor ⟨q, hq⟩ ⟨v, hv⟩ h, ← sN_xor]
  congr 1
  apply BitVec.eq_of_toNat_eq
  simp
/-- The table when all that are behind v, and no more than half as even, are left. -/
def gp (bit v i : Nat) : BitVec 32 := if i % (2 * bit) = 0 then tb i else if i % bit = 0 ∧ i < v then tb i else 0#32
theorem bit_cases (q : Nat) (hq : q < 8) : q = 0 ∨ q = 1 ∨ q = 2 ∨ q = 3 ∨ q = 4 ∨ q = 5 ∨ q = 6 ∨ q = 7 := by omega
theorem gp_step (q v i : Nat) (hq : q < 8) (hv : v < 256) (h : v % (2 * 2 ^ q) = 0) (hi : i < 256) :
    (if i = v + 2 ^ q then wv (gp (2 ^ q) v v ^^^ tb (2 ^ q)) else wv (gp (2 ^ q) v i)) = wv (gp (2 ^ q) (v + 2 * 2 ^ q) i) := by
  by_cases e : i = v + 2 ^ q
  · rw [if_pos e, e]
    have h1 : gp (2 ^ q) v v = tb v := by unfold gp; rw [if_pos h]
    have h2 : gp (2 ^ q) (v + 2 * 2 ^ q) (v + 2 ^ q) = tb (v + 2 ^ q) := by
      unfold gp
      rw [if_neg, if_pos]
      · rcases bit_cases q hq with rfl | rfl | rfl | rfl | rfl | rfl | rfl | rfl <;> omega
      · rcases bit_cases q hq with rfl | rfl | rfl | rfl | rfl | rfl | rfl | rfl <;> omega
    rw [h1, h2, tb_add q v hq hv h]
  · rw [if_neg e]
    refine congrArg wv ?_
    unfold gp
    by_cases e1 : i % (2 * 2 ^ q) = 0
    · rw [if_pos e1, if_pos e1]
    · rw [if_neg e1, if_neg e1]
      have : (i % 2 ^ q = 0 ∧ i < v) ↔ (i % 2 ^ q = 0 ∧ i < v + 2 * 2 ^ q) := by
        rcases bit_cases q hq with rfl | rfl | rfl | rfl | rfl | rfl | rfl | rfl <;> omega
      by_cases c : i % 2 ^ q = 0 ∧ i < v
      · rw [if_pos c, if_pos (this.1 c)]
      · rw [if_neg c, if_neg (fun x => c (this.2 x))]
theorem v_next (q v : Nat) (hq : q < 8) (hv : v < 256) (h : v % (2 * 2 ^ q) = 0) : v + 2 * 2 ^ q ≤ 256 ∧ (v + 2 * 2 ^ q) % (2 * 2 ^ q) = 0 ∧ v + 2 ^ q < 256 ∧ 1 ≤ 2 ^ q ∧ 2 ^ q ≤ 128 := by
  rcases bit_cases q hq with rfl | rfl | rfl | rfl | rfl | rfl | rfl | rfl <;> omega

set_option maxRecDepth 100000 in
set_option maxHeartbeats 1000000 in
theorem fill_any (q b : Nat) (hq : q < 8) (w : World) (hb : w.heap[b]? = some (.cells (arr 256 fun i => wv (gp (2 ^ q) 0 i)) 152)) :
    Calls Try.prog 102 #[.int .i64 ((2 ^ q : Nat) : Int), .int .u32 (un (tb (2 ^ q))), .pointer (some ⟨b, 0, none⟩)] w fun e w' => e = .returned (.tuple #[]) ∧
      w'.heap[b]? = some (.cells (arr 256 fun i => wv (gp (2 ^ q) 256 i)) 152) ∧ Ch (fun k => k = b) w w' := by
  have HN := Go.Lib.hid (fun v => v_next q v hq)
  have HG := Go.Lib.hid (fun v i => gp_step q v i hq)
  have hB : 1 ≤ 2 ^ q ∧ 2 ^ q ≤ 128 := (v_next q 0 hq (by omega) (by simp)).2.2.2
  generalize 2 ^ q = B at *
  clear hq q
  obtain ⟨hB1, hB2⟩ := hB
  have HB := Go.Lib.hid hb
  clear hb
  generalize tb B = y at *
  go_enter Try.func102, Try.ntmps102
  go_wp2
  go_loopw [5] (fun i wr => ∃ v : Nat, v ≤ 256 ∧ v % (2 * B) = 0 ∧ i = .int .i64 v ∧ wr.heap[b]? = some (.cells (arr 256 fun i => wv (gp B v i)) 152) ∧ Ch (fun k => k = b) w wr) (fun i _ => 256 - (intOf i).toNat)
  case atStart => exact ⟨0, by omega, by simp, rfl, HB.out, Ch.refl _ _⟩
  case round =>
    obtain ⟨v, hv, hm, rfl, hr, hC⟩ := hrel
    have HR := Go.Lib.hid hr; have HC := Go.Lib.hid hC
    clear hr hC
    by_cases hlt : v < 256
    · have HGv := Go.Lib.hid (fun i hi => HG.out v i hlt hm hi)
      obtain ⟨n1, n2, n3, _⟩ := HN.out v hlt hm
      clear HG HN hm
      have hcA : wr.cell? ⟨b, v, none⟩ = some (wv (gp B v v)) := (cell_of_heap HR.out _).trans (arr_get _ _ _ hlt)
      have hcB : wr.cell? ⟨b, v + B, none⟩ = some (wv (gp B v (v + B))) := (cell_of_heap HR.out _).trans (arr_get _ _ _ n3)
      have hfB : wr.frozen? ⟨b, v + B, none⟩ = false := frozen_of_heap HR.out _
      generalize gp B v v = z at *
      go_wp2
      go_roundw
      case rel => exact ⟨v + 2 * B, n1, n2, by go_num, (heap_set HR.out (v + B) _).trans (by rw [arr_congr (fun i hi => HGv.out i hi)]), Ch.setCell (S := fun k => k = b) HC.out (p := ⟨b, v + B, none⟩) (fun _ => rfl) _⟩
      case measure => simp [intOf]; omega
    · obtain rfl : v = 256 := by omega
      go_wp2
      go_end0
      exact ⟨rfl, HR.out, HC.out⟩
end Go.Proofs.Ytljllfdigfojdaa
