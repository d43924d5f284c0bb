/- What MoneyHolds wants of numbers: shares of a sum, the parts' sums and bounds. -/
import Derived.Test.YtcceialiedaccaaDoorG3
import Derived.Test.YtcceialiedaccaaDoorA5
namespace Go.Proofs.YtcceialiedaccaaDoor
open Go Go.RowKit

theorem share_sum {x r s : Int} (h : 0 ≤ x) (h1 : 0 ≤ r) (h2 : 0 ≤ s) (h3 : r + s ≤ 1000000) :
    shareF x r + shareF x s ≤ shareF x (r + s) ∧ shareF x (r + s) - 1 ≤ shareF x r + shareF x s ∧ shareF x (r + s) ≤ x ∧ 0 ≤ shareF x r ∧ 0 ≤ shareF x s := by
  have e1 : 0 ≤ x * r := Int.mul_nonneg h h1
  have e2 : 0 ≤ x * s := Int.mul_nonneg h h2
  have e3 : x * (r + s) = x * r + x * s := Int.mul_add _ _ _
  have e4 : x * (r + s) ≤ x * 1000000 := Int.mul_le_mul_of_nonneg_left h3 h
  unfold shareF
  rw [e3] at *
  generalize x * r = P at *
  generalize x * s = Q at *
  omega

/-- The sum of the first k parts. -/
def sumP (x m : Int) : Nat → Int
  | 0 => 0
  | k + 1 => sumP x m k + partF x m k
theorem sumP_is (x m : Int) (h0 : 0 ≤ x % m) (k : Nat) : sumP x m k = (k : Int) * (x / m) + (if (k : Int) < x % m then (k : Int) else x % m) := by
  induction k with
  | zero => simp [sumP]; omega
  | succ k ih =>
    rw [sumP, ih]
    unfold partF
    have e : ((k + 1 : Nat) : Int) * (x / m) = (k : Int) * (x / m) + x / m := by
      rw [show ((k + 1 : Nat) : Int) = (k : Int) + 1 by omega, Int.add_mul, Int.one_mul]
    rw [e]
    generalize (k : Int) * (x / m) = P at *
    generalize x / m = q at *
    repeat' split
    all_goals omega
theorem sumP_bounds {x m : Int} (h : okP x m = true) : (∀ k : Nat, (k : Int) ≤ m → 0 ≤ sumP x m k ∧ sumP x m k ≤ x) ∧ sumP x m m.toNat = x := by
  obtain ⟨⟨x1, x2⟩, m1, m2⟩ := ok_of h
  have r1 : 0 ≤ x % m := Int.emod_nonneg _ (by omega)
  have r2 : x % m < m := Int.emod_lt_of_pos _ (by omega)
  have q1 : 0 ≤ x / m := Int.ediv_nonneg x1 (by omega)
  have hx : m * (x / m) + x % m = x := Int.mul_ediv_add_emod x m
  constructor
  · intro k hk
    rw [sumP_is x m r1]
    have hle : (k : Int) * (x / m) ≤ m * (x / m) := Int.mul_le_mul_of_nonneg_right hk q1
    have hge : 0 ≤ (k : Int) * (x / m) := Int.mul_nonneg (by omega) q1
    generalize (k : Int) * (x / m) = P at *
    generalize m * (x / m) = M at *
    split <;> omega
  · rw [sumP_is x m r1]
    rw [show ((m.toNat : Nat) : Int) = m by omega, if_neg (by omega)]
    exact hx
theorem partF_falls {x m : Int} (k : Nat) : partF x m (k + 1) ≤ partF x m k := by
  unfold partF; repeat' split
  all_goals omega
theorem partF_first {x m : Int} (k : Nat) : partF x m k ≤ partF x m 0 ∧ partF x m 0 - partF x m k ≤ 1 := by
  unfold partF; repeat' split
  all_goals omega
theorem partF_nat {x m : Int} (h : okP x m = true) (k : Nat) : 0 ≤ partF x m k ∧ partF x m k ≤ 1125899906842625 := by
  obtain ⟨⟨x1, x2⟩, m1, m2⟩ := ok_of h
  have q1 : 0 ≤ x / m := Int.ediv_nonneg x1 (by omega)
  have q2 : x / m ≤ x := Int.ediv_le_self _ x1
  unfold partF; split <;> omega
/-- The least and the most of the first k parts, as the law keeps them. -/
def leastP (x m : Int) : Nat → Int
  | 0 => -1
  | k + 1 => partF x m k
def mostP (x m : Int) : Nat → Int
  | 0 => 0
  | _ + 1 => partF x m 0
theorem leastP_step {x m : Int} (h : okP x m = true) (k : Nat) : (if leastP x m k < 0 ∨ partF x m k < leastP x m k then partF x m k else leastP x m k) = partF x m k := by
  cases k with
  | zero => simp [leastP]
  | succ k =>
    have h1 := partF_falls (x := x) (m := m) k
    have h2 := (partF_nat h k).1
    show (if partF x m k < 0 ∨ partF x m (k + 1) < partF x m k then partF x m (k + 1) else partF x m k) = partF x m (k + 1)
    by_cases hc : partF x m k < 0 ∨ partF x m (k + 1) < partF x m k
    · rw [if_pos hc]
    · rw [if_neg hc]; omega
theorem mostP_step {x m : Int} (h : okP x m = true) (k : Nat) : max (mostP x m k) (partF x m k) = partF x m 0 := by
  cases k with
  | zero => have := (partF_nat h 0).1; simp only [mostP]; omega
  | succ k => have := (partF_first (x := x) (m := m) (k + 1)).1; simp only [mostP]; omega
end Go.Proofs.YtcceialiedaccaaDoor
