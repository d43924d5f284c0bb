/- Plain: the product of words, and powers of a step. -/
import Derived.Test.YthbpfgcgfhlmnaaT2
namespace Go.Proofs.Ythbpfgcgfhlmnaa
open Go

theorem stp_zero : stp 0#32 = 0#32 := by decide
theorem sN_zero (n : Nat) : sN n 0#32 = 0#32 := by
  induction n with
  | zero => rfl
  | succ n ih => show stp _ = _; rw [ih, stp_zero]
/-- What is linear, by what it makes of each bit. -/
def lin (F : Nat → BitVec 32) (w : BitVec 32) : Nat → BitVec 32
  | 0 => 0#32
  | k + 1 => lin F w k ^^^ (if w.getLsbD k then F k else 0#32)
def e (i : Nat) : BitVec 32 := 1#32 <<< i
theorem e_bit (i j : Nat) (hj : j < 32) : (e i).getLsbD j = decide (i = j) := by
  unfold e
  simp only [BitVec.getLsbD_shiftLeft]
  by_cases h : j < i
  · simp [h]; omega
  · by_cases h2 : i = j
    · subst h2; simp [hj]
    · have : j - i ≠ 0 := by omega
      simp [h2, this, BitVec.getLsbD_one]
theorem lin_bit (w : BitVec 32) (k j : Nat) (hk : k ≤ 32) (hj : j < 32) : (lin e w k).getLsbD j = (decide (j < k) && w.getLsbD j) := by
  induction k with
  | zero => simp [lin]
  | succ k ih =>
    simp only [lin, BitVec.getLsbD_xor, ih (by omega)]
    by_cases h : w.getLsbD k = true
    · rw [if_pos h, e_bit _ _ hj]
      by_cases h2 : k = j
      · subst h2; simp [h]
      · by_cases h3 : j < k
        · simp [h3, h2, show j < k + 1 by omega]
        · simp [h3, h2, show ¬ j < k + 1 by omega]
    · rw [if_neg h]
      by_cases h2 : k = j
      · subst h2; simp [h]
      · by_cases h3 : j < k
        · simp [h3, show j < k + 1 by omega]
        · simp [h3, show ¬ j < k + 1 by omega]
theorem lin_self (w : BitVec 32) : lin e w 32 = w := by
  apply BitVec.eq_of_getLsbD_eq
  intro j hj
  rw [lin_bit w 32 j (Nat.le_refl _) hj]
  simp [hj]
theorem lin_congr {F G : Nat → BitVec 32} (w : BitVec 32) (k : Nat) (h : ∀ i, i < k → F i = G i) : lin F w k = lin G w k := by
  induction k with
  | zero => rfl
  | succ k ih => simp only [lin]; rw [ih (fun i hi => h i (by omega)), h k (by omega)]
theorem lin_map (T : BitVec 32 → BitVec 32) (h0 : T 0#32 = 0#32) (hx : ∀ x y, T (x ^^^ y) = T x ^^^ T y) (F : Nat → BitVec 32) (w : BitVec 32) (k : Nat) : T (lin F w k) = lin (fun i => T (F i)) w k := by
  induction k with
  | zero => exact h0
  | succ k ih =>
    simp only [lin]
    rw [hx, ih]
    congr 1
    split
    · rfl
    · exact h0
theorem lin_sN (n : Nat) (w : BitVec 32) : lin (fun i => sN n (e i)) w 32 = sN n w := by
  rw [← lin_map (sN n) (sN_zero n) (sN_xor n), lin_self]
/-- The product, place by place. -/
def tm (w y : BitVec 32) : Nat → BitVec 32
  | 0 => 0#32
  | k + 1 => tm w y k ^^^ (if y.getLsbD (31 - k) then sN k w else 0#32)
def times (w y : BitVec 32) : BitVec 32 := tm w y 32
theorem xor4 (a b c d : BitVec 32) : a ^^^ b ^^^ (c ^^^ d) = a ^^^ c ^^^ (b ^^^ d) := by ac_rfl
theorem tm_right (w y z : BitVec 32) (k : Nat) : tm w (y ^^^ z) k = tm w y k ^^^ tm w z k := by
  induction k with
  | zero => simp [tm]
  | succ k ih =>
    simp only [tm, ih, BitVec.getLsbD_xor]
    rw [xor4]
    congr 1
    cases y.getLsbD (31 - k) <;> cases z.getLsbD (31 - k) <;> simp
theorem tm_left (w v y : BitVec 32) (k : Nat) : tm (w ^^^ v) y k = tm w y k ^^^ tm v y k := by
  induction k with
  | zero => simp [tm]
  | succ k ih =>
    simp only [tm, ih]
    rw [xor4]
    congr 1
    split
    · exact sN_xor k w v
    · simp
theorem tm_right0 (w : BitVec 32) (k : Nat) : tm w 0#32 k = 0#32 := by
  induction k with
  | zero => rfl
  | succ k ih => simp [tm, ih]
theorem tm_left0 (y : BitVec 32) (k : Nat) : tm 0#32 y k = 0#32 := by
  induction k with
  | zero => rfl
  | succ k ih => simp [tm, ih, sN_zero]
theorem times_e (w : BitVec 32) (j : Nat) (hj : j < 32) : times w (e j) = sN (31 - j) w := by
  have key : ∀ k, k ≤ 32 → tm w (e j) k = if 31 - j < k then sN (31 - j) w else 0#32 := fun k => by
    induction k with
    | zero => intro _; rw [if_neg (by omega)]; rfl
    | succ k ih =>
      intro hk
      simp only [tm]
      rw [ih (by omega), e_bit _ _ (by omega)]
      by_cases h : j = 31 - k
      · rw [if_neg (by omega), if_pos (by simpa using h), if_pos (by omega), BitVec.zero_xor]
        congr 1; omega
      · have hd : ¬ decide (j = 31 - k) = true := by simpa using h
        rw [if_neg hd, BitVec.xor_zero]
        by_cases h2 : 31 - j < k
        · rw [if_pos h2, if_pos (by omega)]
        · rw [if_neg h2, if_neg (by omega)]
  unfold times
  rw [key 32 (Nat.le_refl _), if_pos (by omega)]
theorem times_lin (w y : BitVec 32) : times w y = lin (fun j => sN (31 - j) w) y 32 := by
  have h := lin_map (times w) (tm_right0 w 32) (fun x y => tm_right w x y 32) e y 32
  rw [lin_self] at h
  rw [h]
  exact lin_congr _ _ (fun i hi => times_e w i hi)
theorem ch_basis : ∀ i : Fin 32, times (e i.val) CC = sN 32 (e i.val) := by decide +kernel
theorem times_CC (w : BitVec 32) : times w CC = sN 32 w := by
  have h := lin_map (fun w => times w CC) (tm_left0 CC 32) (fun x y => tm_left x y CC 32) e w 32
  rw [lin_self] at h
  rw [← lin_sN]
  refine Eq.trans h ?_
  exact lin_congr _ _ (fun i hi => ch_basis ⟨i, hi⟩)
theorem stp_e : ∀ j : Fin 31, stp (e (j.val + 1)) = e j.val := by decide +kernel
theorem stp_e0 : stp (e 0) = CC := by decide
theorem times_stp (w y : BitVec 32) : times w (stp y) = stp (times w y) := by
  have h := lin_map (fun y => times w (stp y)) (by show times w (stp 0#32) = _; rw [stp_zero]; exact tm_right0 w 32) (fun x y => by show times w (stp (x ^^^ y)) = _; rw [stp_xor]; exact tm_right w _ _ 32) e y 32
  rw [lin_self] at h
  rw [times_lin w y, lin_map stp stp_zero stp_xor]
  refine Eq.trans h ?_
  refine lin_congr _ _ (fun i hi => ?_)
  show times w (stp (e i)) = stp (sN (31 - i) w)
  match i, hi with
  | 0, _ => rw [stp_e0, times_CC]; rfl
  | j + 1, hj =>
    rw [stp_e ⟨j, by omega⟩, times_e w j (by omega)]
    show _ = sN (31 - (j + 1) + 1) w
    congr 1; omega
theorem times_sN (w y : BitVec 32) (n : Nat) : times w (sN n y) = sN n (times w y) := by
  induction n with
  | zero => rfl
  | succ n ih => show times w (stp _) = stp _; rw [times_stp, ih]
/-- A power of a step, as a word. -/
def pw (n : Nat) : BitVec 32 := sN n (e 31)
theorem times_pw (w : BitVec 32) (n : Nat) : times w (pw n) = sN n w := by
  unfold pw
  rw [times_sN, times_e w 31 (by omega)]
  rfl
theorem pw_pw (n : Nat) : times (pw n) (pw n) = pw (n + n) := by
  rw [times_pw]; exact (sN_add n n _).symm
theorem pw_8 : pw 8 = 8388608#32 := by decide
end Go.Proofs.Ythbpfgcgfhlmnaa
