/- Digits, and what texts of amounts spell. -/
import Derived.Test.YtcceialiedaccaaDoorA8
namespace Go.Proofs.YtcceialiedaccaaDoor
open Go Go.Lib

/-- The number that signs spell behind another. -/
def dv (acc : Nat) (l : List UInt8) : Nat := l.foldl (fun a c => a * 10 + (c.toNat - 48)) acc
def digitsB (l : List UInt8) : Prop := ∀ c ∈ l, 48 ≤ c.toNat ∧ c.toNat ≤ 57
theorem dv_append (acc : Nat) (l m : List UInt8) : dv acc (l ++ m) = dv (dv acc l) m := by unfold dv; rw [List.foldl_append]
theorem dv_cons (acc : Nat) (c : UInt8) (l : List UInt8) : dv acc (c :: l) = dv (acc * 10 + (c.toNat - 48)) l := by unfold dv; rw [List.foldl_cons]
theorem lin_step (acc d P D : Nat) : (acc * 10 + d) * P + D = acc * (P * 10) + ((0 * 10 + d) * P + D) := by
  have e3 : acc * 10 * P = acc * (P * 10) := by rw [Nat.mul_assoc, Nat.mul_comm 10 P]
  have e4 : (acc * 10 + d) * P = acc * 10 * P + d * P := Nat.add_mul _ _ _
  have e5 : (0 * 10 + d) * P = d * P := by rw [Nat.zero_mul, Nat.zero_add]
  omega
theorem dv_lin : ∀ (l : List UInt8) (acc : Nat), dv acc l = acc * 10 ^ l.length + dv 0 l
  | [], acc => by simp [dv]
  | c :: l, acc => by
    have e1 := dv_lin l (acc * 10 + (c.toNat - 48))
    have e2 := dv_lin l (0 * 10 + (c.toNat - 48))
    rw [dv_cons, dv_cons, List.length_cons, Nat.pow_succ, e1, e2]
    exact lin_step _ _ _ _
theorem dv_ge (l : List UInt8) (acc : Nat) : acc ≤ dv acc l := by
  rw [dv_lin]
  have : 1 ≤ 10 ^ l.length := Nat.one_le_pow _ _ (by omega)
  have := Nat.mul_le_mul_left acc this
  omega
theorem one_digit (k : Nat) (h : k < 10) : (UInt8.ofNat (48 + k)).toNat = 48 + k := by
  rw [UInt8.toNat_ofNat']; omega
theorem dv_dec : ∀ u : Nat, dv 0 (decDigits u) = u ∧ digitsB (decDigits u) := by
  intro u
  induction u using Nat.strongRecOn with
  | _ u ih =>
    by_cases h : u < 10
    · rw [decDigits_one h]
      refine ⟨by show 0 * 10 + ((UInt8.ofNat (48 + u)).toNat - 48) = u; rw [one_digit u h]; omega, fun c hc => ?_⟩
      have : c = UInt8.ofNat (48 + u) := by simpa using hc
      rw [this, one_digit u h]; omega
    · rw [decDigits, dif_neg h]
      obtain ⟨h1, h2⟩ := ih (u / 10) (by omega)
      refine ⟨?_, fun c hc => ?_⟩
      · rw [dv_append, h1]
        show u / 10 * 10 + ((UInt8.ofNat (48 + u % 10)).toNat - 48) = u
        rw [one_digit _ (by omega)]; omega
      · rcases List.mem_append.1 hc with hc | hc
        · exact h2 c hc
        · have : c = UInt8.ofNat (48 + u % 10) := by simpa using hc
          rw [this, one_digit _ (by omega)]; omega
theorem nDigits_le : ∀ (k u : Nat), u < 10 ^ (k + 1) → nDigits u ≤ k + 1
  | 0, u, h => by rw [nDigits_small (by simpa using h)]; exact Nat.le_refl _
  | k + 1, u, h => by
    by_cases h1 : u < 10
    · rw [nDigits_small h1]; omega
    · rw [nDigits_big h1]
      have := nDigits_le k (u / 10) (by rw [Nat.pow_succ] at h; omega)
      omega
theorem itoa_nat (n : Nat) : itoa (n : Int) = decDigits n := by
  unfold itoa; rw [if_neg (by omega)]; simp
/-- The eight digits of units. -/
def eightL (u : Int) : List UInt8 := (itoa (100000000 + u)).drop 1
theorem eight_all (u : Int) (h0 : 0 ≤ u) (h1 : u < 100000000) : itoa (100000000 + u) = 49 :: eightL u ∧ (eightL u).length = 8 ∧ digitsB (eightL u) ∧ dv 0 (eightL u) = u.toNat := by
  obtain ⟨n, rfl⟩ := Int.eq_ofNat_of_zero_le h0
  have e : (100000000 + (n : Int)) = ((100000000 + n : Nat) : Int) := by omega
  have hl : (decDigits (100000000 + n)).length = 9 := by
    rw [decDigits_length]; exact nDigits_unique 8 _ (by omega) (by omega)
  obtain ⟨hv, hd⟩ := dv_dec (100000000 + n)
  unfold eightL
  rw [e, itoa_nat]
  cases hL : decDigits (100000000 + n) with
  | nil => rw [hL] at hl; cases hl
  | cons c l =>
    rw [hL] at hl hv hd
    have hl8 : l.length = 8 := by simpa using hl
    have hc := hd c (by simp)
    have hdl : digitsB l := fun d hd' => hd d (by simp [hd'])
    rw [dv_cons, dv_lin, hl8] at hv
    have hb : dv 0 l < 10 ^ 8 := by
      have key : ∀ m : List UInt8, digitsB m → dv 0 m < 10 ^ m.length := fun m => by
        induction m with
        | nil => intro _; simp [dv]
        | cons d m ih =>
          intro hm
          have h3 := ih (fun x hx => hm x (by simp [hx]))
          have h4 := hm d (by simp)
          rw [dv_cons, dv_lin, List.length_cons, Nat.pow_succ]
          have h5 : (0 * 10 + (d.toNat - 48)) ≤ 9 := by omega
          have := Nat.mul_le_mul_right (10 ^ m.length) h5
          omega
      have := key l hdl
      rwa [hl8] at this
    have h6 : c.toNat = 49 := by omega
    have h7 : c = 49 := UInt8.toNat_inj.1 h6
    subst h7
    refine ⟨rfl, hl8, hdl, ?_⟩
    show dv 0 l = _
    simp at hv ⊢
    omega
theorem dv_zero_all : ∀ l : List UInt8, (∀ c ∈ l, c = 48) → dv 0 l = 0
  | [], _ => rfl
  | c :: l, h => by
    rw [dv_cons, h c (by simp)]
    exact dv_zero_all l (fun d hd => h d (by simp [hd]))
/-- The digits of units without the noughts at the end: where they end. -/
theorem units_cut (u : Int) (h0 : 0 < u) (h1 : u < 100000000) : ∃ m, 1 ≤ m ∧ m ≤ 8 ∧ unitsL u = (eightL u).take m ∧ (∀ j b, m ≤ j → (eightL u)[j]? = some b → b = 48) ∧ (∀ b, (eightL u)[m - 1]? = some b → b ≠ 48) := by
  obtain ⟨he, hl, hd, hv⟩ := eight_all u (by omega) h1
  have hex : ∃ m, m ≤ 8 ∧ (∀ j b, m ≤ j → (eightL u)[j]? = some b → b = 48) ∧ (∀ b, 0 < m → (eightL u)[m - 1]? = some b → b ≠ 48) := by
    have key : ∀ k, k ≤ 8 → (∀ j b, k ≤ j → (eightL u)[j]? = some b → b = 48) → ∃ m, m ≤ 8 ∧ (∀ j b, m ≤ j → (eightL u)[j]? = some b → b = 48) ∧ (∀ b, 0 < m → (eightL u)[m - 1]? = some b → b ≠ 48) := fun k => by
      induction k with
      | zero => intro _ h; exact ⟨0, by omega, h, fun b hb => by omega⟩
      | succ k ih =>
        intro hk h
        by_cases e : (eightL u)[k]? = some 48
        · refine ih (by omega) fun j b hj hb => ?_
          by_cases ej : j = k
          · subst ej; rw [e] at hb; cases hb; rfl
          · exact h j b (by omega) hb
        · refine ⟨k + 1, hk, h, fun b _ hb => ?_⟩
          rw [Nat.add_sub_cancel] at hb
          intro e2; subst e2; exact e hb
    exact key 8 (Nat.le_refl _) fun j b hj hb => by rw [List.getElem?_eq_none (by omega)] at hb; cases hb
  obtain ⟨m, hm, ha, hb⟩ := hex
  have hm1 : 1 ≤ m := by
    rcases Nat.eq_zero_or_pos m with h | h
    · subst h
      have : dv 0 (eightL u) = 0 := dv_zero_all _ fun c hc => by
        obtain ⟨j, hj⟩ := List.mem_iff_getElem?.1 hc
        exact ha j c (by omega) hj
      omega
    · exact h
  exact ⟨m, hm1, hm, trimRightB_take (eightL u) 48 m (by omega) ha hb, ha, fun b => hb b hm1⟩
theorem take_pad (u : Int) (h0 : 0 < u) (h1 : u < 100000000) : (unitsL u ++ zeros8).take 8 = eightL u := by
  obtain ⟨m, hm1, hm, he, ha, hb⟩ := units_cut u h0 h1
  obtain ⟨_, hl, _, _⟩ := eight_all u (by omega) h1
  rw [he]
  apply List.ext_getElem?
  intro j
  have htl : ((eightL u).take m).length = m := by simp; omega
  by_cases hj : j < 8
  · rw [List.getElem?_take, if_pos hj]
    by_cases hjm : j < m
    · rw [List.getElem?_append_left (by omega), List.getElem?_take, if_pos hjm]
    · rw [List.getElem?_append_right (by omega), htl]
      have h8 : (eightL u)[j]? = some ((eightL u)[j]'(by omega)) := List.getElem?_eq_getElem (by omega)
      rw [h8, ha j _ (by omega) h8]
      have hz : ∀ i, i < 8 → zeros8[i]? = some 48 := by decide
      exact hz (j - m) (by omega)
  · rw [List.getElem?_eq_none (by simp; omega), List.getElem?_eq_none (by omega)]
end Go.Proofs.YtcceialiedaccaaDoor
