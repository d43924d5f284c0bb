/- The text of an amount is parsed to it. -/
import Derived.Test.YtcceialiedaccaaDoorX1
namespace Go.Proofs.YtcceialiedaccaaDoor
open Go Go.Lib

theorem uintM_ok : ∀ (l : List UInt8) (acc : Nat), digitsB l → dv acc l ≤ 1125899906842624 → parseUintM (2 ^ 64 - 1) acc l = .ok (dv acc l)
  | [], acc, _, _ => rfl
  | c :: l, acc, hd, hv => by
    have hc := hd c (by simp)
    rw [dv_cons] at hv ⊢
    have hge := dv_ge l (acc * 10 + (c.toNat - 48))
    have ih := uintM_ok l (acc * 10 + (c.toNat - 48)) (fun x hx => hd x (by simp [hx])) hv
    unfold parseUintM
    rw [if_pos hc, if_neg (by omega), if_neg (by omega), ih]
theorem int_ok (l : List UInt8) (hne : l ≠ []) (hd : digitsB l) (hv : dv 0 l ≤ 1125899906842624) : parseIntB 64 l = .ok (dv 0 l : Int) := by
  cases l with
  | nil => exact absurd rfl hne
  | cons c r =>
    have hc := hd c (by simp)
    have hu : parseUintB 64 (c :: r) = .ok (dv 0 (c :: r)) := by
      unfold parseUintB
      rw [if_neg (by simp)]
      exact uintM_ok _ 0 hd hv
    unfold parseIntB
    simp only
    rw [if_neg (by omega), hu]
    simp only
    rw [if_neg (by omega), if_neg (by omega), if_neg (by omega)]
theorem index_digits (l : List UInt8) (h : digitsB l) : indexByte l 46 = -1 := by
  induction l with
  | nil => rfl
  | cons c l ih =>
    have hc := h c (by simp)
    have hn : (c == 46) = false := by
      rw [beq_eq_false_iff_ne]; intro e; subst e; simp at hc
    unfold indexByte
    rw [hn, ih (fun x hx => h x (by simp [hx]))]
    rfl
theorem index_point (l m : List UInt8) (h : digitsB l) : indexByte (l ++ 46 :: m) 46 = (l.length : Int) := by
  induction l with
  | nil => rfl
  | cons c l ih =>
    have hc := h c (by simp)
    have hn : (c == 46) = false := by
      rw [beq_eq_false_iff_ne]; intro e; subst e; simp at hc
    rw [List.cons_append]
    unfold indexByte
    rw [hn, ih (fun x hx => h x (by simp [hx]))]
    have hne : ((l.length : Int) == -1) = false := by rw [beq_eq_false_iff_ne]; omega
    rw [hne, List.length_cons]
    simp
theorem itoa_all (c : Int) (h0 : 0 ≤ c) (h1 : c ≤ 11258999) : dv 0 (itoa c) = c.toNat ∧ digitsB (itoa c) ∧ itoa c ≠ [] ∧ (itoa c).length ≤ 8 := by
  obtain ⟨n, rfl⟩ := Int.eq_ofNat_of_zero_le h0
  rw [itoa_nat]
  obtain ⟨hv, hd⟩ := dv_dec n
  have hl := decDigits_length n
  have hp := nDigits_pos n
  have hle := nDigits_le 7 n (by omega)
  refine ⟨by simpa using hv, hd, fun h => by rw [h] at hl; simp at hl; omega, by omega⟩
theorem drop_point (l m : List UInt8) (c : UInt8) : (l ++ c :: m).drop (l.length + 1) = m := by
  induction l with
  | nil => rfl
  | cons x l ih => simp
/-- What the sign that is parsed spells. -/
theorem join_text (a : Int) (h0 : 0 ≤ a) (h1 : a ≤ 1125899906842624) : joinL (textL a) ≠ [] ∧ digitsB (joinL (textL a)) ∧ dv 0 (joinL (textL a)) = a.toNat := by
  obtain ⟨hv, hd, hne, hl⟩ := itoa_all (a / 100000000) (by omega) (by omega)
  unfold joinL
  by_cases hu : a % 100000000 = 0
  · have e : textL a = itoa (a / 100000000) := by unfold textL; rw [if_pos hu]
    have e1 : coinsL (textL a) = itoa (a / 100000000) := by unfold coinsL; rw [e, index_digits _ hd, if_pos (by omega)]
    have e2 : unitsOf (textL a) = [] := by unfold unitsOf; rw [e, index_digits _ hd, if_pos (by omega)]
    rw [e1, e2, List.nil_append]
    refine ⟨by simp [hne], fun c hc => ?_, ?_⟩
    · rcases List.mem_append.1 hc with hc | hc
      · exact hd c hc
      · have : ∀ c ∈ zeros8.take 8, 48 ≤ c.toNat ∧ c.toNat ≤ 57 := by decide
        exact this c hc
    · rw [dv_append, hv, dv_lin]
      have z0 : dv 0 (zeros8.take 8) = 0 := by decide
      have z1 : (zeros8.take 8).length = 8 := by decide
      rw [z0, z1]
      omega
  · obtain ⟨he, hl8, hd8, hv8⟩ := eight_all (a % 100000000) (by omega) (by omega)
    have e : textL a = itoa (a / 100000000) ++ 46 :: unitsL (a % 100000000) := by unfold textL; rw [if_neg hu]
    have e1 : coinsL (textL a) = itoa (a / 100000000) := by
      unfold coinsL; rw [e, index_point _ _ hd, if_neg (by omega)]
      rw [Int.toNat_natCast, List.take_left]
    have e2 : unitsOf (textL a) = unitsL (a % 100000000) := by
      unfold unitsOf; rw [e, index_point _ _ hd, if_neg (by omega)]
      rw [Int.toNat_natCast, drop_point]
    rw [e1, e2, take_pad _ (by omega) (by omega)]
    refine ⟨by simp [hne], fun c hc => ?_, ?_⟩
    · rcases List.mem_append.1 hc with hc | hc
      · exact hd c hc
      · exact hd8 c hc
    · rw [dv_append, hv, dv_lin, hl8, hv8]
      omega
theorem text_parsed (a : Int) (h : rightB a = true) : parseIntB 64 (joinL (textL a)) = .ok a := by
  obtain ⟨h0, h1⟩ := right_true h
  obtain ⟨hne, hd, hv⟩ := join_text a h0 h1
  rw [int_ok _ hne hd (by omega), hv]
  congr 1
  omega
theorem isText_iff (v : Int) (l : List UInt8) : isText v l = true ↔ rightB v = true ∧ textL v = l := by
  unfold isText; rw [Bool.and_eq_true, beq_iff_eq]
/-- Whose text it is, that is parsed. -/
theorem par_of (v : Int) (l : List UInt8) (h : isText v l = true) : parE l = 0 ∧ parV l = v := by
  obtain ⟨hr, rfl⟩ := (isText_iff v l).1 h
  unfold parE parV
  rw [text_parsed v hr]
  simp only [h, if_true]
  exact ⟨trivial, trivial⟩
theorem par_none (l : List UInt8) (h : ∀ v, isText v l = false) : parE l = 152 ∧ parV l = 0 := by
  unfold parE parV
  split
  · rename_i v _
    simp [h v]
  · exact ⟨rfl, rfl⟩
theorem par_is (l : List UInt8) (h : parE l = 0) : isText (parV l) l = true := by
  cases hx : isText (parV l) l with
  | true => rfl
  | false =>
    exfalso
    unfold parE at h
    unfold parV at hx
    split at h
    · rename_i v hv
      rw [hv] at hx
      by_cases ht : isText v l = true
      · simp [ht] at hx
      · simp [ht] at h
    · cases h
theorem text_len (a : Int) (h : rightB a = true) : (textL a).length ≤ 17 := by
  obtain ⟨h0, h1⟩ := right_true h
  obtain ⟨_, _, _, hl⟩ := itoa_all (a / 100000000) (by omega) (by omega)
  unfold textL
  split
  · omega
  · rename_i hu
    obtain ⟨m, _, hm, he, _, _⟩ := units_cut (a % 100000000) (by omega) (by omega)
    rw [List.length_append, List.length_cons, he, List.length_take]
    omega
end Go.Proofs.YtcceialiedaccaaDoor
