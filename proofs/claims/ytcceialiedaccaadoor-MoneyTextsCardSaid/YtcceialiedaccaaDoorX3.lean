/- The text of an amount, sign by sign. -/
import Derived.Test.YtcceialiedaccaaDoorX2
namespace Go.Proofs.YtcceialiedaccaaDoor
open Go Go.Lib

/-- Signs that spell a number one behind the other, one point among them: what was spelled ahead of each place, where the point is, and how many noughts are wanted behind. -/
structure Spelled (L : List UInt8) (a : Nat) (N : Nat → Nat) (T : Nat → Int) (M : Nat) : Prop where
  n0 : N 0 = 0
  t0 : T 0 = -1
  step : ∀ k c, L[k]? = some c → (c = 46 ∧ T k < 0 ∧ N (k + 1) = N k ∧ T (k + 1) = (k : Int)) ∨ (48 ≤ c.toNat ∧ c.toNat ≤ 57 ∧ N (k + 1) = N k * 10 + (c.toNat - 48) ∧ T (k + 1) = T k)
  bound : ∀ k, N k ≤ a
  tb : ∀ k, -1 ≤ T k ∧ T k ≤ 60
  fin : N L.length * 10 ^ M = a
  more : M ≤ 8 ∧ ((T L.length < 0 ∧ M = 8) ∨ (0 ≤ T L.length ∧ 8 - ((L.length : Int) - T L.length - 1) = (M : Int)))
theorem dv_take (l : List UInt8) (k : Nat) (c : UInt8) (h : l[k]? = some c) : dv 0 (l.take (k + 1)) = dv 0 (l.take k) * 10 + (c.toNat - 48) := by
  rw [List.take_add_one, h, dv_append]
  show dv (dv 0 (l.take k)) [c] = _
  rw [dv_cons]
  rfl
theorem dv_take_le (l : List UInt8) (k : Nat) : dv 0 (l.take k) ≤ dv 0 l := by
  have := dv_ge (l.drop k) (dv 0 (l.take k))
  rwa [← dv_append, List.take_append_drop] at this
theorem dv_pad (l : List UInt8) (M : Nat) : dv 0 (l ++ List.replicate M 48) = dv 0 l * 10 ^ M := by
  rw [dv_append, dv_lin, List.length_replicate, dv_zero_all (List.replicate M 48) (fun c hc => (List.mem_replicate.1 hc).2)]
  omega
theorem text_spelled (a : Int) (h : rightB a = true) : ∃ N T M, Spelled (textL a) a.toNat N T M := by
  obtain ⟨h0, h1⟩ := right_true h
  obtain ⟨hv, hd, hne, hl⟩ := itoa_all (a / 100000000) (by omega) (by omega)
  obtain ⟨_, _, hja⟩ := join_text a h0 h1
  by_cases hu : a % 100000000 = 0
  · have e : textL a = itoa (a / 100000000) := by unfold textL; rw [if_pos hu]
    rw [e]
    generalize itoa (a / 100000000) = C at *
    have hf : dv 0 C * 10 ^ 8 = a.toNat := by rw [hv]; omega
    have hle : dv 0 C ≤ a.toNat := by omega
    refine ⟨fun k => dv 0 (C.take k), fun _ => -1, 8, by simp [dv], rfl, fun k c hc => .inr ?_, fun k => Nat.le_trans (dv_take_le C k) hle, fun _ => by omega, by rw [List.take_length]; exact hf, Nat.le_refl _, .inl ⟨by decide, rfl⟩⟩
    have hcd := hd c (List.mem_of_getElem? hc)
    exact ⟨hcd.1, hcd.2, dv_take C k c hc, rfl⟩
  · obtain ⟨he, hl8, hd8, hv8⟩ := eight_all (a % 100000000) (by omega) (by omega)
    obtain ⟨m, hm1, hm8, hcut, hall, _⟩ := units_cut (a % 100000000) (by omega) (by omega)
    have e : textL a = itoa (a / 100000000) ++ 46 :: unitsL (a % 100000000) := by unfold textL; rw [if_neg hu]
    have hE : eightL (a % 100000000) = unitsL (a % 100000000) ++ List.replicate (8 - m) 48 := by
      rw [hcut]
      apply List.ext_getElem?
      intro j
      by_cases hj : j < m
      · rw [List.getElem?_append_left (by rw [List.length_take]; omega), List.getElem?_take, if_pos hj]
      · rw [List.getElem?_append_right (by rw [List.length_take]; omega), List.length_take, List.getElem?_replicate]
        by_cases hj8 : j < 8
        · have h8 : (eightL (a % 100000000))[j]? = some ((eightL (a % 100000000))[j]'(by omega)) := List.getElem?_eq_getElem (by omega)
          rw [if_pos (by omega), h8, hall j _ (by omega) h8]
        · rw [if_neg (by omega), List.getElem?_eq_none (by omega)]
    have hul : (unitsL (a % 100000000)).length = m := by rw [hcut, List.length_take]; omega
    have hud : digitsB (unitsL (a % 100000000)) := fun c hc => hd8 c (by rw [hE]; exact List.mem_append_left _ hc)
    rw [e]
    have hf : dv 0 (itoa (a / 100000000) ++ unitsL (a % 100000000)) * 10 ^ (8 - m) = a.toNat := by
      rw [← dv_pad, List.append_assoc, ← hE, dv_append, hv, dv_lin, hl8, hv8]
      omega
    generalize itoa (a / 100000000) = C at *
    generalize unitsL (a % 100000000) = U at *
    have hle : dv 0 (C ++ U) ≤ a.toNat := by
      rw [← hf]
      exact Nat.le_mul_of_pos_right _ (Nat.pow_pos (by omega))
    have hlen : (C ++ 46 :: U).length = C.length + 1 + m := by simp [hul]; omega
    refine ⟨fun k => dv 0 ((C ++ U).take (if k ≤ C.length then k else k - 1)), fun k => if k ≤ C.length then -1 else (C.length : Int), 8 - m, by simp [dv], by simp, fun k c hc => ?_, fun k => Nat.le_trans (dv_take_le _ _) hle, fun k => by split <;> omega, ?_, by omega, .inr ?_⟩
    · rcases Nat.lt_trichotomy k C.length with hk | hk | hk
      · rw [List.getElem?_append_left hk] at hc
        have hcd := hd c (List.mem_of_getElem? hc)
        refine .inr ⟨hcd.1, hcd.2, ?_, ?_⟩
        · show dv 0 ((C ++ U).take (if k + 1 ≤ C.length then k + 1 else k + 1 - 1)) = dv 0 ((C ++ U).take (if k ≤ C.length then k else k - 1)) * 10 + _
          rw [if_pos (by omega), if_pos (by omega)]
          exact dv_take _ k c (by rw [List.getElem?_append_left hk]; exact hc)
        · show (if k + 1 ≤ C.length then (-1 : Int) else _) = if k ≤ C.length then (-1 : Int) else _
          rw [if_pos (by omega), if_pos (by omega)]
      · subst hk
        rw [List.getElem?_append_right (Nat.le_refl _), Nat.sub_self] at hc
        refine .inl ⟨by simpa using hc.symm, ?_, ?_, ?_⟩
        · show (if C.length ≤ C.length then (-1 : Int) else _) < 0
          rw [if_pos (Nat.le_refl _)]; decide
        · show dv 0 ((C ++ U).take (if C.length + 1 ≤ C.length then C.length + 1 else C.length + 1 - 1)) = dv 0 ((C ++ U).take (if C.length ≤ C.length then C.length else C.length - 1))
          rw [if_neg (by omega), if_pos (Nat.le_refl _), Nat.add_sub_cancel]
        · show (if C.length + 1 ≤ C.length then (-1 : Int) else _) = _
          rw [if_neg (by omega)]
      · rw [List.getElem?_append_right (by omega)] at hc
        obtain ⟨d, hd2⟩ : ∃ d, k = C.length + 1 + d := ⟨k - C.length - 1, by omega⟩
        subst hd2
        rw [show C.length + 1 + d - C.length = d + 1 by omega, List.getElem?_cons_succ] at hc
        have hcd := hud c (List.mem_of_getElem? hc)
        refine .inr ⟨hcd.1, hcd.2, ?_, ?_⟩
        · show dv 0 ((C ++ U).take (if C.length + 1 + d + 1 ≤ C.length then _ else C.length + 1 + d + 1 - 1)) = dv 0 ((C ++ U).take (if C.length + 1 + d ≤ C.length then _ else C.length + 1 + d - 1)) * 10 + _
          rw [if_neg (by omega), if_neg (by omega), show C.length + 1 + d + 1 - 1 = C.length + d + 1 by omega, show C.length + 1 + d - 1 = C.length + d by omega]
          exact dv_take _ _ c (by rw [List.getElem?_append_right (by omega), show C.length + d - C.length = d by omega]; exact hc)
        · show (if C.length + 1 + d + 1 ≤ C.length then (-1 : Int) else _) = if C.length + 1 + d ≤ C.length then (-1 : Int) else _
          rw [if_neg (by omega), if_neg (by omega)]
    · show dv 0 ((C ++ U).take (if (C ++ 46 :: U).length ≤ C.length then _ else (C ++ 46 :: U).length - 1)) * _ = _
      rw [if_neg (by omega), hlen, show C.length + 1 + m - 1 = (C ++ U).length by rw [List.length_append, hul]; omega, List.take_length]
      exact hf
    · show 0 ≤ (if (C ++ 46 :: U).length ≤ C.length then (-1 : Int) else _) ∧ 8 - (((C ++ 46 :: U).length : Int) - (if (C ++ 46 :: U).length ≤ C.length then (-1 : Int) else _) - 1) = _
      rw [if_neg (by omega), hlen]
      omega
end Go.Proofs.YtcceialiedaccaaDoor
