/-
  ShaHexes' last region: what holds when the operations of L have come up.
-/
import Derived.Test.YtdmeeghgbiffmaaDoorReg
namespace Go.Proofs.YtdmeeghgbiffmaaDoor
open Go Go.RowKit

structure InvS (a0 : Act) (w0 : World) (V : Nat → Value) (L : Array Bool) (a : Act) (w : World) : Prop where
  size : a.tmps.size = 76
  lsize : L.size = 9
  defers : a.defers = a0.defers
  fixed : ∀ k, ¬ (68 ≤ k ∧ k ≤ 75) → k ≠ 8 → gt a k = gt a0 k
  val : ∀ j, j < 8 → lg L j = true → gt a (68 + j) = V j
  last : lg L 8 = true → gt a 8 = V 8
  ch : Ch (fun _ => False) w0 w

section
variable {a0 : Act} {w0 : World} {V : Nat → Value} {L : Array Bool} {a : Act} {w : World}
theorem InvS.start (a0 : Act) (w0 : World) (V : Nat → Value) (h : a0.tmps.size = 76) : InvS a0 w0 V (Array.replicate 9 false) a0 w0 := by
  have z : ∀ j, lg (Array.replicate 9 false) j = true → False := fun j e => by
    unfold lg at e
    rw [Array.getElem?_replicate] at e
    split at e <;> simp at e
  exact ⟨h, by simp, rfl, fun _ _ _ => rfl, fun j _ e => (z _ e).elim, fun e => (z _ e).elim, Ch.refl _ _⟩
theorem InvS.put (h : InvS a0 w0 V L a w) (j : Nat) (hj : j < 8) {w' : World} (hw : Ch (fun _ => False) w w') : InvS a0 w0 V (L.setIfInBounds j true) (a.put (some (68 + j)) (V j)) w' := by
  obtain ⟨h1, h2, h3, h4, h5, h6, h7⟩ := h
  have g := fun k v => gt_put a (68 + j) k v (by omega)
  have l := fun k => lg_set L j k (by omega)
  refine ⟨by simpa [Act.put] using h1, by simpa using h2, h3, fun k e1 e2 => ?_, fun k hk e => ?_, fun e => ?_, h7.trans hw⟩
  · rw [g, if_neg (by omega)]; exact h4 k e1 e2
  · rw [g]
    by_cases hkj : k = j
    · subst hkj; rw [if_pos rfl]
    · rw [if_neg (by omega)]; rw [l, if_neg hkj] at e; exact h5 k hk e
  · rw [l, if_neg (by omega)] at e; rw [g, if_neg (by omega)]; exact h6 e
theorem InvS.put_last (h : InvS a0 w0 V L a w) : InvS a0 w0 V (L.setIfInBounds 8 true) (a.put (some 8) (V 8)) w := by
  obtain ⟨h1, h2, h3, h4, h5, h6, h7⟩ := h
  have g := fun k v => gt_put a 8 k v (by omega)
  have l := fun k => lg_set L 8 k (by omega)
  refine ⟨by simpa [Act.put] using h1, by simpa using h2, h3, fun k e1 e2 => ?_, fun k hk e => ?_, fun e => ?_, h7⟩
  · rw [g, if_neg e2]; exact h4 k e1 e2
  · rw [l, if_neg (by omega)] at e; rw [g, if_neg (by omega)]; exact h5 k hk e
  · rw [g, if_pos rfl]
theorem InvS.frame (h : InvS a0 w0 V L a w) (h0 : a0.tmps.size = 76) (hall : ∀ i, i < 9 → lg L i = true) :
    a = ⟨((((((((a0.tmps.setIfInBounds 68 (V 0)).setIfInBounds 69 (V 1)).setIfInBounds 70 (V 2)).setIfInBounds 71 (V 3)).setIfInBounds 72 (V 4)).setIfInBounds 73 (V 5)).setIfInBounds 74 (V 6)).setIfInBounds 75 (V 7)).setIfInBounds 8 (V 8), a0.defers⟩ := by
  obtain ⟨h1, h2, h3, h4, h5, h6, h7⟩ := h
  have q1 := h6 (hall 8 (by omega))
  obtain ⟨tm, df⟩ := a
  obtain ⟨t0, d0⟩ := a0
  simp only at h0 h1 h3
  subst h3
  have hv := fun j hj => h5 j hj (hall j (by omega))
  unfold gt at hv h4 q1
  simp only at hv h4 q1
  have key : tm = ((((((((t0.setIfInBounds 68 (V 0)).setIfInBounds 69 (V 1)).setIfInBounds 70 (V 2)).setIfInBounds 71 (V 3)).setIfInBounds 72 (V 4)).setIfInBounds 73 (V 5)).setIfInBounds 74 (V 6)).setIfInBounds 75 (V 7)).setIfInBounds 8 (V 8) := by
    refine eq_of_getD (by simp [h0, h1]) fun k => ?_
    rw [gd_set _ _ _ _ (by simp [h0]), gd_set _ _ _ _ (by simp [h0]), gd_set _ _ _ _ (by simp [h0]), gd_set _ _ _ _ (by simp [h0]), gd_set _ _ _ _ (by simp [h0]), gd_set _ _ _ _ (by simp [h0]), gd_set _ _ _ _ (by simp [h0]), gd_set _ _ _ _ (by simp [h0]), gd_set _ _ _ _ (by simp [h0])]
    by_cases e : 68 ≤ k ∧ k ≤ 75
    · obtain rfl | rfl | rfl | rfl | rfl | rfl | rfl | rfl : k = 68 ∨ k = 69 ∨ k = 70 ∨ k = 71 ∨ k = 72 ∨ k = 73 ∨ k = 74 ∨ k = 75 := by omega
      · exact hv 0 (by omega)
      · exact hv 1 (by omega)
      · exact hv 2 (by omega)
      · exact hv 3 (by omega)
      · exact hv 4 (by omega)
      · exact hv 5 (by omega)
      · exact hv 6 (by omega)
      · exact hv 7 (by omega)
    · by_cases e10 : k = 8
      · subst e10; exact q1
      · rw [if_neg e10, if_neg (by omega), if_neg (by omega), if_neg (by omega), if_neg (by omega), if_neg (by omega), if_neg (by omega), if_neg (by omega), if_neg (by omega)]
        exact h4 k e e10
  rw [key]
end
end Go.Proofs.YtdmeeghgbiffmaaDoor
