/- A region that comes up in whatever order: M operations hand values to slots one behind the other, the others store; what holds of the world when the operations of L have come up is the caller's. -/
import Derived.Test.YtdmeeghgbiffmaaDoorReg
namespace Go.Proofs.YtdmeeghgbiffmaaDoor
open Go Go.RowKit

structure InvG (N base M S : Nat) (I : Array Bool → World → Prop) (a0 : Act) (V : Nat → Value) (L : Array Bool) (a : Act) (w : World) : Prop where
  size : a.tmps.size = S
  lsize : L.size = N
  defers : a.defers = a0.defers
  fixed : ∀ k, ¬ (base ≤ k ∧ k < base + M) → gt a k = gt a0 k
  val : ∀ j, j < M → lg L j = true → gt a (base + j) = V j
  wld : I L w

section
variable {N base M S : Nat} {I : Array Bool → World → Prop} {a0 : Act} {V : Nat → Value} {L : Array Bool} {a : Act} {w : World}
theorem lg_none (n j : Nat) (e : lg (Array.replicate n false) j = true) : False := by
  unfold lg at e
  rw [Array.getElem?_replicate] at e
  split at e <;> simp at e
theorem InvG.start (h : a0.tmps.size = S) (hw : I (Array.replicate N false) w) : InvG N base M S I a0 V (Array.replicate N false) a0 w :=
  ⟨h, by simp, rfl, fun _ _ => rfl, fun j _ e => (lg_none _ _ e).elim, hw⟩
theorem InvG.put (h : InvG N base M S I a0 V L a w) (j : Nat) (hj : j < M) (hM : M ≤ N) (hS : base + M ≤ S) {w' : World} (hw : I (L.setIfInBounds j true) w') : InvG N base M S I a0 V (L.setIfInBounds j true) (a.put (some (base + j)) (V j)) w' := by
  obtain ⟨h1, h2, h3, h4, h5, h6⟩ := h
  have g := fun k v => gt_put a (base + j) k v (by omega)
  have l := fun k => lg_set L j k (by omega)
  refine ⟨by simpa [Act.put] using h1, by simpa using h2, h3, fun k e1 => ?_, fun k hk e => ?_, hw⟩
  · rw [g, if_neg (by omega)]; exact h4 k e1
  · rw [g]
    by_cases hkj : k = j
    · subst hkj; rw [if_pos rfl]
    · rw [if_neg (by omega)]; rw [l, if_neg hkj] at e; exact h5 k hk e
theorem InvG.skip (h : InvG N base M S I a0 V L a w) (j : Nat) (hj : M ≤ j) (hN : j < N) {w' : World} (hw : I (L.setIfInBounds j true) w') : InvG N base M S I a0 V (L.setIfInBounds j true) a w' := by
  obtain ⟨h1, h2, h3, h4, h5, h6⟩ := h
  have l := fun k => lg_set L j k (by omega)
  refine ⟨h1, by simpa using h2, h3, h4, fun k hk e => ?_, hw⟩
  rw [l, if_neg (by omega)] at e; exact h5 k hk e
/-- The slots when all have come up. -/
def sets (t : Array Value) (base : Nat) (V : Nat → Value) : Nat → Array Value
  | 0 => t
  | m + 1 => (sets t base V m).setIfInBounds (base + m) (V m)
theorem sets_size (t : Array Value) (base : Nat) (V : Nat → Value) (m : Nat) : (sets t base V m).size = t.size := by
  induction m with
  | zero => rfl
  | succ m ih => simp [sets, ih]
theorem sets_get (t : Array Value) (base : Nat) (V : Nat → Value) (m : Nat) (hm : base + m ≤ t.size) (k : Nat) : (sets t base V m)[k]?.getD undef = if base ≤ k ∧ k < base + m then V (k - base) else t[k]?.getD undef := by
  induction m with
  | zero => rw [if_neg (by omega)]; rfl
  | succ m ih =>
    show ((sets t base V m).setIfInBounds (base + m) (V m))[k]?.getD undef = _
    rw [gd_set _ _ _ _ (by rw [sets_size]; omega), ih (by omega)]
    by_cases e : k = base + m
    · subst e; rw [if_pos rfl, if_pos (by omega)]; congr 1; omega
    · rw [if_neg e]
      by_cases e2 : base ≤ k ∧ k < base + m
      · rw [if_pos e2, if_pos (by omega)]
      · rw [if_neg e2, if_neg (by omega)]
theorem InvG.frame (h : InvG N base M S I a0 V L a w) (h0 : a0.tmps.size = S) (hS : base + M ≤ S) (hall : ∀ i, i < M → lg L i = true) : a = ⟨sets a0.tmps base V M, a0.defers⟩ := by
  obtain ⟨h1, h2, h3, h4, h5, h6⟩ := h
  obtain ⟨tm, df⟩ := a
  obtain ⟨t0, d0⟩ := a0
  simp only at h0 h1 h3
  subst h3
  have hv := fun j hj => h5 j hj (hall j hj)
  unfold gt at hv h4
  simp only at hv h4
  have key : tm = sets t0 base V M := by
    refine eq_of_getD (by rw [sets_size]; omega) fun k => ?_
    rw [sets_get _ _ _ _ (by omega)]
    by_cases e : base ≤ k ∧ k < base + M
    · rw [if_pos e]
      have := hv (k - base) (by omega)
      rw [show base + (k - base) = k by omega] at this
      exact this
    · rw [if_neg e]; exact h4 k e
  rw [key]
end
end Go.Proofs.YtdmeeghgbiffmaaDoor
