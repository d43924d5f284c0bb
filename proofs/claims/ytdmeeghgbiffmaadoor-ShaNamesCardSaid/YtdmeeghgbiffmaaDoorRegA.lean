/- A region that comes up in whatever order: what holds of slots and world when the operations of L have come up is the caller's. -/
import Derived.Test.YtdmeeghgbiffmaaDoorRegP
namespace Go.Proofs.YtdmeeghgbiffmaaDoor
open Go Go.RowKit

def up {α : Type} (f : Nat → α) (k : Nat) (v : α) : Nat → α := fun j => if j = k then v else f j
structure InvA (S N : Nat) (ds : List Nat) (I : (Nat → Bool) → (Nat → Value) → World → Prop) (a0 : Act) (L : Array Bool) (a : Act) (w : World) : Prop where
  size : a.tmps.size = S
  lsize : L.size = N
  defers : a.defers = a0.defers
  fixed : ∀ k, k ∉ ds → gt a k = gt a0 k
  wld : I (lg L) (gt a) w

section
variable {S N : Nat} {ds : List Nat} {I : (Nat → Bool) → (Nat → Value) → World → Prop} {a0 : Act} {L : Array Bool} {a : Act} {w : World}
theorem lg_replicate (n : Nat) : lg (Array.replicate n false) = fun _ => false := by
  funext j
  cases h : lg (Array.replicate n false) j with
  | false => rfl
  | true => exact (lg_none' _ _ h).elim
theorem InvA.start (h : a0.tmps.size = S) (hw : I (fun _ => false) (gt a0) w) : InvA S N ds I a0 (Array.replicate N false) a0 w :=
  ⟨h, by simp, rfl, fun _ _ => rfl, by rw [lg_replicate]; exact hw⟩
theorem InvA.put (h : InvA S N ds I a0 L a w) (j : Nat) (hj : j < N) (d : Nat) (hd : d < S) (hm : d ∈ ds) (v : Value) {w' : World} (hw : I (up (lg L) j true) (up (gt a) d v) w') : InvA S N ds I a0 (L.setIfInBounds j true) (a.put (some d) v) w' := by
  obtain ⟨h1, h2, h3, h4, h5⟩ := h
  have g : gt (a.put (some d) v) = up (gt a) d v := funext fun k => gt_put a d k v (by omega)
  have lL : lg (L.setIfInBounds j true) = up (lg L) j true := funext fun k => lg_set L j k (by omega)
  refine ⟨by simpa [Act.put] using h1, by simpa using h2, h3, fun k e1 => ?_, by rw [g, lL]; exact hw⟩
  have hk : k ≠ d := fun e => e1 (e ▸ hm)
  rw [g]; show (if k = d then v else gt a k) = _; rw [if_neg hk]; exact h4 k e1
theorem InvA.skip (h : InvA S N ds I a0 L a w) (j : Nat) (hj : j < N) {w' : World} (hw : I (up (lg L) j true) (gt a) w') : InvA S N ds I a0 (L.setIfInBounds j true) a w' := by
  obtain ⟨h1, h2, h3, h4, h5⟩ := h
  have lL : lg (L.setIfInBounds j true) = up (lg L) j true := funext fun k => lg_set L j k (by omega)
  exact ⟨h1, by simpa using h2, h3, h4, by rw [lL]; exact hw⟩
theorem InvA.frame (h : InvA S N ds I a0 L a w) (h0 : a0.tmps.size = S) (hl : ∀ p ∈ ds, p < S) : a = ⟨ds.foldl (fun t p => t.setIfInBounds p (gt a p)) a0.tmps, a0.defers⟩ := by
  obtain ⟨h1, h2, h3, h4, h5⟩ := h
  have key : a.tmps = ds.foldl (fun t p => t.setIfInBounds p (gt a p)) a0.tmps := by
    apply Array.ext_getElem?
    intro k
    have hg : ∀ (t : Array Value) (k : Nat), k < t.size → t[k]? = some (t[k]?.getD undef) := fun t k hk => by rw [Array.getElem?_eq_getElem hk]; rfl
    by_cases hk : k < S
    · refine Eq.trans (hg a.tmps k (by omega)) (Eq.trans (congrArg some (?_ : a.tmps[k]?.getD undef = (ds.foldl (fun t p => t.setIfInBounds p (gt a p)) a0.tmps)[k]?.getD undef)) (hg _ k (by rw [fold_gt_size]; omega)).symm)
      rw [fold_gt (gt a) k ds a0.tmps (fun p hp => by rw [h0]; exact hl p hp)]
      by_cases e : k ∈ ds
      · rw [if_pos e]; rfl
      · rw [if_neg e]; exact h4 k e
    · rw [Array.getElem?_eq_none (by omega), Array.getElem?_eq_none (by rw [fold_gt_size]; omega)]
  obtain ⟨tm, df⟩ := a
  simp only at h3 key
  subst h3
  exact congrArg (fun t => Act.mk t _) key
end
end Go.Proofs.YtdmeeghgbiffmaaDoor
