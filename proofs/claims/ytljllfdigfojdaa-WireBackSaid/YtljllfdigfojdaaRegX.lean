/- One operation of a drawn region that changes memory, or that hands nothing to a slot. -/
import Derived.Test.YtljllfdigfojdaaRegT
import Derived.Test.YtljllfdigfojdaaV17
namespace Go.Proofs.Ytljllfdigfojdaa
open Go Go.RowKit
section
variable {S : Nat} {l : List (Nat × Said)} {I : Array Bool → World → Prop} {a0 : Act} {L : Array Bool} {a : Act} {w : World}
theorem InvQ.putX (h : InvQ S l I a0 L a w) (j : Nat) {d : Nat} {R : Said} {v : Value} (hj : l[j]? = some (d, R)) (hd : d < S) (hn : (l.map (·.1)).Nodup) {w' : World} (hl : ∀ (k : Nat) p, l[k]? = some p → k ≠ j → lg L k = true → p.2 (gt a p.1) w → p.2 (gt a p.1) w') (hR : R v w') (hw : I (L.setIfInBounds j true) w') : InvQ S l I a0 (L.setIfInBounds j true) (a.put (some d) v) w' := by
  obtain ⟨h1, h2, h3, h4, h5, h6⟩ := h
  have hjl : j < l.length := (List.getElem?_eq_some_iff.1 hj).1
  have g := fun k v => gt_put a d k v (by omega)
  have lL := fun k => lg_set L j k (by omega)
  refine ⟨by simpa [Act.put] using h1, by simpa using h2, h3, fun k e1 => ?_, fun k p hp e => ?_, hw⟩
  · have hk : k ≠ d := fun e => e1 (by subst e; exact List.mem_map.2 ⟨_, List.mem_of_getElem? hj, rfl⟩)
    rw [g, if_neg hk]; exact h4 k e1
  · rw [g]
    by_cases hkj : k = j
    · subst hkj; rw [hj] at hp; cases hp; rw [if_pos rfl]; exact hR
    · have hne : p.1 ≠ d := fun e' => by
        have hk : k < l.length := (List.getElem?_eq_some_iff.1 hp).1
        have h1 : (l.map (·.1))[k]? = some p.1 := by rw [List.getElem?_map, hp]; rfl
        have h2 : (l.map (·.1))[j]? = some d := by rw [List.getElem?_map, hj]; rfl
        rw [e'] at h1
        exact hkj ((List.getElem?_inj (by simpa using hk) hn).1 (h1.trans h2.symm))
      rw [if_neg hne]; rw [lL, if_neg hkj] at e
      exact hl k p hp hkj e (h5 k p hp e)
theorem InvQ.skipX (h : InvQ S l I a0 L a w) (j : Nat) (hj : l.length ≤ j) (hs : j < L.size) {w' : World} (hl : ∀ (k : Nat) p, l[k]? = some p → lg L k = true → p.2 (gt a p.1) w → p.2 (gt a p.1) w') (hw : I (L.setIfInBounds j true) w') : InvQ S l I a0 (L.setIfInBounds j true) a w' := by
  obtain ⟨h1, h2, h3, h4, h5, h6⟩ := h
  have lL := fun k => lg_set L j k hs
  refine ⟨h1, by simpa using h2, h3, h4, fun k p hp e => ?_, hw⟩
  have hk : k < l.length := (List.getElem?_eq_some_iff.1 hp).1
  rw [lL, if_neg (by omega)] at e
  exact hl k p hp e (h5 k p hp e)
end
end Go.Proofs.Ytljllfdigfojdaa
