/- As InvQ, each operation named by its place. -/
import Derived.Test.YtljllfdigfojdaaRegT
namespace Go.Proofs.Ytljllfdigfojdaa
open Go Go.RowKit

/-- As InvQ, each operation named by its place; operations that hand nothing to a slot among them. What is said lasts while only blocks of T change. -/
structure InvS (S N : Nat) (T : Nat → Prop) (l : List (Nat × Nat × Said)) (I : Array Bool → World → Prop) (a0 : Act) (L : Array Bool) (a : Act) (w : World) : Prop where
  size : a.tmps.size = S
  lsize : L.size = N
  defers : a.defers = a0.defers
  fixed : ∀ k, k ∉ l.map (·.2.1) → gt a k = gt a0 k
  val : ∀ (j : Nat) q, l[j]? = some q → lg L q.1 = true → q.2.2 (gt a q.2.1) w
  wld : I L w
def LastsS (T : Nat → Prop) (l : List (Nat × Nat × Said)) : Prop := ∀ q ∈ l, ∀ v w w', Ch T w w' → q.2.2 v w → q.2.2 v w'
section
variable {S N : Nat} {T : Nat → Prop} {l : List (Nat × Nat × Said)} {I : Array Bool → World → Prop} {a0 : Act} {L : Array Bool} {a : Act} {w : World}
theorem InvS.start (h : a0.tmps.size = S) (hw : I (Array.replicate N false) w) : InvS S N T l I a0 (Array.replicate N false) a0 w :=
  ⟨h, by simp, rfl, fun _ _ => rfl, fun j _ _ e => (lg_none' _ _ e).elim, hw⟩
theorem InvS.put (h : InvS S N T l I a0 L a w) (j : Nat) {i d : Nat} {R : Said} {v : Value} (hj : l[j]? = some (i, d, R)) (hd : d < S) (hi : i < N) (hn : (l.map (·.2.1)).Nodup) (hn1 : (l.map (·.1)).Nodup) (hl : LastsS T l) {w' : World} (hc : Ch T w w') (hR : R v w') (hw : I (L.setIfInBounds i true) w') : InvS S N T l I a0 (L.setIfInBounds i true) (a.put (some d) v) w' := by
  obtain ⟨h1, h2, h3, h4, h5, h6⟩ := h
  have hjl : j < l.length := (List.getElem?_eq_some_iff.1 hj).1
  have g := fun k v => gt_put a d k v (by omega)
  have lL := fun k => lg_set L i k (by omega)
  refine ⟨by simpa [Act.put] using h1, by simpa using h2, h3, fun k e1 => ?_, fun k q hq e => ?_, hw⟩
  · have hk : k ≠ d := fun e => e1 (by subst e; exact List.mem_map.2 ⟨_, List.mem_of_getElem? hj, rfl⟩)
    rw [g, if_neg hk]; exact h4 k e1
  · rw [g]
    by_cases hkj : k = j
    · subst hkj; rw [hj] at hq; cases hq; rw [if_pos rfl]; exact hR
    · have hk : k < l.length := (List.getElem?_eq_some_iff.1 hq).1
      have hne : q.2.1 ≠ d := fun e' => by
        have h1 : (l.map (·.2.1))[k]? = some q.2.1 := by rw [List.getElem?_map, hq]; rfl
        have h2 : (l.map (·.2.1))[j]? = some d := by rw [List.getElem?_map, hj]; rfl
        rw [e'] at h1
        exact hkj ((List.getElem?_inj (by simpa using hk) hn).1 (h1.trans h2.symm))
      have hni : q.1 ≠ i := fun e' => by
        have h1 : (l.map (·.1))[k]? = some q.1 := by rw [List.getElem?_map, hq]; rfl
        have h2 : (l.map (·.1))[j]? = some i := by rw [List.getElem?_map, hj]; rfl
        rw [e'] at h1
        exact hkj ((List.getElem?_inj (by simpa using hk) hn1).1 (h1.trans h2.symm))
      rw [if_neg hne]; rw [lL, if_neg hni] at e
      exact hl q (List.mem_of_getElem? hq) _ _ _ hc (h5 k q hq e)
theorem InvS.skip (h : InvS S N T l I a0 L a w) (i : Nat) (hi : i < N) (hni : ∀ q ∈ l, q.1 ≠ i) (hl : LastsS T l) {w' : World} (hc : Ch T w w') (hw : I (L.setIfInBounds i true) w') : InvS S N T l I a0 (L.setIfInBounds i true) a w' := by
  obtain ⟨h1, h2, h3, h4, h5, h6⟩ := h
  have lL := fun k => lg_set L i k (by omega)
  refine ⟨h1, by simpa using h2, h3, h4, fun k q hq e => ?_, hw⟩
  have hm := List.mem_of_getElem? hq
  rw [lL, if_neg (hni q hm)] at e
  exact hl q hm _ _ _ hc (h5 k q hq e)
theorem InvS.frame (h : InvS S N T l I a0 L a w) (h0 : a0.tmps.size = S) (hl : ∀ q ∈ l, q.2.1 < S) : a = ⟨(l.map (·.2.1)).foldl (fun t p => t.setIfInBounds p (gt a p)) a0.tmps, a0.defers⟩ := by
  obtain ⟨h1, h2, h3, h4, h5, h6⟩ := h
  have key : a.tmps = (l.map (·.2.1)).foldl (fun t p => t.setIfInBounds p (gt a p)) a0.tmps := by
    apply Array.ext_getElem?
    intro k
    have hg : ∀ (t : Array Value) (k : Nat), k < t.size → t[k]? = some (t[k]?.getD undef) := fun t k hk => by rw [Array.getElem?_eq_getElem hk]; rfl
    by_cases hk : k < S
    · refine Eq.trans (hg a.tmps k (by omega)) (Eq.trans (congrArg some (?_ : a.tmps[k]?.getD undef = ((l.map (·.2.1)).foldl (fun t p => t.setIfInBounds p (gt a p)) a0.tmps)[k]?.getD undef)) (hg _ k (by rw [fold_gt_size]; omega)).symm)
      rw [fold_gt (gt a) k (l.map (·.2.1)) a0.tmps (fun p hp => by
        obtain ⟨q, hq, rfl⟩ := List.mem_map.1 hp
        rw [h0]; exact hl q hq)]
      by_cases e : k ∈ l.map (·.2.1)
      · rw [if_pos e]; rfl
      · rw [if_neg e]; exact h4 k e
    · rw [Array.getElem?_eq_none (by omega), Array.getElem?_eq_none (by rw [fold_gt_size]; omega)]
  obtain ⟨tm, df⟩ := a
  simp only at h3 key
  subst h3
  exact congrArg (fun t => Act.mk t _) key
/-- An operation that hands to its slot what stands there. -/
theorem InvS.same (h : InvS S N T l I a0 L a w) (i : Nat) (hi : i < N) (hni : ∀ q ∈ l, q.1 ≠ i) {d : Nat} {v : Value} (hd : d < S) (hdl : d ∉ l.map (·.2.1)) (hv : gt a0 d = v) (hw : I (L.setIfInBounds i true) w) : InvS S N T l I a0 (L.setIfInBounds i true) (a.put (some d) v) w := by
  obtain ⟨h1, h2, h3, h4, h5, h6⟩ := h
  have g := fun k v => gt_put a d k v (by omega)
  have lL := fun k => lg_set L i k (by omega)
  refine ⟨by simpa [Act.put] using h1, by simpa using h2, h3, fun k e1 => ?_, fun k q hq e => ?_, hw⟩
  · rw [g]
    by_cases hk : k = d
    · rw [if_pos hk, hk]; exact hv.symm
    · rw [if_neg hk]; exact h4 k e1
  · have hm := List.mem_of_getElem? hq
    have hne : q.2.1 ≠ d := fun e2 => hdl (e2 ▸ List.mem_map.2 ⟨q, hm, rfl⟩)
    rw [g, if_neg hne]
    rw [lL, if_neg (hni q hm)] at e
    exact h5 k q hq e
end
end Go.Proofs.Ytljllfdigfojdaa
