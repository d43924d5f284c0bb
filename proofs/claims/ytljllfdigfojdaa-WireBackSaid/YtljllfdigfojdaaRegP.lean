/- A region that comes up in whatever order: each operation hands to its slot a value of which something is said (of it and the world); what is said lasts while memory grows. What else holds of the world is the caller's. -/
import Derived.Test.YtljllfdigfojdaaRegD
namespace Go.Proofs.Ytljllfdigfojdaa
open Go Go.RowKit

theorem fold_gt (g : Nat → Value) (k : Nat) (l : List Nat) : ∀ t : Array Value, (∀ p ∈ l, p < t.size) →
    (l.foldl (fun t p => t.setIfInBounds p (g p)) t)[k]?.getD undef = if k ∈ l then g k else t[k]?.getD undef := by
  induction l with
  | nil => intro t _; simp
  | cons p l ih =>
    intro t h1
    rw [List.foldl_cons, ih _ (fun q hq => by simpa using h1 q (by simp [hq]))]
    by_cases e : k ∈ l
    · rw [if_pos e, if_pos (by simp [e])]
    · rw [if_neg e, Array.getElem?_setIfInBounds]
      by_cases e2 : p = k
      · subst e2; rw [if_pos rfl, if_pos (h1 p (by simp)), if_pos (by simp)]; rfl
      · rw [if_neg e2, if_neg (by simp only [List.mem_cons]; exact fun h => h.elim (fun h => e2 h.symm) e)]
theorem fold_gt_size (g : Nat → Value) (l : List Nat) : ∀ t : Array Value, (l.foldl (fun t p => t.setIfInBounds p (g p)) t).size = t.size := by
  induction l with
  | nil => intro t; rfl
  | cons p l ih => intro t; rw [List.foldl_cons, ih]; simp

abbrev Said := Value → World → Prop
structure InvP (S : Nat) (l : List (Nat × Said)) (I : Array Bool → World → Prop) (a0 : Act) (L : Array Bool) (a : Act) (w : World) : Prop where
  size : a.tmps.size = S
  lsize : L.size = l.length
  defers : a.defers = a0.defers
  fixed : ∀ k, k ∉ l.map (·.1) → gt a k = gt a0 k
  val : ∀ (j : Nat) p, l[j]? = some p → lg L j = true → p.2 (gt a p.1) w
  wld : I L w
/-- What lasts while memory grows. -/
def Lasts (l : List (Nat × Said)) : Prop := ∀ p ∈ l, ∀ v w w', Ch (fun _ => False) w w' → p.2 v w → p.2 v w'

section
variable {S : Nat} {l : List (Nat × Said)} {I : Array Bool → World → Prop} {a0 : Act} {L : Array Bool} {a : Act} {w : World}
theorem InvP.start {n : Nat} (hn : n = l.length) (h : a0.tmps.size = S) (hw : I (Array.replicate n false) w) : InvP S l I a0 (Array.replicate n false) a0 w :=
  ⟨h, by simpa using hn, rfl, fun _ _ => rfl, fun j _ _ e => (lg_none' _ _ e).elim, hw⟩
theorem InvP.put (h : InvP S l I a0 L a w) (j : Nat) {d : Nat} {R : Said} {v : Value} (hj : l[j]? = some (d, R)) (hd : d < S) (hn : (l.map (·.1)).Nodup) (hl : Lasts l) {w' : World} (hc : Ch (fun _ => False) w w') (hR : R v w') (hw : I (L.setIfInBounds j true) w') : InvP S l I a0 (L.setIfInBounds j true) (a.put (some d) v) w' := by
  obtain ⟨h1, h2, h3, h4, h5, h6⟩ := h
  have hjl : j < l.length := (List.getElem?_eq_some_iff.1 hj).1
  have g := fun k v => gt_put a d k v (by omega)
  have lL := fun k => lg_set L j k (by omega)
  refine ⟨by simpa [Act.put] using h1, by simpa using h2, h3, fun k e1 => ?_, fun k p hp e => ?_, hw⟩
  · have hk : k ≠ d := fun e => e1 (by subst e; exact List.mem_map.2 ⟨_, List.mem_of_getElem? hj, rfl⟩)
    rw [g, if_neg hk]; exact h4 k e1
  · rw [g]
    by_cases hkj : k = j
    · subst hkj; rw [hj] at hp; cases hp; rw [if_pos rfl]; exact hR
    · have hne : p.1 ≠ d := fun e' => by
        have hk : k < l.length := (List.getElem?_eq_some_iff.1 hp).1
        have h1 : (l.map (·.1))[k]? = some p.1 := by rw [List.getElem?_map, hp]; rfl
        have h2 : (l.map (·.1))[j]? = some d := by rw [List.getElem?_map, hj]; rfl
        rw [e'] at h1
        exact hkj ((List.getElem?_inj (by simpa using hk) hn).1 (h1.trans h2.symm))
      rw [if_neg hne]; rw [lL, if_neg hkj] at e
      exact hl p (List.mem_of_getElem? hp) _ _ _ hc (h5 k p hp e)
theorem InvP.frame (h : InvP S l I a0 L a w) (h0 : a0.tmps.size = S) (hl : ∀ p ∈ l, p.1 < S) (hall : ∀ i, i < l.length → lg L i = true) : a = ⟨(l.map (·.1)).foldl (fun t p => t.setIfInBounds p (gt a p)) a0.tmps, a0.defers⟩ := by
  obtain ⟨h1, h2, h3, h4, h5, h6⟩ := h
  have key : a.tmps = (l.map (·.1)).foldl (fun t p => t.setIfInBounds p (gt a p)) a0.tmps := by
    apply Array.ext_getElem?
    intro k
    have hg : ∀ (t : Array Value) (k : Nat), k < t.size → t[k]? = some (t[k]?.getD undef) := fun t k hk => by rw [Array.getElem?_eq_getElem hk]; rfl
    by_cases hk : k < S
    · refine Eq.trans (hg a.tmps k (by omega)) (Eq.trans (congrArg some (?_ : a.tmps[k]?.getD undef = ((l.map (·.1)).foldl (fun t p => t.setIfInBounds p (gt a p)) a0.tmps)[k]?.getD undef)) (hg _ k (by rw [fold_gt_size]; omega)).symm)
      rw [fold_gt (gt a) k (l.map (·.1)) a0.tmps (fun p hp => by
        obtain ⟨q, hq, rfl⟩ := List.mem_map.1 hp
        rw [h0]; exact hl q hq)]
      by_cases e : k ∈ l.map (·.1)
      · rw [if_pos e]; rfl
      · rw [if_neg e]; exact h4 k e
    · rw [Array.getElem?_eq_none (by omega), Array.getElem?_eq_none (by rw [fold_gt_size]; omega)]
  obtain ⟨tm, df⟩ := a
  simp only at h3 key
  subst h3
  exact congrArg (fun t => Act.mk t _) key
end
end Go.Proofs.Ytljllfdigfojdaa
