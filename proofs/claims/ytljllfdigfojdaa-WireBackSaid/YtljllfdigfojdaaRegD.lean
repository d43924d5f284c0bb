/- A region that comes up in whatever order: each operation hands a value to its slot (or stores); what holds of the world when the operations of L have come up is the caller's. -/
import Derived.Test.YtljllfdigfojdaaReg0
namespace Go.Proofs.Ytljllfdigfojdaa
open Go Go.RowKit

theorem fold_get (g : Nat → Value) (k : Nat) (l : List (Nat × Value)) : ∀ t : Array Value, (∀ p ∈ l, p.1 < t.size ∨ p.2 = undef) → (∀ p ∈ l, g p.1 = p.2) → (∀ p ∈ l, t.size ≤ p.1 → t[p.1]?.getD undef = g p.1) →
    (l.foldl (fun t p => t.setIfInBounds p.1 p.2) t)[k]?.getD undef = if k ∈ l.map (·.1) then g k else t[k]?.getD undef := by
  induction l with
  | nil => intro t _ _ _; simp
  | cons p l ih =>
    intro t h1 h2 h3
    rw [List.foldl_cons, ih _ (fun q hq => by simpa using h1 q (by simp [hq])) (fun q hq => h2 q (by simp [hq])) (fun q hq hs => by
      simp at hs
      rw [Array.getElem?_setIfInBounds]
      by_cases e : p.1 = q.1
      · rw [if_pos e, if_neg (by omega)]
        have := h2 q (by simp [hq]); rw [this]
        rcases h1 q (by simp [hq]) with h | h
        · omega
        · rw [h]; rfl
      · rw [if_neg e]; exact h3 q (by simp [hq]) hs)]
    by_cases e : k ∈ l.map (·.1)
    · rw [if_pos e, if_pos (by simp only [List.map_cons, List.mem_cons]; exact .inr e)]
    · rw [if_neg e, Array.getElem?_setIfInBounds]
      by_cases e2 : p.1 = k
      · have hm : k ∈ (p :: l).map (·.1) := by simp [e2]
        have hp := h2 p (by simp)
        rw [e2] at hp
        rw [if_pos hm, if_pos e2]
        by_cases hs : p.1 < t.size
        · rw [if_pos hs, hp]; rfl
        · rw [if_neg hs]
          rcases h1 p (by simp) with h | h
          · exact absurd h hs
          · rw [hp, h]; rfl
      · rw [if_neg e2, if_neg (by simp only [List.map_cons, List.mem_cons]; exact fun h => h.elim (fun h => e2 h.symm) e)]

structure InvD (S : Nat) (l : List (Nat × Value)) (I : Array Bool → World → Prop) (a0 : Act) (L : Array Bool) (a : Act) (w : World) : Prop where
  size : a.tmps.size = S
  lsize : L.size = l.length
  defers : a.defers = a0.defers
  fixed : ∀ k, k ∉ l.map (·.1) → gt a k = gt a0 k
  val : ∀ (j : Nat) p, l[j]? = some p → lg L j = true → gt a p.1 = p.2
  wld : I L w

section
variable {S : Nat} {l : List (Nat × Value)} {I : Array Bool → World → Prop} {a0 : Act} {L : Array Bool} {a : Act} {w : World}
theorem lg_none' (n j : Nat) (e : lg (Array.replicate n false) j = true) : False := by
  unfold lg at e
  rw [Array.getElem?_replicate] at e
  split at e <;> simp at e
theorem InvD.start {n : Nat} (hn : n = l.length) (h : a0.tmps.size = S) (hw : I (Array.replicate n false) w) : InvD S l I a0 (Array.replicate n false) a0 w :=
  ⟨h, by simpa using hn, rfl, fun _ _ => rfl, fun j _ _ e => (lg_none' _ _ e).elim, hw⟩
theorem InvD.put (h : InvD S l I a0 L a w) (j : Nat) {d : Nat} {v : Value} (hj : l[j]? = some (d, v)) (hd : d < S) (hn : (l.map (·.1)).Nodup) {w' : World} (hw : I (L.setIfInBounds j true) w') : InvD S l I a0 (L.setIfInBounds j true) (a.put (some d) v) w' := by
  obtain ⟨h1, h2, h3, h4, h5, h6⟩ := h
  have hjl : j < l.length := (List.getElem?_eq_some_iff.1 hj).1
  have g := fun k v => gt_put a d k v (by omega)
  have lL := fun k => lg_set L j k (by omega)
  refine ⟨by simpa [Act.put] using h1, by simpa using h2, h3, fun k e1 => ?_, fun k p hp e => ?_, hw⟩
  · have hk : k ≠ d := fun e => e1 (by subst e; exact List.mem_map.2 ⟨_, List.mem_of_getElem? hj, rfl⟩)
    rw [g, if_neg hk]; exact h4 k e1
  · rw [g]
    by_cases hkj : k = j
    · subst hkj; rw [hj] at hp; cases hp; rw [if_pos rfl]
    · have hne : p.1 ≠ d := fun e' => by
        have hk : k < l.length := (List.getElem?_eq_some_iff.1 hp).1
        have h1 : (l.map (·.1))[k]? = some p.1 := by rw [List.getElem?_map, hp]; rfl
        have h2 : (l.map (·.1))[j]? = some d := by rw [List.getElem?_map, hj]; rfl
        rw [e'] at h1
        exact hkj ((List.getElem?_inj (by simpa using hk) hn).1 (h1.trans h2.symm))
      rw [if_neg hne]; rw [lL, if_neg hkj] at e; exact h5 k p hp e
theorem InvD.skip (h : InvD S l I a0 L a w) (j : Nat) {d : Nat} (hj : l[j]? = some (d, undef)) (hd : S ≤ d) {w' : World} (hw : I (L.setIfInBounds j true) w') : InvD S l I a0 (L.setIfInBounds j true) a w' := by
  obtain ⟨h1, h2, h3, h4, h5, h6⟩ := h
  have hjl : j < l.length := (List.getElem?_eq_some_iff.1 hj).1
  have lL := fun k => lg_set L j k (by omega)
  refine ⟨h1, by simpa using h2, h3, h4, fun k p hp e => ?_, hw⟩
  by_cases hkj : k = j
  · subst hkj; rw [hj] at hp; cases hp
    unfold gt; rw [Array.getElem?_eq_none (by omega)]; rfl
  · rw [lL, if_neg hkj] at e; exact h5 k p hp e
theorem InvD.frame (h : InvD S l I a0 L a w) (h0 : a0.tmps.size = S) (hl : ∀ p ∈ l, p.1 < S ∨ p.2 = undef) (hall : ∀ i, i < l.length → lg L i = true) : a = ⟨l.foldl (fun t p => t.setIfInBounds p.1 p.2) a0.tmps, a0.defers⟩ := by
  obtain ⟨h1, h2, h3, h4, h5, h6⟩ := h
  obtain ⟨tm, df⟩ := a
  obtain ⟨t0, d0⟩ := a0
  simp only at h0 h1 h3
  subst h3
  have hv : ∀ p ∈ l, gt ⟨tm, df⟩ p.1 = p.2 := fun p hp => by
    obtain ⟨j, hj, e⟩ := List.getElem_of_mem hp
    exact h5 j p (by rw [List.getElem?_eq_getElem hj, e]) (hall j hj)
  have hsz : ∀ (l : List (Nat × Value)) (t : Array Value), (l.foldl (fun t p => t.setIfInBounds p.1 p.2) t).size = t.size := fun l => by
    induction l with
    | nil => intro t; rfl
    | cons p l ih => intro t; rw [List.foldl_cons, ih]; simp
  have key : tm = l.foldl (fun t p => t.setIfInBounds p.1 p.2) t0 := by
    apply Array.ext_getElem?
    intro k
    have hg : ∀ (t : Array Value) (k : Nat), k < t.size → t[k]? = some (t[k]?.getD undef) := fun t k hk => by rw [Array.getElem?_eq_getElem hk]; rfl
    by_cases hk : k < S
    · refine Eq.trans (hg tm k (by omega)) (Eq.trans (congrArg some (?_ : tm[k]?.getD undef = (l.foldl (fun t p => t.setIfInBounds p.1 p.2) t0)[k]?.getD undef)) (hg _ k (by rw [hsz]; omega)).symm)
      rw [fold_get (gt ⟨tm, df⟩) k l t0 (fun p hp => by rw [h0]; exact hl p hp) hv (fun p hp hs => by
        rw [hv p hp, Array.getElem?_eq_none hs]
        rcases hl p hp with h | h
        · omega
        · rw [h]; rfl)]
      by_cases e : k ∈ l.map (·.1)
      · rw [if_pos e]; rfl
      · rw [if_neg e]; exact h4 k e
    · rw [Array.getElem?_eq_none (by omega), Array.getElem?_eq_none (by rw [hsz]; omega)]
  rw [key]
/-- The guard of an operation whose condition has come up. -/
theorem guard_of {k : Nat} {b : Bool} (h : gt a k = .bool b) (hk : k < a.tmps.size) : a.tmps[k]? = some (.bool b) := by
  unfold gt at h
  rw [Array.getElem?_eq_getElem hk] at h ⊢
  simpa using h
end
end Go.Proofs.Ytljllfdigfojdaa
