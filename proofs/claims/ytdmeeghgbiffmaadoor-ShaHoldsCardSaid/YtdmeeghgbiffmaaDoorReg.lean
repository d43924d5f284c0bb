/-
  ShaHexes' row of three texts ('[3]string{..}' with a call, a conversion and a new box among the operations, in any order): what holds when the operations of L have come up.
-/
import Derived.Test.YtdmeeghgbiffmaaDoorAny
namespace Go.Proofs.YtdmeeghgbiffmaaDoor
open Go Go.RowKit

structure InvR (a0 : Act) (w0 : World) (V : Nat → Value) (x0 x1 : Array Value) (L : Array Bool) (a : Act) (w : World) : Prop where
  size : a.tmps.size = 76
  lsize : L.size = 8
  defers : a.defers = a0.defers
  fixed : ∀ k, ¬ (35 ≤ k ∧ k ≤ 40) → k ≠ 10 → gt a k = gt a0 k
  val : ∀ j, j < 6 → lg L j = true → gt a (35 + j) = V j
  box : lg L 6 = true → ∃ p, gt a 10 = .pointer (some ⟨p, 0, none⟩) ∧ w0.heap.size ≤ p ∧ w.heap[p]? = some (.cells (if lg L 7 = true then x1 else x0) 43)
  late : lg L 7 = true → lg L 6 = true
  ch : Ch (fun _ => False) w0 w

section
variable {a0 : Act} {w0 : World} {V : Nat → Value} {x0 x1 : Array Value} {L : Array Bool} {a : Act} {w : World}
theorem InvR.start (a0 : Act) (w0 : World) (V : Nat → Value) (x0 x1 : Array Value) (h : a0.tmps.size = 76) : InvR a0 w0 V x0 x1 (Array.replicate 8 false) a0 w0 := by
  have z : ∀ j, lg (Array.replicate 8 false) j = true → False := fun j e => by
    unfold lg at e
    rw [Array.getElem?_replicate] at e
    split at e <;> simp at e
  exact ⟨h, by simp, rfl, fun _ _ _ => rfl, fun j _ e => (z _ e).elim, fun e => (z _ e).elim, fun e => (z _ e).elim, Ch.refl _ _⟩
/-- An operation that hands a value back; it may have made memory. -/
theorem InvR.put (h : InvR a0 w0 V x0 x1 L a w) (j : Nat) (hj : j < 6) {w' : World} (hw : Ch (fun _ => False) w w') : InvR a0 w0 V x0 x1 (L.setIfInBounds j true) (a.put (some (35 + j)) (V j)) w' := by
  obtain ⟨h1, h2, h3, h4, h5, h6, h7, h8⟩ := h
  have g := fun k v => gt_put a (35 + j) k v (by omega)
  have l := fun k => lg_set L j k (by omega)
  refine ⟨by simpa [Act.put] using h1, by simpa using h2, h3, fun k e1 e2 => ?_, fun k hk e => ?_, fun e => ?_, fun e => ?_, h8.trans hw⟩
  · rw [g, if_neg (by omega)]; exact h4 k e1 e2
  · rw [g]
    by_cases hkj : k = j
    · subst hkj; rw [if_pos rfl]
    · rw [if_neg (by omega)]; rw [l, if_neg hkj] at e; exact h5 k hk e
  · rw [l, if_neg (by omega)] at e
    obtain ⟨p, q1, q2, q3⟩ := h6 e
    refine ⟨p, by rw [g, if_neg (by omega)]; exact q1, q2, ?_⟩
    rw [l, if_neg (by omega : ¬ 7 = j)]
    exact hw.heap q3 id
  · rw [l, if_neg (by omega)] at e ⊢; exact h7 e
theorem InvR.put_box (h : InvR a0 w0 V x0 x1 L a w) (hn : lg L 6 = false) : InvR a0 w0 V x0 x1 (L.setIfInBounds 6 true) (a.put (some 10) (.pointer (some ⟨w.heap.size, 0, none⟩))) (w.alloc (.cells x0 43)) := by
  obtain ⟨h1, h2, h3, h4, h5, h6, h7, h8⟩ := h
  have g := fun k v => gt_put a 10 k v (by omega)
  have l := fun k => lg_set L 6 k (by omega)
  refine ⟨by simpa [Act.put] using h1, by simpa using h2, h3, fun k e1 e2 => ?_, fun k hk e => ?_, fun e => ?_, fun e => ?_, h8.alloc _⟩
  · rw [g, if_neg (by omega)]; exact h4 k e1 e2
  · rw [g, if_neg (by omega)]; rw [l, if_neg (by omega)] at e; exact h5 k hk e
  · refine ⟨w.heap.size, by rw [g, if_pos rfl], h8.size, ?_⟩
    have hs : lg L 7 = false := by
      cases hq : lg L 7 with
      | false => rfl
      | true => rw [h7 hq] at hn; cases hn
    rw [l, if_neg (by omega : ¬ 7 = 6), hs]
    simpa using World.alloc_heap_new w _
  · rw [l, if_pos rfl]
theorem InvR.put_store (h : InvR a0 w0 V x0 x1 L a w) (hb : lg L 6 = true) {p : Nat} (hp : gt a 10 = .pointer (some ⟨p, 0, none⟩)) {w' : World} (hh : w'.heap[p]? = some (.cells x1 43)) (hw : Ch (fun k => k = p) w w') :
    InvR a0 w0 V x0 x1 (L.setIfInBounds 7 true) a w' := by
  obtain ⟨h1, h2, h3, h4, h5, h6, h7, h8⟩ := h
  have l := fun k => lg_set L 7 k (by omega)
  obtain ⟨q, q1, q2, q3⟩ := h6 hb
  obtain rfl : p = q := by rw [hp] at q1; simpa using q1
  refine ⟨h1, by simpa using h2, h3, h4, fun k hk e => ?_, fun e => ⟨p, hp, q2, ?_⟩, fun e => ?_, h8.then hw (fun i hi h => by omega)⟩
  · rw [l, if_neg (by omega)] at e; exact h5 k hk e
  · rw [l, if_pos rfl]; simpa using hh
  · rw [l, if_neg (by omega)]; exact hb
theorem gd_set (t : Array Value) (d k : Nat) (v : Value) (hd : d < t.size) : (t.setIfInBounds d v)[k]?.getD undef = if k = d then v else t[k]?.getD undef := by
  rw [Array.getElem?_setIfInBounds]
  by_cases h : k = d
  · subst h; rw [if_pos rfl, if_pos hd, if_pos rfl]; rfl
  · rw [if_neg (Ne.symm h), if_neg h]
theorem eq_of_getD {t t' : Array Value} (hs : t.size = t'.size) (h : ∀ k : Nat, t[k]?.getD undef = t'[k]?.getD undef) : t = t' := by
  refine Array.ext hs fun i h1 h2 => ?_
  have := h i
  rw [Array.getElem?_eq_getElem h1, Array.getElem?_eq_getElem h2] at this
  exact this
/-- The frame when all have come up. -/
theorem InvR.frame (h : InvR a0 w0 V x0 x1 L a w) (h0 : a0.tmps.size = 76) (hall : ∀ i, i < 8 → lg L i = true) : ∃ p, w0.heap.size ≤ p ∧ w.heap[p]? = some (.cells x1 43) ∧
    a = ⟨((((((a0.tmps.setIfInBounds 35 (V 0)).setIfInBounds 36 (V 1)).setIfInBounds 37 (V 2)).setIfInBounds 38 (V 3)).setIfInBounds 39 (V 4)).setIfInBounds 40 (V 5)).setIfInBounds 10 (.pointer (some ⟨p, 0, none⟩)), a0.defers⟩ := by
  obtain ⟨h1, h2, h3, h4, h5, h6, h7, h8⟩ := h
  obtain ⟨p, q1, q2, q3⟩ := h6 (hall 6 (by omega))
  rw [if_pos (hall 7 (by omega))] at q3
  refine ⟨p, q2, q3, ?_⟩
  obtain ⟨tm, df⟩ := a
  obtain ⟨t0, d0⟩ := a0
  simp only at h0 h1 h3
  subst h3
  have hv := fun j hj => h5 j hj (hall j (by omega))
  unfold gt at hv h4 q1
  simp only at hv h4 q1
  have key : tm = ((((((t0.setIfInBounds 35 (V 0)).setIfInBounds 36 (V 1)).setIfInBounds 37 (V 2)).setIfInBounds 38 (V 3)).setIfInBounds 39 (V 4)).setIfInBounds 40 (V 5)).setIfInBounds 10 (.pointer (some ⟨p, 0, none⟩)) := by
    refine eq_of_getD (by simp [h0, h1]) fun k => ?_
    rw [gd_set _ _ _ _ (by simp [h0]), gd_set _ _ _ _ (by simp [h0]), gd_set _ _ _ _ (by simp [h0]), gd_set _ _ _ _ (by simp [h0]), gd_set _ _ _ _ (by simp [h0]), gd_set _ _ _ _ (by simp [h0]), gd_set _ _ _ _ (by simp [h0])]
    by_cases e : 35 ≤ k ∧ k ≤ 40
    · obtain rfl | rfl | rfl | rfl | rfl | rfl : k = 35 ∨ k = 36 ∨ k = 37 ∨ k = 38 ∨ k = 39 ∨ k = 40 := by omega
      · exact hv 0 (by omega)
      · exact hv 1 (by omega)
      · exact hv 2 (by omega)
      · exact hv 3 (by omega)
      · exact hv 4 (by omega)
      · exact hv 5 (by omega)
    · by_cases e10 : k = 10
      · subst e10; exact q1
      · rw [if_neg e10, if_neg (by omega), if_neg (by omega), if_neg (by omega), if_neg (by omega), if_neg (by omega), if_neg (by omega)]
        exact h4 k e e10
  rw [key]
end
end Go.Proofs.YtdmeeghgbiffmaaDoor
