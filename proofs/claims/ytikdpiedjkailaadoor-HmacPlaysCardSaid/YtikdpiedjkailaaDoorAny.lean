/-
  A region that draws its order, by an invariant of which operations have come up.
-/
import Derived.Test.YtikdpiedjkailaaDoorSpec
namespace Go.Proofs.YtikdpiedjkailaaDoor
open Go Go.RowKit
section
variable {P : Program} {ops : Array Oper} {Q : Exit → Act → World → Prop} {md : Region.Mode}

theorem wpAny_inv (Inv : Array Bool → Act → World → Prop) (hstep : ∀ L a w i, Inv L a w → i ∈ Region.ready md ops L → wpOp P ops Q i (Inv (L.setIfInBounds i true)) a w)
    (hend : ∀ L a w, Inv L a w → Region.ready md ops L = [] → Q .normal a w) (fuel : Nat) :
    ∀ L a w, L.size = ops.size → L.toList.countP (· == false) ≤ fuel → Inv L a w → wpAny P md ops Q fuel L a w := by
  induction fuel with
  | zero =>
    intro L a w hs hc hi
    have hr : Region.ready md ops L = [] := by
      refine List.eq_nil_iff_forall_not_mem.2 fun j hj => ?_
      obtain ⟨h1, o, ho, _⟩ := mem_ready.1 hj
      have hjs : j < L.size := by rw [hs]; exact (Array.getElem?_eq_some_iff.1 ho).1
      have h2 : L.toList.countP (· == false) = 0 := by omega
      rw [List.countP_eq_zero] at h2
      have h3 := h2 L[j] (by simp)
      simp [hjs] at h1
      simp [h1] at h3
    exact ⟨hr, hend L a w hi hr⟩
  | succ fuel ih =>
    intro L a w hs hc hi
    refine ⟨hend L a w hi, fun i hr => wpOp_mono (fun a' w' hi' => ih _ a' w' (by simpa using hs) ?_ hi') (hstep L a w i hi hr)⟩
    obtain ⟨h1, o, ho, _⟩ := mem_ready.1 hr
    have hjs : i < L.size := by rw [hs]; exact (Array.getElem?_eq_some_iff.1 ho).1
    have h2 : L[i] = false := by simpa [hjs] using h1
    have hpos : 0 < L.toList.countP (· == false) := List.countP_pos_iff.2 ⟨L[i], by simp, by simp [h2]⟩
    rw [Array.toList_setIfInBounds, List.countP_set (by simpa using hjs)]
    simp [h2]
    simp at hc hpos
    omega

theorem all_listed {L : Array Bool} (hac : ∀ i o e, ops[i]? = some o → e ∈ o.after → Region.binds md e = true → e.on < i) (hs : L.size = ops.size) (hr : Region.ready md ops L = []) : ∀ i, i < ops.size → L[i]?.getD false = true := by
  intro i
  induction i using Nat.strongRecOn with
  | _ i ih =>
    intro hi
    cases h : L[i]?.getD false with
    | true => rfl
    | false =>
      have : i ∈ Region.ready md ops L := by
        refine mem_ready.2 ⟨?_, ops[i], by simp [hi], fun e he hb => ?_⟩
        · have : i < L.size := by omega
          simp [this] at h ⊢; exact h
        · have h1 := hac i _ e (by simp [hi]) he hb
          have h2 := ih e.on h1 (by omega)
          simpa using h2
      rw [hr] at this; cases this

def acyc (md : Region.Mode) (ops : Array Oper) : Bool := (List.range ops.size).all fun i => match ops[i]? with | some o => o.after.all (fun e => !Region.binds md e || decide (e.on < i)) | none => true
theorem all_listed' {L : Array Bool} (h : acyc md ops = true) (hs : L.size = ops.size) (hr : Region.ready md ops L = []) : ∀ i, i < ops.size → L[i]?.getD false = true := by
  refine all_listed (fun i o e ho he hb => ?_) hs hr
  unfold acyc at h
  rw [List.all_eq_true] at h
  have h1 := h i (List.mem_range.2 (Array.getElem?_eq_some_iff.1 ho).1)
  rw [ho] at h1
  simp only at h1
  have h2 := Array.all_eq_true'.1 h1 e he
  simpa [hb] using h2

theorem wpOp_of {i : Nat} {o : Oper} {K : Act → World → Prop} {a : Act} {w : World} (ho : ops[i]? = some o) (hg : o.guard = none) (h : o.wp P a w K Q) : wpOp P ops Q i K a w := by
  unfold wpOp
  simp only [ho]
  rw [if_pos (by simp [Region.wanted, hg])]
  exact .inl h
end

def gt (a : Act) (k : Nat) : Value := a.tmps[k]?.getD undef
def lg (L : Array Bool) (i : Nat) : Bool := L[i]?.getD false
theorem gt_put (a : Act) (d k : Nat) (v : Value) (hd : d < a.tmps.size) : gt (a.put (some d) v) k = if k = d then v else gt a k := by
  unfold gt Act.put
  simp only [Array.getElem?_setIfInBounds]
  by_cases h : k = d
  · subst h; simp [hd]
  · rw [if_neg (Ne.symm h), if_neg h]
theorem lg_set (L : Array Bool) (i j : Nat) (hi : i < L.size) : lg (L.setIfInBounds i true) j = if j = i then true else lg L j := by
  unfold lg
  simp only [Array.getElem?_setIfInBounds]
  by_cases h : j = i
  · subst h; simp [hi]
  · rw [if_neg (Ne.symm h), if_neg h]

/-- 'a, b, .., h := s[0], s[1], .., s[7]' into eight new boxes: what holds when the operations of L have come up. -/
structure Inv8 (a0 : Act) (w0 : World) (sb : Nat) (sv : Nat → BitVec 32) (L : Array Bool) (a : Act) (w : World) : Prop where
  size : a.tmps.size = 125
  lsize : L.size = 32
  defers : a.defers = a0.defers
  fixed : ∀ k, ¬ (23 ≤ k ∧ k ≤ 38) → ¬ (7 ≤ k ∧ k ≤ 14) → gt a k = gt a0 k
  addr : ∀ j, j < 8 → lg L (2 * j) = true → gt a (23 + 2 * j) = .pointer (some ⟨sb, j, none⟩)
  load : ∀ j, j < 8 → lg L (2 * j + 1) = true → gt a (24 + 2 * j) = wv (sv j)
  box : ∃ B : Nat → Nat, (∀ j, j < 8 → lg L (16 + j) = true → gt a (7 + j) = .pointer (some ⟨B j, 0, none⟩) ∧ w.heap[B j]? = some (.cells #[if lg L (24 + j) = true then wv (sv j) else .int .u32 0] 79) ∧ w0.heap.size ≤ B j) ∧
    (∀ j k, j < 8 → k < 8 → j ≠ k → lg L (16 + j) = true → lg L (16 + k) = true → B j ≠ B k)
  late : ∀ j, j < 8 → lg L (24 + j) = true → lg L (16 + j) = true
  ch : Ch (fun _ => False) w0 w

section
variable {a0 : Act} {w0 : World} {sb : Nat} {sv : Nat → BitVec 32} {L : Array Bool} {a : Act} {w : World}
theorem Inv8.start (a0 : Act) (w0 : World) (sb : Nat) (sv : Nat → BitVec 32) (h : a0.tmps.size = 125) : Inv8 a0 w0 sb sv (Array.replicate 32 false) a0 w0 := by
  have z : ∀ j, lg (Array.replicate 32 false) j = true → False := fun j e => by
    unfold lg at e
    rw [Array.getElem?_replicate] at e
    split at e <;> simp at e
  exact ⟨h, by simp, rfl, fun _ _ _ => rfl, fun j _ e => (z _ e).elim, fun j _ e => (z _ e).elim, ⟨fun _ => 0, fun j _ e => (z _ e).elim, fun j _ _ _ _ e => (z _ e).elim⟩, fun j _ e => (z _ e).elim, Ch.refl _ _⟩
theorem Inv8.put_addr (h : Inv8 a0 w0 sb sv L a w) (j : Nat) (hj : j < 8) : Inv8 a0 w0 sb sv (L.setIfInBounds (2 * j) true) (a.put (some (23 + 2 * j)) (.pointer (some ⟨sb, j, none⟩))) w := by
  obtain ⟨h1, h2, h3, h4, h5, h6, ⟨B, h7, h8⟩, h9, h10⟩ := h
  have g := fun k v => gt_put a (23 + 2 * j) k v (by omega)
  have l := fun k => lg_set L (2 * j) k (by omega)
  refine ⟨by simpa [Act.put] using h1, by simpa using h2, h3, fun k e1 e2 => ?_, fun k hk e => ?_, fun k hk e => ?_, ⟨B, fun k hk e => ?_, fun k k' hk hk' hne e e' => ?_⟩, fun k hk e => ?_, h10⟩
  · rw [g, if_neg (by omega)]; exact h4 k e1 e2
  · rw [g]
    by_cases hkj : k = j
    · subst hkj; rw [if_pos rfl]
    · rw [if_neg (by omega)]; rw [l, if_neg (by omega)] at e; exact h5 k hk e
  · rw [l, if_neg (by omega)] at e; rw [g, if_neg (by omega)]; exact h6 k hk e
  · rw [l, if_neg (by omega)] at e; rw [g, if_neg (by omega), l (24 + k), if_neg (by omega : ¬ 24 + k = 2 * j)]; exact h7 k hk e
  · rw [l, if_neg (by omega)] at e e'; exact h8 k k' hk hk' hne e e'
  · rw [l, if_neg (by omega)] at e ⊢; exact h9 k hk e
theorem Inv8.put_load (h : Inv8 a0 w0 sb sv L a w) (j : Nat) (hj : j < 8) : Inv8 a0 w0 sb sv (L.setIfInBounds (2 * j + 1) true) (a.put (some (24 + 2 * j)) (wv (sv j))) w := by
  obtain ⟨h1, h2, h3, h4, h5, h6, ⟨B, h7, h8⟩, h9, h10⟩ := h
  have g := fun k v => gt_put a (24 + 2 * j) k v (by omega)
  have l := fun k => lg_set L (2 * j + 1) k (by omega)
  refine ⟨by simpa [Act.put] using h1, by simpa using h2, h3, fun k e1 e2 => ?_, fun k hk e => ?_, fun k hk e => ?_, ⟨B, fun k hk e => ?_, fun k k' hk hk' hne e e' => ?_⟩, fun k hk e => ?_, h10⟩
  · rw [g, if_neg (by omega)]; exact h4 k e1 e2
  · rw [l, if_neg (by omega)] at e; rw [g, if_neg (by omega)]; exact h5 k hk e
  · rw [g]
    by_cases hkj : k = j
    · subst hkj; rw [if_pos rfl]
    · rw [if_neg (by omega)]; rw [l, if_neg (by omega)] at e; exact h6 k hk e
  · rw [l, if_neg (by omega)] at e; rw [g, if_neg (by omega), l (24 + k), if_neg (by omega : ¬ 24 + k = 2 * j + 1)]; exact h7 k hk e
  · rw [l, if_neg (by omega)] at e e'; exact h8 k k' hk hk' hne e e'
  · rw [l, if_neg (by omega)] at e ⊢; exact h9 k hk e
theorem Inv8.put_box (h : Inv8 a0 w0 sb sv L a w) (j : Nat) (hj : j < 8) (hn : lg L (16 + j) = false) :
    Inv8 a0 w0 sb sv (L.setIfInBounds (16 + j) true) (a.put (some (7 + j)) (.pointer (some ⟨w.heap.size, 0, none⟩))) (w.alloc (.cells #[.int .u32 0] 79)) := by
  obtain ⟨h1, h2, h3, h4, h5, h6, ⟨B, h7, h8⟩, h9, h10⟩ := h
  have g := fun k v => gt_put a (7 + j) k v (by omega)
  have l := fun k => lg_set L (16 + j) k (by omega)
  have hlt : ∀ k, k < 8 → lg L (16 + k) = true → B k < w.heap.size := fun k hk e => (Array.getElem?_eq_some_iff.1 (h7 k hk e).2.1).1
  refine ⟨by simpa [Act.put] using h1, by simpa using h2, h3, fun k e1 e2 => ?_, fun k hk e => ?_, fun k hk e => ?_, ⟨fun k => if k = j then w.heap.size else B k, fun k hk e => ?_, fun k k' hk hk' hne e e' => ?_⟩, fun k hk e => ?_, h10.alloc _⟩
  · rw [g, if_neg (by omega)]; exact h4 k e1 e2
  · rw [l, if_neg (by omega)] at e; rw [g, if_neg (by omega)]; exact h5 k hk e
  · rw [l, if_neg (by omega)] at e; rw [g, if_neg (by omega)]; exact h6 k hk e
  · dsimp only
    rw [g, l (24 + k), if_neg (by omega : ¬ 24 + k = 16 + j)]
    by_cases hkj : k = j
    · subst hkj
      have hs : lg L (24 + k) = false := by
        cases hq : lg L (24 + k) with
        | false => rfl
        | true => rw [h9 k hk hq] at hn; cases hn
      rw [if_pos rfl, if_pos rfl, hs]
      exact ⟨rfl, by simpa using World.alloc_heap_new w _, h10.size⟩
    · rw [if_neg (by omega), if_neg hkj]
      rw [l, if_neg (by omega)] at e
      obtain ⟨q1, q2, q3⟩ := h7 k hk e
      exact ⟨q1, (Below.heap_alloc _ _ _ (hlt k hk e)).trans q2, q3⟩
  · show (if k = j then w.heap.size else B k) ≠ (if k' = j then w.heap.size else B k')
    rw [l] at e e'
    by_cases e1 : k = j
    · rw [if_pos e1, if_neg (by omega)]; rw [if_neg (by omega)] at e'; have := hlt k' hk' e'; omega
    · rw [if_neg e1]; rw [if_neg (by omega)] at e
      by_cases e2 : k' = j
      · rw [if_pos e2]; have := hlt k hk e; omega
      · rw [if_neg e2]; rw [if_neg (by omega)] at e'; exact h8 k k' hk hk' hne e e'
  · rw [l] at e ⊢; rw [if_neg (by omega)] at e
    by_cases e1 : k = j
    · rw [if_pos (by omega)]
    · rw [if_neg (by omega)]; exact h9 k hk e
theorem Inv8.put_store (h : Inv8 a0 w0 sb sv L a w) (j : Nat) (hj : j < 8) (hn : lg L (16 + j) = true) (p : Addr) (hp : gt a (7 + j) = .pointer (some p)) :
    Inv8 a0 w0 sb sv (L.setIfInBounds (24 + j) true) a (w.setCell p (wv (sv j))) := by
  obtain ⟨h1, h2, h3, h4, h5, h6, ⟨B, h7, h8⟩, h9, h10⟩ := h
  have l := fun k => lg_set L (24 + j) k (by omega)
  obtain ⟨q1, q2, q3⟩ := h7 j hj hn
  obtain rfl : p = ⟨B j, 0, none⟩ := by rw [hp] at q1; simpa using q1
  refine ⟨h1, by simpa using h2, h3, h4, fun k hk e => ?_, fun k hk e => ?_, ⟨B, fun k hk e => ?_, fun k k' hk hk' hne e e' => ?_⟩, fun k hk e => ?_, h10.setCell (fun hlt => by simp at hlt; omega) _⟩
  · rw [l, if_neg (by omega)] at e; exact h5 k hk e
  · rw [l, if_neg (by omega)] at e; exact h6 k hk e
  · rw [l, if_neg (by omega)] at e
    obtain ⟨r1, r2, r3⟩ := h7 k hk e
    refine ⟨r1, ?_, r3⟩
    rw [l (24 + k)]
    by_cases hkj : k = j
    · subst hkj
      rw [if_pos rfl]
      simp only [World.setCell, Array.getElem?_modify]
      rw [q2]
      simp
    · rw [if_neg (by omega : ¬ 24 + k = 24 + j)]
      rw [Below.heap_setCell _ _ _ _ (fun e' => h8 k j hk hj hkj e hn e')]
      exact r2
  · rw [l, if_neg (by omega)] at e e'; exact h8 k k' hk hk' hne e e'
  · rw [l, if_neg (by omega : ¬ 16 + k = 24 + j)]
    rw [l] at e
    by_cases hkj : k = j
    · subst hkj; exact hn
    · rw [if_neg (by omega)] at e; exact h9 k hk e
end

theorem Inv8.final {a0 : Act} {w0 : World} {sb : Nat} {sv : Nat → BitVec 32} {L : Array Bool} {a : Act} {w : World} (h : Inv8 a0 w0 sb sv L a w) (h0 : a0.tmps.size = 125) (hall : ∀ i, i < 32 → lg L i = true) :
    ∃ B : Nat → Nat, (∀ j, j < 8 → w.heap[B j]? = some (.cells #[wv (sv j)] 79) ∧ w0.heap.size ≤ B j) ∧ (∀ j k, j < 8 → k < 8 → j ≠ k → B j ≠ B k) ∧ Ch (fun _ => False) w0 w ∧
      a = { tmps := (((((((((((((((((((((((((a0.tmps.setIfInBounds 7 (.pointer (some ⟨B 0, 0, none⟩))).setIfInBounds 8 (.pointer (some ⟨B 1, 0, none⟩))).setIfInBounds 9 (.pointer (some ⟨B 2, 0, none⟩))).setIfInBounds 10 (.pointer (some ⟨B 3, 0, none⟩))).setIfInBounds 11 (.pointer (some ⟨B 4, 0, none⟩))).setIfInBounds 12 (.pointer (some ⟨B 5, 0, none⟩))).setIfInBounds 13 (.pointer (some ⟨B 6, 0, none⟩))).setIfInBounds 14 (.pointer (some ⟨B 7, 0, none⟩))).setIfInBounds 23 (.pointer (some ⟨sb, 0, none⟩))).setIfInBounds 24 (wv (sv 0))).setIfInBounds 25 (.pointer (some ⟨sb, 1, none⟩))).setIfInBounds 26 (wv (sv 1))).setIfInBounds 27 (.pointer (some ⟨sb, 2, none⟩))).setIfInBounds 28 (wv (sv 2))).setIfInBounds 29 (.pointer (some ⟨sb, 3, none⟩))).setIfInBounds 30 (wv (sv 3))).setIfInBounds 31 (.pointer (some ⟨sb, 4, none⟩))).setIfInBounds 32 (wv (sv 4))).setIfInBounds 33 (.pointer (some ⟨sb, 5, none⟩))).setIfInBounds 34 (wv (sv 5))).setIfInBounds 35 (.pointer (some ⟨sb, 6, none⟩))).setIfInBounds 36 (wv (sv 6))).setIfInBounds 37 (.pointer (some ⟨sb, 7, none⟩))).setIfInBounds 38 (wv (sv 7)))), defers := a0.defers } := by
  obtain ⟨h1, h2, h3, h4, h5, h6, ⟨B, h7, h8⟩, h9, h10⟩ := h
  refine ⟨B, fun j hj => ?_, fun j k hj hk hne => h8 j k hj hk hne (hall _ (by omega)) (hall _ (by omega)), h10, ?_⟩
  · obtain ⟨q1, q2, q3⟩ := h7 j hj (hall _ (by omega))
    rw [if_pos (hall _ (by omega))] at q2
    exact ⟨q2, q3⟩
  · obtain ⟨tm, df⟩ := a
    simp only at h1 h3
    subst h3
    refine congrArg (fun t => ({ tmps := t, defers := a0.defers } : Act)) ?_
    have gv : ∀ k (hk : k < 125) v, gt ⟨tm, a0.defers⟩ k = v → tm[k]? = some v := fun k hk v e => by
      have : k < tm.size := by omega
      unfold gt at e
      simp [this] at e ⊢; exact e
    refine Array.ext_getElem? fun i => ?_
    by_cases hi : i < 125
    · simp only [Array.getElem?_setIfInBounds, Array.size_setIfInBounds, h0, Nat.reduceLT, if_true]
      by_cases e38 : 38 = i
      · rw [if_pos e38, ← e38]; exact gv 38 (by omega) _ (h6 7 (by omega) (hall _ (by omega)))
      rw [if_neg e38]
      by_cases e37 : 37 = i
      · rw [if_pos e37, ← e37]; exact gv 37 (by omega) _ (h5 7 (by omega) (hall _ (by omega)))
      rw [if_neg e37]
      by_cases e36 : 36 = i
      · rw [if_pos e36, ← e36]; exact gv 36 (by omega) _ (h6 6 (by omega) (hall _ (by omega)))
      rw [if_neg e36]
      by_cases e35 : 35 = i
      · rw [if_pos e35, ← e35]; exact gv 35 (by omega) _ (h5 6 (by omega) (hall _ (by omega)))
      rw [if_neg e35]
      by_cases e34 : 34 = i
      · rw [if_pos e34, ← e34]; exact gv 34 (by omega) _ (h6 5 (by omega) (hall _ (by omega)))
      rw [if_neg e34]
      by_cases e33 : 33 = i
      · rw [if_pos e33, ← e33]; exact gv 33 (by omega) _ (h5 5 (by omega) (hall _ (by omega)))
      rw [if_neg e33]
      by_cases e32 : 32 = i
      · rw [if_pos e32, ← e32]; exact gv 32 (by omega) _ (h6 4 (by omega) (hall _ (by omega)))
      rw [if_neg e32]
      by_cases e31 : 31 = i
      · rw [if_pos e31, ← e31]; exact gv 31 (by omega) _ (h5 4 (by omega) (hall _ (by omega)))
      rw [if_neg e31]
      by_cases e30 : 30 = i
      · rw [if_pos e30, ← e30]; exact gv 30 (by omega) _ (h6 3 (by omega) (hall _ (by omega)))
      rw [if_neg e30]
      by_cases e29 : 29 = i
      · rw [if_pos e29, ← e29]; exact gv 29 (by omega) _ (h5 3 (by omega) (hall _ (by omega)))
      rw [if_neg e29]
      by_cases e28 : 28 = i
      · rw [if_pos e28, ← e28]; exact gv 28 (by omega) _ (h6 2 (by omega) (hall _ (by omega)))
      rw [if_neg e28]
      by_cases e27 : 27 = i
      · rw [if_pos e27, ← e27]; exact gv 27 (by omega) _ (h5 2 (by omega) (hall _ (by omega)))
      rw [if_neg e27]
      by_cases e26 : 26 = i
      · rw [if_pos e26, ← e26]; exact gv 26 (by omega) _ (h6 1 (by omega) (hall _ (by omega)))
      rw [if_neg e26]
      by_cases e25 : 25 = i
      · rw [if_pos e25, ← e25]; exact gv 25 (by omega) _ (h5 1 (by omega) (hall _ (by omega)))
      rw [if_neg e25]
      by_cases e24 : 24 = i
      · rw [if_pos e24, ← e24]; exact gv 24 (by omega) _ (h6 0 (by omega) (hall _ (by omega)))
      rw [if_neg e24]
      by_cases e23 : 23 = i
      · rw [if_pos e23, ← e23]; exact gv 23 (by omega) _ (h5 0 (by omega) (hall _ (by omega)))
      rw [if_neg e23]
      by_cases e14 : 14 = i
      · rw [if_pos e14, ← e14]; exact gv 14 (by omega) _ (h7 7 (by omega) (hall _ (by omega))).1
      rw [if_neg e14]
      by_cases e13 : 13 = i
      · rw [if_pos e13, ← e13]; exact gv 13 (by omega) _ (h7 6 (by omega) (hall _ (by omega))).1
      rw [if_neg e13]
      by_cases e12 : 12 = i
      · rw [if_pos e12, ← e12]; exact gv 12 (by omega) _ (h7 5 (by omega) (hall _ (by omega))).1
      rw [if_neg e12]
      by_cases e11 : 11 = i
      · rw [if_pos e11, ← e11]; exact gv 11 (by omega) _ (h7 4 (by omega) (hall _ (by omega))).1
      rw [if_neg e11]
      by_cases e10 : 10 = i
      · rw [if_pos e10, ← e10]; exact gv 10 (by omega) _ (h7 3 (by omega) (hall _ (by omega))).1
      rw [if_neg e10]
      by_cases e9 : 9 = i
      · rw [if_pos e9, ← e9]; exact gv 9 (by omega) _ (h7 2 (by omega) (hall _ (by omega))).1
      rw [if_neg e9]
      by_cases e8 : 8 = i
      · rw [if_pos e8, ← e8]; exact gv 8 (by omega) _ (h7 1 (by omega) (hall _ (by omega))).1
      rw [if_neg e8]
      by_cases e7 : 7 = i
      · rw [if_pos e7, ← e7]; exact gv 7 (by omega) _ (h7 0 (by omega) (hall _ (by omega))).1
      rw [if_neg e7]
      have e := h4 i (by omega) (by omega)
      have hs : i < a0.tmps.size := by omega
      have := gv i hi _ e
      rw [this]
      unfold gt
      simp [hs]
    · rw [Array.getElem?_eq_none (by omega), Array.getElem?_eq_none (by simp; omega)]

theorem box_set {w : World} {b : Nat} {x : Value} {t : TypeId} (h : w.heap[b]? = some (.cells #[x] t)) (y : Value) : (w.setCell ⟨b, 0, none⟩ y).heap[b]? = some (.cells #[y] t) := by
  simp only [World.setCell, Array.getElem?_modify]
  rw [h]
  simp
theorem box_keep {w : World} {b c : Nat} {o : Obj} (h : w.heap[b]? = some o) (hne : b ≠ c) (y : Value) : (w.setCell ⟨c, 0, none⟩ y).heap[b]? = some o :=
  (Below.heap_setCell _ _ _ _ hne).trans h
theorem set8 {w : World} {B : Nat → Nat} {t : TypeId} (x v : Nat → Value) (hB : ∀ j, j < 8 → w.heap[B j]? = some (.cells #[x j] t)) (hne : ∀ j k, j < 8 → k < 8 → j ≠ k → B j ≠ B k) :
    (∀ j, j < 8 → ((((((((w.setCell ⟨B 0, 0, none⟩ (v 0)).setCell ⟨B 1, 0, none⟩ (v 1)).setCell ⟨B 2, 0, none⟩ (v 2)).setCell ⟨B 3, 0, none⟩ (v 3)).setCell ⟨B 4, 0, none⟩ (v 4)).setCell ⟨B 5, 0, none⟩ (v 5)).setCell ⟨B 6, 0, none⟩ (v 6)).setCell ⟨B 7, 0, none⟩ (v 7)).heap[B j]? = some (.cells #[v j] t)) ∧ Ch (fun i => ∃ j, j < 8 ∧ i = B j) w ((((((((w.setCell ⟨B 0, 0, none⟩ (v 0)).setCell ⟨B 1, 0, none⟩ (v 1)).setCell ⟨B 2, 0, none⟩ (v 2)).setCell ⟨B 3, 0, none⟩ (v 3)).setCell ⟨B 4, 0, none⟩ (v 4)).setCell ⟨B 5, 0, none⟩ (v 5)).setCell ⟨B 6, 0, none⟩ (v 6)).setCell ⟨B 7, 0, none⟩ (v 7)) := by
  have n : ∀ j k, j < 8 → k < 8 → j ≠ k → B j ≠ B k := hne
  refine ⟨fun j hj => ?_, ?_⟩
  · match j, hj with
    | 0, _ => exact box_keep (box_keep (box_keep (box_keep (box_keep (box_keep (box_keep (box_set (hB 0 (by omega)) _) (n 0 1 (by omega) (by omega) (by omega)) _) (n 0 2 (by omega) (by omega) (by omega)) _) (n 0 3 (by omega) (by omega) (by omega)) _) (n 0 4 (by omega) (by omega) (by omega)) _) (n 0 5 (by omega) (by omega) (by omega)) _) (n 0 6 (by omega) (by omega) (by omega)) _) (n 0 7 (by omega) (by omega) (by omega)) _
    | 1, _ => exact box_keep (box_keep (box_keep (box_keep (box_keep (box_keep (box_set (box_keep (hB 1 (by omega)) (n 1 0 (by omega) (by omega) (by omega)) _) _) (n 1 2 (by omega) (by omega) (by omega)) _) (n 1 3 (by omega) (by omega) (by omega)) _) (n 1 4 (by omega) (by omega) (by omega)) _) (n 1 5 (by omega) (by omega) (by omega)) _) (n 1 6 (by omega) (by omega) (by omega)) _) (n 1 7 (by omega) (by omega) (by omega)) _
    | 2, _ => exact box_keep (box_keep (box_keep (box_keep (box_keep (box_set (box_keep (box_keep (hB 2 (by omega)) (n 2 0 (by omega) (by omega) (by omega)) _) (n 2 1 (by omega) (by omega) (by omega)) _) _) (n 2 3 (by omega) (by omega) (by omega)) _) (n 2 4 (by omega) (by omega) (by omega)) _) (n 2 5 (by omega) (by omega) (by omega)) _) (n 2 6 (by omega) (by omega) (by omega)) _) (n 2 7 (by omega) (by omega) (by omega)) _
    | 3, _ => exact box_keep (box_keep (box_keep (box_keep (box_set (box_keep (box_keep (box_keep (hB 3 (by omega)) (n 3 0 (by omega) (by omega) (by omega)) _) (n 3 1 (by omega) (by omega) (by omega)) _) (n 3 2 (by omega) (by omega) (by omega)) _) _) (n 3 4 (by omega) (by omega) (by omega)) _) (n 3 5 (by omega) (by omega) (by omega)) _) (n 3 6 (by omega) (by omega) (by omega)) _) (n 3 7 (by omega) (by omega) (by omega)) _
    | 4, _ => exact box_keep (box_keep (box_keep (box_set (box_keep (box_keep (box_keep (box_keep (hB 4 (by omega)) (n 4 0 (by omega) (by omega) (by omega)) _) (n 4 1 (by omega) (by omega) (by omega)) _) (n 4 2 (by omega) (by omega) (by omega)) _) (n 4 3 (by omega) (by omega) (by omega)) _) _) (n 4 5 (by omega) (by omega) (by omega)) _) (n 4 6 (by omega) (by omega) (by omega)) _) (n 4 7 (by omega) (by omega) (by omega)) _
    | 5, _ => exact box_keep (box_keep (box_set (box_keep (box_keep (box_keep (box_keep (box_keep (hB 5 (by omega)) (n 5 0 (by omega) (by omega) (by omega)) _) (n 5 1 (by omega) (by omega) (by omega)) _) (n 5 2 (by omega) (by omega) (by omega)) _) (n 5 3 (by omega) (by omega) (by omega)) _) (n 5 4 (by omega) (by omega) (by omega)) _) _) (n 5 6 (by omega) (by omega) (by omega)) _) (n 5 7 (by omega) (by omega) (by omega)) _
    | 6, _ => exact box_keep (box_set (box_keep (box_keep (box_keep (box_keep (box_keep (box_keep (hB 6 (by omega)) (n 6 0 (by omega) (by omega) (by omega)) _) (n 6 1 (by omega) (by omega) (by omega)) _) (n 6 2 (by omega) (by omega) (by omega)) _) (n 6 3 (by omega) (by omega) (by omega)) _) (n 6 4 (by omega) (by omega) (by omega)) _) (n 6 5 (by omega) (by omega) (by omega)) _) _) (n 6 7 (by omega) (by omega) (by omega)) _
    | 7, _ => exact box_set (box_keep (box_keep (box_keep (box_keep (box_keep (box_keep (box_keep (hB 7 (by omega)) (n 7 0 (by omega) (by omega) (by omega)) _) (n 7 1 (by omega) (by omega) (by omega)) _) (n 7 2 (by omega) (by omega) (by omega)) _) (n 7 3 (by omega) (by omega) (by omega)) _) (n 7 4 (by omega) (by omega) (by omega)) _) (n 7 5 (by omega) (by omega) (by omega)) _) (n 7 6 (by omega) (by omega) (by omega)) _) _
  · exact Ch.setCell (S := fun i => ∃ j, j < 8 ∧ i = B j) (Ch.setCell (S := fun i => ∃ j, j < 8 ∧ i = B j) (Ch.setCell (S := fun i => ∃ j, j < 8 ∧ i = B j) (Ch.setCell (S := fun i => ∃ j, j < 8 ∧ i = B j) (Ch.setCell (S := fun i => ∃ j, j < 8 ∧ i = B j) (Ch.setCell (S := fun i => ∃ j, j < 8 ∧ i = B j) (Ch.setCell (S := fun i => ∃ j, j < 8 ∧ i = B j) (Ch.setCell (S := fun i => ∃ j, j < 8 ∧ i = B j) (Ch.refl _ w) (p := ⟨B 0, 0, none⟩) (fun _ => ⟨0, by omega, rfl⟩) _) (p := ⟨B 1, 0, none⟩) (fun _ => ⟨1, by omega, rfl⟩) _) (p := ⟨B 2, 0, none⟩) (fun _ => ⟨2, by omega, rfl⟩) _) (p := ⟨B 3, 0, none⟩) (fun _ => ⟨3, by omega, rfl⟩) _) (p := ⟨B 4, 0, none⟩) (fun _ => ⟨4, by omega, rfl⟩) _) (p := ⟨B 5, 0, none⟩) (fun _ => ⟨5, by omega, rfl⟩) _) (p := ⟨B 6, 0, none⟩) (fun _ => ⟨6, by omega, rfl⟩) _) (p := ⟨B 7, 0, none⟩) (fun _ => ⟨7, by omega, rfl⟩) _
theorem pre1 {w : World} {B : Nat → Nat} {t : TypeId} {x : Nat → Value} (hB : ∀ j, j < 8 → w.heap[B j]? = some (.cells #[x j] t)) (hne : ∀ j k, j < 8 → k < 8 → j ≠ k → B j ≠ B k) (v0 : Value) :
    (w.setCell ⟨B 0, 0, none⟩ v0).cell? ⟨B 1, 0, none⟩ = some (x 1) ∧ (w.setCell ⟨B 0, 0, none⟩ v0).frozen? ⟨B 1, 0, none⟩ = false := by
  have h : (w.setCell ⟨B 0, 0, none⟩ v0).heap[B 1]? = some (.cells #[x 1] t) := box_keep (hB 1 (by omega)) (hne 1 0 (by omega) (by omega) (by omega)) _
  constructor
  · simp [World.cell?, h ]
  · simp [World.frozen?, h]
theorem pre2 {w : World} {B : Nat → Nat} {t : TypeId} {x : Nat → Value} (hB : ∀ j, j < 8 → w.heap[B j]? = some (.cells #[x j] t)) (hne : ∀ j k, j < 8 → k < 8 → j ≠ k → B j ≠ B k) (v0 v1 : Value) :
    ((w.setCell ⟨B 0, 0, none⟩ v0).setCell ⟨B 1, 0, none⟩ v1).cell? ⟨B 2, 0, none⟩ = some (x 2) ∧ ((w.setCell ⟨B 0, 0, none⟩ v0).setCell ⟨B 1, 0, none⟩ v1).frozen? ⟨B 2, 0, none⟩ = false := by
  have h : ((w.setCell ⟨B 0, 0, none⟩ v0).setCell ⟨B 1, 0, none⟩ v1).heap[B 2]? = some (.cells #[x 2] t) := box_keep (box_keep (hB 2 (by omega)) (hne 2 0 (by omega) (by omega) (by omega)) _) (hne 2 1 (by omega) (by omega) (by omega)) _
  constructor
  · simp [World.cell?, h ]
  · simp [World.frozen?, h]
theorem pre3 {w : World} {B : Nat → Nat} {t : TypeId} {x : Nat → Value} (hB : ∀ j, j < 8 → w.heap[B j]? = some (.cells #[x j] t)) (hne : ∀ j k, j < 8 → k < 8 → j ≠ k → B j ≠ B k) (v0 v1 v2 : Value) :
    (((w.setCell ⟨B 0, 0, none⟩ v0).setCell ⟨B 1, 0, none⟩ v1).setCell ⟨B 2, 0, none⟩ v2).cell? ⟨B 3, 0, none⟩ = some (x 3) ∧ (((w.setCell ⟨B 0, 0, none⟩ v0).setCell ⟨B 1, 0, none⟩ v1).setCell ⟨B 2, 0, none⟩ v2).frozen? ⟨B 3, 0, none⟩ = false := by
  have h : (((w.setCell ⟨B 0, 0, none⟩ v0).setCell ⟨B 1, 0, none⟩ v1).setCell ⟨B 2, 0, none⟩ v2).heap[B 3]? = some (.cells #[x 3] t) := box_keep (box_keep (box_keep (hB 3 (by omega)) (hne 3 0 (by omega) (by omega) (by omega)) _) (hne 3 1 (by omega) (by omega) (by omega)) _) (hne 3 2 (by omega) (by omega) (by omega)) _
  constructor
  · simp [World.cell?, h ]
  · simp [World.frozen?, h]
theorem pre4 {w : World} {B : Nat → Nat} {t : TypeId} {x : Nat → Value} (hB : ∀ j, j < 8 → w.heap[B j]? = some (.cells #[x j] t)) (hne : ∀ j k, j < 8 → k < 8 → j ≠ k → B j ≠ B k) (v0 v1 v2 v3 : Value) :
    ((((w.setCell ⟨B 0, 0, none⟩ v0).setCell ⟨B 1, 0, none⟩ v1).setCell ⟨B 2, 0, none⟩ v2).setCell ⟨B 3, 0, none⟩ v3).cell? ⟨B 4, 0, none⟩ = some (x 4) ∧ ((((w.setCell ⟨B 0, 0, none⟩ v0).setCell ⟨B 1, 0, none⟩ v1).setCell ⟨B 2, 0, none⟩ v2).setCell ⟨B 3, 0, none⟩ v3).frozen? ⟨B 4, 0, none⟩ = false := by
  have h : ((((w.setCell ⟨B 0, 0, none⟩ v0).setCell ⟨B 1, 0, none⟩ v1).setCell ⟨B 2, 0, none⟩ v2).setCell ⟨B 3, 0, none⟩ v3).heap[B 4]? = some (.cells #[x 4] t) := box_keep (box_keep (box_keep (box_keep (hB 4 (by omega)) (hne 4 0 (by omega) (by omega) (by omega)) _) (hne 4 1 (by omega) (by omega) (by omega)) _) (hne 4 2 (by omega) (by omega) (by omega)) _) (hne 4 3 (by omega) (by omega) (by omega)) _
  constructor
  · simp [World.cell?, h ]
  · simp [World.frozen?, h]
theorem pre5 {w : World} {B : Nat → Nat} {t : TypeId} {x : Nat → Value} (hB : ∀ j, j < 8 → w.heap[B j]? = some (.cells #[x j] t)) (hne : ∀ j k, j < 8 → k < 8 → j ≠ k → B j ≠ B k) (v0 v1 v2 v3 v4 : Value) :
    (((((w.setCell ⟨B 0, 0, none⟩ v0).setCell ⟨B 1, 0, none⟩ v1).setCell ⟨B 2, 0, none⟩ v2).setCell ⟨B 3, 0, none⟩ v3).setCell ⟨B 4, 0, none⟩ v4).cell? ⟨B 5, 0, none⟩ = some (x 5) ∧ (((((w.setCell ⟨B 0, 0, none⟩ v0).setCell ⟨B 1, 0, none⟩ v1).setCell ⟨B 2, 0, none⟩ v2).setCell ⟨B 3, 0, none⟩ v3).setCell ⟨B 4, 0, none⟩ v4).frozen? ⟨B 5, 0, none⟩ = false := by
  have h : (((((w.setCell ⟨B 0, 0, none⟩ v0).setCell ⟨B 1, 0, none⟩ v1).setCell ⟨B 2, 0, none⟩ v2).setCell ⟨B 3, 0, none⟩ v3).setCell ⟨B 4, 0, none⟩ v4).heap[B 5]? = some (.cells #[x 5] t) := box_keep (box_keep (box_keep (box_keep (box_keep (hB 5 (by omega)) (hne 5 0 (by omega) (by omega) (by omega)) _) (hne 5 1 (by omega) (by omega) (by omega)) _) (hne 5 2 (by omega) (by omega) (by omega)) _) (hne 5 3 (by omega) (by omega) (by omega)) _) (hne 5 4 (by omega) (by omega) (by omega)) _
  constructor
  · simp [World.cell?, h ]
  · simp [World.frozen?, h]
theorem pre6 {w : World} {B : Nat → Nat} {t : TypeId} {x : Nat → Value} (hB : ∀ j, j < 8 → w.heap[B j]? = some (.cells #[x j] t)) (hne : ∀ j k, j < 8 → k < 8 → j ≠ k → B j ≠ B k) (v0 v1 v2 v3 v4 v5 : Value) :
    ((((((w.setCell ⟨B 0, 0, none⟩ v0).setCell ⟨B 1, 0, none⟩ v1).setCell ⟨B 2, 0, none⟩ v2).setCell ⟨B 3, 0, none⟩ v3).setCell ⟨B 4, 0, none⟩ v4).setCell ⟨B 5, 0, none⟩ v5).cell? ⟨B 6, 0, none⟩ = some (x 6) ∧ ((((((w.setCell ⟨B 0, 0, none⟩ v0).setCell ⟨B 1, 0, none⟩ v1).setCell ⟨B 2, 0, none⟩ v2).setCell ⟨B 3, 0, none⟩ v3).setCell ⟨B 4, 0, none⟩ v4).setCell ⟨B 5, 0, none⟩ v5).frozen? ⟨B 6, 0, none⟩ = false := by
  have h : ((((((w.setCell ⟨B 0, 0, none⟩ v0).setCell ⟨B 1, 0, none⟩ v1).setCell ⟨B 2, 0, none⟩ v2).setCell ⟨B 3, 0, none⟩ v3).setCell ⟨B 4, 0, none⟩ v4).setCell ⟨B 5, 0, none⟩ v5).heap[B 6]? = some (.cells #[x 6] t) := box_keep (box_keep (box_keep (box_keep (box_keep (box_keep (hB 6 (by omega)) (hne 6 0 (by omega) (by omega) (by omega)) _) (hne 6 1 (by omega) (by omega) (by omega)) _) (hne 6 2 (by omega) (by omega) (by omega)) _) (hne 6 3 (by omega) (by omega) (by omega)) _) (hne 6 4 (by omega) (by omega) (by omega)) _) (hne 6 5 (by omega) (by omega) (by omega)) _
  constructor
  · simp [World.cell?, h ]
  · simp [World.frozen?, h]
theorem pre7 {w : World} {B : Nat → Nat} {t : TypeId} {x : Nat → Value} (hB : ∀ j, j < 8 → w.heap[B j]? = some (.cells #[x j] t)) (hne : ∀ j k, j < 8 → k < 8 → j ≠ k → B j ≠ B k) (v0 v1 v2 v3 v4 v5 v6 : Value) :
    (((((((w.setCell ⟨B 0, 0, none⟩ v0).setCell ⟨B 1, 0, none⟩ v1).setCell ⟨B 2, 0, none⟩ v2).setCell ⟨B 3, 0, none⟩ v3).setCell ⟨B 4, 0, none⟩ v4).setCell ⟨B 5, 0, none⟩ v5).setCell ⟨B 6, 0, none⟩ v6).cell? ⟨B 7, 0, none⟩ = some (x 7) ∧ (((((((w.setCell ⟨B 0, 0, none⟩ v0).setCell ⟨B 1, 0, none⟩ v1).setCell ⟨B 2, 0, none⟩ v2).setCell ⟨B 3, 0, none⟩ v3).setCell ⟨B 4, 0, none⟩ v4).setCell ⟨B 5, 0, none⟩ v5).setCell ⟨B 6, 0, none⟩ v6).frozen? ⟨B 7, 0, none⟩ = false := by
  have h : (((((((w.setCell ⟨B 0, 0, none⟩ v0).setCell ⟨B 1, 0, none⟩ v1).setCell ⟨B 2, 0, none⟩ v2).setCell ⟨B 3, 0, none⟩ v3).setCell ⟨B 4, 0, none⟩ v4).setCell ⟨B 5, 0, none⟩ v5).setCell ⟨B 6, 0, none⟩ v6).heap[B 7]? = some (.cells #[x 7] t) := box_keep (box_keep (box_keep (box_keep (box_keep (box_keep (box_keep (hB 7 (by omega)) (hne 7 0 (by omega) (by omega) (by omega)) _) (hne 7 1 (by omega) (by omega) (by omega)) _) (hne 7 2 (by omega) (by omega) (by omega)) _) (hne 7 3 (by omega) (by omega) (by omega)) _) (hne 7 4 (by omega) (by omega) (by omega)) _) (hne 7 5 (by omega) (by omega) (by omega)) _) (hne 7 6 (by omega) (by omega) (by omega)) _
  constructor
  · simp [World.cell?, h ]
  · simp [World.frozen?, h]
end Go.Proofs.YtikdpiedjkailaaDoor
