/- A region whose first operations come up in whatever order, and whose last ones come in one order behind all of these. -/
import Derived.Test.YtljllfdigfojdaaRegP
import Derived.StillTail
namespace Go.Proofs.Ytljllfdigfojdaa
open Go Go.RowKit

structure InvQ (S : Nat) (l : List (Nat × Said)) (I : Array Bool → World → Prop) (a0 : Act) (L : Array Bool) (a : Act) (w : World) : Prop where
  size : a.tmps.size = S
  lsize : l.length ≤ L.size
  defers : a.defers = a0.defers
  fixed : ∀ k, k ∉ l.map (·.1) → gt a k = gt a0 k
  val : ∀ (j : Nat) p, l[j]? = some p → lg L j = true → p.2 (gt a p.1) w
  wld : I L w

section
variable {S : Nat} {l : List (Nat × Said)} {I : Array Bool → World → Prop} {a0 : Act} {L : Array Bool} {a : Act} {w : World}
theorem InvQ.start {n : Nat} (hn : l.length ≤ n) (h : a0.tmps.size = S) (hw : I (Array.replicate n false) w) : InvQ S l I a0 (Array.replicate n false) a0 w :=
  ⟨h, by simpa using hn, rfl, fun _ _ => rfl, fun j _ _ e => (lg_none' _ _ e).elim, hw⟩
theorem InvQ.put (h : InvQ S l I a0 L a w) (j : Nat) {d : Nat} {R : Said} {v : Value} (hj : l[j]? = some (d, R)) (hd : d < S) (hn : (l.map (·.1)).Nodup) (hl : Lasts l) {w' : World} (hc : Ch (fun _ => False) w w') (hR : R v w') (hw : I (L.setIfInBounds j true) w') : InvQ S l I a0 (L.setIfInBounds j true) (a.put (some d) v) w' := by
  obtain ⟨h1, h2, h3, h4, h5, h6⟩ := h
  have hjl : j < l.length := (List.getElem?_eq_some_iff.1 hj).1
  have g := fun k v => gt_put a d k v (by omega)
  have lL := fun k => lg_set L j k (by omega)
  refine ⟨by simpa [Act.put] using h1, by simpa using h2, h3, fun k e1 => ?_, fun k p hp e => ?_, hw⟩
  · have hk : k ≠ d := fun e => e1 (by subst e; exact List.mem_map.2 ⟨_, List.mem_of_getElem? hj, rfl⟩)
    rw [g, if_neg hk]; exact h4 k e1
  · rw [g]
    by_cases hkj : k = j
    · subst hkj; rw [hj] at hp; cases hp; rw [if_pos rfl]; exact hR
    · have hne : p.1 ≠ d := fun e' => by
        have hk : k < l.length := (List.getElem?_eq_some_iff.1 hp).1
        have h1 : (l.map (·.1))[k]? = some p.1 := by rw [List.getElem?_map, hp]; rfl
        have h2 : (l.map (·.1))[j]? = some d := by rw [List.getElem?_map, hj]; rfl
        rw [e'] at h1
        exact hkj ((List.getElem?_inj (by simpa using hk) hn).1 (h1.trans h2.symm))
      rw [if_neg hne]; rw [lL, if_neg hkj] at e
      exact hl p (List.mem_of_getElem? hp) _ _ _ hc (h5 k p hp e)
theorem InvQ.frame (h : InvQ S l I a0 L a w) (h0 : a0.tmps.size = S) (hl : ∀ p ∈ l, p.1 < S) (hall : ∀ i, i < l.length → lg L i = true) : a = ⟨(l.map (·.1)).foldl (fun t p => t.setIfInBounds p (gt a p)) a0.tmps, a0.defers⟩ := by
  obtain ⟨h1, h2, h3, h4, h5, h6⟩ := h
  have key : a.tmps = (l.map (·.1)).foldl (fun t p => t.setIfInBounds p (gt a p)) a0.tmps := by
    apply Array.ext_getElem?
    intro k
    have hg : ∀ (t : Array Value) (k : Nat), k < t.size → t[k]? = some (t[k]?.getD undef) := fun t k hk => by rw [Array.getElem?_eq_getElem hk]; rfl
    by_cases hk : k < S
    · refine Eq.trans (hg a.tmps k (by omega)) (Eq.trans (congrArg some (?_ : a.tmps[k]?.getD undef = ((l.map (·.1)).foldl (fun t p => t.setIfInBounds p (gt a p)) a0.tmps)[k]?.getD undef)) (hg _ k (by rw [fold_gt_size]; omega)).symm)
      rw [fold_gt (gt a) k (l.map (·.1)) a0.tmps (fun p hp => by
        obtain ⟨q, hq, rfl⟩ := List.mem_map.1 hp
        rw [h0]; exact hl q hq)]
      by_cases e : k ∈ l.map (·.1)
      · rw [if_pos e]; rfl
      · rw [if_neg e]; exact h4 k e
    · rw [Array.getElem?_eq_none (by omega), Array.getElem?_eq_none (by rw [fold_gt_size]; omega)]
  obtain ⟨tm, df⟩ := a
  simp only at h3 key
  subst h3
  exact congrArg (fun t => Act.mk t _) key
end

def firstN (s n : Nat) : Array Bool := ((List.range s).map fun i => decide (i < n)).toArray
def openB (md : Region.Mode) (ops : Array Oper) (n : Nat) : Bool :=
  decide (n < ops.size) && Region.sinkB md ops n && Region.chainB md ops n && acyc md ops && Region.seqB md ops (ops.size - n) n (firstN ops.size n)

theorem open_run {P : Program} {md : Region.Mode} {l : List Oper} {Q : Exit → Act → World → Prop} {n : Nat} (J : Array Bool → Act → World → Prop) (hB : openB md l.toArray n = true)
    (hstep : ∀ L a w i, J L a w → i ∈ Region.ready md l.toArray L → i < n → wpOp P l.toArray Q i (J (L.setIfInBounds i true)) a w)
    (hend : ∀ L a w, J L a w → (∀ i, i < n → lg L i = true) → wpList P l.toArray Q (l.drop n) a w) :
    ∀ (f : Nat) L a w, HeadInv md l.toArray n L → (L.toList.take n).countP (· == false) = f → J L a w → wpAny P md l.toArray Q (f + (l.toArray.size - n)) L a w := by
  simp only [openB, Bool.and_eq_true, decide_eq_true_eq] at hB
  obtain ⟨⟨⟨⟨hn, hs⟩, hc⟩, hac⟩, hseq⟩ := hB
  intro f
  induction f with
  | zero =>
    intro L a w inv hcnt hJ
    have hall : ∀ i, i < n → lg L i = true := fun i hi => by
      rw [List.countP_eq_zero] at hcnt
      have hil : i < L.size := by rw [inv.size]; omega
      have h1 := hcnt L[i] (by
        refine List.mem_of_getElem? (i := i) ?_
        rw [List.getElem?_take, if_pos hi]; simp [hil])
      unfold lg
      rw [Array.getElem?_eq_getElem hil]
      simpa using h1
    have hL : L = firstN l.toArray.size n := by
      apply Array.ext_getElem?
      intro i
      by_cases hi : i < l.toArray.size
      · have hil : i < L.size := by rw [inv.size]; exact hi
        have e : (firstN l.toArray.size n)[i]? = some (decide (i < n)) := by
          unfold firstN
          rw [List.getElem?_toArray, List.getElem?_map, List.getElem?_range hi]; rfl
        rw [e, Array.getElem?_eq_getElem hil]
        by_cases hin : i < n
        · have := hall i hin
          unfold lg at this
          rw [Array.getElem?_eq_getElem hil] at this
          simp [hin]; simpa using this
        · have := inv.tail i (by omega) hi
          rw [Array.getD_eq_getD_getElem?, Array.getElem?_eq_getElem hil] at this
          simp [hin]; simpa using this
      · rw [Array.getElem?_eq_none (by rw [inv.size]; omega), Array.getElem?_eq_none (by unfold firstN; simp at hi ⊢; exact hi)]
    have hdl : (l.drop n).length = l.toArray.size - n := by simp
    have := wpAny_of_seq (P := P) (md := md) (Q' := Q) (l.drop n) n L a w (fun j => by simp [List.getElem?_drop]) (by rw [hdl, hL]; exact hseq) (hend L a w hJ hall)
    rwa [hdl, ← Nat.zero_add (l.toArray.size - n)] at this
  | succ f ih =>
    intro L a w inv hcnt hJ
    have hex : ∃ i, i < n ∧ L.getD i true = false := by
      have h0 : 0 < (L.toList.take n).countP (· == false) := by omega
      obtain ⟨b, hb, hbf⟩ := List.countP_pos_iff.1 h0
      obtain ⟨i, hi⟩ := List.mem_iff_getElem?.1 hb
      rw [List.getElem?_take] at hi
      split at hi
      · rename_i hin
        refine ⟨i, hin, ?_⟩
        rw [Array.getD_eq_getD_getElem?]
        rw [Array.getElem?_toList] at hi
        rw [hi]; simpa using hbf
      · cases hi
    obtain ⟨i0, hi0, hun⟩ := hex
    rw [show f + 1 + (l.toArray.size - n) = (f + (l.toArray.size - n)) + 1 by omega]
    refine ⟨fun hr => ?_, fun i hr => ?_⟩
    · have := all_listed' hac inv.size hr i0 (by omega)
      rw [Array.getD_eq_getD_getElem?] at hun
      cases hx : L[i0]? with
      | none => rw [hx] at hun; simp at hun
      | some b => rw [hx] at hun this; simp at hun this; rw [hun] at this; cases this
    · have hin : i < n := Nat.lt_of_not_le fun h => tail_waits hs hc hn inv _ i0 rfl hi0 hun i h hr
      have hil : i < L.size := by rw [inv.size]; omega
      have hfalse : L[i] = false := by
        have := (mem_ready.1 hr).1
        rw [Array.getD_eq_getD_getElem?, Array.getElem?_eq_getElem hil] at this
        simpa using this
      refine wpOp_mono (fun a' w' hI => ih _ a' w' (inv.set hr hin) ?_ hI) (hstep L a w i hJ hr hin)
      have hlt : i < (L.toList.take n).length := by simp; omega
      have he : (L.toList.take n)[i] = false := by simp [hfalse]
      rw [Array.toList_setIfInBounds, List.take_set, List.countP_set hlt]
      simp [he]
      simp at hcnt
      omega

/-- The law. -/
theorem wp_region_open_tail {P : Program} {id : Nat} {Q : Exit → Act → World → Prop} {a : Act} {w : World} {l : List Oper} (n : Nat) (J : Array Bool → Act → World → Prop) (hm : P.follows .mixedOrders = true) (hB : openB .any l.toArray n = true)
    (h0 : J (Array.replicate l.toArray.size false) a { w with drawn := w.drawn + 1 })
    (hstep : ∀ L a w i, J L a w → i ∈ Region.ready .any l.toArray L → i < n → wpOp P l.toArray Q i (J (L.setIfInBounds i true)) a w)
    (hend : ∀ L a w, J L a w → (∀ i, i < n → lg L i = true) → wpList P l.toArray Q (l.drop n) a w) : (Code.region id l.toArray true).wp P Q a w := by
  have hn : n < l.toArray.size := by
    simp only [openB, Bool.and_eq_true, decide_eq_true_eq] at hB; exact hB.1.1.1.1
  refine wp_region_any hm ?_
  have inv0 : HeadInv .any l.toArray n (Array.replicate l.toArray.size false) :=
    ⟨by simp, fun j oj _ hl => (by rw [getD_replicate_false] at hl; cases hl), fun t _ ht => getD_in (by simpa using ht) (getD_replicate_false _ _)⟩
  have := open_run J hB hstep hend n (Array.replicate l.toArray.size false) a { w with drawn := w.drawn + 1 } inv0 (by
    rw [Array.toList_replicate, List.take_replicate, List.countP_replicate]
    simp; have : n < l.length := by simpa using hn
    omega) h0
  rwa [show n + (l.toArray.size - n) = l.toArray.size by omega] at this
theorem wp_load_at {P : Program} {o : Oper} {a : Act} {w : World} {K : Act → World → Prop} {Q : Exit → Act → World → Prop} (ty : TypeId) (x : Operand) (ho : o.op = .load ty x) (ad : Addr) (hx : a.eval x = .pointer (some ad)) (v : Value)
    (hl : (loadVar ty ad).run P w = .ok v w) (h : K (a.put o.dst v) w) : o.wp P a w K Q := by
  unfold Oper.wp execOp
  simp only [ho, hx, Instr.loadAt, Instr.sureAddr, Sem.run_bind, Sem.run_pure, Result.andThen_ok, hl]
  exact h
end Go.Proofs.Ytljllfdigfojdaa
