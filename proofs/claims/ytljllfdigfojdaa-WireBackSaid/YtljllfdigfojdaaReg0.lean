/- A region that draws its order, by an invariant of which operations have come up. -/
import Derived.Test.YtljllfdigfojdaaMath
namespace Go.Proofs.Ytljllfdigfojdaa
open Go Go.RowKit
section
variable {P : Program} {ops : Array Oper} {Q : Exit → Act → World → Prop} {md : Region.Mode}

theorem wpAny_inv (Inv : Array Bool → Act → World → Prop) (hstep : ∀ L a w i, Inv L a w → i ∈ Region.ready md ops L → wpOp P ops Q i (Inv (L.setIfInBounds i true)) a w)
    (hend : ∀ L a w, Inv L a w → Region.ready md ops L = [] → Q .normal a w) (fuel : Nat) :
    ∀ L a w, L.size = ops.size → L.toList.countP (· == false) ≤ fuel → Inv L a w → wpAny P md ops Q fuel L a w := by
  induction fuel with
  | zero =>
    intro L a w hs hc hi
    have hr : Region.ready md ops L = [] := by
      refine List.eq_nil_iff_forall_not_mem.2 fun j hj => ?_
      obtain ⟨h1, o, ho, _⟩ := mem_ready.1 hj
      have hjs : j < L.size := by rw [hs]; exact (Array.getElem?_eq_some_iff.1 ho).1
      have h2 : L.toList.countP (· == false) = 0 := by omega
      rw [List.countP_eq_zero] at h2
      have h3 := h2 L[j] (by simp)
      simp [hjs] at h1
      simp [h1] at h3
    exact ⟨hr, hend L a w hi hr⟩
  | succ fuel ih =>
    intro L a w hs hc hi
    refine ⟨hend L a w hi, fun i hr => wpOp_mono (fun a' w' hi' => ih _ a' w' (by simpa using hs) ?_ hi') (hstep L a w i hi hr)⟩
    obtain ⟨h1, o, ho, _⟩ := mem_ready.1 hr
    have hjs : i < L.size := by rw [hs]; exact (Array.getElem?_eq_some_iff.1 ho).1
    have h2 : L[i] = false := by simpa [hjs] using h1
    have hpos : 0 < L.toList.countP (· == false) := List.countP_pos_iff.2 ⟨L[i], by simp, by simp [h2]⟩
    rw [Array.toList_setIfInBounds, List.countP_set (by simpa using hjs)]
    simp [h2]
    simp at hc hpos
    omega

theorem all_listed {L : Array Bool} (hac : ∀ i o e, ops[i]? = some o → e ∈ o.after → Region.binds md e = true → e.on < i) (hs : L.size = ops.size) (hr : Region.ready md ops L = []) : ∀ i, i < ops.size → L[i]?.getD false = true := by
  intro i
  induction i using Nat.strongRecOn with
  | _ i ih =>
    intro hi
    cases h : L[i]?.getD false with
    | true => rfl
    | false =>
      have : i ∈ Region.ready md ops L := by
        refine mem_ready.2 ⟨?_, ops[i], by simp [hi], fun e he hb => ?_⟩
        · have : i < L.size := by omega
          simp [this] at h ⊢; exact h
        · have h1 := hac i _ e (by simp [hi]) he hb
          have h2 := ih e.on h1 (by omega)
          simpa using h2
      rw [hr] at this; cases this

def acyc (md : Region.Mode) (ops : Array Oper) : Bool := (List.range ops.size).all fun i => match ops[i]? with | some o => o.after.all (fun e => !Region.binds md e || decide (e.on < i)) | none => true
theorem all_listed' {L : Array Bool} (h : acyc md ops = true) (hs : L.size = ops.size) (hr : Region.ready md ops L = []) : ∀ i, i < ops.size → L[i]?.getD false = true := by
  refine all_listed (fun i o e ho he hb => ?_) hs hr
  unfold acyc at h
  rw [List.all_eq_true] at h
  have h1 := h i (List.mem_range.2 (Array.getElem?_eq_some_iff.1 ho).1)
  rw [ho] at h1
  simp only at h1
  have h2 := Array.all_eq_true'.1 h1 e he
  simpa [hb] using h2

theorem wpOp_of {i : Nat} {o : Oper} {K : Act → World → Prop} {a : Act} {w : World} (ho : ops[i]? = some o) (hg : o.guard = none) (h : o.wp P a w K Q) : wpOp P ops Q i K a w := by
  unfold wpOp
  simp only [ho]
  rw [if_pos (by simp [Region.wanted, hg])]
  exact .inl h
end

def gt (a : Act) (k : Nat) : Value := a.tmps[k]?.getD undef
def lg (L : Array Bool) (i : Nat) : Bool := L[i]?.getD false
theorem gt_put (a : Act) (d k : Nat) (v : Value) (hd : d < a.tmps.size) : gt (a.put (some d) v) k = if k = d then v else gt a k := by
  unfold gt Act.put
  simp only [Array.getElem?_setIfInBounds]
  by_cases h : k = d
  · subst h; simp [hd]
  · rw [if_neg (Ne.symm h), if_neg h]
theorem lg_set (L : Array Bool) (i j : Nat) (hi : i < L.size) : lg (L.setIfInBounds i true) j = if j = i then true else lg L j := by
  unfold lg
  simp only [Array.getElem?_setIfInBounds]
  by_cases h : j = i
  · subst h; simp [hi]
  · rw [if_neg (Ne.symm h), if_neg h]

end Go.Proofs.Ytljllfdigfojdaa
