/-
  A region that draws its order, whose operations leave the world as it is but for draws, WITHIN A ROUND of a range over a function, under the widest fence: by the walk outside a round.
-/
import Derived.Deep.QuietTactic
import Derived.RangeFuncNested
import Derived.OrdersIn
import Derived.Test.YtljllfdigfojdaaRegT
namespace Go.Proofs.Ytljllfdigfojdaa
open Go
section
variable {P : Program} {ops : Array Oper} {md : Region.Mode} {r n : Nat} {Q : Exit → Act → World → Prop}

theorem rowsIn_of {row : String} {args : Array Value} {w : World} {R : Value → World → Prop} (h : Rows P row args w R) : RowsIn (Fence.wide.inRound r) n P row args w R :=
  fun c cs _ => let ⟨v, w', hr, hs⟩ := h c cs; ⟨v, w', hr, stepsIn_wide.2 hs⟩

theorem operIn_of {o : Oper} {a : Act} {w : World} {K : Act → World → Prop} (hd : ∀ c, o.op ≠ .defer c) (h : o.wp P a w K Q) : o.wpIn (Fence.wide.inRound r) n P a w K Q := by
  refine ⟨fun _ _ => trivial, ?_⟩
  rw [Oper.semAt_eq _ _ _ hd]
  unfold Oper.wp at h
  generalize (execOp a.eval o).run P w = x at *
  cases x with
  | ok y w' =>
    cases y <;> simp only [Oper.upon] at h <;> simp only [Oper.uponIn]
    case value v => exact h
    case skip => exact h
    case defer d => exact h
    case enter f args => exact ⟨fun e => by simp [Fence.wide, Fence.inRound] at e, CallsIn.inRound r (callsIn_wide.2 h)⟩
    case row rw args => exact ⟨fun e => by simp [Fence.wide, Fence.inRound] at e, rowsIn_of h⟩
  | halt y w' => cases y <;> simp only [Oper.upon] at h <;> simp only [Oper.uponIn] <;> exact h

theorem anyIn_of (hd : ∀ (i : Nat) o, ops[i]? = some o → ∀ c, o.op ≠ .defer c) (hQ : ¬ LetsOut Q) : ∀ (fuel : Nat) (L : Array Bool) (a : Act) (w : World), wpAny P md ops Q fuel L a w → wpAnyIn (Fence.wide.inRound r) n P md ops Q fuel L a w
  | 0, _, _, _, h => h
  | fuel + 1, L, a, w, h => by
    refine ⟨h.1, fun i hi => ?_⟩
    have h2 := h.2 i hi
    unfold wpOp at h2
    unfold wpOpIn
    cases ho : ops[i]? with
    | none => rw [ho] at h2; exact anyIn_of hd hQ fuel _ a w h2
    | some o =>
      rw [ho] at h2
      simp only at h2 ⊢
      split
      · rename_i hw
        rw [if_pos hw] at h2
        rcases h2 with h2 | h2
        · exact Oper.wpIn_mono (fun a' w' h' => anyIn_of hd hQ fuel _ a' w' h') (operIn_of (hd i o ho) h2)
        · exact (hQ h2.2).elim
      · rename_i hw
        rw [if_neg hw] at h2
        exact ⟨fun _ _ => trivial, anyIn_of hd hQ fuel _ _ w h2⟩

def noDefer (ops : Array Oper) : Bool := ops.toList.all fun o => match o.op with | .defer _ => false | _ => true
theorem noDefer_spec (h : noDefer ops = true) (i : Nat) (o : Oper) (ho : ops[i]? = some o) (c : Call) : o.op ≠ .defer c := by
  intro e
  unfold noDefer at h
  rw [List.all_eq_true] at h
  have h1 := h o (by have := Array.mem_of_getElem? ho; simpa using this)
  rw [e] at h1
  cases h1

theorem region_round {id : Nat} {a : Act} {w : World} {l : List Oper} (hm : P.follows .mixedOrders = true) (hB : Region.lexB .any l.toArray = true) (hd : noDefer l.toArray = true)
    (h : wpQuiet P l.toArray (fun w' => ∃ k, w' = w.drewN k) (fun a' => ∀ w', (∃ k, w' = w.drewN k) → Q .normal a' w') l a) : (Code.region id l.toArray true).wpIn (Fence.wide.inRound r) n P Q a w := by
  refine wpIn_mono (Q := fun e a w => e = .normal ∧ Q .normal a w) ?_ (fun e a w hq => by obtain ⟨rfl, hq⟩ := hq; exact hq)
  refine wpIn_region_any hm (anyIn_of (noDefer_spec hd) (fun h => by obtain ⟨_, _, h, _⟩ := h; cases h) _ _ _ _ ?_)
  simp only [Region.lexB, Bool.and_eq_true] at hB
  refine wpAny_of_quiet (C := fun w' => ∃ k, w' = w.drewN k) (Q := fun a' => ∀ w', (∃ k, w' = w.drewN k) → Q .normal a' w') (fun _ w' hw' h => ⟨rfl, h w' hw'⟩) _ _ _ _ ⟨1, rfl⟩ ?_
  have := wpAnyQ_lex (C := fun w' => ∃ k, w' = w.drewN k) (md := .any) hB.1 l 0 (Array.replicate l.toArray.size false) a (by simp) (by simpa using hB.2) h
  simpa using this
theorem region_round' {id : Nat} {a : Act} {w : World} (q : Nat) {l : List Oper} (hm : P.follows .mixedOrders = true) (hB : Region.lexB .any l.toArray = true) (hd : noDefer l.toArray = true)
    (h : wpQuiet P l.toArray (fun w' => ∃ k, w' = w.drewN k) (fun a' => ∀ w', (∃ k, w' = w.drewN k) → Q .normal a' w') l a) : (Code.region id l.toArray true).wpIn (Fence.wide.inRound r) n P Q a (w.drewN q) := by
  refine wpIn_mono (Q := fun e a w => e = .normal ∧ Q .normal a w) ?_ (fun e a w hq => by obtain ⟨rfl, hq⟩ := hq; exact hq)
  refine wpIn_region_any hm (anyIn_of (noDefer_spec hd) (fun h => by obtain ⟨_, _, h, _⟩ := h; cases h) _ _ _ _ ?_)
  simp only [Region.lexB, Bool.and_eq_true] at hB
  refine wpAny_of_quiet (C := fun w' => ∃ k, w' = w.drewN k) (Q := fun a' => ∀ w', (∃ k, w' = w.drewN k) → Q .normal a' w') (fun _ w' hw' h => ⟨rfl, h w' hw'⟩) _ _ _ _ ⟨q + 1, rfl⟩ ?_
  have := wpAnyQ_lex (C := fun w' => ∃ k, w' = w.drewN k) (md := .any) hB.1 l 0 (Array.replicate l.toArray.size false) a (by simp) (by simpa using hB.2) h
  simpa using this
end
end Go.Proofs.Ytljllfdigfojdaa
/- Operations and regions within a round of a range over a function, and ahead of a yield, by the walk outside. -/
namespace Go.Proofs.Ytljllfdigfojdaa
open Go Go.RowKit
section
variable {P : Program} {ops : Array Oper} {r n : Nat} {Q : Exit → Act → World → Prop}

theorem operW_of {o : Oper} {a : Act} {w : World} {K : Act → World → Prop} (hd : ∀ c, o.op ≠ .defer c) (h : o.wp P a w K Q) : o.wpIn Fence.wide n P a w K Q := by
  refine ⟨fun _ _ => trivial, ?_⟩
  rw [Oper.semAt_eq _ _ _ hd]
  unfold Oper.wp at h
  generalize (execOp a.eval o).run P w = x at *
  cases x with
  | ok y w' =>
    cases y <;> simp only [Oper.upon] at h <;> simp only [Oper.uponIn]
    case value v => exact h
    case skip => exact h
    case defer d => exact h
    case enter f args => exact ⟨fun e => by simp [Fence.wide] at e, callsIn_wide.2 h⟩
    case row rw args => exact ⟨fun e => by simp [Fence.wide] at e, fun c cs _ => let ⟨v, w', hr, hs⟩ := h c cs; ⟨v, w', hr, stepsIn_wide.2 hs⟩⟩
  | halt y w' => cases y <;> simp only [Oper.upon] at h <;> simp only [Oper.uponIn] <;> exact h
theorem wpListW_load_at {w : World} {rest : List Oper} {o : Oper} {a : Act} (hgd : o.guard = none) (ty : TypeId) (x : Operand) (ho : o.op = .load ty x) (ad : Addr) (hx : a.eval x = .pointer (some ad)) (v : Value)
    (hl : (loadVar ty ad).run P w = .ok v w) (h : wpListIn Fence.wide n P ops Q rest (a.put o.dst v) w) : wpListIn Fence.wide n P ops Q (o :: rest) a w :=
  wpListIn_plain hgd fun K hK => operW_of (fun c e => by rw [ho] at e; cases e) (wp_load_at ty x ho ad hx v hl (hK _ _ h))
theorem wpListR_load_at {w : World} {rest : List Oper} {o : Oper} {a : Act} (hgd : o.guard = none) (ty : TypeId) (x : Operand) (ho : o.op = .load ty x) (ad : Addr) (hx : a.eval x = .pointer (some ad)) (v : Value)
    (hl : (loadVar ty ad).run P w = .ok v w) (h : wpListIn (Fence.wide.inRound r) n P ops Q rest (a.put o.dst v) w) : wpListIn (Fence.wide.inRound r) n P ops Q (o :: rest) a w :=
  wpListIn_plain hgd fun K hK => operIn_of (fun c e => by rw [ho] at e; cases e) (wp_load_at ty x ho ad hx v hl (hK _ _ h))
/-- One operation within a round, by any law of the walk outside. -/
theorem wpListR_of {w : World} {rest : List Oper} {o : Oper} {a : Act} (hgd : o.guard = none) (hd : ∀ c, o.op ≠ .defer c) (h : ∀ K : Act → World → Prop, (∀ a w, wpListIn (Fence.wide.inRound r) n P ops Q rest a w → K a w) → o.wp P a w K Q) :
    wpListIn (Fence.wide.inRound r) n P ops Q (o :: rest) a w :=
  wpListIn_plain hgd fun K hK => operIn_of hd (h K hK)

theorem wpR_region_open_tail {id : Nat} {a : Act} {w : World} {l : List Oper} (k : Nat) (J : Array Bool → Act → World → Prop) (hm : P.follows .mixedOrders = true) (hB : openB .any l.toArray k = true) (hd : noDefer l.toArray = true)
    (h0 : J (Array.replicate l.toArray.size false) a { w with drawn := w.drawn + 1 })
    (hstep : ∀ L a w i, J L a w → i ∈ Region.ready .any l.toArray L → i < k → wpOp P l.toArray (fun e a w => e = .normal ∧ Q .normal a w) i (J (L.setIfInBounds i true)) a w)
    (hend : ∀ L a w, J L a w → (∀ i, i < k → lg L i = true) → wpList P l.toArray (fun e a w => e = .normal ∧ Q .normal a w) (l.drop k) a w) : (Code.region id l.toArray true).wpIn (Fence.wide.inRound r) n P Q a w := by
  refine wpIn_mono (Q := fun e a w => e = .normal ∧ Q .normal a w) ?_ (fun e a w hq => by obtain ⟨rfl, hq⟩ := hq; exact hq)
  have hn : k < l.toArray.size := by
    simp only [openB, Bool.and_eq_true, decide_eq_true_eq] at hB; exact hB.1.1.1.1
  have inv0 : HeadInv .any l.toArray k (Array.replicate l.toArray.size false) :=
    ⟨by simp, fun j oj _ hl => (by rw [getD_replicate_false] at hl; cases hl), fun t _ ht => getD_in (by simpa using ht) (getD_replicate_false _ _)⟩
  have := open_run J hB hstep hend k (Array.replicate l.toArray.size false) a { w with drawn := w.drawn + 1 } inv0 (by
    rw [Array.toList_replicate, List.take_replicate, List.countP_replicate]
    simp; have : k < l.length := by simpa using hn
    omega) h0
  rw [show k + (l.toArray.size - k) = l.toArray.size by omega] at this
  exact wpIn_region_any hm (anyIn_of (noDefer_spec hd) (fun h => by obtain ⟨_, _, h, _⟩ := h; cases h) _ _ _ _ this)
end
end Go.Proofs.Ytljllfdigfojdaa
