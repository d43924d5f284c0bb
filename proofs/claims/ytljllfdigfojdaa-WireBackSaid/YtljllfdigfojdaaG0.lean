/- A range over a function, told by what the iterator hands over: numbered hands. -/
import Derived.Test.YtljllfdigfojdaaV13
import Derived.Laws.EntriesVeiled
import Derived.RangeFuncNested
import Derived.RangeFuncBound
import Derived.RangeFuncCalls
import Derived.RangeFuncLeaves
import Derived.OwnWalkIn
import Derived.TacticsInMore
import Derived.LoopNIn
import Derived.LoopIn
import Derived.Sort.QuietTacIn
import Derived.Shelf.Abstract
namespace Go.Proofs.Ytljllfdigfojdaa
open Go Go.RowKit

/-- What an iterator hands over: by VP of the t-th round; a round may change what Own names, which lies behind all that was there ahead of the iterator. -/
structure Hands (VP : Nat → Nat → Array Value → World → Prop) (Own : Array Value → Nat → Prop) : Prop where
  keep : ∀ base t vt A B, VP base t vt A → Ch (fun k => k < base) A B → VP base t vt B
  own : ∀ base t vt A k, VP base t vt A → Own vt k → base ≤ k
/-- The iterator g, having captured lb, hands over N times, till a round says 'no more'; where fin, the last round surely says so. Rounds leave what Keep and Chg name; the iterator changes nothing that is older but what Chg names. -/
def GivesP (g : FuncId) (lb : Array Value) (VP : Nat → Nat → Array Value → World → Prop) (Own : Array Value → Nat → Prop) (N : Nat) (fin : Prop) (Keep Chg : Nat → Prop) (Rd : World → Prop) : Prop :=
  ∀ (l : Nat) (W : World) (S : Nat → Prop) (J : Nat → World → Prop) (Jx : World → Prop), (∀ k, S k → k < W.heap.size ∧ ¬ Keep k ∧ ¬ Chg k) → (∀ k, Keep k ∨ Chg k → k < W.heap.size) → (fin → ∀ A, ¬ J N A) →
    (∀ t A B, J t A → Ch (fun k => W.heap.size ≤ k ∨ Chg k) A B → J t B) → (∀ A B, Jx A → Ch (fun k => W.heap.size ≤ k ∨ Chg k) A B → Jx B) →
    (∀ t A, J t A → W.heap.size ≤ A.heap.size) → Rd W → J 0 W →
    (∀ t vt W1, t < N → VP W.heap.size t vt W1 → J t W1 → YieldAt Fence.wide 0 Try.prog l vt W1 fun e W' => (e = .returned (.bool true) ∧ J (t + 1) W' ∧ Ch (fun k => S k ∨ Own vt k) W1 W') ∨ (e = .returned (.bool false) ∧ Jx W' ∧ Ch (fun k => S k ∨ Own vt k) W1 W')) →
    CallsIn Fence.wide 0 Try.prog g (#[.func (.yield l) #[] #[]] ++ lb) W fun e W' => (∃ v, e = .returned v) ∧ (J N W' ∨ Jx W')

set_option maxHeartbeats 1000000 in
theorem range_gives {a : Act} {w : World} {g : Operand} {ps : Array Tmp} {assign body : Code} {Q : Exit → Act → World → Prop} {gf : FuncId} {lb : Array Value} {VP : Nat → Nat → Array Value → World → Prop} {Own : Array Value → Nat → Prop} {N : Nat} {fin : Prop} {Keep Chg : Nat → Prop} {Rd : World → Prop}
    (hG : GivesP gf lb VP Own N fin Keep Chg Rd) (hH : Hands VP Own) (eg : ∀ args w, (callFunc gf args).run Try.prog w = .ok (.enter gf args) w)
    (hg : a.eval g = .func (.func gf) #[] lb) (hps : ∀ base t vt A, VP base t vt A → vt.size = ps.size)
    (S : Nat → Prop) (hSw : ∀ k, S k → k < w.heap.size ∧ ¬ Keep k ∧ ¬ Chg k) (hKC : ∀ k, Keep k ∨ Chg k → k < w.heap.size)
    (I : Nat → World → Prop) (Ix : Code → World → Prop)
    (hfin : fin → ∀ A, ¬ I N A)
    (hI : ∀ t A B, I t A → Ch (fun k => w.heap.size ≤ k ∨ Chg k) A B → I t B) (hIx : ∀ c A B, Ix c A → Ch (fun k => w.heap.size ≤ k ∨ Chg k) A B → Ix c B)
    (hRd : ∀ B, Ch (fun _ => False) w B → Rd B) (h0 : I 0 w)
    (a₁ : Array Value → Act)
    (hassign : ∀ l base t vt W (K : Act → World → Prop), VP base t vt W → K (a₁ vt) W → assign.wpIn (Fence.wide.inRound l) 0 Try.prog (Exit.then K (fun _ _ _ => False))
      { tmps := (ps.zip vt).foldl (fun t (p, v) => t.setIfInBounds p v) a.tmps, defers := [] } W)
    (hbody : ∀ l base t vt W, t < N → w.heap.size ≤ base → VP base t vt W → I t W → body.wpIn (Fence.wide.inRound l) 0 Try.prog (fun e _ W' => (e = .normal ∧ I (t + 1) W' ∧ Ch (fun k => S k ∨ Own vt k) W W') ∨ (∃ id, e = .exit id ∧ Ix (.exit id) W' ∧ Ch (fun k => S k ∨ Own vt k) W W') ∨ (e = .ret ∧ Ix .ret W' ∧ Ch (fun k => S k ∨ Own vt k) W W')) (a₁ vt) W)
    (hdone : ∀ D W, I N W → w.heap.size ≤ D → W.heap[D]? = some (.deferred (some [])) → Q .normal { a with defers := { target := .collected D, args := #[] } :: a.defers } W)
    (hstop : ∀ c D W, Ix c W → w.heap.size ≤ D → W.heap[D]? = some (.deferred (some [])) → c.wp Try.prog Q { a with defers := { target := .collected D, args := #[] } :: a.defers } W) :
    (Code.rangeFunc g ps assign body).wp Try.prog Q a w := by
  refine (wpIn_wide (n := 0)).1 (wpIn_rangeFunc ?_)
  intro fn hfn
  obtain ⟨rec, hrec⟩ : ∃ rec : LoopState → Option Code → Loop, rec = fun st pe => { state := st, pending := pe, fn, tmps := a.tmps, params := ps, assign, body, defers := w.heap.size } := ⟨_, rfl⟩
  obtain ⟨W1, hW1⟩ : ∃ W1, (w.alloc (.deferred (some []))).alloc (.loop (rec .ready none)) = W1 := ⟨_, rfl⟩
  have hL1 : W1.heap[w.heap.size + 1]? = some (.loop (rec .ready none)) := by
    rw [← hW1]; have := World.alloc_heap_new (w.alloc (.deferred (some []))) (.loop (rec .ready none)); rwa [World.size_alloc] at this
  have hK1 : W1.heap[w.heap.size]? = some (.deferred (some [])) := by
    rw [← hW1]; exact (Below.heap_alloc _ _ _ (by simp)).trans (World.alloc_heap_new w _)
  have hsz : W1.heap.size = w.heap.size + 2 := by rw [← hW1]; simp
  have hc1 : Ch (fun _ => False) w W1 := by rw [← hW1]; exact ((Ch.refl _ w).alloc _).alloc _
  refine ⟨w.heap.size + 1, [{ target := .collected w.heap.size, args := #[] }], W1, { target := .fn (.func gf) lb, args := #[.func (.yield (w.heap.size + 1)) #[] #[]] }, W1, gf,
    #[.func (.yield (w.heap.size + 1)) #[] #[]] ++ lb, W1, ?_, ?_, ?_, ?_, fun h => by simp [Fence.wide] at h, ?_⟩
  · rw [← hW1, hrec]; exact run_enterLoop_outer _ _ _ _ _
  · simp only [resolve, hg]
    simp [go_sem]
  · intro f' _; exact trivial
  · simp [invoke, go_sem, eg]
  · have hup : ∀ (A B : World), Ch (fun k => W1.heap.size ≤ k ∨ Chg k) A B → Ch (fun k => w.heap.size ≤ k ∨ Chg k) A B := fun A B h => h.mono (fun i _ hi => hi.imp (fun h => by omega) id)
    have hn0 : ¬ (Keep w.heap.size ∨ Chg w.heap.size) := fun h => by have := hKC _ h; omega
    have hn1 : ¬ (Keep (w.heap.size + 1) ∨ Chg (w.heap.size + 1)) := fun h => by have := hKC _ h; omega
    have hx0 : ¬ (W1.heap.size ≤ w.heap.size ∨ Chg w.heap.size) := fun h => h.elim (fun h => by omega) (fun h => hn0 (.inr h))
    have hx1 : ¬ (W1.heap.size ≤ w.heap.size + 1 ∨ Chg (w.heap.size + 1)) := fun h => h.elim (fun h => by omega) (fun h => hn1 (.inr h))
    refine (hG (w.heap.size + 1) W1 (fun k => S k ∨ k = w.heap.size ∨ k = w.heap.size + 1)
      (fun t W => (I t W ∧ W.heap[w.heap.size + 1]? = some (.loop (rec .ready none)) ∧ W.heap[w.heap.size]? = some (.deferred (some []))) ∧ W1.heap.size ≤ W.heap.size)
      (fun W => ∃ c, Ix c W ∧ W.heap[w.heap.size + 1]? = some (.loop (rec .done (some c))) ∧ W.heap[w.heap.size]? = some (.deferred (some [])))
      (fun k hk => by
        rcases hk with hk | rfl | rfl
        · have := hSw _ hk; exact ⟨by omega, this.2⟩
        · exact ⟨by omega, fun h => hn0 (.inl h), fun h => hn0 (.inr h)⟩
        · exact ⟨by omega, fun h => hn1 (.inl h), fun h => hn1 (.inr h)⟩)
      (fun k hk => by have := hKC k hk; omega)
      (fun hf A h => hfin hf A h.1.1)
      (fun t A B h hc => ⟨⟨hI t A B h.1.1 (hup A B hc), hc.heap h.1.2.1 hx1, hc.heap h.1.2.2 hx0⟩, Nat.le_trans h.2 hc.size⟩)
      (fun A B h hc => by obtain ⟨c, h1, h2, h3⟩ := h; exact ⟨c, hIx c A B h1 (hup A B hc), hc.heap h2 hx1, hc.heap h3 hx0⟩)
      (fun t A h => h.2) (hRd W1 hc1)
      ⟨⟨hI 0 w W1 h0 (hc1.mono (fun _ _ h => h.elim)), hL1, hK1⟩, Nat.le_refl _⟩ ?_).mono ?_
    · rintro t vt W ht hvp ⟨⟨hi, hl, hk⟩, hsW⟩
      have hy := run_yield (P := Try.prog) (args := vt) hl (by rw [hrec]; exact hps _ t vt W hvp)
      have hown := fun k => hH.own _ t vt W k hvp
      rw [hrec] at hy
      refine ⟨fn, _, assign, body, hy, roundIn_of_wpIn hfn (hassign _ _ t vt W _ hvp ⟨_, run_beginRound hl (by rw [hrec]), ?_⟩)⟩
      have hlt : w.heap.size + 1 < W.heap.size := (Array.getElem?_eq_some_iff.1 hl).1
      have hp0 : Ch (fun k => w.heap.size ≤ k ∨ Chg k) W (W.putObj (w.heap.size + 1) (.loop { rec .ready none with state := .busy })) := (Ch.refl _ W).putObj (fun _ => .inl (by omega)) _
      have hp1 : Ch (fun k => (S k ∨ k = w.heap.size ∨ k = w.heap.size + 1) ∨ Own vt k) W (W.putObj (w.heap.size + 1) (.loop { rec .ready none with state := .busy })) := (Ch.refl _ W).putObj (fun _ => .inl (.inr (.inr rfl))) _
      have hl2 : (W.putObj (w.heap.size + 1) (.loop { rec .ready none with state := .busy })).heap[w.heap.size + 1]? = some (.loop { rec .ready none with state := .busy }) := World.putObj_heap_same hlt
      have hk2 : (W.putObj (w.heap.size + 1) (.loop { rec .ready none with state := .busy })).heap[w.heap.size]? = some (.deferred (some [])) := (World.putObj_heap_other (by omega)).trans hk
      refine wpIn_mono (hbody _ _ t vt _ ht (by omega) (hH.keep _ _ _ _ _ hvp ((Ch.refl _ W).putObj (fun _ => by show w.heap.size + 1 < W1.heap.size; omega) _)) (hI t _ _ hi hp0)) ?_
      have hleave : ∀ (c : Code) (W3 : World), Ix c W3 → Ch (fun k => S k ∨ Own vt k) (W.putObj (w.heap.size + 1) (.loop { rec .ready none with state := .busy })) W3 →
          ∃ W4, (Instr.endRound (w.heap.size + 1) (some c)).run Try.prog W3 = .ok (.bool false) W4 ∧ ((∃ c, Ix c W4 ∧ W4.heap[w.heap.size + 1]? = some (.loop (rec .done (some c))) ∧ W4.heap[w.heap.size]? = some (.deferred (some []))) ∧ Ch (fun k => (S k ∨ k = w.heap.size ∨ k = w.heap.size + 1) ∨ Own vt k) W W4) := by
        intro c W3 hi3 hc3
        have hl3 := hc3.heap hl2 (fun h => by rcases h with h | h; (· have := hSw _ h; omega); (· have := hown _ h; omega))
        have hk3 := hc3.heap hk2 (fun h => by rcases h with h | h; (· have := hSw _ h; omega); (· have := hown _ h; omega))
        have hend := run_endRound (P := Try.prog) (some c) hl3
        refine ⟨_, hend, ⟨c, hIx _ _ _ hi3 ((Ch.refl _ W3).putObj (fun _ => .inl (by show w.heap.size ≤ w.heap.size + 1; omega)) _), ?_, (World.putObj_heap_other (by omega)).trans hk3⟩, ?_⟩
        · rw [World.putObj_heap_same (Array.getElem?_eq_some_iff.1 hl3).1, hrec]; rfl
        · exact (hp1.trans (hc3.mono (fun i _ h => h.elim (fun h => .inl (.inl h)) .inr))).putObj (fun _ => .inl (.inr (.inr rfl))) _
      rintro e a' W3 (⟨rfl, hi3, hc3⟩ | ⟨id, rfl, hi3, hc3⟩ | ⟨rfl, hi3, hc3⟩)
      · have hl3 := hc3.heap hl2 (fun h => by rcases h with h | h; (· have := hSw _ h; omega); (· have := hown _ h; omega))
        have hk3 := hc3.heap hk2 (fun h => by rcases h with h | h; (· have := hSw _ h; omega); (· have := hown _ h; omega))
        have hend := run_endRound (P := Try.prog) none hl3
        have hsz3 := hc3.size
        have hszp : (W.putObj (w.heap.size + 1) (.loop { rec .ready none with state := .busy })).heap.size = W.heap.size := by simp [World.putObj]
        refine ⟨_, _, hend, .inl ⟨rfl, ⟨⟨hI _ _ _ hi3 ((Ch.refl _ W3).putObj (fun _ => .inl (by omega)) _), ?_, (World.putObj_heap_other (by omega)).trans hk3⟩, ?_⟩, ?_⟩⟩
        · rw [World.putObj_heap_same (Array.getElem?_eq_some_iff.1 hl3).1, hrec]; rfl
        · simp only [World.putObj, Array.size_setIfInBounds] at hsz3 ⊢; omega
        · exact (hp1.trans (hc3.mono (fun i _ h => h.elim (fun h => .inl (.inl h)) .inr))).putObj (fun _ => .inl (.inr (.inr rfl))) _
      · obtain ⟨W4, h4, h5, h6⟩ := hleave _ W3 hi3 hc3
        exact ⟨_, _, h4, .inr ⟨rfl, h5, h6⟩⟩
      · obtain ⟨W4, h4, h5, h6⟩ := hleave _ W3 hi3 hc3
        exact ⟨_, _, h4, .inr ⟨rfl, h5, h6⟩⟩
    · rintro e W2 ⟨⟨v, rfl⟩, ⟨⟨hi, hl, hk⟩, _⟩ | ⟨c, hi, hl, hk⟩⟩
      · have hend := run_endLoop (P := Try.prog) hl (by rw [hrec]; simp)
        rw [hrec] at hend
        exact ⟨_, _, hend, hdone _ _ (hI _ _ _ hi ((Ch.refl _ W2).putObj (fun _ => .inl (by omega)) _)) (Nat.le_refl _) ((World.putObj_heap_other (by omega)).trans hk)⟩
      · have hend := run_endLoop (P := Try.prog) hl (by rw [hrec]; simp)
        rw [hrec] at hend
        refine ⟨_, _, hend, wpIn_wide.2 (hstop c _ _ (hIx _ _ _ hi ((Ch.refl _ W2).putObj (fun _ => .inl (by omega)) _)) (Nat.le_refl _) ((World.putObj_heap_other (by omega)).trans hk))⟩
end Go.Proofs.Ytljllfdigfojdaa
