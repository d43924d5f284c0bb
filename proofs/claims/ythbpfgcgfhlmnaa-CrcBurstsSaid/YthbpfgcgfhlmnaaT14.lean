/- 'for power := range powers()': the statement's law: the powers come till the body leaves. -/
import Derived.Test.YthbpfgcgfhlmnaaT13
namespace Go.Proofs.Ythbpfgcgfhlmnaa
open Go Go.RowKit

set_option maxHeartbeats 1000000 in
theorem range_powers {a : Act} {w : World} {assign body : Code} {Q : Exit → Act → World → Prop}
    (hg : a.eval (.tmp 6) = .func (.func 42) #[] #[])
    (S : Nat → Prop) (hSw : ∀ k, S k → k < w.heap.size)
    (I : Nat → World → Prop) (Ix : World → Prop)
    (hI : ∀ t A B, I t A → Ch (fun k => w.heap.size ≤ k) A B → I t B) (hIx : ∀ A B, Ix A → Ch (fun k => w.heap.size ≤ k) A B → Ix B) (h0 : I 0 w)
    (a₁ : Nat → Act)
    (hassign : ∀ l t W (K : Act → World → Prop), K (a₁ t) W → assign.wpIn (Fence.wide.inRound l) 0 Try.prog (Exit.then K (fun _ _ _ => False))
      { tmps := ((#[7] : Array Tmp).zip #[wv (pw (8 * 2 ^ t))]).foldl (fun t (p, v) => t.setIfInBounds p v) a.tmps, defers := [] } W)
    (hbody : ∀ l t W, t ≤ 41 → I t W → body.wpIn (Fence.wide.inRound l) 0 Try.prog (fun e _ W' => (e = .normal ∧ t < 41 ∧ I (t + 1) W' ∧ Ch S W W') ∨ (e = .exit 0 ∧ Ix W' ∧ Ch S W W')) (a₁ t) W)
    (hstop : ∀ D W, Ix W → w.heap.size ≤ D → W.heap[D]? = some (.deferred (some [])) →
      (Code.exit 0).wp Try.prog Q { a with defers := { target := .collected D, args := #[] } :: a.defers } W) :
    (Code.rangeFunc (.tmp 6) #[7] assign body).wp Try.prog Q a w := by
  refine (wpIn_wide (n := 0)).1 (wpIn_rangeFunc ?_)
  intro fn hfn
  obtain ⟨rec, hrec⟩ : ∃ rec : LoopState → Option Code → Loop, rec = fun st pe => { state := st, pending := pe, fn, tmps := a.tmps, params := #[7], assign, body, defers := w.heap.size } := ⟨_, rfl⟩
  obtain ⟨W1, hW1⟩ : ∃ W1, (w.alloc (.deferred (some []))).alloc (.loop (rec .ready none)) = W1 := ⟨_, rfl⟩
  have hL1 : W1.heap[w.heap.size + 1]? = some (.loop (rec .ready none)) := by
    rw [← hW1]; have := World.alloc_heap_new (w.alloc (.deferred (some []))) (.loop (rec .ready none)); rwa [World.size_alloc] at this
  have hK1 : W1.heap[w.heap.size]? = some (.deferred (some [])) := by
    rw [← hW1]; exact (Below.heap_alloc _ _ _ (by simp)).trans (World.alloc_heap_new w _)
  have hsz : W1.heap.size = w.heap.size + 2 := by rw [← hW1]; simp
  have hc1 : Ch (fun _ => False) w W1 := by rw [← hW1]; exact ((Ch.refl _ w).alloc _).alloc _
  refine ⟨w.heap.size + 1, [{ target := .collected w.heap.size, args := #[] }], W1, { target := .fn (.func 42) #[], args := #[.func (.yield (w.heap.size + 1)) #[] #[]] }, W1, 42,
    #[.func (.yield (w.heap.size + 1)) #[] #[]] ++ #[], W1, ?_, ?_, ?_, ?_, fun h => by simp [Fence.wide] at h, ?_⟩
  · rw [← hW1, hrec]; exact run_enterLoop_outer _ _ _ _ _
  · simp only [resolve, hg]
    simp [go_sem]
  · intro f' _; exact trivial
  · have eg : ∀ args w, (callFunc 42 args).run Try.prog w = .ok (.enter 42 args) w := enters_of Try.func42 (by kernel_rfl) rfl
    simp [invoke, go_sem, eg]
  · have lt3 : ∀ (W : World), W.heap[w.heap.size + 1]? = some (.loop (rec .ready none)) → w.heap.size + 1 < W.heap.size := fun W h => (Array.getElem?_eq_some_iff.1 h).1
    refine (powers1 0 (w.heap.size + 1) W1
      (fun t W => I t W ∧ W.heap[w.heap.size + 1]? = some (.loop (rec .ready none)) ∧ W.heap[w.heap.size]? = some (.deferred (some [])))
      (fun W => Ix W ∧ W.heap[w.heap.size + 1]? = some (.loop (rec .done (some (.exit 0)))) ∧ W.heap[w.heap.size]? = some (.deferred (some [])))
      ⟨hI 0 w W1 h0 (hc1.mono (fun _ _ h => h.elim)), hL1, hK1⟩ ?_).mono ?_
    · rintro t W ht ⟨hi, hl, hk⟩
      have hy := run_yield (P := Try.prog) (args := #[wv (pw (8 * 2 ^ t))]) hl (by rw [hrec]; rfl)
      rw [hrec] at hy
      refine ⟨fn, _, assign, body, hy, roundIn_of_wpIn hfn (hassign _ t W _ ⟨_, run_beginRound hl (by rw [hrec]), ?_⟩)⟩
      have hlt : w.heap.size + 1 < W.heap.size := (Array.getElem?_eq_some_iff.1 hl).1
      have hp0 : Ch (fun k => w.heap.size ≤ k) W (W.putObj (w.heap.size + 1) (.loop { rec .ready none with state := .busy })) := (Ch.refl _ W).putObj (fun _ => by omega) _
      have hl2 : (W.putObj (w.heap.size + 1) (.loop { rec .ready none with state := .busy })).heap[w.heap.size + 1]? = some (.loop { rec .ready none with state := .busy }) := World.putObj_heap_same hlt
      have hk2 : (W.putObj (w.heap.size + 1) (.loop { rec .ready none with state := .busy })).heap[w.heap.size]? = some (.deferred (some [])) := (World.putObj_heap_other (by omega)).trans hk
      refine wpIn_mono (hbody _ t _ ht (hI t _ _ hi hp0)) ?_
      rintro e a' W3 (⟨rfl, h41, hi3, hc3⟩ | ⟨rfl, hi3, hc3⟩)
      · have hl3 := hc3.heap hl2 (fun h => by have := hSw _ h; omega)
        have hk3 := hc3.heap hk2 (fun h => by have := hSw _ h; omega)
        have hend := run_endRound (P := Try.prog) none hl3
        refine ⟨_, _, hend, .inl ⟨rfl, h41, hI _ _ _ hi3 ((Ch.refl _ W3).putObj (fun _ => by omega) _), ?_, (World.putObj_heap_other (by omega)).trans hk3⟩⟩
        rw [World.putObj_heap_same (Array.getElem?_eq_some_iff.1 hl3).1, hrec]; rfl
      · have hl3 := hc3.heap hl2 (fun h => by have := hSw _ h; omega)
        have hk3 := hc3.heap hk2 (fun h => by have := hSw _ h; omega)
        have hend := run_endRound (P := Try.prog) (some (.exit 0)) hl3
        refine ⟨_, _, hend, .inr ⟨rfl, hIx _ _ hi3 ((Ch.refl _ W3).putObj (fun _ => by omega) _), ?_, (World.putObj_heap_other (by omega)).trans hk3⟩⟩
        rw [World.putObj_heap_same (Array.getElem?_eq_some_iff.1 hl3).1, hrec]; rfl
    · rintro e W2 ⟨⟨v, rfl⟩, hi, hl, hk⟩
      have hend := run_endLoop (P := Try.prog) hl (by rw [hrec]; simp)
      rw [hrec] at hend
      refine ⟨_, _, hend, wpIn_wide.2 (hstop _ _ (hIx _ _ hi ((Ch.refl _ W2).putObj (fun _ => by omega) _)) (Nat.le_refl _) ((World.putObj_heap_other (by omega)).trans hk))⟩
end Go.Proofs.Ythbpfgcgfhlmnaa
