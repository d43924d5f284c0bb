/-
  'for t, m := range p.words()': the statement's law: the words come till the body leaves at the sixty-fifth.
-/
import Derived.Test.YtikdpiedjkailaaDoorT3
import Derived.Shelf.Abstract
namespace Go.Proofs.YtikdpiedjkailaaDoor
open Go.RowKit

theorem Rch.putObj (A : World) {b r : Nat} {S : Nat → Prop} (h : r < A.heap.size → S r) (hne : r ≠ b) (o : Obj) : Rch S b A (A.putObj r o) :=
  ⟨(Ch.refl _ A).putObj (fun hr => .inr (h hr)) o, fun _ _ => World.cell?_of_block (w := A) (World.putObj_heap_other (Ne.symm hne)), fun _ => World.frozen?_of_block (w := A) (World.putObj_heap_other (Ne.symm hne))⟩
theorem Ch.obj {S : Nat → Prop} {A B : World} (h : Ch S A B) {k : Nat} {o : Obj} (ho : A.heap[k]? = some o) (hs : ¬ S k) : B.heap[k]? = some o :=
  (h.block k (Array.getElem?_eq_some_iff.1 ho).1 hs).trans ho

set_option maxHeartbeats 1000000 in
theorem range_words {a : Act} {w : World} {assign body : Code} {Q : Exit → Act → World → Prop} {bx b : Nat} {m : Nat → BitVec 32}
    (hg : a.eval (.tmp 40) = .func (.func 67) #[] #[.pointer (some ⟨bx, 0, none⟩)])
    (hbox : w.cell? ⟨bx, 0, none⟩ = some (.pointer (some ⟨b, 0, none⟩))) (hring : Ring w b m) (hne : bx ≠ b)
    (S : Nat → Prop) (hSb : ¬ S b) (hSx : ¬ S bx) (hSw : ∀ k, S k → k < w.heap.size)
    (I : Nat → World → Prop) (Ix : World → Prop)
    (hI : ∀ t A B, I t A → Rch (fun k => w.heap.size ≤ k) b A B → I t B) (hIx : ∀ A B, Ix A → Rch (fun k => w.heap.size ≤ k) b A B → Ix B) (h0 : I 0 w)
    (a₁ : Nat → Act)
    (hassign : ∀ l t W (K : Act → World → Prop), K (a₁ t) W → assign.wpIn (Fence.wide.inRound l) 0 Tryd.prog (Exit.then K (fun _ _ _ => False))
      { tmps := ((#[41, 42] : Array Tmp).zip #[.int .i64 ((t : Nat) : Int), wv (word m t)]).foldl (fun t (p, v) => t.setIfInBounds p v) a.tmps, defers := [] } W)
    (hbody : ∀ l t W, t < 64 → I t W → body.wpIn (Fence.wide.inRound l) 0 Tryd.prog (fun e _ W' => e = .normal ∧ I (t + 1) W' ∧ Ch S W W') (a₁ t) W)
    (hbody64 : ∀ l W, I 64 W → body.wpIn (Fence.wide.inRound l) 0 Tryd.prog (fun e _ W' => e = .exit 0 ∧ Ix W' ∧ Ch S W W') (a₁ 64) W)
    (hstop : ∀ D W, Ix W → (∃ m', Ring W b m') → w.heap.size ≤ D → W.heap[D]? = some (.deferred (some [])) →
      (Code.exit 0).wp Tryd.prog Q { a with defers := { target := .collected D, args := #[] } :: a.defers } W) :
    (Code.rangeFunc (.tmp 40) #[41, 42] assign body).wp Tryd.prog Q a w := by
  refine (wpIn_wide (n := 0)).1 (wpIn_rangeFunc ?_)
  intro fn hfn
  obtain ⟨rec, hrec⟩ : ∃ rec : LoopState → Option Code → Loop, rec = fun st pe => { state := st, pending := pe, fn, tmps := a.tmps, params := #[41, 42], assign, body, defers := w.heap.size } := ⟨_, rfl⟩
  obtain ⟨W1, hW1⟩ : ∃ W1, (w.alloc (.deferred (some []))).alloc (.loop (rec .ready none)) = W1 := ⟨_, rfl⟩
  have hL1 : W1.heap[w.heap.size + 1]? = some (.loop (rec .ready none)) := by
    rw [← hW1]; have := World.alloc_heap_new (w.alloc (.deferred (some []))) (.loop (rec .ready none)); rwa [World.size_alloc] at this
  have hK1 : W1.heap[w.heap.size]? = some (.deferred (some [])) := by
    rw [← hW1]; exact (Below.heap_alloc _ _ _ (by simp)).trans (World.alloc_heap_new w _)
  have hsz : W1.heap.size = w.heap.size + 2 := by rw [← hW1]; simp
  have hc1 : Ch (fun _ => False) w W1 := by rw [← hW1]; exact ((Ch.refl _ w).alloc _).alloc _
  have hb : b < w.heap.size := cell_lt (hring 0 (by decide)).1
  have hx : bx < w.heap.size := cell_lt hbox
  refine ⟨w.heap.size + 1, [{ target := .collected w.heap.size, args := #[] }], W1, { target := .fn (.func 67) #[.pointer (some ⟨bx, 0, none⟩)], args := #[.func (.yield (w.heap.size + 1)) #[] #[]] }, W1, 67,
    #[.func (.yield (w.heap.size + 1)) #[] #[]] ++ #[.pointer (some ⟨bx, 0, none⟩)], W1, ?_, ?_, ?_, ?_, fun h => by simp [Fence.wide] at h, ?_⟩
  · rw [← hW1, hrec]; exact run_enterLoop_outer _ _ _ _ _
  · simp only [resolve, hg]
    simp [go_sem]
  · intro f' _; exact trivial
  · have eg : ∀ args w, (callFunc 67 args).run Tryd.prog w = .ok (.enter 67 args) w := enters_of Tryd.func67 (by kernel_rfl) rfl
    simp [invoke, go_sem, eg]
  · have hY : ∀ (t : Nat) (W : World), (I t W ∧ W.heap[w.heap.size + 1]? = some (.loop (rec .ready none)) ∧ W.heap[w.heap.size]? = some (.deferred (some []))) → ∀ (R : Ending → World → Prop) (Q' : Exit → Act → World → Prop),
        (∀ W2, W2 = W.putObj (w.heap.size + 1) (.loop { rec .ready none with state := .busy }) → body.wpIn (Fence.wide.inRound (w.heap.size + 1)) 0 Tryd.prog Q' (a₁ t) W2) →
        (∀ e a' W3, Q' e a' W3 → roundPost Tryd.prog (w.heap.size + 1) R e a' W3) →
        YieldAt Fence.wide (0 - 1) Tryd.prog (w.heap.size + 1) #[.int .i64 (t : Int), wv (word m t)] W R := by
      rintro t W ⟨hi, hl, hk⟩ R Q' hbd hpost
      have hy := run_yield (P := Tryd.prog) (args := #[.int .i64 (t : Int), wv (word m t)]) hl (by rw [hrec]; rfl)
      rw [hrec] at hy
      refine ⟨fn, _, assign, body, hy, roundIn_of_wpIn hfn (hassign _ t W _ ⟨_, run_beginRound hl (by rw [hrec]), ?_⟩)⟩
      exact wpIn_mono (hbd _ rfl) hpost
    refine (words1 0 (w.heap.size + 1) W1 bx b m (fun k => S k ∨ k = w.heap.size + 1)
      (fun t W => I t W ∧ W.heap[w.heap.size + 1]? = some (.loop (rec .ready none)) ∧ W.heap[w.heap.size]? = some (.deferred (some [])))
      (fun W => Ix W ∧ W.heap[w.heap.size + 1]? = some (.loop (rec .done (some (.exit 0)))) ∧ W.heap[w.heap.size]? = some (.deferred (some [])))
      (hc1.get hbox id) (fun j hj => ⟨hc1.get (hring j hj).1 id, (hc1.frozen (cell_lt (hring j hj).1) id).trans (hring j hj).2⟩) hne (fun h => h.elim hSb (by omega)) (fun h => h.elim hSx (by omega))
      (fun k h => h.elim (fun h => by have := hSw k h; omega) (by omega))
      ⟨hI 0 w W1 h0 (Rch.of_ch (hc1.mono (fun _ _ h => h.elim)) hb (by omega)), hL1, hK1⟩ ?_ ?_ ?_).mono ?_
    · rintro t A B ⟨hi, hl, hk⟩ hr
      exact ⟨hI t A B hi (hr.mono (fun i _ h => by omega)), hr.ch.obj hl (by omega), hr.ch.obj hk (by omega)⟩
    · rintro t W ht ⟨hi, hl, hk⟩
      refine hY t W ⟨hi, hl, hk⟩ _ (fun e _ W3 => e = .normal ∧ I (t + 1) W3 ∧ Ch S (W.putObj (w.heap.size + 1) (.loop { rec .ready none with state := .busy })) W3) ?_ ?_
      · rintro W2 rfl
        exact hbody _ t _ ht (hI t _ _ hi (Rch.putObj W (fun _ => by omega) (by omega) _))
      · rintro e a' W3 ⟨rfl, hi3, hc3⟩
        have hlt : w.heap.size + 1 < W.heap.size := (Array.getElem?_eq_some_iff.1 hl).1
        have hl2 : (W.putObj (w.heap.size + 1) (.loop { rec .ready none with state := .busy })).heap[w.heap.size + 1]? = some (.loop { rec .ready none with state := .busy }) := World.putObj_heap_same hlt
        have hk2 : (W.putObj (w.heap.size + 1) (.loop { rec .ready none with state := .busy })).heap[w.heap.size]? = some (.deferred (some [])) := (World.putObj_heap_other (by omega)).trans hk
        have hl3 := hc3.obj hl2 (fun h => by have := hSw _ h; omega)
        have hk3 := hc3.obj hk2 (fun h => by have := hSw _ h; omega)
        have hend := run_endRound (P := Tryd.prog) none hl3
        refine ⟨_, _, hend, rfl, ⟨hI _ _ _ hi3 (Rch.putObj W3 (fun _ => by omega) (by omega) _), ?_, (World.putObj_heap_other (by omega)).trans hk3⟩, ?_⟩
        · rw [World.putObj_heap_same (Array.getElem?_eq_some_iff.1 hl3).1, hrec]; rfl
        · exact (((Ch.refl _ W).putObj (fun _ => .inr rfl) _).trans (hc3.mono (fun _ _ h => .inl h))).putObj (fun _ => .inr rfl) _
    · rintro W ⟨hi, hl, hk⟩
      refine hY 64 W ⟨hi, hl, hk⟩ _ (fun e _ W3 => e = .exit 0 ∧ Ix W3 ∧ Ch S (W.putObj (w.heap.size + 1) (.loop { rec .ready none with state := .busy })) W3) ?_ ?_
      · rintro W2 rfl
        exact hbody64 _ _ (hI 64 _ _ hi (Rch.putObj W (fun _ => by omega) (by omega) _))
      · rintro e a' W3 ⟨rfl, hi3, hc3⟩
        have hlt : w.heap.size + 1 < W.heap.size := (Array.getElem?_eq_some_iff.1 hl).1
        have hl2 : (W.putObj (w.heap.size + 1) (.loop { rec .ready none with state := .busy })).heap[w.heap.size + 1]? = some (.loop { rec .ready none with state := .busy }) := World.putObj_heap_same hlt
        have hk2 : (W.putObj (w.heap.size + 1) (.loop { rec .ready none with state := .busy })).heap[w.heap.size]? = some (.deferred (some [])) := (World.putObj_heap_other (by omega)).trans hk
        have hl3 := hc3.obj hl2 (fun h => by have := hSw _ h; omega)
        have hk3 := hc3.obj hk2 (fun h => by have := hSw _ h; omega)
        have hend := run_endRound (P := Tryd.prog) (some (.exit 0)) hl3
        refine ⟨_, _, hend, rfl, ⟨hIx _ _ hi3 (Rch.putObj W3 (fun _ => by omega) (by omega) _), ?_, (World.putObj_heap_other (by omega)).trans hk3⟩, ?_⟩
        · rw [World.putObj_heap_same (Array.getElem?_eq_some_iff.1 hl3).1, hrec]; rfl
        · exact (((Ch.refl _ W).putObj (fun _ => .inr rfl) _).trans (hc3.mono (fun _ _ h => .inl h))).putObj (fun _ => .inr rfl) _
    · rintro e W2 ⟨⟨v, rfl⟩, ⟨hi, hl, hk⟩, m', hr⟩
      have hend := run_endLoop (P := Tryd.prog) hl (by rw [hrec]; simp)
      rw [hrec] at hend
      refine ⟨_, _, hend, wpIn_wide.2 (hstop _ _ (hIx _ _ hi (Rch.putObj W2 (fun _ => by omega) (by omega) _)) ⟨m', fun j hj => ?_⟩ (Nat.le_refl _) ((World.putObj_heap_other (by omega)).trans hk))⟩
      exact ⟨(World.cell?_of_block (w := W2) (World.putObj_heap_other (by simp; omega))).trans (hr j hj).1, (World.frozen?_of_block (w := W2) (World.putObj_heap_other (by simp; omega))).trans (hr j hj).2⟩
end Go.Proofs.YtikdpiedjkailaaDoor
