/- 'for tag := range tags(key, name)': the statement's law. -/
import Derived.Test.YtikdpiedjkailaaDoorH12
namespace Go.Proofs.YtikdpiedjkailaaDoor
open Go Go.RowKit

set_option maxHeartbeats 1000000 in
theorem range_tags {a : Act} {w : World} {assign body : Code} {Q : Exit → Act → World → Prop} (A B nk ck : Nat) (p : Option Addr) (key : Nat → UInt8) (s : ByteArray)
    (hg : a.eval (.tmp 20) = .func (.func 43) #[] #[.pointer (some ⟨A, 0, none⟩), .pointer (some ⟨B, 0, none⟩)]) (hA : w.cell? ⟨A, 0, none⟩ = some (.slice p nk ck)) (hB : w.cell? ⟨B, 0, none⟩ = some (.string s))
    (hkey : BytesAt w p nk ck key) (hn : nk ≤ 1000000000) (hs : s.size ≤ 1000000000) (hK : KAt w)
    (S : Nat → Prop) (hSw : ∀ k, S k → k < w.heap.size) (hS0 : ¬ S 0) (hSB : ¬ S B)
    (I : Nat → World → Prop) (Ix : World → Prop)
    (hI : ∀ t A B, I t A → Ch (fun k => w.heap.size ≤ k) A B → I t B) (hIx : ∀ A B, Ix A → Ch (fun k => w.heap.size ≤ k) A B → Ix B) (h0 : I 0 w)
    (a₁ : Nat → Nat → Act)
    (hassign : ∀ l t W (K : Act → World → Prop), (∀ W', W'.heap[W.heap.size]? = some (.cells (hv (tgs (kb key nk) s (t + 1))) 28) → Ch (fun _ => False) W W' → K (a₁ t W.heap.size) W') → assign.wpIn (Fence.wide.inRound l) 0 Tryd.prog (Exit.then K (fun _ _ _ => False))
      { tmps := ((#[21] : Array Tmp).zip #[.agg (hv (tgs (kb key nk) s (t + 1)))]).foldl (fun t (p, v) => t.setIfInBounds p v) a.tmps, defers := [] } W)
    (hbody : ∀ l t V W, t ≤ 254 → I t W → W.heap[V]? = some (.cells (hv (tgs (kb key nk) s (t + 1))) 28) → w.heap.size ≤ V → body.wpIn (Fence.wide.inRound l) 0 Tryd.prog (fun e _ W' => (e = .normal ∧ t < 254 ∧ I (t + 1) W' ∧ Ch S W W') ∨ (e = .exit 0 ∧ Ix W' ∧ Ch S W W')) (a₁ t V) W)
    (hstop : ∀ D W, Ix W → w.heap.size ≤ D → W.heap[D]? = some (.deferred (some [])) →
      (Code.exit 0).wp Tryd.prog Q { a with defers := { target := .collected D, args := #[] } :: a.defers } W) :
    (Code.rangeFunc (.tmp 20) #[21] assign body).wp Tryd.prog Q a w := by
  refine (wpIn_wide (n := 0)).1 (wpIn_rangeFunc ?_)
  intro fn hfn
  have hBl := cell_lt hB
  have h0l : 0 < w.heap.size := cell_lt (hK 0 (by omega))
  obtain ⟨rec, hrec⟩ : ∃ rec : LoopState → Option Code → Loop, rec = fun st pe => { state := st, pending := pe, fn, tmps := a.tmps, params := #[21], assign, body, defers := w.heap.size } := ⟨_, rfl⟩
  obtain ⟨W1, hW1⟩ : ∃ W1, (w.alloc (.deferred (some []))).alloc (.loop (rec .ready none)) = W1 := ⟨_, rfl⟩
  have hL1 : W1.heap[w.heap.size + 1]? = some (.loop (rec .ready none)) := by
    rw [← hW1]; have := World.alloc_heap_new (w.alloc (.deferred (some []))) (.loop (rec .ready none)); rwa [World.size_alloc] at this
  have hK1 : W1.heap[w.heap.size]? = some (.deferred (some [])) := by
    rw [← hW1]; exact (Below.heap_alloc _ _ _ (by simp)).trans (World.alloc_heap_new w _)
  have hsz : W1.heap.size = w.heap.size + 2 := by rw [← hW1]; simp
  have hc1 : Ch (fun _ => False) w W1 := by rw [← hW1]; exact ((Ch.refl _ w).alloc _).alloc _
  refine ⟨w.heap.size + 1, [{ target := .collected w.heap.size, args := #[] }], W1, { target := .fn (.func 43) #[.pointer (some ⟨A, 0, none⟩), .pointer (some ⟨B, 0, none⟩)], args := #[.func (.yield (w.heap.size + 1)) #[] #[]] }, W1, 43,
    #[.func (.yield (w.heap.size + 1)) #[] #[]] ++ #[.pointer (some ⟨A, 0, none⟩), .pointer (some ⟨B, 0, none⟩)], W1, ?_, ?_, ?_, ?_, fun h => by simp [Fence.wide] at h, ?_⟩
  · rw [← hW1, hrec]; exact run_enterLoop_outer _ _ _ _ _
  · simp only [resolve, hg]
    simp [go_sem]
  · intro f' _; exact trivial
  · have eg : ∀ args w, (callFunc 43 args).run Tryd.prog w = .ok (.enter 43 args) w := enters_of Tryd.func43 (by kernel_rfl) rfl
    simp [invoke, go_sem, eg]
  · refine (tags1 0 (w.heap.size + 1) A B nk ck p key s W1 (fun k => S k ∨ k = w.heap.size + 1) (hc1.get hA id) (hc1.get hB id) (hkey.ch hc1 (fun _ _ h => h)) hn hs (hK.ch hc1 id)
      (by rintro k (h | h); · have := hSw k h; omega
          · omega) (by rintro (h | h); · exact hS0 h
                       · omega) (by rintro (h | h); · exact hSB h
                                    · have : B < w.heap.size := hBl; omega)
      (fun t W => I t W ∧ W.heap[w.heap.size + 1]? = some (.loop (rec .ready none)) ∧ W.heap[w.heap.size]? = some (.deferred (some [])))
      (fun W => Ix W ∧ W.heap[w.heap.size + 1]? = some (.loop (rec .done (some (.exit 0)))) ∧ W.heap[w.heap.size]? = some (.deferred (some [])))
      ⟨hI 0 w W1 h0 (hc1.mono (fun _ _ h => h.elim)), hL1, hK1⟩ ?_ ?_ ?_).mono ?_
    · rintro t X Y ⟨h1, h2, h3⟩ hc
      rw [hsz] at hc
      exact ⟨hI t X Y h1 (hc.mono (fun i _ h => by omega)), hc.heap h2 (by omega), hc.heap h3 (by omega)⟩
    · rintro X Y ⟨h1, h2, h3⟩ hc
      rw [hsz] at hc
      exact ⟨hIx X Y h1 (hc.mono (fun i _ h => by omega)), hc.heap h2 (by omega), hc.heap h3 (by omega)⟩
    · rintro t W ht ⟨hi, hl, hk⟩ hszW
      have hy := run_yield (P := Tryd.prog) (args := #[.agg (hv (tgs (kb key nk) s (t + 1)))]) hl (by rw [hrec]; rfl)
      rw [hrec] at hy
      refine ⟨fn, _, assign, body, hy, roundIn_of_wpIn hfn (hassign _ t W _ (fun W' hV hcW => ⟨_, run_beginRound (hcW.heap hl id) (by rw [hrec]), ?_⟩))⟩
      have hl' := hcW.heap hl id
      have hk' := hcW.heap hk id
      have hlt : w.heap.size + 1 < W'.heap.size := (Array.getElem?_eq_some_iff.1 hl').1
      have hWlt : w.heap.size + 1 < W.heap.size := (Array.getElem?_eq_some_iff.1 hl).1
      have hp0 : Ch (fun k => k = w.heap.size + 1) W' (W'.putObj (w.heap.size + 1) (.loop { rec .ready none with state := .busy })) := Ch.putObj (S := fun k => k = w.heap.size + 1) (Ch.refl _ W') (fun _ => rfl) _
      have hl2 : (W'.putObj (w.heap.size + 1) (.loop { rec .ready none with state := .busy })).heap[w.heap.size + 1]? = some (.loop { rec .ready none with state := .busy }) := World.putObj_heap_same hlt
      have hk2 : (W'.putObj (w.heap.size + 1) (.loop { rec .ready none with state := .busy })).heap[w.heap.size]? = some (.deferred (some [])) := (World.putObj_heap_other (by omega)).trans hk'
      have hV2 := hp0.heap hV (by omega)
      have hcS : Ch (fun k => S k ∨ k = w.heap.size + 1) W (W'.putObj (w.heap.size + 1) (.loop { rec .ready none with state := .busy })) := (hcW.mono (fun _ _ h => h.elim)).trans (hp0.mono (fun _ _ h => .inr h))
      have hi2 := hI t _ _ hi ((hcW.mono (T := fun k => w.heap.size ≤ k) (fun _ _ h => h.elim)).trans (hp0.mono (fun _ _ h => by omega)))
      refine wpIn_mono (hbody _ t W.heap.size _ ht hi2 hV2 (by omega)) ?_
      rintro e a' W3 (⟨rfl, h41, hi3, hc3⟩ | ⟨rfl, hi3, hc3⟩)
      · have hl3 := hc3.heap hl2 (fun h => by have := hSw _ h; omega)
        have hk3 := hc3.heap hk2 (fun h => by have := hSw _ h; omega)
        have hend := run_endRound (P := Tryd.prog) none hl3
        refine ⟨_, _, hend, .inl ⟨rfl, h41, ⟨hI _ _ _ hi3 ((Ch.refl _ W3).putObj (fun _ => by omega) _), ?_, (World.putObj_heap_other (by omega)).trans hk3⟩, (hcS.trans (hc3.mono (fun _ _ h => .inl h))).trans ((Ch.refl _ W3).putObj (fun _ => .inr rfl) _)⟩⟩
        rw [World.putObj_heap_same (Array.getElem?_eq_some_iff.1 hl3).1, hrec]; rfl
      · have hl3 := hc3.heap hl2 (fun h => by have := hSw _ h; omega)
        have hk3 := hc3.heap hk2 (fun h => by have := hSw _ h; omega)
        have hend := run_endRound (P := Tryd.prog) (some (.exit 0)) hl3
        refine ⟨_, _, hend, .inr ⟨rfl, hIx _ _ hi3 ((Ch.refl _ W3).putObj (fun _ => by omega) _), ?_, (World.putObj_heap_other (by omega)).trans hk3⟩⟩
        rw [World.putObj_heap_same (Array.getElem?_eq_some_iff.1 hl3).1, hrec]; rfl
    · rintro e W2 ⟨⟨v, rfl⟩, hi, hl, hk⟩
      have hend := run_endLoop (P := Tryd.prog) hl (by rw [hrec]; simp)
      rw [hrec] at hend
      refine ⟨_, _, hend, wpIn_wide.2 (hstop _ _ (hIx _ _ hi ((Ch.refl _ W2).putObj (fun _ => by omega) _)) (Nat.le_refl _) ((World.putObj_heap_other (by omega)).trans hk))⟩
end Go.Proofs.YtikdpiedjkailaaDoor
