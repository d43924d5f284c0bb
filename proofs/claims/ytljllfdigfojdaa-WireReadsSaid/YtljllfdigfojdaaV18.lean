/- What both readers tell of a number: one value, one error, so many bytes. -/
import Derived.Test.YtljllfdigfojdaaRegX
namespace Go.Proofs.Ytljllfdigfojdaa
open Go Go.RowKit

structure AskR where
  v : Int
  no : Int
  k : Nat
  bad : Bool
def askN (most : Int) (f : Nat → UInt8) (n : Nat) : AskR :=
  if most < 0 then ⟨0, 2, 0, false⟩ else match outN most f n with
    | .got (.int .i64 v) k => ⟨v, 0, k, false⟩
    | _ => ⟨0, 140, 0, true⟩
theorem fun_zero (f : Nat → UInt8) : (fun j => f (0 + j)) = f := funext fun j => by rw [Nat.zero_add]
theorem rAsk (r x0 : Nat) (p : Option Addr) (n c : Nat) (f : Nat → UInt8) (most : Int) (w : World) (hr : RdAt w r x0 p n c f false) :
    Calls Try.prog 22 #[.pointer (some ⟨r, 0, none⟩), .int .i64 most] w fun e w' => Ch (fun q => q = r) w w' ∧ e = .returned (.tuple #[.int .i64 (askN most f n).v, .int .i64 (askN most f n).no]) ∧ (askN most f n).k ≤ n ∧
      ∃ p' c', RdAt w' r x0 p' (n - (askN most f n).k) c' (fun j => f ((askN most f n).k + j)) (askN most f n).bad := by
  by_cases hm : most < 0
  · have e : askN most f n = ⟨0, 2, 0, false⟩ := if_pos hm
    rw [e]
    refine (rNumber_neg r x0 p n c f most w hr hm).mono ?_
    rintro e w' ⟨rfl, hc⟩
    refine ⟨hc.mono (fun _ _ e => e.elim), rfl, Nat.zero_le _, p, c, ?_⟩
    rw [fun_zero]
    exact hr.ch hc id id
  · refine (rNumber_ok r x0 p n c f most w hr (by omega)).mono ?_
    intro e w' h
    unfold PartTold at h
    unfold askN
    rw [if_neg hm]
    obtain ⟨hc, h⟩ := h
    cases ho : outN most f n with
    | lack =>
      rw [ho] at h
      refine ⟨hc, h.1, Nat.zero_le _, p, c, ?_⟩
      rw [fun_zero]; exact h.2
    | wrong =>
      rw [ho] at h
      refine ⟨hc, h.1, Nat.zero_le _, p, c, ?_⟩
      rw [fun_zero]; exact h.2
    | got x k =>
      obtain ⟨v, rfl, _⟩ := outN_got ho
      rw [ho] at h
      exact ⟨hc, h.1, h.2.1, h.2.2⟩
theorem rrAsk (p : Option Addr) (n c x0 : Nat) (f : Nat → UInt8) (most : Int) (w : World) (hb : BytesAt w p n c f) (hblk : ∀ ad, p = some ad → ad.block = x0) (hn : n ≤ 1000000000000) :
    Calls Try.prog 50 #[.agg #[.slice p n c, .bool false], .int .i64 most] w fun e w' => Ch (fun _ => False) w w' ∧ ∃ p' c', e = .returned (.tuple #[.agg #[.slice p' (n - (askN most f n).k) c', .bool (askN most f n).bad], .int .i64 (askN most f n).v, .int .i64 (askN most f n).no]) ∧
      BytesAt w' p' (n - (askN most f n).k) c' (fun j => f ((askN most f n).k + j)) ∧ ∀ ad, p' = some ad → ad.block = x0 := by
  by_cases hm : most < 0
  · have e : askN most f n = ⟨0, 2, 0, false⟩ := if_pos hm
    rw [e]
    refine (rrNumber_neg p n c most w hm).mono ?_
    rintro e w' ⟨rfl, hc⟩
    refine ⟨hc, p, c, rfl, ?_, hblk⟩
    rw [fun_zero]
    exact hb.ch hc (fun _ _ => id)
  · refine (rrNumber_any p n c x0 f most w (by omega) hb hblk hn).mono ?_
    intro e w' h
    unfold RrTold at h
    unfold askN
    rw [if_neg hm]
    obtain ⟨hc, h⟩ := h
    cases ho : outN most f n with
    | lack =>
      rw [ho] at h
      refine ⟨hc, p, c, h, ?_, hblk⟩
      rw [fun_zero]; exact hb.ch hc (fun _ _ => id)
    | wrong =>
      rw [ho] at h
      refine ⟨hc, p, c, h, ?_, hblk⟩
      rw [fun_zero]; exact hb.ch hc (fun _ _ => id)
    | got x k =>
      obtain ⟨v, rfl, _⟩ := outN_got ho
      rw [ho] at h
      exact ⟨hc, h.2⟩
/-- What holds of the world while ask's region comes up, one operation of which stores the answer's reader. -/
structure IAsk (W : World) (C st sz : Nat) (sl : Value) (b : Bool) (L : Array Bool) (w : World) : Prop where
  size : L.size = sz
  ch : Ch (fun q => q = C) W w
  before : lg L st = false → w.heap[C]? = some (.cells #[.slice none 0 0, .bool false] 51)
  behind : lg L st = true → w.heap[C]? = some (.cells #[sl, .bool b] 51)
section
variable {W w w' : World} {C st sz : Nat} {sl : Value} {b : Bool} {L : Array Bool}
theorem IAsk.start (h : W.heap[C]? = some (.cells #[.slice none 0 0, .bool false] 51)) : IAsk W C st sz sl b (Array.replicate sz false) { W with drawn := W.drawn + 1 } :=
  ⟨by simp, (Ch.refl _ W).drew, fun _ => h, fun e => (lg_none' _ _ e).elim⟩
theorem IAsk.step (h : IAsk W C st sz sl b L w) (j : Nat) (hj : j < sz) (hs : j ≠ st) (hc : Ch (fun _ => False) w w') : IAsk W C st sz sl b (L.setIfInBounds j true) w' := by
  have g : lg (L.setIfInBounds j true) st = lg L st := by rw [lg_set L j st (by rw [h.size]; exact hj), if_neg (Ne.symm hs)]
  exact ⟨by simpa using h.size, h.ch.trans (hc.mono (fun _ _ e => e.elim)), fun e => hc.heap (h.before (g ▸ e)) id, fun e => hc.heap (h.behind (g ▸ e)) id⟩
theorem IAsk.store (h : IAsk W C st sz sl b L w) (hj : st < sz) (hun : lg L st = false) : IAsk W C st sz sl b (L.setIfInBounds st true) ((w.setCell ⟨C, 0, none⟩ sl).setCell ⟨C, 1, none⟩ (.bool b)) := by
  have g : lg (L.setIfInBounds st true) st = true := by rw [lg_set L st st (by rw [h.size]; exact hj), if_pos rfl]
  exact ⟨by simpa using h.size, h.ch.trans (ch_two (Ch.refl (fun q => q = C) w) (fun _ => rfl) _ _), fun e => (by rw [g] at e; cases e), fun _ => set_two (h.before hun) _ _⟩
end
theorem res20 (w1 : World) (B : Nat) (s : Option Addr) (n c : Nat) (b : Bool) (v : Value) (h : w1.heap[B]? = some (.cells #[.slice s n c, .bool b] 51)) (t : Array Value) (h4 : t[6]? = some (.pointer (some ⟨B, 0, none⟩))) (h5 : t[7]? = some v) :
    (results Try.f20 t).run Try.prog w1 = .ok (.tuple #[.agg #[.slice s n c, .bool b], v]) w1 := by
  have h0 : w1.cell? ⟨B, 0, none⟩ = some (.slice s n c) := (cell_of_heap h 0).trans rfl
  have h1 : w1.cell? ⟨B, 1, none⟩ = some (.bool b) := (cell_of_heap h 1).trans rfl
  simp [results, Try.results20, go_sem, h0, h1, h4, h5]
end Go.Proofs.Ytljllfdigfojdaa
