/- ShaNames, 'was, own := secret, append(append([]byte{}, b...), 9)[:len(b)]': what holds as its operations come up. -/
import Derived.Test.YtdmeeghgbiffmaaDoorRegA
import Derived.Test.YtdmeeghgbiffmaaDoorR18
namespace Go.Proofs.YtdmeeghgbiffmaaDoor
open Go Go.RowKit

structure I3 (B n c : Nat) (p : Option Addr) (f : Nat → UInt8) (z sec : Array Value) (L : Nat → Bool) (g : Nat → Value) (w : World) : Prop where
  v21 : L 0 = true → g 21 = .agg sec
  v22 : L 1 = true → L 3 = false → ∃ q, g 22 = .slice (some ⟨q, 0, none⟩) 0 0 ∧ B ≤ q ∧ w.heap[q]? = some (.cells #[] 5)
  v23 : L 2 = true → g 23 = .slice p n c
  v24 : L 3 = true → L 5 = false → w.ownsRow B 5 1 (g 24) n (fL f n)
  v25 : L 4 = true → L 5 = false → ∃ q, g 25 = .slice (some ⟨q, 0, none⟩) 1 1 ∧ w.heap[q]? = some (.cells #[.int .u8 9] 5)
  v26 : L 5 = true → w.ownsRow B 5 1 (g 26) (n + 1) (fL f n ++ [.int .u8 9])
  v27 : L 6 = true → g 27 = .slice p n c
  v28 : L 7 = true → g 28 = .int .i64 (n : Int)
  v29 : L 8 = true → ∃ q cap, g 26 = .slice (some ⟨q, 0, none⟩) (n + 1) cap ∧ g 29 = .slice (some ⟨q, 0, none⟩) n cap
  v7 : L 9 = true → L 10 = false → ∃ q, g 7 = .pointer (some ⟨q, 0, none⟩) ∧ B ≤ q ∧ w.heap[q]? = some (.cells z 31)
  v7s : L 10 = true → ∃ q, g 7 = .pointer (some ⟨q, 0, none⟩) ∧ w.heap[q]? = some (.cells sec 31)
  v8 : L 11 = true → g 8 = g 29
  d53 : L 5 = true → L 3 = true
  d85 : L 8 = true → L 5 = true
  d118 : L 11 = true → L 8 = true
  d109 : L 10 = true → L 9 = true
  d105 : L 10 = true → L 5 = true

theorem own_ch {S : Nat → Prop} {w w' : World} {B k : Nat} {v : Value} {xs : List Value} (h : w.ownsRow B 5 1 v k xs) (hc : Ch S w w') (hs : ∀ q, v.ownBlock = some q → ¬ S q) : w'.ownsRow B 5 1 v k xs := by
  obtain ⟨hlen, h0 | ⟨g, cap, cur, rfl, hbg, hg, hr⟩⟩ := h
  · exact ⟨hlen, .inl h0⟩
  · exact ⟨hlen, .inr ⟨g, cap, cur, rfl, hbg, hc.heap hg (hs g rfl), hr⟩⟩
theorem own_cells {w : World} {B k : Nat} {v : Value} {xs : List Value} (h : w.ownsRow B 5 1 v k xs) : ∀ q, v.ownBlock = some q → ∃ cur, w.heap[q]? = some (.cells cur 5) := by
  intro q hq
  obtain ⟨hlen, ⟨rfl, h0⟩ | ⟨g, cap, cur, rfl, hbg, hg, hr⟩⟩ := h
  · cases hq
  · cases hq; exact ⟨cur, hg⟩

section
variable {B n c : Nat} {p : Option Addr} {f : Nat → UInt8} {z sec : Array Value} {L : Nat → Bool} {g : Nat → Value} {w : World}
theorem I3.start : I3 B n c p f z sec (fun _ => false) g w := by
  constructor <;> intro h <;> cases h
theorem I3.ch (h : I3 B n c p f z sec L g w) {w' : World} (hc : Ch (fun _ => False) w w') : I3 B n c p f z sec L g w' := by
  obtain ⟨h21, h22, h23, h24, h25, h26, h27, h28, h29, h7, h7s, h8, d1, d2, d3, d4, d5⟩ := h
  refine ⟨h21, fun a b => ?_, h23, fun a b => own_ch (h24 a b) hc (fun _ _ => id), fun a b => ?_, fun a => own_ch (h26 a) hc (fun _ _ => id), h27, h28, h29, fun a b => ?_, fun a => ?_, h8, d1, d2, d3, d4, d5⟩
  · obtain ⟨q, e1, e2, e3⟩ := h22 a b; exact ⟨q, e1, e2, hc.heap e3 id⟩
  · obtain ⟨q, e1, e2⟩ := h25 a b; exact ⟨q, e1, hc.heap e2 id⟩
  · obtain ⟨q, e1, e2, e3⟩ := h7 a b; exact ⟨q, e1, e2, hc.heap e3 id⟩
  · obtain ⟨q, e1, e2⟩ := h7s a; exact ⟨q, e1, hc.heap e2 id⟩
theorem I3.s0 (h : I3 B n c p f z sec L g w) : I3 B n c p f z sec (up L 0 true) (up g 21 (.agg sec)) w := by
  obtain ⟨h21, h22, h23, h24, h25, h26, h27, h28, h29, h7, h7s, h8, d1, d2, d3, d4, d5⟩ := h
  constructor <;> simp [up] <;> assumption
theorem I3.s1 (h : I3 B n c p f z sec L g w) {q : Nat} (hq : B ≤ q) (hh : w.heap[q]? = some (.cells #[] 5)) : I3 B n c p f z sec (up L 1 true) (up g 22 (.slice (some ⟨q, 0, none⟩) 0 0)) w := by
  obtain ⟨h21, h22, h23, h24, h25, h26, h27, h28, h29, h7, h7s, h8, d1, d2, d3, d4, d5⟩ := h
  constructor <;> simp [up] <;> first | assumption | (intro _; exact ⟨hq, hh⟩)
theorem I3.s2 (h : I3 B n c p f z sec L g w) : I3 B n c p f z sec (up L 2 true) (up g 23 (.slice p n c)) w := by
  obtain ⟨h21, h22, h23, h24, h25, h26, h27, h28, h29, h7, h7s, h8, d1, d2, d3, d4, d5⟩ := h
  constructor <;> simp [up] <;> assumption
theorem I3.s6 (h : I3 B n c p f z sec L g w) : I3 B n c p f z sec (up L 6 true) (up g 27 (.slice p n c)) w := by
  obtain ⟨h21, h22, h23, h24, h25, h26, h27, h28, h29, h7, h7s, h8, d1, d2, d3, d4, d5⟩ := h
  constructor <;> simp [up] <;> assumption
theorem I3.s7 (h : I3 B n c p f z sec L g w) : I3 B n c p f z sec (up L 7 true) (up g 28 (.int .i64 (n : Int))) w := by
  obtain ⟨h21, h22, h23, h24, h25, h26, h27, h28, h29, h7, h7s, h8, d1, d2, d3, d4, d5⟩ := h
  constructor <;> simp [up] <;> assumption
theorem I3.s4 (h : I3 B n c p f z sec L g w) {q : Nat} (hh : w.heap[q]? = some (.cells #[.int .u8 9] 5)) : I3 B n c p f z sec (up L 4 true) (up g 25 (.slice (some ⟨q, 0, none⟩) 1 1)) w := by
  obtain ⟨h21, h22, h23, h24, h25, h26, h27, h28, h29, h7, h7s, h8, d1, d2, d3, d4, d5⟩ := h
  constructor <;> simp [up] <;> first | assumption | (intro _; exact hh)
theorem I3.s8 (h : I3 B n c p f z sec L g w) (h5 : L 5 = true) (h11 : L 8 = false) {q cap : Nat} (hg : g 26 = .slice (some ⟨q, 0, none⟩) (n + 1) cap) : I3 B n c p f z sec (up L 8 true) (up g 29 (.slice (some ⟨q, 0, none⟩) n cap)) w := by
  obtain ⟨h21, h22, h23, h24, h25, h26, h27, h28, h29, h7, h7s, h8, d1, d2, d3, d4, d5⟩ := h
  constructor <;> simp [up] <;> first | assumption | exact ⟨q, cap, hg, rfl, rfl⟩ | (intro e; have := d3 e; rw [h11] at this; cases this)
theorem I3.s9 (h : I3 B n c p f z sec L g w) (h9 : L 9 = false) {q : Nat} (hq : B ≤ q) (hh : w.heap[q]? = some (.cells z 31)) : I3 B n c p f z sec (up L 9 true) (up g 7 (.pointer (some ⟨q, 0, none⟩))) w := by
  obtain ⟨h21, h22, h23, h24, h25, h26, h27, h28, h29, h7, h7s, h8, d1, d2, d3, d4, d5⟩ := h
  constructor <;> simp [up] <;> first | assumption | (intro _; exact ⟨hq, hh⟩) | (intro e; have := d4 e; rw [h9] at this; cases this)
theorem I3.s11 (h : I3 B n c p f z sec L g w) (h8' : L 8 = true) {v : Value} (hv : g 29 = v) : I3 B n c p f z sec (up L 11 true) (up g 8 v) w := by
  obtain ⟨h21, h22, h23, h24, h25, h26, h27, h28, h29, h7, h7s, h8, d1, d2, d3, d4, d5⟩ := h
  constructor <;> simp [up] <;> first | assumption | exact hv.symm
theorem I3.s3 (h : I3 B n c p f z sec L g w) (h3 : L 3 = false) {q : Nat} (hq : w.heap[q]? = some (.cells #[] 5)) {w' : World} {v : Value} (hc : Ch (fun k => k = q) w w') (ho : w'.ownsRow B 5 1 v n (fL f n)) : I3 B n c p f z sec (up L 3 true) (up g 24 v) w' := by
  obtain ⟨h21, h22, h23, h24, h25, h26, h27, h28, h29, h7, h7s, h8, d1, d2, d3, d4, d5⟩ := h
  have h5 : L 5 = false := by cases e : L 5 with | false => rfl | true => rw [d1 e] at h3; cases h3
  have h8f : L 8 = false := by cases e : L 8 with | false => rfl | true => rw [d2 e] at h5; cases h5
  have h10 : L 10 = false := by cases e : L 10 with | false => rfl | true => rw [d5 e] at h5; cases h5
  have h11 : L 11 = false := by cases e : L 11 with | false => rfl | true => rw [d3 e] at h8f; cases h8f
  constructor <;> simp [up, h5, h8f, h10, h11] <;> first | assumption | exact ho | skip
  · intro e
    obtain ⟨r, e1, e2⟩ := h25 e h5
    exact ⟨r, e1, hc.heap e2 (fun e => by subst e; rw [hq] at e2; simp at e2)⟩
  · intro e
    obtain ⟨r, e1, e2, e3⟩ := h7 e h10
    exact ⟨r, e1, e2, hc.heap e3 (fun e => by subst e; rw [hq] at e3; simp at e3)⟩
theorem I3.s5 (h : I3 B n c p f z sec L g w) (h5 : L 5 = false) (h3 : L 3 = true) {w' : World} {v : Value} (hc : Ch (fun k => (g 24).ownBlock = some k) w w') (ho : w'.ownsRow B 5 1 v (n + 1) (fL f n ++ [.int .u8 9])) : I3 B n c p f z sec (up L 5 true) (up g 26 v) w' := by
  obtain ⟨h21, h22, h23, h24, h25, h26, h27, h28, h29, h7, h7s, h8, d1, d2, d3, d4, d5⟩ := h
  have h8f : L 8 = false := by cases e : L 8 with | false => rfl | true => rw [d2 e] at h5; cases h5
  have h10 : L 10 = false := by cases e : L 10 with | false => rfl | true => rw [d5 e] at h5; cases h5
  have h11 : L 11 = false := by cases e : L 11 with | false => rfl | true => rw [d3 e] at h8f; cases h8f
  have hoc := own_cells (h24 h3 h5)
  constructor <;> simp [up, h3, h8f, h10, h11] <;> first | assumption | exact ho | skip
  intro e
  obtain ⟨r, e1, e2, e3⟩ := h7 e h10
  exact ⟨r, e1, e2, hc.heap e3 (fun e => by obtain ⟨cur, e4⟩ := hoc r e; rw [e4] at e3; simp at e3)⟩
theorem I3.s10 (h : I3 B n c p f z sec L g w) (h5 : L 5 = true) (h9 : L 9 = true) {q : Nat} (hg : g 7 = .pointer (some ⟨q, 0, none⟩)) {z' : Array Value} (hq : w.heap[q]? = some (.cells z' 31)) {w' : World} (hc : Ch (fun k => k = q) w w') (ho : w'.heap[q]? = some (.cells sec 31)) : I3 B n c p f z sec (up L 10 true) g w' := by
  obtain ⟨h21, h22, h23, h24, h25, h26, h27, h28, h29, h7, h7s, h8, d1, d2, d3, d4, d5⟩ := h
  have h3 := d1 h5
  have hoc := own_cells (h26 h5)
  constructor <;> simp [up, h3, h5, h9] <;> first | assumption | exact ⟨q, hg, ho⟩ | skip
  exact own_ch (h26 h5) hc (fun r e1 e2 => by subst e2; obtain ⟨cur, e4⟩ := hoc r e1; rw [e4] at hq; simp at hq)
end
end Go.Proofs.YtdmeeghgbiffmaaDoor
