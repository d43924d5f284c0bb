/- For ShaForks: sums under way in branches, as one relation; what a fork and a Write make of it; appends onto fresh rows. -/
import Derived.Test.YtdmeeghgbiffmaaDoorFT
import Derived.Test.YtdmeeghgbiffmaaDoorHB
import Derived.Test.YtdmeeghgbiffmaaDoorF3
import Derived.Test.YtdmeeghgbiffmaaDoorR18
namespace Go.Proofs.YtdmeeghgbiffmaaDoor
open Go Go.RowKit

theorem info52 : (Tryd.prog.info? 52).map (fun i => (i.zero, i.size, i.bytes)) = some (some (.pointer none), 1, 8) := by kernel_rfl
theorem bytes_ch_but {w w' : World} {p : Option Addr} {n c : Nat} {f : Nat → UInt8} {T : Nat → Prop} (h : BytesAt w p n c f) (hc : Ch T w w') (hp : n ≠ 0 → ∀ ad, p = some ad → ¬ T ad.block) : BytesAt w' p n c f := by
  rcases h with ⟨x, y, rfl, h1, h2⟩ | h
  · exact .inl ⟨x, y, rfl, h1, fun j hj => hc.get (h2 j hj) (hp (by omega) ⟨x, y, none⟩ rfl)⟩
  · exact .inr h
theorem row_setM {w : World} {b : Nat} {c : Array Value} {t : TypeId} {fz : Nat × Nat} (h : w.heap[b]? = some (.cells c t fz)) (k : Nat) (v : Value) : (w.setCell ⟨b, k, none⟩ v).heap[b]? = some (.cells (c.setIfInBounds k v) t fz) := by
  simp only [World.setCell, Array.getElem?_modify]
  rw [h]
  simp
def put2 {α : Type} (f : Nat → α) (k : Nat) (v : α) : Nat → α := fun j => if j = k then v else f j
theorem put2_self {α : Type} (f : Nat → α) (k : Nat) (v : α) : put2 f k v k = v := if_pos rfl
theorem put2_ne {α : Type} (f : Nat → α) (k : Nat) (v : α) (j : Nat) (h : j ≠ k) : put2 f k v j = f j := if_neg h
def pL (B : Nat → Nat) (m : Nat) : List Value := (List.range m).map fun j => .pointer (some ⟨B j, 0, none⟩)
def qL (q : Nat → Option Addr) (L c : Nat → Nat) (m : Nat) : List Value := (List.range m).map fun j => .slice (q j) (L j) (c j)
theorem pL_get (B : Nat → Nat) {m j : Nat} (h : j < m) : (pL B m)[j]? = some (.pointer (some ⟨B j, 0, none⟩)) := by simp [pL, h]
theorem qL_get (q : Nat → Option Addr) (L c : Nat → Nat) {m j : Nat} (h : j < m) : (qL q L c m)[j]? = some (.slice (q j) (L j) (c j)) := by simp [qL, h]
theorem pL_more (B : Nat → Nat) (m b : Nat) : pL B m ++ [.pointer (some ⟨b, 0, none⟩)] = pL (put2 B m b) (m + 1) := by
  unfold pL
  rw [List.range_succ, List.map_append]
  congr 1
  · refine List.map_congr_left (fun i hi => ?_)
    rw [put2_ne _ _ _ _ (by have := List.mem_range.1 hi; omega)]
  · simp [put2]
theorem qL_more (q : Nat → Option Addr) (L c : Nat → Nat) (m : Nat) (x : Option Addr) (y z : Nat) : qL q L c m ++ [.slice x y z] = qL (put2 q m x) (put2 L m y) (put2 c m z) (m + 1) := by
  unfold qL
  rw [List.range_succ, List.map_append]
  congr 1
  · refine List.map_congr_left (fun i hi => ?_)
    have := List.mem_range.1 hi
    rw [put2_ne _ _ _ _ (by omega), put2_ne _ _ _ _ (by omega), put2_ne _ _ _ _ (by omega)]
  · simp [put2]
theorem qL_set (q : Nat → Option Addr) (L c : Nat → Nat) (m a : Nat) (x : Option Addr) (y z : Nat) : (qL q L c m).set a (.slice x y z) = qL (put2 q a x) (put2 L a y) (put2 c a z) m := by
  apply List.ext_getElem?
  intro j
  rw [List.getElem?_set]
  by_cases hj : j < m
  · by_cases e : a = j
    · subst e
      rw [if_pos rfl, if_pos (by simpa [qL] using hj), qL_get _ _ _ hj, put2_self, put2_self, put2_self]
    · rw [if_neg e, qL_get _ _ _ hj, qL_get _ _ _ hj, put2_ne _ _ _ _ (Ne.symm e), put2_ne _ _ _ _ (Ne.symm e), put2_ne _ _ _ _ (Ne.symm e)]
  · by_cases e : a = j
    · subst e
      rw [if_pos rfl, if_neg (by simpa [qL] using hj), List.getElem?_eq_none (by simp [qL]; omega)]
    · rw [if_neg e, List.getElem?_eq_none (by simp [qL]; omega), List.getElem?_eq_none (by simp [qL]; omega)]
section
variable {e : TypeId} {w w' : World} {Z k : Nat} {v : Value} {xs : List Value}
theorem ownB {g m c r : Nat} (h : (Value.slice (some ⟨g, 0, none⟩) m c).ownBlock = some r) : g = r := by simpa [Value.ownBlock] using h
theorem own_some (h : w.ownsRow Z e 1 v k xs) (hk : 0 < k) : ∃ g cap, v = .slice (some ⟨g, 0, none⟩) k cap ∧ Z ≤ g ∧ g < w.heap.size ∧ k ≤ cap := by
  obtain ⟨hlen, h0 | ⟨g, cap, cur, rfl, hbg, hg, hnc, hcm, hcs, htake⟩⟩ := h
  · exact absurd h0.2 (by omega)
  · exact ⟨g, cap, rfl, hbg, row_lt hg, hnc⟩
theorem own_cell {g cap : Nat} (h : w.ownsRow Z e 1 (.slice (some ⟨g, 0, none⟩) k cap) k xs) {j : Nat} {u : Value} (hu : xs[j]? = some u) : w.cell? ⟨g, j, none⟩ = some u ∧ w.frozen? ⟨g, j, none⟩ = false := by
  obtain ⟨hlen, h0 | ⟨g', cap', cur, he, hbg, hg, hnc, hcm, hcs, htake⟩⟩ := h
  · cases h0.1
  · cases he
    refine ⟨(cell_of_heap hg j).trans ?_, frozen_of_heap hg j⟩
    have hj : j < k := by have := (List.getElem?_eq_some_iff.1 hu).1; omega
    have e2 : (cur.toList.take (k * 1))[j]? = xs[j]? := by rw [htake]
    rw [List.getElem?_take, if_pos (by omega), hu] at e2
    simpa using e2
theorem own_ch1 {S : Nat → Prop} (h : w.ownsRow Z e 1 v k xs) (hc : Ch S w w') (hs : ∀ q, v.ownBlock = some q → ¬ S q) : w'.ownsRow Z e 1 v k xs := by
  refine ⟨h.1, ?_⟩
  rcases h.2 with hn | ⟨g, cap, cur, rfl, h1, h2, h3⟩
  · exact .inl hn
  · exact .inr ⟨g, cap, cur, rfl, h1, hc.heap h2 (hs g rfl), h3⟩
theorem own_set {g cap : Nat} (h : w.ownsRow Z e 1 (.slice (some ⟨g, 0, none⟩) k cap) k xs) (a : Nat) (u : Value) : (w.setCell ⟨g, a, none⟩ u).ownsRow Z e 1 (.slice (some ⟨g, 0, none⟩) k cap) k (xs.set a u) := by
  obtain ⟨hlen, h0 | ⟨g', cap', cur, he, hbg, hg, hnc, hcm, hcs, htake⟩⟩ := h
  · cases h0.1
  · cases he
    refine ⟨by rw [List.length_set]; exact hlen, .inr ⟨g, cap, _, rfl, hbg, row_setM hg a u, hnc, hcm, by simpa using hcs, ?_⟩⟩
    rw [Array.toList_setIfInBounds, List.take_set, htake]
theorem own_one (w : World) (Z : Nat) (e : TypeId) (u : Value) (hZ : Z ≤ w.heap.size) : (w.alloc (.cells #[u] e)).ownsRow Z e 1 (.slice (some ⟨w.heap.size, 0, none⟩) 1 1) 1 [u] :=
  ⟨rfl, .inr ⟨w.heap.size, 1, _, rfl, hZ, World.alloc_heap_new w _, by omega, by simp [maxLen], rfl, rfl⟩⟩
end
/-- Branches: m sums under way, and the bytes that came to each. -/
structure Br (W : World) (Z r3 c3 r4 c4 m : Nat) (B : Nat → Nat) (q : Nat → Option Addr) (L c : Nat → Nat) (F : Nat → Nat → UInt8) : Prop where
  runs : W.ownsRow Z 52 1 (.slice (some ⟨r3, 0, none⟩) m c3) m (pL B m)
  came : W.ownsRow Z 34 1 (.slice (some ⟨r4, 0, none⟩) m c4) m (qL q L c m)
  run : ∀ j, j < m → RunAt W (B j) (F j) (L j)
  all : ∀ j, j < m → BytesAt W (q j) (L j) (c j) (F j)
  base : ∀ j, j < m → Z ≤ B j
  inj : ∀ i j, i < m → j < m → B i = B j → i = j
  rows : r3 ≠ r4
  apart : ∀ j, j < m → r3 ≠ B j ∧ r4 ≠ B j
  allB : ∀ i ad, i < m → q i = some ad → (∀ j, j < m → ad.block ≠ B j) ∧ ad.block ≠ r3 ∧ ad.block ≠ r4 ∧ ad.block < W.heap.size
section
variable {W W' : World} {Z r3 c3 r4 c4 m : Nat} {B : Nat → Nat} {q : Nat → Option Addr} {L c : Nat → Nat} {F : Nat → Nat → UInt8}
theorem Br.lt3 (h : Br W Z r3 c3 r4 c4 m B q L c F) : Z ≤ r3 ∧ r3 < W.heap.size := h.runs.lt r3 rfl
theorem Br.lt4 (h : Br W Z r3 c3 r4 c4 m B q L c F) : Z ≤ r4 ∧ r4 < W.heap.size := h.came.lt r4 rfl
theorem Br.ltB (h : Br W Z r3 c3 r4 c4 m B q L c F) {j : Nat} (hj : j < m) : B j < W.heap.size := cell_lt (h.run j hj).cnt
theorem Br.ch (h : Br W Z r3 c3 r4 c4 m B q L c F) (hc : Ch (fun _ => False) W W') : Br W' Z r3 c3 r4 c4 m B q L c F :=
  ⟨own_ch1 h.runs hc (fun _ _ => id), own_ch1 h.came hc (fun _ _ => id), fun j hj => (h.run j hj).ch hc id, fun j hj => (h.all j hj).ch hc (fun _ _ => id), h.base, h.inj, h.rows, h.apart, fun i ad hi e => by
    have h1 := h.allB i ad hi e; have := hc.size; exact ⟨h1.1, h1.2.1, h1.2.2.1, by omega⟩⟩
theorem Br.forked (h : Br W Z r3 c3 r4 c4 m B q L c F) {a b' s3 d3 s4 d4 : Nat} (ha : a < m) (hc : Ch (fun t => t = r3 ∨ t = r4) W W') (h3 : W'.ownsRow Z 52 1 (.slice (some ⟨s3, 0, none⟩) (m + 1) d3) (m + 1) (pL B m ++ [.pointer (some ⟨b', 0, none⟩)]))
    (h4 : W'.ownsRow Z 34 1 (.slice (some ⟨s4, 0, none⟩) (m + 1) d4) (m + 1) (qL q L c m ++ [.slice (q a) (L a) (c a)])) (hr : RunAt W' b' (F a) (L a)) (hb : W.heap.size ≤ b' ∧ b' < W'.heap.size)
    (e3 : s3 = r3 ∨ W.heap.size ≤ s3) (e4 : s4 = r4 ∨ W.heap.size ≤ s4) (n3 : s3 ≠ b') (n4 : s4 ≠ b') (n34 : s3 ≠ s4) :
    Br W' Z s3 d3 s4 d4 (m + 1) (put2 B m b') (put2 q m (q a)) (put2 L m (L a)) (put2 c m (c a)) (put2 F m (F a)) := by
  have hl3 := h.lt3; have hl4 := h.lt4
  have hz := hc.size
  have hall : ∀ j, j < m → BytesAt W' (q j) (L j) (c j) (F j) := fun j hj => bytes_ch_but (h.all j hj) hc (fun _ ad e => by
    have := h.allB j ad hj e
    rintro (e1 | e1)
    · exact this.2.1 e1
    · exact this.2.2.1 e1)
  have hrun : ∀ j, j < m → RunAt W' (B j) (F j) (L j) := fun j hj => (h.run j hj).ch hc (by
    have := h.apart j hj
    rintro (e1 | e1)
    · exact this.1 e1.symm
    · exact this.2 e1.symm)
  refine ⟨by rw [← pL_more]; exact h3, by rw [← qL_more]; exact h4, fun j hj => ?_, fun j hj => ?_, fun j hj => ?_, fun i j hi hj e => ?_, n34, fun j hj => ?_, fun i ad hi e => ?_⟩
  · by_cases k : j = m
    · subst k; rw [put2_self, put2_self, put2_self]; exact hr
    · rw [put2_ne _ _ _ _ k, put2_ne _ _ _ _ k, put2_ne _ _ _ _ k]; exact hrun j (by omega)
  · by_cases k : j = m
    · subst k; rw [put2_self, put2_self, put2_self, put2_self]; exact hall a ha
    · rw [put2_ne _ _ _ _ k, put2_ne _ _ _ _ k, put2_ne _ _ _ _ k, put2_ne _ _ _ _ k]; exact hall j (by omega)
  · by_cases k : j = m
    · subst k; rw [put2_self]; omega
    · rw [put2_ne _ _ _ _ k]; exact h.base j (by omega)
  · by_cases k : i = m
    · by_cases l : j = m
      · omega
      · subst k
        rw [put2_self, put2_ne _ _ _ _ l] at e
        have := h.ltB (j := j) (by omega)
        omega
    · by_cases l : j = m
      · subst l
        rw [put2_self, put2_ne _ _ _ _ k] at e
        have := h.ltB (j := i) (by omega)
        omega
      · rw [put2_ne _ _ _ _ k, put2_ne _ _ _ _ l] at e
        exact h.inj i j (by omega) (by omega) e
  · by_cases k : j = m
    · subst k; rw [put2_self]; exact ⟨n3, n4⟩
    · rw [put2_ne _ _ _ _ k]
      have := h.apart j (by omega); have := h.ltB (j := j) (by omega)
      omega
  · have key : ∀ i, i < m → q i = some ad → (∀ j, j < m + 1 → ad.block ≠ put2 B m b' j) ∧ ad.block ≠ s3 ∧ ad.block ≠ s4 ∧ ad.block < W'.heap.size := fun i hi e => by
      have h1 := h.allB i ad hi e
      refine ⟨fun j hj => ?_, by omega, by omega, by omega⟩
      by_cases k : j = m
      · subst k; rw [put2_self]; omega
      · rw [put2_ne _ _ _ _ k]; exact h1.1 j (by omega)
    by_cases k : i = m
    · subst k; rw [put2_self] at e; exact key a ha e
    · rw [put2_ne _ _ _ _ k] at e; exact key i (by omega) e
theorem Br.wrote (h : Br W Z r3 c3 r4 c4 m B q L c F) {a n c' : Nat} {q' : Option Addr} {G : Nat → UInt8} (ha : a < m) (hc : Ch (fun t => t = B a) W W') (hr : RunAt W' (B a) G (L a + n)) (hb : BytesAt W' q' (L a + n) c' G) (hq : ∀ ad, q' = some ad → W.heap.size ≤ ad.block ∧ ad.block < W'.heap.size) :
    Br (W'.setCell ⟨r4, a, none⟩ (.slice q' (L a + n) c')) Z r3 c3 r4 c4 m B (put2 q a q') (put2 L a (L a + n)) (put2 c a c') (put2 F a G) := by
  have hl3 := h.lt3; have hl4 := h.lt4
  have hz := hc.size
  have hs : Ch (fun t => t = r4) W' (W'.setCell ⟨r4, a, none⟩ (.slice q' (L a + n) c')) := Ch.setCell (S := fun t => t = r4) (Ch.refl _ W') (fun _ => rfl) _
  have hz2 := hs.size
  have hap := h.apart a ha
  have h4 := own_set (own_ch1 h.came hc (fun r e => ownB e ▸ hap.2)) a (.slice q' (L a + n) c')
  rw [qL_set] at h4
  refine ⟨own_ch1 (own_ch1 h.runs hc (fun r e => ownB e ▸ hap.1)) hs (fun r e => ownB e ▸ h.rows), h4, fun j hj => ?_, fun j hj => ?_, h.base, h.inj, h.rows, h.apart, fun i ad hi e => ?_⟩
  · have hj4 := (h.apart j hj).2
    by_cases k : j = a
    · subst k; rw [put2_self, put2_self]; exact hr.ch hs (fun e => hj4 e.symm)
    · rw [put2_ne _ _ _ _ k, put2_ne _ _ _ _ k]
      exact ((h.run j hj).ch hc (fun e => k (h.inj j a hj ha e))).ch hs (fun e => hj4 e.symm)
  · by_cases k : j = a
    · subst k; rw [put2_self, put2_self, put2_self, put2_self]
      exact bytes_ch_but hb hs (fun _ ad e => by have := hq ad e; show ¬ ad.block = r4; omega)
    · rw [put2_ne _ _ _ _ k, put2_ne _ _ _ _ k, put2_ne _ _ _ _ k, put2_ne _ _ _ _ k]
      exact bytes_ch_but (bytes_ch_but (h.all j hj) hc (fun _ ad e => (h.allB j ad hj e).1 a ha)) hs (fun _ ad e => (h.allB j ad hj e).2.2.1)
  · by_cases k : i = a
    · subst k
      rw [put2_self] at e
      have h1 := hq ad e
      exact ⟨fun j hj => by have := h.ltB hj; omega, by omega, by omega, by omega⟩
    · rw [put2_ne _ _ _ _ k] at e
      have h1 := h.allB i ad hi e
      exact ⟨h1.1, h1.2.1, h1.2.2.1, by omega⟩
end
/-- The forks, as they come in. -/
structure ForksAt (w : World) (a off N : Nat) (fr : Nat → Int) (st : Nat → Bool) (bp : Nat → Option Addr) (bl bc : Nat → Nat) (bf : Nat → Nat → UInt8) : Prop where
  frm : ∀ i, i < N → w.cell? ⟨a, off + i * 3, none⟩ = some (.int .i64 (fr i))
  stay : ∀ i, i < N → w.cell? ⟨a, off + i * 3 + 1, none⟩ = some (.bool (st i))
  row : ∀ i, i < N → w.cell? ⟨a, off + i * 3 + 2, none⟩ = some (.slice (bp i) (bl i) (bc i))
  bytes : ∀ i, i < N → BytesAt w (bp i) (bl i) (bc i) (bf i) ∨ (bl i = 0 ∧ (bp i = none → bc i = 0))
theorem ForksAt.ch {w w' : World} {a off N : Nat} {fr : Nat → Int} {st : Nat → Bool} {bp : Nat → Option Addr} {bl bc : Nat → Nat} {bf : Nat → Nat → UInt8} (h : ForksAt w a off N fr st bp bl bc bf) (hc : Ch (fun _ => False) w w') : ForksAt w' a off N fr st bp bl bc bf :=
  ⟨fun i hi => hc.get (h.frm i hi) id, fun i hi => hc.get (h.stay i hi) id, fun i hi => hc.get (h.row i hi) id, fun i hi => (h.bytes i hi).imp (fun x => x.ch hc (fun _ _ => id)) id⟩
/-- 'append([]byte{}, b...)': memory only grows. -/
theorem run_append_fresh (w : World) (g base : Nat) (p : Option Addr) (n c : Nat) (f : Nat → UInt8) (ty : TypeId) (hg : w.heap[g]? = some (.cells #[] 5)) (hbg : base ≤ g) (hbase : base ≤ w.heap.size) (hb : BytesAt w p n c f ∨ (n = 0 ∧ (p = none → c = 0))) (hn : n ≤ 10000000000000) :
    ∃ v' w', (Builtin.append_ #[34, 34] ty #[.slice (some ⟨g, 0, none⟩) 0 0, .slice p n c]).run Tryd.prog w = .ok v' w' ∧ w'.ownsRow base 5 1 v' n (fL f n) ∧ Ch (fun _ => False) w w' := by
  obtain ⟨i0, hi, hz0, hz1, hz2⟩ := info_parts info5
  have hown : ∀ w' : World, w'.heap[g]? = some (.cells #[] 5) → w'.ownsRow base 5 1 (.slice (some ⟨g, 0, none⟩) 0 0) 0 (fL f 0) := fun w' h => ⟨rfl, .inr ⟨g, 0, #[], rfl, hbg, h, by omega, by simp [maxLen], rfl, rfl⟩⟩
  have none_case : n = 0 → p = none → c = 0 → _ := fun h0 hp hc => (by
    subst h0; subst hp; subst hc
    exact ⟨_, _, by simp [Builtin.append_, run_underlying Tryd.underlying34, sizeOf, typeInfo, hi, Builtin.lenOf, Builtin.firstCells, loadCells, loadCellsFrom, storeCells], hown w hg, Ch.refl _ w⟩ :
    ∃ v' w', (Builtin.append_ #[34, 34] ty #[.slice (some ⟨g, 0, none⟩) 0 0, .slice p n c]).run Tryd.prog w = .ok v' w' ∧ w'.ownsRow base 5 1 v' n (fL f n) ∧ Ch (fun _ => False) w w')
  by_cases h0 : n = 0
  · subst h0
    cases p with
    | none =>
      rcases hb with (⟨x, y, e, _⟩ | ⟨_, _, hc⟩) | ⟨_, hc⟩
      · cases e
      · exact none_case rfl rfl hc
      · exact none_case rfl rfl (hc rfl)
    | some ad =>
      have hr := run_append_room (P := Tryd.prog) w 34 ty 5 i0 Tryd.underlying34 hi g 0 0 #[] hg ad 0 c [] (by simp) (fun j u h => by simp at h) (fun u h => by simp at h) (by omega) (by simp)
      simp only [Nat.zero_mul, List.take_zero, List.nil_append, List.drop_zero, List.length_nil, Nat.add_zero] at hr
      have hg2 : (w.setRow g #[]).heap[g]? = some (.cells #[] 5) := heap_setRow hg
      have hc1 : Ch (fun k => k = g) w (w.setRow g #[]) := Ch.setRow (S := fun k => k = g) (Ch.refl _ w) (fun _ => rfl) _
      refine ⟨_, _, hr, hown _ hg2, ⟨hc1.os, hc1.tape, hc1.output, hc1.size, fun k hk _ => ?_⟩⟩
      by_cases e : k = g
      · subst e; exact hg2.trans hg.symm
      · exact hc1.block k hk e
  · have hb' : BytesAt w p n c f := hb.resolve_right (fun h => h0 h.1)
    cases p with
    | none => rcases hb' with ⟨x, y, e, _⟩ | ⟨_, e, _⟩
              · cases e
              · exact absurd e h0
    | some ad =>
      have hr := run_append_grow (P := Tryd.prog) w 34 ty 5 i0 (.int .u8 0) Tryd.underlying34 hi hz0 ⟨g, 0, none⟩ 0 0 [] (by simp) (fun j u h => by simp at h) ad n c (fL f n) (by rw [fL_len, hz1]; omega) hb'.news (by omega) (by omega) (growslice_fits (by omega) (by rw [hz2]; omega))
      refine ⟨_, _, hr, ?_, ((Ch.refl _ w).drew).alloc _⟩
      have hge := grownCap_ge w (0 + n) 0 5
      have hge2 : n ≤ grownCap w n 0 5 := by simpa using hge
      refine ⟨by rw [fL_len]; omega, .inr ⟨w.heap.size, grownCap w (0 + n) 0 5, _, by rw [Nat.zero_add], hbase, heap_alloc_new w.drew _, by omega, grownCap_le_maxLen w _ _ 5 (by simp [maxLen]; omega), ?_, ?_⟩⟩
      · simp [size_zeroCells, fL_len, Value.cells]; omega
      · simp only [Array.toList_append, List.toList_toArray, List.nil_append]
        rw [List.take_append_of_le_length (by rw [fL_len]; omega), List.take_of_length_le (by rw [fL_len]; omega)]
/-! What the fork's region says of its new rows. -/
section
variable {S : Nat} {f : Nat → UInt8} {n : Nat} {v v' : World} {T : Nat → Prop} {r Z m : Nat} {B : Nat → Nat} {u : Value}
structure NewRun (v : World) (S : Nat) (f : Nat → UInt8) (n b : Nat) : Prop where
  run : RunAt v b f n
  lo : S ≤ b
theorem NewRun.lt {b : Nat} (h : NewRun v S f n b) : b < v.heap.size := cell_lt h.run.cnt
theorem NewRun.ch {b : Nat} (h : NewRun v S f n b) (hc : Ch T v v') (hs : ∀ i, i < v.heap.size → ¬ T i) : NewRun v' S f n b := ⟨h.run.ch hc (hs _ h.lt), h.lo⟩
theorem NewRun.but {b : Nat} (h : NewRun v S f n b) (hc : Ch (fun t => t = r) v v') (hr : r < S) : NewRun v' S f n b := ⟨h.run.ch hc (by have := h.lo; show ¬ b = r; omega), h.lo⟩
structure RowRun (v : World) (S : Nat) (f : Nat → UInt8) (n g b : Nat) : Prop where
  row : v.heap[g]? = some (.cells #[.pointer (some ⟨b, 0, none⟩)] 52)
  lo : S ≤ g
  run : NewRun v S f n b
theorem RowRun.ch {g b : Nat} (h : RowRun v S f n g b) (hc : Ch T v v') (hs : ∀ i, i < v.heap.size → ¬ T i) : RowRun v' S f n g b := ⟨hc.heap h.row (hs _ (row_lt h.row)), h.lo, h.run.ch hc hs⟩
theorem RowRun.but {g b : Nat} (h : RowRun v S f n g b) (hc : Ch (fun t => t = r) v v') (hr : r < S) : RowRun v' S f n g b := ⟨hc.heap h.row (by have := h.lo; show ¬ g = r; omega), h.lo, h.run.but hc hr⟩
structure NewCell (v : World) (S : Nat) (u : Value) (g c : Nat) : Prop where
  row : v.heap[g]? = some (.cells #[u] 34)
  lo : S ≤ g
theorem NewCell.ch {g c : Nat} (h : NewCell v S u g c) (hc : Ch T v v') (hs : ∀ i, i < v.heap.size → ¬ T i) : NewCell v' S u g c := ⟨hc.heap h.row (hs _ (row_lt h.row)), h.lo⟩
theorem NewCell.but {g c : Nat} (h : NewCell v S u g c) (hc : Ch (fun t => t = r) v v') (hr : r < S) : NewCell v' S u g c := ⟨hc.heap h.row (by have := h.lo; show ¬ g = r; omega), h.lo⟩
structure GrownR (v : World) (S : Nat) (f : Nat → UInt8) (n Z r m : Nat) (B : Nat → Nat) (g c b : Nat) : Prop where
  own : v.ownsRow Z 52 1 (.slice (some ⟨g, 0, none⟩) (m + 1) c) (m + 1) (pL B m ++ [.pointer (some ⟨b, 0, none⟩)])
  run : NewRun v S f n b
  old : g = r ∨ S ≤ g
  ne : g ≠ b
def GrownX (v : World) (S : Nat) (f : Nat → UInt8) (n Z r m : Nat) (B : Nat → Nat) (g c : Nat) : Prop := ∃ b, GrownR v S f n Z r m B g c b
theorem GrownX.ch {g c : Nat} (h : GrownX v S f n Z r m B g c) (hc : Ch T v v') (hs : ∀ i, i < v.heap.size → ¬ T i) : GrownX v' S f n Z r m B g c := by
  obtain ⟨b, h⟩ := h
  exact ⟨b, own_ch1 h.own hc (fun q e => hs _ (h.own.lt q e).2), h.run.ch hc hs, h.old, h.ne⟩
end
/-- What holds of the world while the fork's region comes up. -/
structure I11 (W : World) (r : Nat) (L : Array Bool) (w : World) : Prop where
  ch : Ch (fun t => t = r) W w
  quiet : lg L 7 = false → Ch (fun _ => False) W w
  p5 : lg L 5 = true → lg L 4 = true
  p6 : lg L 6 = true → lg L 5 = true
  p7 : lg L 7 = true → lg L 6 = true
section
variable {W w w' : World} {r : Nat} {L : Array Bool}
theorem I11.start (W : World) (r n : Nat) : I11 W r (Array.replicate n false) { W with drawn := W.drawn + 1 } :=
  ⟨(Ch.refl _ W).drew, fun _ => (Ch.refl _ W).drew, fun e => (lg_none' _ _ e).elim, fun e => (lg_none' _ _ e).elim, fun e => (lg_none' _ _ e).elim⟩
theorem I11.step (h : I11 W r L w) (hs : 14 ≤ L.size) (j : Nat) (hj : j < 14) (h7 : j ≠ 7) (h5 : j = 5 → lg L 4 = true) (h6 : j = 6 → lg L 5 = true) (hc : Ch (fun _ => False) w w') : I11 W r (L.setIfInBounds j true) w' := by
  have l := fun k => lg_set L j k (by omega)
  refine ⟨h.ch.trans (hc.mono (fun _ _ e => e.elim)), fun e => ?_, fun e => ?_, fun e => ?_, fun e => ?_⟩
  · rw [l, if_neg (Ne.symm h7)] at e; exact (h.quiet e).trans hc
  · rw [l] at e ⊢
    split
    · rfl
    · split at e
      · rename_i k; exact h5 k.symm
      · exact h.p5 e
  · rw [l] at e ⊢
    split
    · rfl
    · split at e
      · rename_i k; exact h6 k.symm
      · exact h.p6 e
  · rw [l, if_neg (Ne.symm h7)] at e
    rw [l]
    split
    · rfl
    · exact h.p7 e
theorem I11.seven (h : I11 W r L w) (hs : 14 ≤ L.size) (h6 : lg L 6 = true) (hc : Ch (fun t => t = r) w w') : I11 W r (L.setIfInBounds 7 true) w' := by
  have l := fun k => lg_set L 7 k (by omega)
  refine ⟨h.ch.trans hc, fun e => ?_, fun e => ?_, fun e => ?_, fun e => ?_⟩
  · rw [l, if_pos rfl] at e; cases e
  · rw [l, if_neg (by omega)] at e ⊢; exact h.p5 e
  · rw [l, if_neg (by omega)] at e ⊢; exact h.p6 e
  · rw [l, if_neg (by omega)]; exact h6
end
theorem row_news {w : World} {b : Nat} {u : Value} {t : TypeId} (h : w.heap[b]? = some (.cells #[u] t)) : ∀ j x, [u][j]? = some x → w.cell? ((⟨b, 0, none⟩ : Addr).add j) = some x := fun j x hx => by
  match j, hx with
  | 0, hx =>
    cases hx
    rw [show (⟨b, 0, none⟩ : Addr).add 0 = ⟨b, 0, none⟩ by simp [Addr.add]]
    exact (cell_of_heap h 0).trans rfl
/-- 'append(s, x)', x one element in a row of its own: the row lies where it lay, or in new memory. -/
theorem run_append_elem {w : World} {t e : TypeId} {i : TypeInfo} {z u : Value} (ht : Tryd.prog.underlying t = some (.slice e)) (hi : Tryd.prog.info? e = some i) (hz : i.zero = some z) (hs : i.size = 1) (hb : i.bytes ≤ 32) (hzc : z.cells.size = 1)
    {Z g k cap : Nat} {xs : List Value} (hown : w.ownsRow Z e 1 (.slice (some ⟨g, 0, none⟩) k cap) k xs) (hk : k ≤ 1000) (hZ : Z ≤ w.heap.size) {b : Nat} (hrow : w.heap[b]? = some (.cells #[u] e)) (h1 : u.oneCell' = true) (ty : TypeId) :
    ∃ g' cap' w', (Builtin.append_ #[t, t] ty #[.slice (some ⟨g, 0, none⟩) k cap, .slice (some ⟨b, 0, none⟩) 1 1]).run Tryd.prog w = .ok (.slice (some ⟨g', 0, none⟩) (k + 1) cap') w' ∧ w'.ownsRow Z e 1 (.slice (some ⟨g', 0, none⟩) (k + 1) cap') (k + 1) (xs ++ [u]) ∧ Ch (fun q => q = g) w w' ∧ (g' = g ∨ w.heap.size ≤ g') := by
  have hm : (k + 1) * i.bytes ≤ 140737488355328 := Nat.le_trans (Nat.mul_le_mul (show k + 1 ≤ 1001 by omega) hb) (by decide)
  have hn1 : ∀ x ∈ [u], x.oneCell' = true := fun x hx => by rw [List.mem_singleton.1 hx]; exact h1
  obtain ⟨v', w', hr, h2, h3, _⟩ := run_append_own (P := Tryd.prog) w Z t ty e i z 1 i.bytes ht hi hz hs rfl hzc (by decide) _ k xs hown ⟨b, 0, none⟩ 1 1 [u] rfl (row_news hrow) hn1 (by simp [maxLen]; omega) hm hZ
  obtain ⟨g', cap', rfl, _, _, _⟩ := own_some h2 (by omega)
  refine ⟨g', cap', w', hr, h2, Ch.grown (Ch.refl _ w) h3 (fun q e _ => (ownB e).symm), ?_⟩
  obtain ⟨hlen, h0 | ⟨g0, cap0, cur, he, hbg, hg, hnc, hcm, hcs, htake⟩⟩ := hown
  · cases h0.1
  · cases he
    have hown2 : w.ownsRow Z e 1 (.slice (some ⟨g, 0, none⟩) k cap) k xs := ⟨hlen, .inr ⟨g, cap, cur, rfl, hbg, hg, hnc, hcm, hcs, htake⟩⟩
    by_cases hroom : k + 1 ≤ cap
    · obtain ⟨w2, hr2, _⟩ := run_append_fits (P := Tryd.prog) w Z t ty e i 1 ht hi hs g k cap xs hown2 ⟨b, 0, none⟩ 1 1 [u] rfl (row_news hrow) hn1 hroom
      rw [hr2] at hr
      cases hr
      exact .inl rfl
    · have hr2 := run_append_grow (P := Tryd.prog) w t ty e i z ht hi hz ⟨g, 0, none⟩ k cap xs (by rw [hs]; exact hlen) (hown2.cells (g := g) rfl) ⟨b, 0, none⟩ 1 1 [u] (by rw [hs]; rfl) (row_news hrow) (by omega) (by omega) (growslice_fits (by omega) hm)
      rw [hr2] at hr
      cases hr
      exact .inr (Nat.le_refl _)
theorem wp_append_elem {w : World} {o : Oper} {a : Act} {K : Act → World → Prop} {Q : Exit → Act → World → Prop} (s x : Operand) {t e : TypeId} (ho : o.op = .call { callee := .builtin .append, args := #[s, x], argTypes := #[t, t] })
    {i : TypeInfo} {z u : Value} (ht : Tryd.prog.underlying t = some (.slice e)) (hi : Tryd.prog.info? e = some i) (hz : i.zero = some z) (hs : i.size = 1) (hb : i.bytes ≤ 32) (hzc : z.cells.size = 1)
    {Z g k cap b : Nat} {xs : List Value} (hsv : a.eval s = .slice (some ⟨g, 0, none⟩) k cap) (hown : w.ownsRow Z e 1 (.slice (some ⟨g, 0, none⟩) k cap) k xs) (hk : k ≤ 1000) (hZ : Z ≤ w.heap.size) (hxv : a.eval x = .slice (some ⟨b, 0, none⟩) 1 1) (hrow : w.heap[b]? = some (.cells #[u] e)) (h1 : u.oneCell' = true)
    (h : ∀ g' cap' w', w'.ownsRow Z e 1 (.slice (some ⟨g', 0, none⟩) (k + 1) cap') (k + 1) (xs ++ [u]) → Ch (fun q => q = g) w w' → (g' = g ∨ w.heap.size ≤ g') → K (a.put o.dst (.slice (some ⟨g', 0, none⟩) (k + 1) cap')) w') : o.wp Tryd.prog a w K Q := by
  obtain ⟨g', cap', w', hr, h2, h3, h4⟩ := run_append_elem ht hi hz hs hb hzc hown hk hZ hrow h1 o.type
  unfold Oper.wp execOp
  simp only [ho, resolve, invoke, builtin, Sem.run_bind, Sem.run_pure, Result.andThen_ok, List.map_toArray, List.map_cons, List.map_nil, hsv, hxv, hr]
  exact h g' cap' w' h2 h3 h4
theorem wp_append_fresh {w : World} {o : Oper} {a : Act} {K : Act → World → Prop} {Q : Exit → Act → World → Prop} (s x : Operand) (ho : o.op = .call { callee := .builtin .append, args := #[s, x], argTypes := #[34, 34] })
    {g base n c : Nat} {p : Option Addr} {f : Nat → UInt8} (hsv : a.eval s = .slice (some ⟨g, 0, none⟩) 0 0) (hg : w.heap[g]? = some (.cells #[] 5)) (hbg : base ≤ g) (hbase : base ≤ w.heap.size) (hxv : a.eval x = .slice p n c) (hb : BytesAt w p n c f ∨ (n = 0 ∧ (p = none → c = 0))) (hn : n ≤ 10000000000000)
    (h : ∀ v' w', w'.ownsRow base 5 1 v' n (fL f n) → Ch (fun _ => False) w w' → K (a.put o.dst v') w') : o.wp Tryd.prog a w K Q := by
  obtain ⟨v', w', hr, h2, h3⟩ := run_append_fresh w g base p n c f o.type hg hbg hbase hb hn
  unfold Oper.wp execOp
  simp only [ho, resolve, invoke, builtin, Sem.run_bind, Sem.run_pure, Result.andThen_ok, List.map_toArray, List.map_cons, List.map_nil, hsv, hxv, hr]
  exact h v' w' h2 h3
end Go.Proofs.YtdmeeghgbiffmaaDoor
