/-
  Plain: which blocks a step may change ('Ch'), and SHA-256's press on words.
-/
import Derived.Test.YtikdpiedjkailaaDoorMath
import Derived.RangeFuncRecord
import Derived.Laws.Tables
import Derived.Laws.Rows
namespace Go.Proofs.YtikdpiedjkailaaDoor
open Go.RowKit

/-- Of what was there only blocks of S may have changed; streams and tape are as they were. -/
structure Ch (S : Nat → Prop) (w w' : World) : Prop where
  os : w'.os = w.os
  tape : w'.tape = w.tape
  output : w'.output = w.output
  size : w.heap.size ≤ w'.heap.size
  block : ∀ k, k < w.heap.size → ¬ S k → w'.heap[k]? = w.heap[k]?

section
variable {S T : Nat → Prop} {a b c w : World}
theorem Ch.refl (S : Nat → Prop) (w : World) : Ch S w w := ⟨rfl, rfl, rfl, Nat.le_refl _, fun _ _ _ => rfl⟩
theorem Ch.trans (h : Ch S a b) (k : Ch S b c) : Ch S a c :=
  ⟨k.os.trans h.os, k.tape.trans h.tape, k.output.trans h.output, Nat.le_trans h.size k.size, fun i hi hs => (k.block i (Nat.lt_of_lt_of_le hi h.size) hs).trans (h.block i hi hs)⟩
/-- The second step may change what is in T, of which what lay in the first world is in S. -/
theorem Ch.then (h : Ch S a b) (k : Ch T b c) (hT : ∀ i, i < a.heap.size → T i → S i) : Ch S a c :=
  ⟨k.os.trans h.os, k.tape.trans h.tape, k.output.trans h.output, Nat.le_trans h.size k.size,
    fun i hi hs => (k.block i (Nat.lt_of_lt_of_le hi h.size) (fun e => hs (hT i hi e))).trans (h.block i hi hs)⟩
theorem Ch.mono (h : Ch S a b) (hT : ∀ i, i < a.heap.size → S i → T i) : Ch T a b :=
  ⟨h.os, h.tape, h.output, h.size, fun i hi hs => h.block i hi (fun e => hs (hT i hi e))⟩
theorem Ch.alloc (h : Ch S a w) (o : Obj) : Ch S a (w.alloc o) :=
  h.trans ⟨rfl, rfl, rfl, by simp, fun k hk _ => Below.heap_alloc _ _ _ hk⟩
theorem Ch.setCell (h : Ch S a w) {p : Addr} (hp : p.block < a.heap.size → S p.block) (u : Value) : Ch S a (w.setCell p u) :=
  ⟨h.os, h.tape, h.output, Nat.le_trans h.size (by simp [World.setCell]), fun k hk hs => (Below.heap_setCell _ _ _ _ (fun e => by subst e; exact hs (hp hk))).trans (h.block k hk hs)⟩
theorem Ch.drew (h : Ch S a w) : Ch S a w.drew := ⟨h.os, h.tape, h.output, h.size, h.block⟩
theorem Ch.drewN (h : Ch S a w) (n : Nat) : Ch S a (w.drewN n) := ⟨h.os, h.tape, h.output, h.size, h.block⟩
theorem Ch.putObj (h : Ch S a w) {r : Nat} (hr : r < a.heap.size → S r) (o : Obj) : Ch S a (w.putObj r o) :=
  ⟨h.os, h.tape, h.output, by simpa using h.size, fun k hk hs => (World.putObj_heap_other (fun e => by subst e; exact hs (hr hk))).trans (h.block k hk hs)⟩
theorem Ch.cell (h : Ch S a b) {p : Addr} (hp : p.block < a.heap.size) (hs : ¬ S p.block) : b.cell? p = a.cell? p := World.cell?_of_block (w := a) (h.block p.block hp hs)
theorem Ch.frozen (h : Ch S a b) {p : Addr} (hp : p.block < a.heap.size) (hs : ¬ S p.block) : b.frozen? p = a.frozen? p := World.frozen?_of_block (w := a) (h.block p.block hp hs)
theorem cell_lt {p : Addr} {v : Value} (h : a.cell? p = some v) : p.block < a.heap.size := by
  unfold World.cell? at h
  split at h
  · rename_i e; exact (Array.getElem?_eq_some_iff.1 e).1
  · cases h
theorem Ch.get (h : Ch S a b) {p : Addr} {v : Value} (hv : a.cell? p = some v) (hs : ¬ S p.block) : b.cell? p = some v := (h.cell (cell_lt hv) hs).trans hv
theorem Ch.grown {row : Option Nat} (h : Ch S a b) (hg : b.grownBy c row) (hr : ∀ k, row = some k → k < a.heap.size → S k) : Ch S a c :=
  ⟨hg.os.trans h.os, hg.tape.trans h.tape, hg.output.trans h.output, Nat.le_trans h.size hg.size,
    fun k hk hs => (hg.block k (Nat.lt_of_lt_of_le hk h.size) (fun e => hs (hr k e.symm hk))).trans (h.block k hk hs)⟩
theorem Ch.below (h : Ch (fun _ => False) a b) : Below a.heap.size a b := ⟨h.os, h.tape, h.output, h.size, fun k hk => h.block k hk (fun e => e)⟩
theorem Ch.of_below {n : Nat} (h : Below n a b) : Ch (fun k => n ≤ k) a b := ⟨h.os, h.tape, h.output, h.size, fun k _ hs => h.block k (Nat.lt_of_not_le hs)⟩
end

theorem cell_fresh (w : World) (c : Array Value) (t : TypeId) (o : Nat) : (w.alloc (.cells c t)).cell? ⟨w.heap.size, o, none⟩ = c[o]? := by
  unfold World.cell?
  simp only
  rw [World.alloc_heap_new]
  rfl
theorem frozen_fresh (w : World) (c : Array Value) (t : TypeId) (o : Nat) : (w.alloc (.cells c t)).frozen? ⟨w.heap.size, o, none⟩ = false := by
  unfold World.frozen?
  simp only
  rw [World.alloc_heap_new]
  simp
theorem Ch.setRow {S : Nat → Prop} {a w : World} (h : Ch S a w) {g : Nat} (hg : g < a.heap.size → S g) (cells : Array Value) : Ch S a (w.setRow g cells) := by
  refine ⟨h.os, h.tape, h.output, ?_, fun k hk hs => ?_⟩
  · have := h.size; simpa [World.setRow] using this
  · have hne : k ≠ g := fun e => by subst e; exact hs (hg hk)
    refine Eq.trans ?_ (h.block k hk hs)
    simp [World.setRow, Array.getElem?_modify, Ne.symm hne]
theorem heap_setRow {w : World} {g : Nat} {old cells : Array Value} {t : TypeId} {fr : Nat × Nat} (h : w.heap[g]? = some (.cells old t fr)) : (w.setRow g cells).heap[g]? = some (.cells cells t fr) := by
  simp [World.setRow, Array.getElem?_modify, h]
theorem cell_of_heap {w : World} {b : Nat} {c : Array Value} {t : TypeId} {fr : Nat × Nat} (h : w.heap[b]? = some (.cells c t fr)) (o : Nat) : w.cell? ⟨b, o, none⟩ = c[o]? := by
  unfold World.cell?
  simp only
  rw [h]
  rfl
theorem frozen_of_heap {w : World} {b : Nat} {c : Array Value} {t : TypeId} (h : w.heap[b]? = some (.cells c t)) (o : Nat) : w.frozen? ⟨b, o, none⟩ = false := by
  unfold World.frozen?
  simp only
  rw [h]
  simp
theorem Ch.heap {S : Nat → Prop} {a b : World} (h : Ch S a b) {k : Nat} {o : Obj} (ho : a.heap[k]? = some o) (hs : ¬ S k) : b.heap[k]? = some o :=
  (h.block k (Array.getElem?_eq_some_iff.1 ho).1 hs).trans ho
/-- As 'Ch', and of block b the cells ahead of the sixteenth alone. -/
structure Rch (S : Nat → Prop) (b : Nat) (A B : World) : Prop where
  ch : Ch (fun k => k = b ∨ S k) A B
  cell : ∀ o, 16 ≤ o → B.cell? ⟨b, o, none⟩ = A.cell? ⟨b, o, none⟩
  froz : ∀ o, B.frozen? ⟨b, o, none⟩ = A.frozen? ⟨b, o, none⟩
section
variable {S T : Nat → Prop} {b : Nat} {A B C : World}
theorem Rch.refl (S : Nat → Prop) (b : Nat) (A : World) : Rch S b A A := ⟨Ch.refl _ _, fun _ _ => rfl, fun _ => rfl⟩
theorem Rch.trans (h : Rch S b A B) (k : Rch S b B C) : Rch S b A C := ⟨h.ch.trans k.ch, fun o ho => (k.cell o ho).trans (h.cell o ho), fun o => (k.froz o).trans (h.froz o)⟩
theorem Rch.mono (h : Rch S b A B) (hT : ∀ i, i < A.heap.size → S i → T i) : Rch T b A B := ⟨h.ch.mono (fun i hi hs => hs.imp id (hT i hi)), h.cell, h.froz⟩
theorem Rch.of_ch (h : Ch S A B) (hb : b < A.heap.size) (hs : ¬ S b) : Rch S b A B :=
  ⟨h.mono (fun _ _ hs => .inr hs), fun o _ => h.cell (p := ⟨b, o, none⟩) hb hs, fun o => h.frozen (p := ⟨b, o, none⟩) hb hs⟩
theorem Rch.then (h : Rch S b A B) (k : Rch T b B C) (hT : ∀ i, i < A.heap.size → T i → S i) : Rch S b A C :=
  ⟨h.ch.then k.ch (fun i hi ht => ht.imp id (hT i hi)), fun o ho => (k.cell o ho).trans (h.cell o ho), fun o => (k.froz o).trans (h.froz o)⟩
theorem Rch.ring (A : World) (n j : Nat) (hj : j < 16) (v : Value) : Rch S b A ((A.drewN n).setCell ⟨b, j, none⟩ v) :=
  ⟨Ch.setCell (S := fun k => k = b ∨ S k) ((Ch.refl _ A).drewN n) (p := ⟨b, j, none⟩) (fun _ => .inl rfl) _,
    fun o ho => (World.cell?_setCell_other _ _ _ _ (fun h => by cases h; omega)).trans rfl, fun o => by rw [World.frozen?_setCell]; rfl⟩
end

/-- A state of eight words. -/
structure St where
  a : BitVec 32
  b : BitVec 32
  c : BitVec 32
  d : BitVec 32
  e : BitVec 32
  f : BitVec 32
  g : BitVec 32
  h : BitVec 32
deriving DecidableEq
abbrev wv (x : BitVec 32) : Value := .int .u32 (un x)
def St.cells (s : St) : Array Value := #[wv s.a, wv s.b, wv s.c, wv s.d, wv s.e, wv s.f, wv s.g, wv s.h]
def St.word (s : St) (j : Nat) : BitVec 32 := match j with | 0 => s.a | 1 => s.b | 2 => s.c | 3 => s.d | 4 => s.e | 5 => s.f | 6 => s.g | _ => s.h
def St.val (s : St) : Value := .agg s.cells

/-- One of the sixty-four turns. -/
def turn (s : St) (k m : BitVec 32) : St :=
  let x := s.h + sx s.e [6, 11, 25] + ((s.e &&& s.f) ^^^ ((~~~ s.e) &&& s.g)) + k + m
  let y := sx s.a [2, 13, 22] + ((s.a &&& s.b) ^^^ (s.a &&& s.c) ^^^ (s.b &&& s.c))
  ⟨x + y, s.a, s.b, s.c, s.d + x, s.e, s.f, s.g⟩
def St.plus (s t : St) : St := ⟨s.a + t.a, s.b + t.b, s.c + t.c, s.d + t.d, s.e + t.e, s.f + t.f, s.g + t.g, s.h + t.h⟩

/-- The ring of sixteen words behind its word of turn t was made. -/
def near (x : BitVec 32) : BitVec 32 := sx x [17, 19] ^^^ x >>> 10
def far (x : BitVec 32) : BitVec 32 := sx x [7, 18] ^^^ x >>> 3
def made (r : Nat → BitVec 32) (t : Nat) : BitVec 32 := r (t % 16) + (near (r ((t + 14) % 16)) + r ((t + 9) % 16) + far (r ((t + 1) % 16)))
def ringAt (m : Nat → BitVec 32) : Nat → Nat → BitVec 32
  | 0 => m
  | t + 1 => if t < 16 then ringAt m t else fun j => if j = t % 16 then made (ringAt m t) t else ringAt m t j
/-- The word that turn t takes. -/
def word (m : Nat → BitVec 32) (t : Nat) : BitVec 32 := ringAt m (t + 1) (t % 16)
def turns (k : Nat → BitVec 32) (m : Nat → BitVec 32) (s : St) : Nat → St
  | 0 => s
  | t + 1 => turn (turns k m s t) (k t) (word m t)
end Go.Proofs.YtikdpiedjkailaaDoor
