/-
  Words of 32 bits in a walk: 'un x' is the integer of the word x, and the walk's operations on such integers are those on words.
-/
import Derived.WalkKit
import Derived.WalkSpells
import Derived.WalkLawsBesides
import Derived.Lib.Hide
import Derived.Deep.QuietTactic
import Derived.BigQuiet
import Derived.BigRegion
import Derived.StillTailTactics
import Derived.Handy
import Derived.Deep.LoopGhost
import Derived.Deep.DeepCutAuto
import Derived.Deep.DeepFit
import Derived.Deep.RegionWith
import Derived.Deep.RegionLaw
import Derived.RangeFuncRecord
import Derived.Laws.Tables
import Derived.Laws.Rows
namespace Go.Proofs.Ytljllfdigfojdaa
open Go Go.RowKit

/-- A word's integer. -/
def un (x : BitVec 32) : Int := (x.toNat : Int)
theorem un_nonneg (x : BitVec 32) : 0 ≤ un x := by unfold un; omega
theorem un_lt (x : BitVec 32) : un x < 4294967296 := by have := x.isLt; unfold un; omega
theorem un_inj {x y : BitVec 32} (h : un x = un y) : x = y := by
  unfold un at h; apply BitVec.eq_of_toNat_eq; omega
theorem un_ofNat (n : Nat) (h : n < 4294967296) : un (BitVec.ofNat 32 n) = (n : Int) := by
  unfold un; rw [BitVec.toNat_ofNat, Nat.mod_eq_of_lt (by omega)]
theorem un_of_int (n : Int) (h0 : 0 ≤ n) (h1 : n ≤ 4294967295) : ∃ x, n = un x :=
  ⟨BitVec.ofNat 32 n.toNat, by rw [un_ofNat _ (by omega)]; omega⟩

theorem wrap32_nat (n : Nat) : IntKind.u32.wrap (n : Int) = un (BitVec.ofNat 32 n) := by
  rw [IntKind.wrap_u32']; simp [un]
theorem ofInt_un (x : BitVec 32) : BitVec.ofInt 32 (un x) = x := by
  apply BitVec.eq_of_toNat_eq; simp [un]
theorem back32 (r : BitVec 32) : IntKind.u32.wrap (r.toNat : Int) = un r := by
  rw [wrap32_nat]; simp
theorem wrap_un (x : BitVec 32) : IntKind.u32.wrap (un x) = un x := back32 x

theorem wrap_add (x y : BitVec 32) : IntKind.u32.wrap (un x + un y) = un (x + y) := by
  unfold un
  rw [show ((x.toNat : Int) + (y.toNat : Int)) = ((x.toNat + y.toNat : Nat) : Int) by simp, wrap32_nat]
  simp [un]
theorem add32 (x y : BitVec 32) : Op.intArith .add .u32 (un x) (un y) = pure (.int .u32 (un (x + y))) := by
  show pure (Value.int .u32 (IntKind.u32.wrap (un x + un y))) = _
  rw [wrap_add]
theorem xor32 (x y : BitVec 32) : Op.intBits .xor .u32 (un x) (un y) = pure (.int .u32 (un (x ^^^ y))) := by
  show pure (Value.int .u32 (IntKind.u32.wrap ((BitVec.ofInt 32 (un x) ^^^ BitVec.ofInt 32 (un y)).toNat : Int))) = _
  rw [ofInt_un, ofInt_un, back32]
theorem and32 (x y : BitVec 32) : Op.intBits .and .u32 (un x) (un y) = pure (.int .u32 (un (x &&& y))) := by
  show pure (Value.int .u32 (IntKind.u32.wrap ((BitVec.ofInt 32 (un x) &&& BitVec.ofInt 32 (un y)).toNat : Int))) = _
  rw [ofInt_un, ofInt_un, back32]
theorem or32 (x y : BitVec 32) : Op.intBits .or .u32 (un x) (un y) = pure (.int .u32 (un (x ||| y))) := by
  show pure (Value.int .u32 (IntKind.u32.wrap ((BitVec.ofInt 32 (un x) ||| BitVec.ofInt 32 (un y)).toNat : Int))) = _
  rw [ofInt_un, ofInt_un, back32]
theorem not32 (x : BitVec 32) : Op.unary .xor (.int .u32 (un x)) = pure (.int .u32 (un (~~~ x))) := by
  show pure (Value.int .u32 (IntKind.u32.wrap ((BitVec.ofInt 32 (IntKind.u32.max) ^^^ BitVec.ofInt 32 (un x)).toNat : Int))) = _
  rw [ofInt_un, back32]
  rw [show BitVec.ofInt 32 (IntKind.u32.max) = BitVec.allOnes 32 by decide, BitVec.allOnes_xor]
theorem shr32n (yk : IntKind) (x : BitVec 32) (n : Nat) (h : n ≤ 31) : Op.shift .shr .u32 (un x) yk (n : Int) = pure (.int .u32 (un (x >>> n))) := by
  simp only [Op.shift]
  rw [if_neg (by omega)]
  show pure (Value.int .u32 ((un x).fdiv (2 ^ min ((n : Int).toNat) 32))) = _
  rw [show min ((n : Int).toNat) 32 = n by omega]
  rw [Int.fdiv_eq_ediv_of_nonneg _ (by exact_mod_cast Nat.zero_le (2 ^ n))]
  simp [un, BitVec.toNat_ushiftRight, Nat.shiftRight_eq_div_pow]
theorem shl32n (yk : IntKind) (x : BitVec 32) (n : Nat) (h : n ≤ 31) : Op.shift .shl .u32 (un x) yk (n : Int) = pure (.int .u32 (un (x <<< n))) := by
  simp only [Op.shift]
  rw [if_neg (by omega)]
  show pure (Value.int .u32 (IntKind.u32.wrap ((un x) * (2 ^ min ((n : Int).toNat) 32)))) = _
  rw [show min ((n : Int).toNat) 32 = n by omega, show ((un x) * 2 ^ n) = ((x.toNat * 2 ^ n : Nat) : Int) by simp [un], wrap32_nat]
  simp [un, BitVec.toNat_shiftLeft, Nat.shiftLeft_eq]
theorem shr32 (yk : IntKind) (x : BitVec 32) (n : Int) (h0 : 0 ≤ n) (h : n ≤ 31) : Op.shift .shr .u32 (un x) yk n = pure (.int .u32 (un (x >>> n.toNat))) := by
  obtain ⟨m, rfl⟩ := Int.eq_ofNat_of_zero_le h0
  rw [shr32n yk x m (by omega), Int.toNat_natCast]
theorem shl32 (yk : IntKind) (x : BitVec 32) (n : Int) (h0 : 0 ≤ n) (h : n ≤ 31) : Op.shift .shl .u32 (un x) yk n = pure (.int .u32 (un (x <<< n.toNat))) := by
  obtain ⟨m, rfl⟩ := Int.eq_ofNat_of_zero_le h0
  rw [shl32n yk x m (by omega), Int.toNat_natCast]
section
variable (t : TypeId) (yk : IntKind) (x y : BitVec 32) (n : Int)
theorem b_add : binOp .add t (.int .u32 (un x)) (.int .u32 (un y)) = pure (.int .u32 (un (x + y))) := add32 x y
theorem b_xor : binOp .xor t (.int .u32 (un x)) (.int .u32 (un y)) = pure (.int .u32 (un (x ^^^ y))) := xor32 x y
theorem b_and : binOp .and t (.int .u32 (un x)) (.int .u32 (un y)) = pure (.int .u32 (un (x &&& y))) := and32 x y
theorem b_or : binOp .or t (.int .u32 (un x)) (.int .u32 (un y)) = pure (.int .u32 (un (x ||| y))) := or32 x y
theorem b_shr (h0 : 0 ≤ n) (h : n ≤ 31) : binOp .shr t (.int .u32 (un x)) (.int yk n) = pure (.int .u32 (un (x >>> n.toNat))) := shr32 yk x n h0 h
theorem b_shl (h0 : 0 ≤ n) (h : n ≤ 31) : binOp .shl t (.int .u32 (un x)) (.int yk n) = pure (.int .u32 (un (x <<< n.toNat))) := shl32 yk x n h0 h
end
theorem beq32 (x y : BitVec 32) : (un x == un y) = (x == y) := by
  by_cases h : x = y
  · subst h; rw [beq_self_eq_true, beq_self_eq_true]
  · rw [beq_eq_false_iff_ne.2 h, beq_eq_false_iff_ne.2 (fun e => h (un_inj e))]

theorem quiet_q {P : Program} {f : FuncId} {args : Array Value} {w : World} {n : Nat} {v : Value}
    (h : Calls P f args (w.drewN n) fun e w' => e = .returned v ∧ w.drewN n = w') : Calls P f args (w.drewN n) fun e w'' => e = .returned v ∧ ∃ m, w'' = w.drewN m :=
  h.mono fun _ _ ⟨he, hm⟩ => ⟨he, n, hm.symm⟩


abbrev wv (x : BitVec 32) : Value := .int .u32 (un x)
theorem neg32 (x : BitVec 32) : Op.unary .neg (.int .u32 (un x)) = pure (.int .u32 (un (-x))) := by
  show pure (Value.int .u32 (IntKind.u32.wrap (0 - un x))) = _
  congr 2
  rw [IntKind.wrap_u32']
  unfold un
  rw [BitVec.toNat_neg]
  have := x.isLt
  omega
theorem and1_nat (x : BitVec 32) : (x &&& 1#32).toNat = x.toNat % 2 := by
  rw [BitVec.toNat_and]; exact Nat.and_one_is_mod _
theorem and1_val (x : BitVec 32) : un (x &&& 1#32) = un x % 2 := by
  unfold un; rw [and1_nat]; omega
theorem shr1_val (x : BitVec 32) : un (x >>> 1) = un x / 2 := by
  unfold un; rw [BitVec.toNat_ushiftRight, Nat.shiftRight_eq_div_pow]; omega
/-- Of what was there only blocks of S may have changed; streams and tape are as they were. -/
structure Ch (S : Nat → Prop) (w w' : World) : Prop where
  os : w'.os = w.os
  tape : w'.tape = w.tape
  output : w'.output = w.output
  size : w.heap.size ≤ w'.heap.size
  block : ∀ k, k < w.heap.size → ¬ S k → w'.heap[k]? = w.heap[k]?

section
variable {S T : Nat → Prop} {a b c w : World}
theorem Ch.refl (S : Nat → Prop) (w : World) : Ch S w w := ⟨rfl, rfl, rfl, Nat.le_refl _, fun _ _ _ => rfl⟩
theorem Ch.trans (h : Ch S a b) (k : Ch S b c) : Ch S a c :=
  ⟨k.os.trans h.os, k.tape.trans h.tape, k.output.trans h.output, Nat.le_trans h.size k.size, fun i hi hs => (k.block i (Nat.lt_of_lt_of_le hi h.size) hs).trans (h.block i hi hs)⟩
/-- The second step may change what is in T, of which what lay in the first world is in S. -/
theorem Ch.then (h : Ch S a b) (k : Ch T b c) (hT : ∀ i, i < a.heap.size → T i → S i) : Ch S a c :=
  ⟨k.os.trans h.os, k.tape.trans h.tape, k.output.trans h.output, Nat.le_trans h.size k.size,
    fun i hi hs => (k.block i (Nat.lt_of_lt_of_le hi h.size) (fun e => hs (hT i hi e))).trans (h.block i hi hs)⟩
theorem Ch.mono (h : Ch S a b) (hT : ∀ i, i < a.heap.size → S i → T i) : Ch T a b :=
  ⟨h.os, h.tape, h.output, h.size, fun i hi hs => h.block i hi (fun e => hs (hT i hi e))⟩
theorem Ch.alloc (h : Ch S a w) (o : Obj) : Ch S a (w.alloc o) :=
  h.trans ⟨rfl, rfl, rfl, by simp, fun k hk _ => Below.heap_alloc _ _ _ hk⟩
theorem Ch.setCell (h : Ch S a w) {p : Addr} (hp : p.block < a.heap.size → S p.block) (u : Value) : Ch S a (w.setCell p u) :=
  ⟨h.os, h.tape, h.output, Nat.le_trans h.size (by simp [World.setCell]), fun k hk hs => (Below.heap_setCell _ _ _ _ (fun e => by subst e; exact hs (hp hk))).trans (h.block k hk hs)⟩
theorem Ch.drew (h : Ch S a w) : Ch S a w.drew := ⟨h.os, h.tape, h.output, h.size, h.block⟩
theorem Ch.drewN (h : Ch S a w) (n : Nat) : Ch S a (w.drewN n) := ⟨h.os, h.tape, h.output, h.size, h.block⟩
theorem Ch.putObj (h : Ch S a w) {r : Nat} (hr : r < a.heap.size → S r) (o : Obj) : Ch S a (w.putObj r o) :=
  ⟨h.os, h.tape, h.output, by simpa using h.size, fun k hk hs => (World.putObj_heap_other (fun e => by subst e; exact hs (hr hk))).trans (h.block k hk hs)⟩
theorem Ch.cell (h : Ch S a b) {p : Addr} (hp : p.block < a.heap.size) (hs : ¬ S p.block) : b.cell? p = a.cell? p := World.cell?_of_block (w := a) (h.block p.block hp hs)
theorem Ch.frozen (h : Ch S a b) {p : Addr} (hp : p.block < a.heap.size) (hs : ¬ S p.block) : b.frozen? p = a.frozen? p := World.frozen?_of_block (w := a) (h.block p.block hp hs)
theorem cell_lt {p : Addr} {v : Value} (h : a.cell? p = some v) : p.block < a.heap.size := by
  unfold World.cell? at h
  split at h
  · rename_i e; exact (Array.getElem?_eq_some_iff.1 e).1
  · cases h
theorem Ch.get (h : Ch S a b) {p : Addr} {v : Value} (hv : a.cell? p = some v) (hs : ¬ S p.block) : b.cell? p = some v := (h.cell (cell_lt hv) hs).trans hv
theorem Ch.grown {row : Option Nat} (h : Ch S a b) (hg : b.grownBy c row) (hr : ∀ k, row = some k → k < a.heap.size → S k) : Ch S a c :=
  ⟨hg.os.trans h.os, hg.tape.trans h.tape, hg.output.trans h.output, Nat.le_trans h.size hg.size,
    fun k hk hs => (hg.block k (Nat.lt_of_lt_of_le hk h.size) (fun e => hs (hr k e.symm hk))).trans (h.block k hk hs)⟩
theorem Ch.below (h : Ch (fun _ => False) a b) : Below a.heap.size a b := ⟨h.os, h.tape, h.output, h.size, fun k hk => h.block k hk (fun e => e)⟩
theorem Ch.of_below {n : Nat} (h : Below n a b) : Ch (fun k => n ≤ k) a b := ⟨h.os, h.tape, h.output, h.size, fun k _ hs => h.block k (Nat.lt_of_not_le hs)⟩
end

theorem cell_fresh (w : World) (c : Array Value) (t : TypeId) (o : Nat) : (w.alloc (.cells c t)).cell? ⟨w.heap.size, o, none⟩ = c[o]? := by
  unfold World.cell?
  simp only
  rw [World.alloc_heap_new]
  rfl
theorem frozen_fresh (w : World) (c : Array Value) (t : TypeId) (o : Nat) : (w.alloc (.cells c t)).frozen? ⟨w.heap.size, o, none⟩ = false := by
  unfold World.frozen?
  simp only
  rw [World.alloc_heap_new]
  simp
theorem Ch.setRow {S : Nat → Prop} {a w : World} (h : Ch S a w) {g : Nat} (hg : g < a.heap.size → S g) (cells : Array Value) : Ch S a (w.setRow g cells) := by
  refine ⟨h.os, h.tape, h.output, ?_, fun k hk hs => ?_⟩
  · have := h.size; simpa [World.setRow] using this
  · have hne : k ≠ g := fun e => by subst e; exact hs (hg hk)
    refine Eq.trans ?_ (h.block k hk hs)
    simp [World.setRow, Array.getElem?_modify, Ne.symm hne]
theorem heap_setRow {w : World} {g : Nat} {old cells : Array Value} {t : TypeId} {fr : Nat × Nat} (h : w.heap[g]? = some (.cells old t fr)) : (w.setRow g cells).heap[g]? = some (.cells cells t fr) := by
  simp [World.setRow, Array.getElem?_modify, h]
theorem cell_of_heap {w : World} {b : Nat} {c : Array Value} {t : TypeId} {fr : Nat × Nat} (h : w.heap[b]? = some (.cells c t fr)) (o : Nat) : w.cell? ⟨b, o, none⟩ = c[o]? := by
  unfold World.cell?
  simp only
  rw [h]
  rfl
theorem frozen_of_heap {w : World} {b : Nat} {c : Array Value} {t : TypeId} (h : w.heap[b]? = some (.cells c t)) (o : Nat) : w.frozen? ⟨b, o, none⟩ = false := by
  unfold World.frozen?
  simp only
  rw [h]
  simp
theorem Ch.heap {S : Nat → Prop} {a b : World} (h : Ch S a b) {k : Nat} {o : Obj} (ho : a.heap[k]? = some o) (hs : ¬ S k) : b.heap[k]? = some o :=
  (h.block k (Array.getElem?_eq_some_iff.1 ho).1 hs).trans ho
def arr (N : Nat) (g : Nat → Value) : Array Value := ((List.range N).map g).toArray
theorem arr_size (N : Nat) (g : Nat → Value) : (arr N g).size = N := by simp [arr]
theorem arr_get (N : Nat) (g : Nat → Value) (i : Nat) (h : i < N) : (arr N g)[i]? = some (g i) := by
  simp [arr, List.getElem?_range h]
theorem arr_congr {N : Nat} {g g' : Nat → Value} (h : ∀ i, i < N → g i = g' i) : arr N g = arr N g' := by
  unfold arr
  congr 1
  exact List.map_congr_left (fun i hi => h i (List.mem_range.1 hi))
theorem arr_set (N : Nat) (g : Nat → Value) (k : Nat) (v : Value) : (arr N g).setIfInBounds k v = arr N (fun i => if i = k then v else g i) := by
  refine Array.ext (by simp [arr]) fun i h1 h2 => ?_
  have hN : i < N := by simpa [arr] using h2
  rw [Array.getElem_setIfInBounds (by simpa [arr] using hN)]
  · simp only [arr, List.getElem_toArray, List.getElem_map, List.getElem_range]
    by_cases e : i = k
    · subst e; simp
    · simp [e, Ne.symm e]
theorem arr_all (N : Nat) (g : Nat → Value) (h : ∀ i, i < N → (g i).oneCell' = true) : (arr N g).all (·.oneCell') = true := by
  rw [Array.all_eq_true_iff_forall_mem]
  intro v hv
  simp only [arr, List.mem_toArray, List.mem_map, List.mem_range] at hv
  obtain ⟨i, hi, rfl⟩ := hv
  exact h i hi
theorem heap_set {w : World} {b : Nat} {t : TypeId} {fr : Nat × Nat} {N : Nat} {g : Nat → Value} (h : w.heap[b]? = some (.cells (arr N g) t fr)) (k : Nat) (v : Value) :
    (w.setCell ⟨b, k, none⟩ v).heap[b]? = some (.cells (arr N (fun i => if i = k then v else g i)) t fr) := by
  simp only [World.setCell, Array.getElem?_modify]
  rw [h]
  simp [arr_set]

theorem box_set {w : World} {b : Nat} {x : Value} {t : TypeId} (h : w.heap[b]? = some (.cells #[x] t)) (y : Value) : (w.setCell ⟨b, 0, none⟩ y).heap[b]? = some (.cells #[y] t) := by
  simp only [World.setCell, Array.getElem?_modify]
  rw [h]
  simp
theorem box_keep {w : World} {b c : Nat} {o : Obj} (h : w.heap[b]? = some o) (hne : b ≠ c) (y : Value) : (w.setCell ⟨c, 0, none⟩ y).heap[b]? = some o :=
  (Below.heap_setCell _ _ _ _ hne).trans h
theorem wpList_eql_wanted {P : Program} {ops : Array Oper} {rest : List Oper} {o : Oper} {a : Act} {w : World} {Q : Exit → Act → World → Prop} (hgd : Region.wanted o (yielded ops a.tmps) = true) (x y : Operand) (t t2 : TypeId) (ho : o.op = .binOp .eql t x y t2)
    (R S : Array Value) (hx : a.eval x = .agg R) (hy : a.eval y = .agg S) (hg : P.eqGuardType P.depth t = false) {b : Bool} (he : (Op.equalIn 10000 t (.agg R) (.agg S)).run P w = .ok b w) (h : wpList P ops Q rest (a.put o.dst (.bool b)) w) : wpList P ops Q (o :: rest) a w :=
  wpList_step fun K hK => by
    rw [if_pos hgd]
    unfold Oper.wp execOp
    have h1 : (eqGuard .eql t x y (.agg R) (.agg S)).run P w = .ok () w := by
      simp [eqGuard, hg]
    have h2 : (binOp .eql t (.agg R) (.agg S)).run P w = .ok (.bool b) w := by
      simp only [binOp, Op.equal, Sem.run_bind]
      rw [show (Op.equalIn Op.maxDepth t (.agg R) (.agg S)).run P w = .ok b w from he]
      rfl
    simp only [ho, hx, hy, Sem.run_bind, h1, h2, Result.andThen]
    exact hK _ _ h
theorem run_equalIn_refl {P : Program} (w : World) (d : Nat) (t e : TypeId) (n : Nat) (k : IntKind) (ht : P.underlying t = some (.array n e)) (he : P.underlying e = some (.int k)) (hsz : ∀ w, (sizeOf e).run P w = .ok 1 w) (z : Nat → Int) :
    (Op.equalIn (d + 2) t (.agg (arr n fun i => .int k (z i))) (.agg (arr n fun i => .int k (z i)))).run P w = .ok true w := by
  rw [Op.equalIn]
  simp only [Sem.run_bind, run_underlying ht, Result.andThen_ok, hsz, Std.Legacy.Range.forIn_eq_forIn_range', Std.Legacy.Range.size, Nat.sub_zero, Nat.add_sub_cancel, Nat.div_one]
  have hl : ∀ i ∈ List.range' 0 n 1, i < n := fun i hi => by simpa using (List.mem_range'_1.1 hi).2
  generalize List.range' 0 n 1 = l at hl ⊢
  induction l with
  | nil => simp
  | cons i l ih =>
    have hi : i < n := hl i (by simp)
    have px : (part e (arr n fun i => .int k (z i)) (i * 1)).run P w = .ok (.int k (z i)) w := by
      simp [part, isAgg, run_underlying he, arr_get n _ i hi]
    have pe : (Op.equalIn (d + 1) e (.int k (z i)) (.int k (z i))).run P w = .ok true w := by
      rw [run_equalIn_int w d e k k _ _ he]
      simp
    simp only [List.forIn_cons, Sem.run_bind, px, pe, Result.andThen_ok]
    simp only [Bool.not_true, Bool.false_eq_true, if_false, Sem.run_pure, Result.andThen_ok]
    exact ih fun j hj => hl j (by simp [hj])
theorem wpList_load_row_wanted {P : Program} {ops : Array Oper} {rest : List Oper} {o : Oper} {a : Act} {w : World} {Q : Exit → Act → World → Prop} (hgd : Region.wanted o (yielded ops a.tmps) = true) (ty : TypeId) (x : Operand) (ho : o.op = .load ty x)
    (g : Nat) (hx : a.eval x = .pointer (some ⟨g, 0, none⟩)) (t : TypeId) (cs : Array Value) (fr : Nat × Nat) (d : TypeDesc) (hg : w.heap[g]? = some (.cells cs t fr))
    (hu : P.underlying ty = some d) (hd : (match d with | .struct _ | .array _ _ => true | _ => false) = true) (hi : (P.info? ty).map (·.size) = some cs.size)
    (h : wpList P ops Q rest (a.put o.dst (.agg cs)) w) : wpList P ops Q (o :: rest) a w :=
  wpList_step fun K hK => by
    rw [if_pos hgd]
    exact wp_load_row ty x ho g hx t cs fr d hg hu hd hi (hK _ _ h)
end Go.Proofs.Ytljllfdigfojdaa
