/- Sums of parts of one's choice. -/
import Derived.Test.YthbpfgcgfhlmnaaT17
namespace Go.Proofs.Ythbpfgcgfhlmnaa
open Go Go.RowKit

theorem behind_xor (x y : BitVec 32) (c : UInt8) : behind (x ^^^ y) c = behind x c ^^^ sN 8 y := by
  unfold behind
  rw [← sN_xor]
  congr 1
  ac_rfl
theorem cw_xor (x y : BitVec 32) (f : Nat → UInt8) (n : Nat) : cw (x ^^^ y) f n = cw x f n ^^^ sN (8 * n) y := by
  induction n with
  | zero => rfl
  | succ n ih =>
    show behind _ _ = behind _ _ ^^^ _
    rw [ih, behind_xor, show 8 * (n + 1) = 8 + 8 * n by omega, sN_add]
theorem cw_congr {f g : Nat → UInt8} (x : BitVec 32) (n : Nat) (h : ∀ j, j < n → f j = g j) : cw x f n = cw x g n := by
  induction n with
  | zero => rfl
  | succ n ih => show behind _ _ = behind _ _; rw [ih (fun j hj => h j (by omega)), h n (by omega)]
theorem cw_app (x : BitVec 32) (f : Nat → UInt8) (n m : Nat) : cw x f (n + m) = cw (cw x f n) (fun j => f (n + j)) m := by
  induction m with
  | zero => rfl
  | succ m ih => show behind (cw x f (n + m)) _ = behind _ _; rw [ih]; rfl
theorem cw_zero (x : BitVec 32) (n : Nat) : cw x (fun _ => 0) n = sN (8 * n) x := by
  induction n with
  | zero => rfl
  | succ n ih =>
    show behind _ _ = _
    rw [ih, show 8 * (n + 1) = 8 + 8 * n by omega, sN_add]
    unfold behind
    congr 1
    simp
/-- All parts' bytes, one behind the other. -/
def catF (L : Nat → Nat) (F : Nat → Nat → UInt8) : Nat → Nat → UInt8
  | 0 => fun _ => 0
  | n + 1 => fun k => if k < upto L n then catF L F n k else F n (k - upto L n)
theorem catF_at (L : Nat → Nat) (F : Nat → Nat → UInt8) (n i j : Nat) (hi : i < n) (hj : j < L i) : catF L F n (upto L i + j) = F i j := by
  induction n with
  | zero => omega
  | succ n ih =>
    show (if upto L i + j < upto L n then _ else _) = _
    by_cases e : i = n
    · subst e; rw [if_neg (by omega), show upto L i + j - upto L i = j by omega]
    · have := upto_le L (show i + 1 ≤ n by omega)
      have h2 : upto L (i + 1) = upto L i + L i := rfl
      rw [if_pos (by omega)]
      exact ih (by omega)
theorem cw_cat (x : BitVec 32) (L : Nat → Nat) (F : Nat → Nat → UInt8) (n : Nat) : cw x (catF L F (n + 1)) (upto L (n + 1)) = cw (cw x (catF L F n) (upto L n)) (F n) (L n) := by
  show cw x _ (upto L n + L n) = _
  rw [cw_app, cw_congr (g := catF L F n) x (upto L n) (fun j hj => by show (if j < upto L n then _ else _) = _; rw [if_pos hj])]
  exact cw_congr _ _ (fun j hj => by show (if upto L n + j < upto L n then _ else _) = _; rw [if_neg (by omega), show upto L n + j - upto L n = j by omega])
theorem parts_cat {w : World} {a k : Nat} {P : Nat → Option Addr} {L C : Nat → Nat} {F : Nat → Nat → UInt8} (h : ∀ i, i < k → w.cell? ⟨a, i, none⟩ = some (.slice (P i) (L i) (C i)) ∧ BytesAt w (P i) (L i) (C i) (F i)) : PartsAt w a 0 k P L C (catF L F k) := by
  refine ⟨fun i hi => by rw [Nat.zero_add]; exact (h i hi).1, fun i hi => ?_⟩
  obtain ⟨h1, h2⟩ := h i hi
  rcases h2 with ⟨x, y, e, _, hx, hb⟩ | h2
  · exact ⟨x, y, .inl e, hx, fun j hj => (hb j hj).trans (by rw [catF_at _ _ _ _ _ hi hj])⟩
  · exact ⟨a, 0, .inr h2, cell_lt h1, fun j hj => by omega⟩
/-- The sum of literal parts. -/
theorem sum_cat (g k : Nat) (P : Nat → Option Addr) (L C : Nat → Nat) (F : Nat → Nat → UInt8) (w : World) (h : ∀ i, i < k → w.cell? ⟨g, i, none⟩ = some (.slice (P i) (L i) (C i)) ∧ BytesAt w (P i) (L i) (C i) (F i)) (hk : k ≤ 1000000) (hn : upto L k ≤ 1000000000000) :
    Calls Try.prog 12 #[.slice (some ⟨g, 0, none⟩) k k] w fun e w' => e = .returned (.int .u32 (un (~~~(cw (~~~0#32) (catF L F k) (upto L k))))) ∧ Ch (fun _ => False) w w' :=
  sum_any g 0 k k _ P L C _ w (.inl rfl) (parts_cat h) hk hn
def cw1 (f : Nat → UInt8) (n : Nat) : BitVec 32 := cw (~~~0#32) f n
/-- One part. -/
theorem sum1 (g : Nat) (q : Option Addr) (n c : Nat) (f : Nat → UInt8) (w : World) (hg : w.cell? ⟨g, 0, none⟩ = some (.slice q n c)) (hb : BytesAt w q n c f) (hn : n ≤ 100000000000) :
    Calls Try.prog 12 #[.slice (some ⟨g, 0, none⟩) 1 1] w fun e w' => e = .returned (.int .u32 (un (~~~(cw1 f n)))) ∧ Ch (fun _ => False) w w' := by
  have h := sum_cat g 1 (fun _ => q) (fun _ => n) (fun _ => c) (fun _ => f) w (fun i hi => by
    have hi0 : i = 0 := by omega
    subst hi0
    exact ⟨hg, hb⟩) (by omega) (by rw [upto_one]; omega)
  rw [cw_cat] at h
  exact h
theorem sum2 (g : Nat) (q q' : Option Addr) (n c n' c' : Nat) (f f' : Nat → UInt8) (w : World) (hg : w.cell? ⟨g, 0, none⟩ = some (.slice q n c)) (hg' : w.cell? ⟨g, 1, none⟩ = some (.slice q' n' c')) (hb : BytesAt w q n c f) (hb' : BytesAt w q' n' c' f') (hn : n ≤ 100000000000) (hn' : n' ≤ 100000000000) :
    Calls Try.prog 12 #[.slice (some ⟨g, 0, none⟩) 2 2] w fun e w' => e = .returned (.int .u32 (un (~~~(cw (cw1 f n) f' n')))) ∧ Ch (fun _ => False) w w' := by
  have h := sum_cat g 2 (fun i => match i with | 0 => q | _ => q') (fun i => match i with | 0 => n | _ => n') (fun i => match i with | 0 => c | _ => c') (fun i => match i with | 0 => f | _ => f') w (fun i hi => by
    match i, hi with
    | 0, _ => exact ⟨hg, hb⟩
    | 1, _ => exact ⟨hg', hb'⟩) (by omega) (by simp [upto]; omega)
  rw [cw_cat, cw_cat] at h
  exact h
theorem sum3 (g : Nat) (q q' q'' : Option Addr) (n c n' c' n'' c'' : Nat) (f f' f'' : Nat → UInt8) (w : World) (hg : w.cell? ⟨g, 0, none⟩ = some (.slice q n c)) (hg' : w.cell? ⟨g, 1, none⟩ = some (.slice q' n' c')) (hg'' : w.cell? ⟨g, 2, none⟩ = some (.slice q'' n'' c'')) (hb : BytesAt w q n c f) (hb' : BytesAt w q' n' c' f') (hb'' : BytesAt w q'' n'' c'' f'') (hn : n ≤ 100000000000) (hn' : n' ≤ 100000000000) (hn'' : n'' ≤ 100000000000) :
    Calls Try.prog 12 #[.slice (some ⟨g, 0, none⟩) 3 3] w fun e w' => e = .returned (.int .u32 (un (~~~(cw (cw (cw1 f n) f' n') f'' n'')))) ∧ Ch (fun _ => False) w w' := by
  have h := sum_cat g 3 (fun i => match i with | 0 => q | 1 => q' | _ => q'') (fun i => match i with | 0 => n | 1 => n' | _ => n'') (fun i => match i with | 0 => c | 1 => c' | _ => c'') (fun i => match i with | 0 => f | 1 => f' | _ => f'') w (fun i hi => by
    match i, hi with
    | 0, _ => exact ⟨hg, hb⟩
    | 1, _ => exact ⟨hg', hb'⟩
    | 2, _ => exact ⟨hg'', hb''⟩) (by omega) (by simp [upto]; omega)
  rw [cw_cat, cw_cat, cw_cat] at h
  exact h
/-- What a patch is. -/
theorem patch_math (a : BitVec 32) (f1 f2 f3 : Nat → UInt8) (n m : Nat) :
    ~~~(cw (cw a f1 n) f3 m) ^^^ far0 (~~~(cw1 f1 n) ^^^ ~~~(cw1 f2 n)) m = ~~~(cw (cw a f2 n) f3 m) := by
  have h0 : ∀ x y : BitVec 32, ~~~x ^^^ ~~~y = x ^^^ y := fun x y => by ext i; simp
  have h1 : ∀ (x : BitVec 32) (f : Nat → UInt8) (k : Nat), cw x f k = cw 0#32 f k ^^^ sN (8 * k) x := fun x f k => by
    have := cw_xor 0#32 x f k
    rw [BitVec.zero_xor] at this; exact this
  have h2 : ∀ x y : BitVec 32, ~~~x ^^^ y = ~~~(x ^^^ y) := fun x y => by ext i; simp
  rw [h0, h2]
  congr 1
  unfold far0 cw1
  rw [h1 (cw a f1 n) f3 m, h1 (cw a f2 n) f3 m, h1 a f1 n, h1 a f2 n, h1 (~~~0#32) f1 n, h1 (~~~0#32) f2 n]
  simp only [sN_xor]
  generalize sN (8 * m) (sN (8 * n) a) = A
  generalize sN (8 * m) (sN (8 * n) (~~~0#32)) = B
  generalize sN (8 * m) (cw 0#32 f1 n) = D
  generalize sN (8 * m) (cw 0#32 f2 n) = E
  generalize cw 0#32 f3 m = F
  have e1 : F ^^^ (D ^^^ A) ^^^ (D ^^^ B ^^^ (E ^^^ B)) = F ^^^ (E ^^^ A) ^^^ ((D ^^^ D) ^^^ (B ^^^ B)) := by ac_rfl
  rw [e1, BitVec.xor_self, BitVec.xor_self]; simp
theorem zero_bytes {w : World} {z n : Nat} (h : w.heap[z]? = some (.cells (Go.madeCells #[.int .u8 0] n) 5)) : BytesAt w (some ⟨z, 0, none⟩) n n (fun _ => 0) :=
  .inl ⟨z, 0, rfl, Nat.le_refl _, (Array.getElem?_eq_some_iff.1 h).1, fun j hj => (cell_of_heap h _).trans (by
    rw [Nat.zero_add]
    have e : (Go.madeCells #[Value.int .u8 0] n).toList = List.replicate n (.int .u8 0) := toList_madeCells_one _ _
    have e2 : (Go.madeCells #[Value.int .u8 0] n)[j]? = (Go.madeCells #[Value.int .u8 0] n).toList[j]? := by simp
    rw [e2, e, List.getElem?_replicate, if_pos hj]; rfl)⟩
theorem slice_to (q : Option Addr) (n c k : Nat) (h : k ≤ c) (w : World) : (Instr.slice 24 (.slice q n c) none (some (.int .i64 (k : Int))) none).run Try.prog w = .ok (.slice q k c) w := by
  have e : ¬ c < k := by omega
  cases q with
  | none => simp [Instr.slice, Instr.sliceBounds, Instr.sliceBound, run_underlying Try.underlying24, asIntOf, go_sem, e]
  | some a => simp [Instr.slice, Instr.sliceBounds, Instr.sliceBound, run_underlying Try.underlying24, asIntOf, go_sem, e, Addr.add]
end Go.Proofs.Ythbpfgcgfhlmnaa
