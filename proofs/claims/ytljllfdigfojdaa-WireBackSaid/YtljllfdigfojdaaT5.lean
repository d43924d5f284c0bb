/- take, More, Sum. -/
import Derived.Test.YtljllfdigfojdaaT4
namespace Go.Proofs.Ytljllfdigfojdaa
open Go Go.RowKit
attribute [local go_sem high] b_add b_xor b_and b_or b_shr b_shl not32 wrap_un beq32 neg32 b_and1 b_andC b_xor8 lowB_wrap xor_u8

def upto (L : Nat → Nat) : Nat → Nat
  | 0 => 0
  | k + 1 => upto L k + L k
theorem upto_le (L : Nat → Nat) {a b : Nat} (h : a ≤ b) : upto L a ≤ upto L b := by
  induction b with
  | zero => obtain rfl : a = 0 := by omega
            exact Nat.le_refl _
  | succ b ih =>
    by_cases e : a = b + 1
    · subst e; exact Nat.le_refl _
    · have := ih (by omega)
      show upto L a ≤ upto L b + L b
      omega
/-- Parts of bytes in a row of slices; together they are f. -/
structure PartsAt (w : World) (a off N : Nat) (P : Nat → Option Addr) (L C : Nat → Nat) (f : Nat → UInt8) : Prop where
  row : ∀ i, i < N → w.cell? ⟨a, off + i, none⟩ = some (.slice (P i) (L i) (C i))
  bytes : ∀ i, i < N → ∃ x y, (P i = some ⟨x, y, none⟩ ∨ (L i = 0 ∧ (P i = none → C i = 0))) ∧ x < w.heap.size ∧ ∀ j, j < L i → w.cell? ⟨x, y + j, none⟩ = some (.int .u8 ((f (upto L i + j)).toNat : Int))
theorem PartsAt.ch {S : Nat → Prop} {w w' : World} {a off N : Nat} {P : Nat → Option Addr} {L C : Nat → Nat} {f : Nat → UInt8} (h : PartsAt w a off N P L C f) (hc : Ch S w w') (hs : ∀ i, i < w.heap.size → ¬ S i) : PartsAt w' a off N P L C f := by
  refine ⟨fun i hi => ?_, fun i hi => ?_⟩
  · have := h.row i hi
    exact hc.get this (hs _ (cell_lt this))
  · obtain ⟨x, y, h1, h2, h3⟩ := h.bytes i hi
    exact ⟨x, y, h1, Nat.lt_of_lt_of_le h2 hc.size, fun j hj => hc.get (h3 j hj) (hs _ h2)⟩
/-- The word behind n bytes of f. -/
def cw (x : BitVec 32) (f : Nat → UInt8) : Nat → BitVec 32
  | 0 => x
  | n + 1 => behind (cw x f n) (f n)
theorem runRow_cell {w : World} {b : Nat} {x : BitVec 32} (h : w.heap[b]? = some (.cells (runRow x) 155)) : w.cell? ⟨b, 0, none⟩ = some (wv x) ∧ ∀ c : UInt8, w.cell? ⟨b, 1 + c.toNat, none⟩ = some (wv (tb c.toNat)) := by
  refine ⟨(cell_of_heap h 0).trans (arr_get _ _ _ (by omega)), fun c => ?_⟩
  have := c.toNat_lt
  refine (cell_of_heap h _).trans ((arr_get _ _ _ (by omega)).trans ?_)
  rw [if_neg (by omega), show 1 + c.toNat - 1 = c.toNat by omega]
theorem runRow_set (x y : BitVec 32) : (arr 257 fun i => if i = 0 then wv y else if i = 0 then wv x else wv (tb (i - 1))) = runRow y :=
  arr_congr fun i _ => by by_cases e : i = 0 <;> simp [e]

set_option maxRecDepth 100000 in
set_option maxHeartbeats 1000000 in
theorem take_any (b a off N cap : Nat) (sp : Option Addr) (P : Nat → Option Addr) (L C : Nat → Nat) (f : Nat → UInt8) (x : BitVec 32) (w : World) (hsp : sp = some ⟨a, off, none⟩ ∨ N = 0)
    (hP : PartsAt w a off N P L C f) (hN : N ≤ 1000000) (hn : upto L N ≤ 1000000000000) (hb : w.heap[b]? = some (.cells (runRow x) 155)) :
    Calls Try.prog 99 #[.pointer (some ⟨b, 0, none⟩), .slice sp N cap] w fun e w' => e = .returned (.tuple #[]) ∧ w'.heap[b]? = some (.cells (runRow (cw x f (upto L N))) 155) ∧ Ch (fun k => k = b) w w' := by
  have HP := Go.Lib.hid hP; have HB := Go.Lib.hid hb; have HSP := Go.Lib.hid hsp
  obtain ⟨hc0, hct⟩ := runRow_cell hb
  have HCT := Go.Lib.hid hct
  have hf0 : w.frozen? ⟨b, 0, none⟩ = false := frozen_of_heap hb _
  clear hP hb hsp hct
  go_enter Try.func99, Try.ntmps99
  go_wp2
  go_loop [4, 6, 8, 15] (fun z _ _ i => ∃ k : Nat, k ≤ N ∧ i = .int .i64 k ∧ z = .int .u32 (un (cw x f (upto L k)))) (fun _ _ _ i => N - (intOf i).toNat)
  case atStart => exact ⟨0, by omega, rfl, rfl⟩
  case round =>
    obtain ⟨k, hk, rfl, rfl⟩ := hrel
    by_cases hkN : k < N
    · obtain rfl : sp = some ⟨a, off, none⟩ := HSP.out.resolve_right (by omega)
      have hcell : w.cell? ⟨a, off + k, none⟩ = some (.slice (P k) (L k) (C k)) := HP.out.row k hkN
      obtain ⟨xb, y, hx, _, hxb⟩ := HP.out.bytes k hkN
      have hup : upto L k + L k ≤ upto L N := upto_le L (show k + 1 ≤ N by omega)
      have HX := Go.Lib.hid hx; have HXB := Go.Lib.hid hxb
      have HU := Go.Lib.hid (show upto L (k + 1) = upto L k + L k from rfl)
      clear hx hxb
      generalize upto L k = u at *
      generalize L k = l at *
      generalize P k = pk at *
      go_wp2
      go_loop [4, 8, 21] (fun z _ j => ∃ t : Nat, t ≤ l ∧ j = .int .i64 t ∧ z = .int .u32 (un (cw x f (u + t)))) (fun _ _ j => l - (intOf j).toNat)
      case atStart => exact ⟨0, by omega, rfl, rfl⟩
      case round =>
        obtain ⟨t, ht, rfl, rfl⟩ := hrel
        by_cases htl : t < l
        · obtain rfl : pk = some ⟨xb, y, none⟩ := HX.out.resolve_right (fun h => by omega)
          have hbyte : w.cell? ⟨xb, y + t, none⟩ = some (.int .u8 ((f (u + t)).toNat : Int)) := HXB.out t htl
          have HS := Go.Lib.hid (show cw x f (u + (t + 1)) = behind (cw x f (u + t)) (f (u + t)) from rfl)
          generalize f (u + t) = c at *
          generalize cw x f (u + t) = z at *
          have hlk := HCT.out (lowB z ^^^ c)
          have hlt := (lowB z ^^^ c).toNat_lt
          have HLK := Go.Lib.hid (look z c)
          rw [UInt8.toNat_xor] at hlk hlt HLK
          go_wp2
          go_round
          case rel => exact ⟨t + 1, by omega, by go_num, by rw [HS.out, ← HLK.out]⟩
          case measure => simp [intOf]; omega
        · obtain rfl : t = l := by omega
          go_wp2
          go_round
          case rel => exact ⟨k + 1, by omega, by go_num, by rw [HU.out]⟩
          case measure => simp [intOf]; omega
    · obtain rfl : k = N := by omega
      go_wp2
      go_end0
      refine ⟨rfl, (heap_set HB.out 0 _).trans (by rw [runRow_set]), Ch.setCell (S := fun k => k = b) (Ch.refl _ w) (p := ⟨b, 0, none⟩) (fun _ => rfl) _⟩

def zr57 : Array Value := arr 257 fun _ => .int .u32 0
theorem zr57_size : zr57.size = 257 := arr_size _ _
theorem zr57_ne : zr57 ≠ #[] := fun h => by have := zr57_size; rw [h] at this; cases this
theorem zv57 (w : World) : (zeroValue 155).run Try.prog w = .ok (.agg zr57) w := by kernel_rfl
theorem wpList_build57 {ops : Array Oper} {rest : List Oper} {o : Oper} {a : Act} {w : World} {Q : Exit → Act → World → Prop} (hg : o.guard = none) (ho : o.op = .build 155 #[(0, .tmp 7), (1, .tmp 8)])
    (x : BitVec 32) (hx : a.eval (.tmp 7) = wv x) (hy : a.eval (.tmp 8) = .agg tabR) (h : wpList Try.prog ops Q rest (a.put o.dst (.agg (runRow x))) w) : wpList Try.prog ops Q (o :: rest) a w := by
  have e : Try.prog.built 155 ((#[(0, .tmp 7), (1, .tmp 8)] : Array (Nat × Operand)).map fun (i, x) => (i, a.eval x)).toList = some (runRow x) := by
    simp [hx, hy]; exact built57 x
  refine wpList_build hg 155 _ ho (by rw [e]; rfl) ?_
  rw [e]; exact h
theorem PartsAt.row_keep {w w' : World} {a off N : Nat} {P : Nat → Option Addr} {L C : Nat → Nat} {f : Nat → UInt8} (h : PartsAt w a off N P L C f) (hc : Ch (fun _ => False) w w') : PartsAt w' a off N P L C f := h.ch hc (fun _ _ h => h)

section
attribute [local go_sem] zv57 zr57_size zr57_ne
set_option maxRecDepth 100000 in
set_option maxHeartbeats 1000000 in
theorem more_any (a off N cap : Nat) (sp : Option Addr) (P : Nat → Option Addr) (L C : Nat → Nat) (f : Nat → UInt8) (x : BitVec 32) (w : World) (hsp : sp = some ⟨a, off, none⟩ ∨ N = 0)
    (hP : PartsAt w a off N P L C f) (hN : N ≤ 1000000) (hn : upto L N ≤ 1000000000000) :
    Calls Try.prog 95 #[.int .u32 (un x), .slice sp N cap] w fun e w' => e = .returned (.int .u32 (un (~~~(cw (~~~x) f (upto L N))))) ∧ Ch (fun _ => False) w w' := by
  have HT := Go.Lib.hid (fun (w' : World) b x (h : PartsAt w' a off N P L C f) (hb : w'.heap[b]? = some (.cells (runRow x) 155)) => take_any b a off N cap sp P L C f x w' hsp h hN hn hb)
  have HP := Go.Lib.hid hP
  clear hP hsp hN hn
  have HTB := Go.Lib.hid (fun W => table_any W)
  go_enter Try.func95, Try.ntmps95
  go_wp2_with (first | (go_at_call 97; refine (wordOf_any _ _).mono ?_; rintro e w' ⟨rfl, rfl⟩) | (go_at_call 98; refine (HTB.out _).mono ?_; rintro e w1 ⟨rfl, hw1⟩; have HC1 := Go.Lib.hid hw1; clear hw1) | (refine wpList_build57 rfl rfl (~~~x) rfl rfl ?_; generalize hrr : runRow (~~~x) = rr; have HRR := Go.Lib.hid hrr; clear hrr) | (refine wpList_store_row rfl 155 (.tmp 5) (.tmp 9) rfl w1.heap.size rr rfl rfl 155 zr57 (World.alloc_heap_new w1 _) (by rw [← HRR.out, runRow_size]; exact info57) (by rw [← HRR.out, runRow_size]; exact zr57_size) (by rw [← HRR.out]; exact runRow_all _) ?_))
  generalize hW : (w1.alloc _).setRow w1.heap.size rr = W1
  have hh : W1.heap[w1.heap.size]? = some (.cells (runRow (~~~x)) 155) := by rw [HRR.out, ← hW]; exact heap_setRow (World.alloc_heap_new w1 _)
  have hc : Ch (fun _ => False) w W1 := by rw [← hW]; exact (HC1.out.alloc _).setRow (fun h => by have := HC1.out.size; omega) _
  have HH := Go.Lib.hid (HT.out W1 w1.heap.size _ (HP.out.row_keep hc) hh)
  have HC2 := Go.Lib.hid hc
  have hsz : w.heap.size ≤ w1.heap.size := HC1.out.size
  clear hW hh hc HRR HC1 HT HTB HP
  generalize w1.heap.size = B at *
  refine HH.out.mono ?_
  rintro e w2 ⟨rfl, h2, hc2⟩
  obtain ⟨hcl, _⟩ := runRow_cell h2
  have HC3 := Go.Lib.hid (HC2.out.then hc2 (fun i hi h => by omega))
  clear h2 hc2 HH HC2
  generalize hz : cw (~~~x) f (upto L N) = z at *
  have HZ := Go.Lib.hid hz
  clear hz
  go_wp2_with (go_at_call 100; refine (wsum_any _ _).mono ?_; rintro e w' ⟨rfl, rfl⟩)
  go_ret
  exact ⟨by rw [HZ.out]; rfl, HC3.out⟩
end
set_option maxRecDepth 100000 in
set_option maxHeartbeats 1000000 in
theorem sum_any (a off N cap : Nat) (sp : Option Addr) (P : Nat → Option Addr) (L C : Nat → Nat) (f : Nat → UInt8) (w : World) (hsp : sp = some ⟨a, off, none⟩ ∨ N = 0)
    (hP : PartsAt w a off N P L C f) (hN : N ≤ 1000000) (hn : upto L N ≤ 1000000000000) :
    Calls Try.prog 89 #[.slice sp N cap] w fun e w' => e = .returned (.int .u32 (un (~~~(cw (~~~0#32) f (upto L N))))) ∧ Ch (fun _ => False) w w' := by
  have HM := Go.Lib.hid (show Calls Try.prog 95 #[.int .u32 0, .slice sp N cap] w fun e w' => e = .returned (.int .u32 (un (~~~(cw (~~~0#32) f (upto L N))))) ∧ Ch (fun _ => False) w w' from more_any a off N cap sp P L C f 0#32 w hsp hP hN hn)
  clear hP hsp
  generalize un (~~~(cw (~~~0#32) f (upto L N))) = z at *
  go_enter Try.func89, Try.ntmps89
  go_wp2_with (go_at_call 95; refine HM.out.mono ?_; rintro e w1 ⟨rfl, hw1⟩; have HC1 := Go.Lib.hid hw1; clear hw1)
  go_ret
  exact ⟨rfl, HC1.out⟩
end Go.Proofs.Ytljllfdigfojdaa
