/- What was laid is read: numbers, truths, a text. -/
import Derived.Test.YtljllfdigfojdaaW2
import Derived.Test.YtljllfdigfojdaaR5
import Derived.Test.YtljllfdigfojdaaL6
import Derived.Stop.BytesEq
namespace Go.Proofs.Ytljllfdigfojdaa
open Go Go.RowKit

theorem outN_num {f : Nat → UInt8} {n N : Nat} (hN : N ≤ 4611686018427387904) (hL : numL N ≤ n) (hF : ∀ j, j < numL N → f j = numB N j) : outN 4611686018427387904 f n = .got (.int .i64 (N : Int)) (numL N) := by
  unfold outN
  rw [rd_num hN hL hF]
  simp only
  rw [if_neg (by omega)]
/-- What read tells: all is as it was laid, and so much is left. -/
def ReadTold (r x0 n L : Nat) (g : Nat → UInt8) (w : World) (e : Ending) (w' : World) : Prop :=
  e = .returned (.bool true) ∧ Ch (fun q => q = r) w w' ∧ ∃ p' c', RdAt w' r x0 p' (n - L) c' (shiftF g L) false
set_option maxRecDepth 100000 in
set_option maxHeartbeats 2000000 in
theorem read_nums (r x0 B : Nat) (p : Option Addr) (n c : Nat) (g : Nat → UInt8) (w : World) (hr : RdAt w r x0 p n c g false) (hBr : B ≤ r) (zp bp hp : Option Addr) (zN zC bN bC hN hC : Nat) (s : ByteArray) (hM : zN ≤ 10) (z : Nat → Nat) (hz : (∃ a o, zp = some ⟨a, o, none⟩ ∧ a < B ∧ ∀ i, i < zN → w.cell? ⟨a, o + i, none⟩ = some (.int .i64 (z i : Nat))) ∨ zN = 0) (hzg : ∀ i, i < zN → z i ≤ 4611686018427387904) (hL : upto (lenOf z) zN ≤ n) (hG : ∀ i, i < zN → ∀ j, j < numL (z i) → g (upto (lenOf z) i + j) = numB (z i) j) :
    Calls Try.prog 35 #[.pointer (some ⟨r, 0, none⟩), .agg #[.int .i64 0, .slice zp zN zC, .slice bp bN bC, .slice hp hN hC, .string s]] w (ReadTold r x0 n (upto (lenOf z) zN) g w) := by
  have hal : Ch (fun _ => False) w (w.alloc (.cells #[.int .i64 0, .slice zp zN zC, .slice bp bN bC, .slice hp hN hC, .string s] 35)) := (Ch.refl _ w).alloc _
  have HX1 := Go.Lib.hid (World.alloc_heap_new w (.cells #[.int .i64 0, .slice zp zN zC, .slice bp bN bC, .slice hp hN hC, .string s] 35))
  have HR := Go.Lib.hid (hr.ch hal id id); have HAL := Go.Lib.hid hal; have HRL := Go.Lib.hid (row_lt hr.row); have HOLD := Go.Lib.hid hr.old
  have HZ := Go.Lib.hid hz; have HG := Go.Lib.hid hG; have HL := Go.Lib.hid hL
  have HZG := Go.Lib.hid hzg
  clear hzg
  have HUP := Go.Lib.hid (fun i (h : i ≤ zN) => upto_le (lenOf z) h)
  clear hr hal hz hG hL
  go_enter Try.func35, Try.ntmps35
  go_wp2_with fail
  generalize w.alloc (.cells #[.int .i64 0, .slice zp zN zC, .slice bp bN bC, .slice hp hN hC, .string s] 35) = w1 at *
  have HBX := Go.Lib.hid (show ¬ w.heap.size = r by have := HRL.out; omega)
  go_loopw [5] (fun ix wr => ∃ i : Nat, i ≤ zN ∧ ix = .int .i64 (i : Int) ∧ ∃ p' c', RdAt wr r x0 p' (n - upto (lenOf z) i) c' (shiftF g (upto (lenOf z) i)) false ∧ Ch (fun q => q = r) w1 wr) (fun ix _ => zN - (intOf ix).toNat)
  case atStart => exact ⟨0, by omega, rfl, p, c, by rw [show upto (lenOf z) 0 = 0 from rfl, shiftF_zero]; exact HR.out, Ch.refl _ _⟩
  case round =>
    obtain ⟨i, hi, rfl, p2, c2, hrd, hc⟩ := hrel
    have hbx := hc.heap HX1.out HBX.out
    have hcb : wr.cell? ⟨w.heap.size, 1, none⟩ = some (.slice zp zN zC) := (cell_of_heap hbx 1).trans rfl
    have HRD := Go.Lib.hid hrd; have HC := Go.Lib.hid hc; have HBX2 := Go.Lib.hid hbx
    clear hrd hc hbx
    by_cases hlt : i < zN
    · obtain ⟨a, o, rfl, ha, hcells⟩ := HZ.out.resolve_right (by omega)
      have hup := HUP.out (i + 1) hlt
      rw [upto_at] at hup
      have hl := HL.out
      have hln : lenOf z i = numL (z i) := rfl
      try simp only [id_eq] at hup
      have HCALL := Go.Lib.hid (rNumber_ok r x0 p2 (n - upto (lenOf z) i) c2 (shiftF g (upto (lenOf z) i)) 4611686018427387904 wr HRD.out (by decide))
      rw [outN_num (f := shiftF g (upto (lenOf z) i)) (n := n - upto (lenOf z) i) (HZG.out i hlt) (by have h1 : lenOf z i = numL (z i) := rfl; omega) (fun j hj => HG.out i hlt j hj)] at HCALL
      unfold PartTold at HCALL
      have HZC := Go.Lib.hid (show wr.cell? ⟨a, o + i, none⟩ = some (.int .i64 (z i : Nat)) from HC.out.get (HAL.out.get (hcells i hlt) id) (show ¬ a = r by omega))
      have HAR := Go.Lib.hid (show ¬ a = r by omega)
      have HNX := Go.Lib.hid (show (n - upto (lenOf z) i) - numL (z i) = n - upto (lenOf z) (i + 1) ∧ upto (lenOf z) i + numL (z i) = upto (lenOf z) (i + 1) from ⟨by rw [upto_at]; first | omega | (simp only [id_eq]; omega), by rw [upto_at] <;> rfl⟩)
      clear hup hl hcells ha hln
      go_wp2_with fail
      refine HCALL.out.mono ?_
      rintro e w2 ⟨hc2, rfl, hk, p3, c3, hr3⟩
      have HR3 := Go.Lib.hid (show RdAt w2 r x0 p3 (n - upto (lenOf z) (i + 1)) c3 (shiftF g (upto (lenOf z) (i + 1))) false from by
        rw [← HNX.out.1, ← HNX.out.2, ← shiftF_add]; exact hr3)
      have hz2 := hc2.get HZC.out HAR.out
      have hb2 := hc2.heap HBX2.out HBX.out
      have hcb2 : w2.cell? ⟨w.heap.size, 1, none⟩ = some (.slice (some ⟨a, o, none⟩) zN zC) := (cell_of_heap hb2 1).trans rfl
      have HC3 := Go.Lib.hid (HC.out.trans hc2)
      have hlt2 : (i : Int) < (zN : Int) := by omega
      clear hc2 hk hr3 hb2 HCALL
      have hzz : ((z i : Nat) != (z i : Nat)) = false := by simp
      generalize z i = zi at *
      go_wp2_with (go_at_call 14; refine (num_any _ _).mono ?_; rintro e w' ⟨rfl, rfl⟩)
      go_roundw
      case rel => exact ⟨i + 1, by omega, by go_num, p3, c3, HR3.out, HC3.out⟩
      case measure => simp [intOf]; omega
    · obtain rfl : zN = i := by omega
      go_wp2_with fail
      go_ret
      exact ⟨rfl, (HAL.out.mono (fun _ _ e => e.elim)).trans HC.out, p2, c2, HRD.out⟩
theorem outB_truth {f : Nat → UInt8} {n : Nat} {b : Bool} (hn : 0 < n) (hF : f 0 = if b then 1 else 0) : outB f n = .got (.bool b) 1 := by
  unfold outB
  rw [if_neg (by omega), hF]
  cases b <;> rfl
theorem id_succ (i : Nat) : id (i + 1) = id i + 1 := rfl
set_option maxRecDepth 100000 in
set_option maxHeartbeats 2000000 in
theorem read_truths (r x0 B : Nat) (p : Option Addr) (n c : Nat) (g : Nat → UInt8) (w : World) (hr : RdAt w r x0 p n c g false) (hBr : B ≤ r) (zp bp hp : Option Addr) (zN zC bN bC hN hC : Nat) (s : ByteArray) (hM : bN ≤ 10) (t : Nat → Bool) (hz : (∃ a o, bp = some ⟨a, o, none⟩ ∧ a < B ∧ ∀ i, i < bN → w.cell? ⟨a, o + i, none⟩ = some (.bool (t i))) ∨ bN = 0) (hL : bN ≤ n) (hG : ∀ i, i < bN → g i = if t i then 1 else 0) :
    Calls Try.prog 35 #[.pointer (some ⟨r, 0, none⟩), .agg #[.int .i64 1, .slice zp zN zC, .slice bp bN bC, .slice hp hN hC, .string s]] w (ReadTold r x0 n (id bN) g w) := by
  have hal : Ch (fun _ => False) w (w.alloc (.cells #[.int .i64 1, .slice zp zN zC, .slice bp bN bC, .slice hp hN hC, .string s] 35)) := (Ch.refl _ w).alloc _
  have HX1 := Go.Lib.hid (World.alloc_heap_new w (.cells #[.int .i64 1, .slice zp zN zC, .slice bp bN bC, .slice hp hN hC, .string s] 35))
  have HR := Go.Lib.hid (hr.ch hal id id); have HAL := Go.Lib.hid hal; have HRL := Go.Lib.hid (row_lt hr.row); have HOLD := Go.Lib.hid hr.old
  have HZ := Go.Lib.hid hz; have HG := Go.Lib.hid hG; have HL := Go.Lib.hid hL
  have HUP := Go.Lib.hid (fun i (h : i ≤ bN) => (show id i ≤ id bN from h))
  clear hr hal hz hG hL
  go_enter Try.func35, Try.ntmps35
  go_wp2_with fail
  generalize w.alloc (.cells #[.int .i64 1, .slice zp zN zC, .slice bp bN bC, .slice hp hN hC, .string s] 35) = w1 at *
  have HBX := Go.Lib.hid (show ¬ w.heap.size = r by have := HRL.out; omega)
  go_loopw [8] (fun ix wr => ∃ i : Nat, i ≤ bN ∧ ix = .int .i64 (i : Int) ∧ ∃ p' c', RdAt wr r x0 p' (n - id i) c' (shiftF g (id i)) false ∧ Ch (fun q => q = r) w1 wr) (fun ix _ => bN - (intOf ix).toNat)
  case atStart => exact ⟨0, by omega, rfl, p, c, by rw [show id 0 = 0 from rfl, shiftF_zero]; exact HR.out, Ch.refl _ _⟩
  case round =>
    obtain ⟨i, hi, rfl, p2, c2, hrd, hc⟩ := hrel
    have hbx := hc.heap HX1.out HBX.out
    have hcb : wr.cell? ⟨w.heap.size, 2, none⟩ = some (.slice bp bN bC) := (cell_of_heap hbx 2).trans rfl
    have HRD := Go.Lib.hid hrd; have HC := Go.Lib.hid hc; have HBX2 := Go.Lib.hid hbx
    clear hrd hc hbx
    by_cases hlt : i < bN
    · obtain ⟨a, o, rfl, ha, hcells⟩ := HZ.out.resolve_right (by omega)
      have hup := HUP.out (i + 1) hlt
      rw [id_succ] at hup
      have hl := HL.out
      try simp only [id_eq] at hup
      have HCALL := Go.Lib.hid (rTruth_ok r x0 p2 (n - id i) c2 (shiftF g (id i)) wr HRD.out)
      rw [outB_truth (f := shiftF g (id i)) (n := n - id i) (b := t i) (by show 0 < n - i; omega) (by show g (i + 0) = _; rw [Nat.add_zero]; exact HG.out i hlt)] at HCALL
      unfold PartTold at HCALL
      have HZC := Go.Lib.hid (show wr.cell? ⟨a, o + i, none⟩ = some (.bool (t i)) from HC.out.get (HAL.out.get (hcells i hlt) id) (show ¬ a = r by omega))
      have HAR := Go.Lib.hid (show ¬ a = r by omega)
      have HNX := Go.Lib.hid (show (n - id i) - 1 = n - id (i + 1) ∧ id i + 1 = id (i + 1) from ⟨by rw [id_succ]; first | omega | (simp only [id_eq]; omega), by rw [id_succ] <;> rfl⟩)
      clear hup hl hcells ha
      go_wp2_with fail
      refine HCALL.out.mono ?_
      rintro e w2 ⟨hc2, rfl, hk, p3, c3, hr3⟩
      have HR3 := Go.Lib.hid (show RdAt w2 r x0 p3 (n - id (i + 1)) c3 (shiftF g (id (i + 1))) false from by
        rw [← HNX.out.1, ← HNX.out.2, ← shiftF_add]; exact hr3)
      have hz2 := hc2.get HZC.out HAR.out
      have hb2 := hc2.heap HBX2.out HBX.out
      have hcb2 : w2.cell? ⟨w.heap.size, 2, none⟩ = some (.slice (some ⟨a, o, none⟩) bN bC) := (cell_of_heap hb2 2).trans rfl
      have HC3 := Go.Lib.hid (HC.out.trans hc2)
      have hlt2 : (i : Int) < (bN : Int) := by omega
      clear hc2 hk hr3 hb2 HCALL
      generalize t i = ti at *
      go_wp2_with (go_at_call 14; refine (num_any _ _).mono ?_; rintro e w' ⟨rfl, rfl⟩)
      go_roundw
      case rel => exact ⟨i + 1, by omega, by go_num, p3, c3, HR3.out, HC3.out⟩
      case measure => simp [intOf]; omega
    · obtain rfl : bN = i := by omega
      go_wp2_with fail
      go_ret
      exact ⟨rfl, (HAL.out.mono (fun _ _ e => e.elim)).trans HC.out, p2, c2, HRD.out⟩
theorem bS_sByte (s : ByteArray) (f : Nat → UInt8) (h : ∀ j, j < s.size → f j = sByte s j) : bS f s.size = s := by
  obtain ⟨d⟩ := s
  unfold bS bL
  congr 1
  apply Array.ext_getElem?
  intro i
  by_cases hi : i < d.size
  · have h2 := h i hi
    simp only [ByteArray.size, List.getElem?_toArray, List.getElem?_map]
    rw [List.getElem?_range hi]
    simp only [Option.map_some]
    rw [h2]
    unfold sByte
    simp [hi]
  · rw [Array.getElem?_eq_none (by simp [ByteArray.size]; omega), Array.getElem?_eq_none (by omega)]
theorem outT_text {f : Nat → UInt8} {n : Nat} {s : ByteArray} (hs : s.size ≤ 200) (hL : textL s ≤ n) (hF : ∀ j, j < textL s → f j = textB s j) : outT 200 f n = .got (.string s) (textL s) := by
  unfold outT outN
  rw [rd_num (N := s.size) (by omega) (by unfold textL at hL; omega) (fun j hj => by rw [hF j (by unfold textL; omega)]; unfold textB; rw [if_pos hj])]
  simp only
  rw [if_neg (by omega)]
  simp only [Int.toNat_natCast]
  rw [if_neg (by unfold textL at hL; omega)]
  have hb : bS (fun j => f (numL s.size + j)) s.size = s := by
    have h1 : ∀ j, j < s.size → f (numL s.size + j) = sByte s j := fun j hj => by
      rw [hF (numL s.size + j) (by unfold textL; omega)]
      unfold textB
      rw [if_neg (by omega), Nat.add_sub_cancel_left]
    exact bS_sByte s _ h1
  rw [hb]; rfl
set_option maxRecDepth 100000 in
set_option maxHeartbeats 2000000 in
theorem read_text (r x0 : Nat) (p : Option Addr) (n c : Nat) (g : Nat → UInt8) (w : World) (hr : RdAt w r x0 p n c g false) (what : Int) (h0 : what ≠ 0) (h1 : what ≠ 1) (h2 : what ≠ 2) (zp bp hp : Option Addr) (zN zC bN bC hN hC : Nat) (s : ByteArray) (hs : s.size ≤ 200) (hL : textL s ≤ n) (hG : ∀ j, j < textL s → g j = textB s j) :
    Calls Try.prog 35 #[.pointer (some ⟨r, 0, none⟩), .agg #[.int .i64 what, .slice zp zN zC, .slice bp bN bC, .slice hp hN hC, .string s]] w (ReadTold r x0 n (textL s) g w) := by
  have hal : Ch (fun _ => False) w (w.alloc (.cells #[.int .i64 what, .slice zp zN zC, .slice bp bN bC, .slice hp hN hC, .string s] 35)) := (Ch.refl _ w).alloc _
  have HX1 := Go.Lib.hid (World.alloc_heap_new w (.cells #[.int .i64 what, .slice zp zN zC, .slice bp bN bC, .slice hp hN hC, .string s] 35))
  have HRL := Go.Lib.hid (row_lt hr.row); have HAL := Go.Lib.hid hal
  have HCALL := Go.Lib.hid (rText_ok r x0 p n c g 200 _ (hr.ch hal id id) (by decide) (by decide))
  rw [outT_text hs hL hG] at HCALL
  unfold PartTold at HCALL
  have h0' : (what == 0) = false := by simpa using h0
  have h1' : (what == 1) = false := by simpa using h1
  have h2' : (what == 2) = false := by simpa using h2
  have hss : (s.toList == s.toList) = true := by simp
  clear hr hal h0 h1 h2 hs hL hG
  generalize textL s = tl at *
  go_enter Try.func35, Try.ntmps35
  go_wp2_with fail
  generalize w.alloc (.cells #[.int .i64 what, .slice zp zN zC, .slice bp bN bC, .slice hp hN hC, .string s] 35) = w1 at *
  refine HCALL.out.mono ?_
  rintro e w2 ⟨hc2, rfl, hk, p3, c3, hr3⟩
  have hb2 := hc2.heap HX1.out (show ¬ w.heap.size = r by have := HRL.out; omega)
  have hcb2 : w2.cell? ⟨w.heap.size, 4, none⟩ = some (.string s) := (cell_of_heap hb2 4).trans rfl
  have HC3 := Go.Lib.hid ((HAL.out.mono (T := fun q => q = r) (fun _ _ e => e.elim)).trans hc2); have HR3 := Go.Lib.hid hr3
  clear hc2 hk hr3 hb2 HCALL HX1
  go_wp2_with (go_at_call 14; refine (num_any _ _).mono ?_; rintro e w' ⟨rfl, rfl⟩)
  go_ret
  exact ⟨rfl, HC3.out, p3, c3, HR3.out⟩
end Go.Proofs.Ytljllfdigfojdaa
/- What was laid is read: hashes; whatever it is. -/
namespace Go.Proofs.Ytljllfdigfojdaa
open Go Go.RowKit

theorem hv_cellsB (g : Nat → UInt8) : hv g = (((List.range 32).map g).map Extern.Stop.cell).toArray := by
  unfold hv arr
  rw [List.map_map]; rfl
theorem eq_hvB (g : Nat → UInt8) (w : World) : (Op.equalIn 10000 44 (.agg (hv g)) (.agg (hv g))).run Try.prog w = .ok true w := by
  rw [hv_cellsB]
  refine (run_equalIn_bytes (P := Try.prog) w 9998 44 5 32 Try.underlying44 Try.underlying5 (fun w => by kernel_rfl) _ _ (by simp) (by simp)).trans ?_
  simp
theorem eqgB44 : Try.prog.eqGuardType Try.prog.depth 44 = false := by kernel_rfl
theorem wp_neq {P : Program} {o : Oper} {a : Act} {w : World} {K : Act → World → Prop} {Q : Exit → Act → World → Prop} (x y : Operand) (t t2 : TypeId) (ho : o.op = .binOp .neq t x y t2)
    (R S : Array Value) (hx : a.eval x = .agg R) (hy : a.eval y = .agg S) (hg : P.eqGuardType P.depth t = false) {b : Bool} (he : (Op.equalIn 10000 t (.agg R) (.agg S)).run P w = .ok b w) (h : K (a.put o.dst (.bool !b)) w) : o.wp P a w K Q := by
  unfold Oper.wp execOp
  have h1 : (eqGuard .neq t x y (.agg R) (.agg S)).run P w = .ok () w := by
    simp [eqGuard, hg]
  have h2 : (binOp .neq t (.agg R) (.agg S)).run P w = .ok (.bool !b) w := by
    simp only [binOp, Op.equal, Sem.run_bind]
    rw [show (Op.equalIn Op.maxDepth t (.agg R) (.agg S)).run P w = .ok b w from he]
    rfl
  simp only [ho, hx, hy, Sem.run_bind, h1, h2, Result.andThen]
  exact h
theorem hv_congrB {f g : Nat → UInt8} (h : ∀ j, j < 32 → f j = g j) : hv f = hv g := by
  unfold hv; exact arr_congr (fun i hi => by rw [h i hi])
set_option maxRecDepth 100000 in
set_option maxHeartbeats 4000000 in
theorem read_hashes (r x0 B : Nat) (p : Option Addr) (n c : Nat) (g : Nat → UInt8) (w : World) (hr : RdAt w r x0 p n c g false) (hBr : B ≤ r) (zp bp hp : Option Addr) (zN zC bN bC hN hC : Nat) (s : ByteArray) (hM : hN ≤ 10) (hh : Nat → Nat → UInt8)
    (hz : (∃ a o, hp = some ⟨a, o, none⟩ ∧ a < B ∧ ∀ i, i < hN → ∀ j, j < 32 → w.cell? ⟨a, o + i * 32 + j, none⟩ = some (.int .u8 ((hh i j).toNat : Int))) ∨ hN = 0) (hL : 32 * hN ≤ n) (hG : ∀ i, i < hN → ∀ j, j < 32 → g (32 * i + j) = hh i j) :
    Calls Try.prog 35 #[.pointer (some ⟨r, 0, none⟩), .agg #[.int .i64 2, .slice zp zN zC, .slice bp bN bC, .slice hp hN hC, .string s]] w (ReadTold r x0 n (32 * hN) g w) := by
  have hal : Ch (fun _ => False) w (w.alloc (.cells #[.int .i64 2, .slice zp zN zC, .slice bp bN bC, .slice hp hN hC, .string s] 35)) := (Ch.refl _ w).alloc _
  have HX1 := Go.Lib.hid (World.alloc_heap_new w (.cells #[.int .i64 2, .slice zp zN zC, .slice bp bN bC, .slice hp hN hC, .string s] 35))
  have HR := Go.Lib.hid (hr.ch hal id id); have HAL := Go.Lib.hid hal; have HRL := Go.Lib.hid (row_lt hr.row); have HOLD := Go.Lib.hid hr.old
  have HZ := Go.Lib.hid hz; have HG := Go.Lib.hid hG; have HL := Go.Lib.hid hL
  have HW1S := Go.Lib.hid (World.size_alloc w (.cells #[.int .i64 2, .slice zp zN zC, .slice bp bN bC, .slice hp hN hC, .string s] 35))
  clear hr hal hz hG hL
  go_enter Try.func35, Try.ntmps35
  go_wp2_with fail
  generalize w.alloc (.cells #[.int .i64 2, .slice zp zN zC, .slice bp bN bC, .slice hp hN hC, .string s] 35) = w1 at *
  have HBX := Go.Lib.hid (show ¬ w.heap.size = r by have := HRL.out; omega)
  generalize hbx : w.heap.size = bx at *
  have HBE := Go.Lib.hid hbx
  clear hbx
  go_loopw [11] (fun ix wr => ∃ i : Nat, i ≤ hN ∧ ix = .int .i64 (i : Int) ∧ ∃ p' c', RdAt wr r x0 p' (n - 32 * i) c' (shiftF g (32 * i)) false ∧ Ch (fun q => q = r) w1 wr) (fun ix _ => hN - (intOf ix).toNat)
  case atStart => exact ⟨0, by omega, rfl, p, c, by rw [Nat.mul_zero, shiftF_zero]; exact HR.out, Ch.refl _ _⟩
  case round =>
    obtain ⟨ii, hi, rfl, p2, c2, hrd, hc⟩ := hrel
    have hbq := hc.heap HX1.out HBX.out
    have hcb : wr.cell? ⟨bx, 3, none⟩ = some (.slice hp hN hC) := (cell_of_heap hbq 3).trans rfl
    have HRD := Go.Lib.hid hrd; have HC := Go.Lib.hid hc; have HBX2 := Go.Lib.hid hbq
    clear hrd hc hbq
    by_cases hlt : ii < hN
    · obtain ⟨ab, ao, rfl, ha, hcells⟩ := HZ.out.resolve_right (by omega)
      have hl := HL.out
      have HCALL := Go.Lib.hid (rHash_ok r x0 p2 (n - 32 * ii) c2 (shiftF g (32 * ii)) wr HRD.out)
      rw [show outH (shiftF g (32 * ii)) (n - 32 * ii) = .got (.agg (hv (hh ii))) 32 from by
        unfold outH; rw [if_neg (by omega), hv_congrB (f := shiftF g (32 * ii)) (g := hh ii) (fun j hj => HG.out ii hlt j hj)]] at HCALL
      unfold PartTold at HCALL
      have HZC := Go.Lib.hid (fun W (hc : Ch (fun q => q = r) wr W) => run_loadVar_part (P := Try.prog) W ⟨ab, ao + ii * 32, none⟩ 44 (hv (hh ii)) _ (fun j u hj => by
        have hj2 : (hv (hh ii))[j]? = some u := by rw [← Array.getElem?_toList]; exact hj
        have hj32 : j < 32 := by have := (Array.getElem?_eq_some_iff.1 hj2).1; rwa [hv_size] at this
        have h3 : (hv (hh ii))[j]? = some (.int .u8 ((hh ii j).toNat : Int)) := arr_get 32 _ j hj32
        rw [h3] at hj2; cases hj2
        rw [add_at]
        exact hc.get (HC.out.get (HAL.out.get (hcells ii hlt j hj32) id) (show ¬ ab = r by omega)) (show ¬ ab = r by omega)) Try.underlying44 rfl (hv_info _))
      have HNX := Go.Lib.hid (show (n - 32 * ii) - 32 = n - 32 * (ii + 1) ∧ 32 * ii + 32 = 32 * (ii + 1) from ⟨by omega, by omega⟩)
      have HLT := Go.Lib.hid (show (ii : Int) < (hN : Int) by omega)
      clear hl hcells ha
      generalize hh ii = H at *
      go_wp2_with fail
      refine HCALL.out.mono ?_
      rintro e w2 ⟨hc2, rfl, hk, p3, c3, hr3⟩
      have HR3 := Go.Lib.hid (show RdAt w2 r x0 p3 (n - 32 * (ii + 1)) c3 (shiftF g (32 * (ii + 1))) false from by
        rw [← HNX.out.1, ← HNX.out.2, ← shiftF_add]; exact hr3)
      have HLD2 := Go.Lib.hid (fun W (hc : Ch (fun _ => False) w2 W) => HZC.out W (hc2.trans (hc.mono (fun _ _ e => e.elim))))
      have HB2 := Go.Lib.hid (hc2.heap HBX2.out HBX.out)
      have HC3 := Go.Lib.hid (HC.out.trans hc2)
      clear hc2 hk hr3 HCALL HZC
      go_upto_region 23 with (refine wpList_store_row rfl 44 (.tmp 12) (.tmp 82) rfl w2.heap.size (hv H) rfl rfl 44 _ (World.alloc_heap_new w2 _) (hv_info H) (by rw [hv_size]; rfl) (hv_all H) ?_)
      have hJ3 := heap_setRow (cells := hv H) (World.alloc_heap_new w2 (.cells #[.int .u8 0, .int .u8 0, .int .u8 0, .int .u8 0, .int .u8 0, .int .u8 0, .int .u8 0, .int .u8 0, .int .u8 0, .int .u8 0, .int .u8 0, .int .u8 0, .int .u8 0, .int .u8 0, .int .u8 0, .int .u8 0, .int .u8 0, .int .u8 0, .int .u8 0, .int .u8 0, .int .u8 0, .int .u8 0, .int .u8 0, .int .u8 0, .int .u8 0, .int .u8 0, .int .u8 0, .int .u8 0, .int .u8 0, .int .u8 0, .int .u8 0, .int .u8 0] 44))
      have hc4 : Ch (fun _ => False) w2 ((w2.alloc (.cells #[.int .u8 0, .int .u8 0, .int .u8 0, .int .u8 0, .int .u8 0, .int .u8 0, .int .u8 0, .int .u8 0, .int .u8 0, .int .u8 0, .int .u8 0, .int .u8 0, .int .u8 0, .int .u8 0, .int .u8 0, .int .u8 0, .int .u8 0, .int .u8 0, .int .u8 0, .int .u8 0, .int .u8 0, .int .u8 0, .int .u8 0, .int .u8 0, .int .u8 0, .int .u8 0, .int .u8 0, .int .u8 0, .int .u8 0, .int .u8 0, .int .u8 0, .int .u8 0] 44)).setRow w2.heap.size (hv H)) := ((Ch.refl _ w2).alloc _).setRow (g := w2.heap.size) (fun h => absurd h (Nat.lt_irrefl _)) _
      generalize (w2.alloc (.cells #[.int .u8 0, .int .u8 0, .int .u8 0, .int .u8 0, .int .u8 0, .int .u8 0, .int .u8 0, .int .u8 0, .int .u8 0, .int .u8 0, .int .u8 0, .int .u8 0, .int .u8 0, .int .u8 0, .int .u8 0, .int .u8 0, .int .u8 0, .int .u8 0, .int .u8 0, .int .u8 0, .int .u8 0, .int .u8 0, .int .u8 0, .int .u8 0, .int .u8 0, .int .u8 0, .int .u8 0, .int .u8 0, .int .u8 0, .int .u8 0, .int .u8 0, .int .u8 0] 44)).setRow w2.heap.size (hv H) = w3 at *
      have HJ3 := Go.Lib.hid hJ3; have HBX3 := Go.Lib.hid (hc4.heap HB2.out id); have HLD := Go.Lib.hid (fun W (hc : Ch (fun _ => False) w3 W) => HLD2.out W (hc4.trans hc))
      have HR4 := Go.Lib.hid (HR3.out.ch hc4 id id); have HC4 := Go.Lib.hid (HC3.out.trans (hc4.mono (fun _ _ e => e.elim)))
      clear hJ3 hc4 HB2 HLD2 HR3 HC3
      generalize w2.heap.size = J at *
      generalize hax : Act.mk _ _ = ax
      have HSZ := Go.Lib.hid (show ax.tmps.size = 110 by rw [← hax]; rfl)
      have F13 := Go.Lib.hid (show gt ax 13 = .int .i64 0 by rw [← hax]; rfl)
      have F12 := Go.Lib.hid (show gt ax 12 = .pointer (some ⟨J, 0, none⟩) by rw [← hax]; rfl)
      have F3 := Go.Lib.hid (show gt ax 3 = .pointer (some ⟨bx, 0, none⟩) by rw [← hax]; rfl)
      have F11 := Go.Lib.hid (show gt ax 11 = .int .i64 (ii : Int) by rw [← hax]; rfl)
      have HAX := Go.Lib.hid hax
      clear hax
      have HND := Go.Lib.hid (show ([84, 85, 86, 87, 88, 89, 90, 91, 92, 93, 94] : List Nat).Nodup by decide)
      have HLS : Hid (Lasts [(84, fun x _ => x = .int .i64 0), (85, fun x _ => x = .int .i64 0), (86, fun x _ => x = .bool false), (87, fun x _ => x = .bool false), (88, fun x _ => x = .agg (hv H)), (89, fun x _ => x = .pointer (some ⟨bx, 3, none⟩)), (90, fun x _ => x = .slice (some ⟨ab, ao, none⟩) hN hC), (91, fun x _ => x = .int .i64 (ii : Int)), (92, fun x _ => x = .pointer (some ⟨ab, ao + ii * 32, none⟩)), (93, fun x _ => x = .agg (hv H)), (94, fun x _ => x = .bool false)]) := Go.Lib.hid (by
        intro p hp v w1 w2 hc h
        simp only [List.mem_cons, List.not_mem_nil, or_false] at hp
        rcases hp with rfl | rfl | rfl | rfl | rfl | rfl | rfl | rfl | rfl | rfl | rfl
        all_goals first | exact h | (obtain ⟨g, h1, h2⟩ := h; exact ⟨g, h1, hc.heap h2 id⟩) | (obtain ⟨g, c, h1, h2⟩ := h; exact ⟨g, c, h1, h2.ch hc (fun _ _ h => h)⟩))
      refine wp_region_open_tail 11 (InvQ 110 [(84, fun x _ => x = .int .i64 0), (85, fun x _ => x = .int .i64 0), (86, fun x _ => x = .bool false), (87, fun x _ => x = .bool false), (88, fun x _ => x = .agg (hv H)), (89, fun x _ => x = .pointer (some ⟨bx, 3, none⟩)), (90, fun x _ => x = .slice (some ⟨ab, ao, none⟩) hN hC), (91, fun x _ => x = .int .i64 (ii : Int)), (92, fun x _ => x = .pointer (some ⟨ab, ao + ii * 32, none⟩)), (93, fun x _ => x = .agg (hv H)), (94, fun x _ => x = .bool false)] (fun _ w' => Ch (fun _ => False) w3 w') ax) (by kernel_rfl) (by kernel_rfl) (InvQ.start (by simp) HSZ.out (Ch.refl _ _).drew) ?_ ?_
      · intro L a w' i hI hr hlt
        obtain ⟨h1, o, ho, hall⟩ := mem_ready.1 hr
        have hsplit : i = 0 ∨ i = 1 ∨ i = 2 ∨ i = 3 ∨ i = 4 ∨ i = 5 ∨ i = 6 ∨ i = 7 ∨ i = 8 ∨ i = 9 ∨ i = 10 := by omega
        clear hlt h1 hr
        rcases hsplit with rfl | rfl | rfl | rfl | rfl | rfl | rfl | rfl | rfl | rfl | rfl
        · have q13 := (hI.fixed 13 (by simp)).trans F13.out
          unfold gt at q13
          clear hall
          refine wpOp_step (o := _) rfl (fun K' hK' => ?_)
          go_simp
          exact hK' _ _ (hI.put 0 rfl (by decide) HND.out HLS.out  (Ch.refl _ _) rfl hI.wld)
        · simp at ho
          have e0 : lg L 0 = true := by unfold lg; simpa using hall ⟨0, .data⟩ (by rw [← ho]; simp) rfl
          have f0 : gt a 84 = .int .i64 0 := hI.val 0 _ rfl e0
          unfold gt at f0
          clear hall
          clear ho
          have HCT := Go.Lib.hid (num_any 0 w')
          refine wpOp_step (o := _) rfl (fun K' hK' => ?_)
          go_simp
          refine HCT.out.mono ?_
          rintro e w3 ⟨rfl, rfl⟩
          exact hK' _ _ (hI.put 1 rfl (by decide) HND.out HLS.out (Ch.refl _ _) rfl hI.wld)
        · simp at ho
          have e1 : lg L 1 = true := by unfold lg; simpa using hall ⟨1, .data⟩ (by rw [← ho]; simp) rfl
          have f1 : gt a 85 = .int .i64 0 := hI.val 1 _ rfl e1
          unfold gt at f1
          clear hall
          clear ho
          refine wpOp_step (o := _) rfl (fun K' hK' => ?_)
          go_simp
          exact hK' _ _ (hI.put 2 rfl (by decide) HND.out HLS.out  (Ch.refl _ _) rfl hI.wld)
        · simp at ho
          have e2 : lg L 2 = true := by unfold lg; simpa using hall ⟨2, .data⟩ (by rw [← ho]; simp) rfl
          have f2 : gt a 86 = .bool false := hI.val 2 _ rfl e2
          unfold gt at f2
          clear hall
          clear ho
          refine wpOp_step (o := _) rfl (fun K' hK' => ?_)
          go_simp
          exact hK' _ _ (hI.put 3 rfl (by decide) HND.out HLS.out  (Ch.refl _ _) rfl hI.wld)
        · simp at ho
          have q12 := (hI.fixed 12 (by simp)).trans F12.out
          have eg : lg L 3 = true := by unfold lg; simpa using hall ⟨3, .guard⟩ (by rw [← ho]; simp) rfl
          have fg0 : gt a 87 = .bool false := hI.val 3 _ rfl eg
          have fg := guard_of fg0 (by rw [hI.size]; decide)
          clear eg fg0
          unfold gt at q12
          clear hall
          clear ho
          refine wpOp_step (o := _) rfl (fun K' hK' => ?_)
          rw [if_pos (by simp [Region.wanted, yielded, fg])]
          exact wp_load_row 44 (.tmp 12) rfl J (by simpa [Act.eval] using q12) 44 (hv H) _ _ (hI.wld.heap HJ3.out id) Try.underlying44 rfl (hv_info H) (hK' _ _ (hI.put 4 rfl (by decide) HND.out HLS.out  (Ch.refl _ _) rfl hI.wld))
        · simp at ho
          have q3 := (hI.fixed 3 (by simp)).trans F3.out
          have eg : lg L 3 = true := by unfold lg; simpa using hall ⟨3, .guard⟩ (by rw [← ho]; simp) rfl
          have fg0 : gt a 87 = .bool false := hI.val 3 _ rfl eg
          have fg := guard_of fg0 (by rw [hI.size]; decide)
          clear eg fg0
          unfold gt at q3
          clear hall
          clear ho
          refine wpOp_step (o := _) rfl (fun K' hK' => ?_)
          go_simp
          exact hK' _ _ (hI.put 5 rfl (by decide) HND.out HLS.out  (Ch.refl _ _) rfl hI.wld)
        · simp at ho
          have e5 : lg L 5 = true := by unfold lg; simpa using hall ⟨5, .data⟩ (by rw [← ho]; simp) rfl
          have f5 : gt a 89 = .pointer (some ⟨bx, 3, none⟩) := hI.val 5 _ rfl e5
          have eg : lg L 3 = true := by unfold lg; simpa using hall ⟨3, .guard⟩ (by rw [← ho]; simp) rfl
          have fg0 : gt a 87 = .bool false := hI.val 3 _ rfl eg
          have fg := guard_of fg0 (by rw [hI.size]; decide)
          clear eg fg0
          have hbq := hI.wld.heap HBX3.out id
          have hcq : w'.cell? ⟨bx, 3, none⟩ = some (.slice (some ⟨ab, ao, none⟩) hN hC) := (cell_of_heap hbq 3).trans rfl
          clear hbq
          unfold gt at f5
          clear hall
          clear ho
          refine wpOp_step (o := _) rfl (fun K' hK' => ?_)
          go_simp
          exact hK' _ _ (hI.put 6 rfl (by decide) HND.out HLS.out  (Ch.refl _ _) rfl hI.wld)
        · simp at ho
          have q11 := (hI.fixed 11 (by simp)).trans F11.out
          have eg : lg L 3 = true := by unfold lg; simpa using hall ⟨3, .guard⟩ (by rw [← ho]; simp) rfl
          have fg0 : gt a 87 = .bool false := hI.val 3 _ rfl eg
          have fg := guard_of fg0 (by rw [hI.size]; decide)
          clear eg fg0
          unfold gt at q11
          clear hall
          clear ho
          refine wpOp_step (o := _) rfl (fun K' hK' => ?_)
          go_simp
          exact hK' _ _ (hI.put 7 rfl (by decide) HND.out HLS.out  (Ch.refl _ _) rfl hI.wld)
        · simp at ho
          have e6 : lg L 6 = true := by unfold lg; simpa using hall ⟨6, .data⟩ (by rw [← ho]; simp) rfl
          have f6 : gt a 90 = .slice (some ⟨ab, ao, none⟩) hN hC := hI.val 6 _ rfl e6
          have e7 : lg L 7 = true := by unfold lg; simpa using hall ⟨7, .data⟩ (by rw [← ho]; simp) rfl
          have f7 : gt a 91 = .int .i64 (ii : Int) := hI.val 7 _ rfl e7
          have eg : lg L 3 = true := by unfold lg; simpa using hall ⟨3, .guard⟩ (by rw [← ho]; simp) rfl
          have fg0 : gt a 87 = .bool false := hI.val 3 _ rfl eg
          have fg := guard_of fg0 (by rw [hI.size]; decide)
          clear eg fg0
          have hl1 := HLT.out
          have hl0 : (0 : Int) ≤ (ii : Int) := Int.natCast_nonneg ii
          unfold gt at f6 f7
          clear hall
          clear ho
          refine wpOp_step (o := _) rfl (fun K' hK' => ?_)
          go_simp
          exact hK' _ _ (hI.put 8 rfl (by decide) HND.out HLS.out  (Ch.refl _ _) rfl hI.wld)
        · simp at ho
          have e8 : lg L 8 = true := by unfold lg; simpa using hall ⟨8, .data⟩ (by rw [← ho]; simp) rfl
          have f8 : gt a 92 = .pointer (some ⟨ab, ao + ii * 32, none⟩) := hI.val 8 _ rfl e8
          have eg : lg L 3 = true := by unfold lg; simpa using hall ⟨3, .guard⟩ (by rw [← ho]; simp) rfl
          have fg0 : gt a 87 = .bool false := hI.val 3 _ rfl eg
          have fg := guard_of fg0 (by rw [hI.size]; decide)
          clear eg fg0
          unfold gt at f8
          clear hall
          clear ho
          refine wpOp_step (o := _) rfl (fun K' hK' => ?_)
          rw [if_pos (by simp [Region.wanted, yielded, fg])]
          exact wp_load_at 44 (.tmp 92) rfl ⟨ab, ao + ii * 32, none⟩ (by simpa [Act.eval] using f8) _ (HLD.out w' hI.wld) (hK' _ _ (hI.put 9 rfl (by decide) HND.out HLS.out  (Ch.refl _ _) rfl hI.wld))
        · simp at ho
          have e4 : lg L 4 = true := by unfold lg; simpa using hall ⟨4, .data⟩ (by rw [← ho]; simp) rfl
          have f4 : gt a 88 = .agg (hv H) := hI.val 4 _ rfl e4
          have e9 : lg L 9 = true := by unfold lg; simpa using hall ⟨9, .data⟩ (by rw [← ho]; simp) rfl
          have f9 : gt a 93 = .agg (hv H) := hI.val 9 _ rfl e9
          have eg : lg L 3 = true := by unfold lg; simpa using hall ⟨3, .guard⟩ (by rw [← ho]; simp) rfl
          have fg0 : gt a 87 = .bool false := hI.val 3 _ rfl eg
          have fg := guard_of fg0 (by rw [hI.size]; decide)
          clear eg fg0
          unfold gt at f4 f9
          clear hall
          clear ho
          refine wpOp_step (o := _) rfl (fun K' hK' => ?_)
          rw [if_pos (by simp [Region.wanted, yielded, fg])]
          exact wp_neq (.tmp 88) (.tmp 93) 44 44 rfl (hv H) (hv H) (by simpa [Act.eval] using f4) (by simpa [Act.eval] using f9) eqgB44 (eq_hvB H _) (hK' _ _ (hI.put 10 rfl (by decide) HND.out HLS.out  (Ch.refl _ _) rfl hI.wld))
      · intro L a w' hI hal
        have hfr := hI.frame HSZ.out (by simp) (fun i hi => hal i hi)
        have k0 : gt a 84 = .int .i64 0 := hI.val 0 _ rfl (hal 0 (by decide))
        have k1 : gt a 85 = .int .i64 0 := hI.val 1 _ rfl (hal 1 (by decide))
        have k2 : gt a 86 = .bool false := hI.val 2 _ rfl (hal 2 (by decide))
        have k3 : gt a 87 = .bool false := hI.val 3 _ rfl (hal 3 (by decide))
        have k4 : gt a 88 = .agg (hv H) := hI.val 4 _ rfl (hal 4 (by decide))
        have k5 : gt a 89 = .pointer (some ⟨bx, 3, none⟩) := hI.val 5 _ rfl (hal 5 (by decide))
        have k6 : gt a 90 = .slice (some ⟨ab, ao, none⟩) hN hC := hI.val 6 _ rfl (hal 6 (by decide))
        have k7 : gt a 91 = .int .i64 (ii : Int) := hI.val 7 _ rfl (hal 7 (by decide))
        have k8 : gt a 92 = .pointer (some ⟨ab, ao + ii * 32, none⟩) := hI.val 8 _ rfl (hal 8 (by decide))
        have k9 : gt a 93 = .agg (hv H) := hI.val 9 _ rfl (hal 9 (by decide))
        have k10 : gt a 94 = .bool false := hI.val 10 _ rfl (hal 10 (by decide))
        rw [hfr, ← HAX.out]
        have HCR := Go.Lib.hid hI.wld
        simp only [List.map_cons, List.map_nil, List.foldl_cons, List.foldl_nil, k0, k1, k2, k3, k4, k5, k6, k7, k8, k9, k10, List.setIfInBounds_toArray, List.set_cons_succ, List.set_cons_zero]
        clear hfr hI hal k0 k1 k2 k3 k4 k5 k6 k7 k8 k9 k10  HSZ HND HLS HAX F13 F12 F3 F11
        simp only [List.drop_succ_cons, List.drop_zero]
        have HR5 := Go.Lib.hid (HR4.out.ch HCR.out id id); have HC5 := Go.Lib.hid (HC4.out.trans (HCR.out.mono (fun _ _ e => e.elim)))
        clear HCR
        go_wp2_with fail
        go_roundw
        case rel => exact ⟨ii + 1, by omega, by go_num, p3, c3, HR5.out, HC5.out⟩
        case measure => simp [intOf]; omega
    · obtain rfl : hN = ii := by omega
      go_wp2_with fail
      go_ret
      exact ⟨rfl, (HAL.out.mono (fun _ _ e => e.elim)).trans HC.out, p2, c2, HRD.out⟩
/-- What was laid by a call is read by read. -/
theorem read_act (r x0 B L : Nat) (p : Option Addr) (n c : Nat) (g G : Nat → UInt8) (w : World) (x : ActV) (hr : RdAt w r x0 p n c g false) (hBr : B ≤ r) (hx : ActAt B w x) (hs : x.small) (hi : ActIs x L 0 G) (hL : L ≤ n) (hg : ∀ j, j < L → g j = G j) :
    Calls Try.prog 35 #[.pointer (some ⟨r, 0, none⟩), .agg x.cells] w (ReadTold r x0 n L g w) := by
  obtain ⟨a1, a2, a3, a4⟩ := hs
  obtain ⟨h1, h2, h3⟩ := hx
  obtain ⟨what, zp, zN, zC, bp, bN, bC, hp, hN, hC, s, z, t, hh⟩ := x
  rcases hi with ⟨e0, hgd, _, rfl, hG⟩ | ⟨_, _, h, _⟩ | ⟨e0, _, rfl, hG⟩ | ⟨e0, _, rfl, hG⟩ | ⟨e0, e1, e2, _, rfl, hG⟩
  · obtain rfl : what = 0 := e0
    have hzz : ∀ i, i < zN → z i = ((z i).toNat : Int) := fun i hi => by have h9 : 0 ≤ z i := (hgd i hi).1; omega
    refine read_nums r x0 B p n c g w hr hBr zp bp hp zN zC bN bC hN hC s a1 (fun i => (z i).toNat) ?_ (fun i hi => by have h9 : z i ≤ 4611686018427387904 := (hgd i hi).2; have h8 := hzz i hi; show (z i).toNat ≤ _; omega) hL ?_
    · rcases h1 with ⟨a, o, e, ha, hc⟩ | h
      · exact .inl ⟨a, o, e, ha, fun i hi => by rw [hc i hi]; show some (Value.int .i64 (z i)) = some (.int .i64 ((z i).toNat : Int)); rw [← hzz i hi]⟩
      · exact .inr h
    · intro i hi j hj
      have hb : upto (lenOf fun i => (z i).toNat) i + j < upto (lenOf fun i => (z i).toNat) zN := by
        have h9 := upto_le (lenOf fun i => (z i).toNat) (show i + 1 ≤ zN from hi)
        rw [upto_at] at h9
        have h8 : lenOf (fun i => (z i).toNat) i = numL (z i).toNat := rfl
        have h7 : j < numL (z i).toNat := hj
        omega
      rw [hg _ hb]
      exact hG i hi j hj
  · cases h
  · obtain rfl : what = 1 := e0
    exact read_truths r x0 B p n c g w hr hBr zp bp hp zN zC _ bC hN hC s a2 t h2 hL (fun i hi => by rw [hg i hi]; exact hG i hi)
  · obtain rfl : what = 2 := e0
    exact read_hashes r x0 B p n c g w hr hBr zp bp hp zN zC bN bC hN hC s a3 hh h3 hL (fun i hi j hj => by
      have h9 : 32 * i + j < 32 * hN := by have h8 : i < hN := hi; omega
      rw [hg _ h9]; exact hG i hi j hj)
  · exact read_text r x0 p n c g w hr what e0 e1 e2 zp bp hp zN zC bN bC hN hC s a4 hL (fun j hj => by rw [hg j hj]; exact hG j hj)
end Go.Proofs.Ytljllfdigfojdaa
