/- The table of both sides: the functions. -/
import Derived.Test.YtljllfdigfojdaaT2
namespace Go.Proofs.Ytljllfdigfojdaa
open Go Go.RowKit
attribute [local go_sem high] b_add b_xor b_and b_or b_shr b_shl not32 wrap_un beq32 neg32 b_and1 b_andC

/-- The table as a row. -/
def tabR : Array Value := arr 256 fun i => wv (tb i)
def tp (q i : Nat) : BitVec 32 := if i % 2 ^ q = 0 then tb i else 0#32
theorem gp_tp0 (q : Nat) : (arr 256 fun i => wv (gp (2 ^ q) 0 i)) = arr 256 fun i => wv (tp (q + 1) i) :=
  arr_congr fun i hi => by
    unfold gp tp
    rw [Nat.pow_succ, Nat.mul_comm (2 ^ q) 2]
    by_cases e : i % (2 * 2 ^ q) = 0
    · rw [if_pos e, if_pos e]
    · rw [if_neg e, if_neg e, if_neg (by omega)]
theorem gp_tp (q : Nat) : (arr 256 fun i => wv (gp (2 ^ q) 256 i)) = arr 256 fun i => wv (tp q i) :=
  arr_congr fun i hi => by
    unfold gp tp
    by_cases e : i % (2 * 2 ^ q) = 0
    · have : i % 2 ^ q = 0 := Nat.mod_eq_zero_of_dvd (Nat.dvd_trans ⟨2, by rw [Nat.mul_comm]⟩ (Nat.dvd_of_mod_eq_zero e))
      rw [if_pos e, if_pos this]
    · rw [if_neg e]
      by_cases e2 : i % 2 ^ q = 0
      · rw [if_pos ⟨e2, hi⟩, if_pos e2]
      · rw [if_neg (fun h => e2 h.1), if_neg e2]
theorem tp_zero : (arr 256 fun i => wv (tp 8 i)) = arr 256 fun _ => .int .u32 0 :=
  arr_congr fun i hi => by
    unfold tp
    by_cases e : i % 2 ^ 8 = 0
    · obtain rfl : i = 0 := by omega
      rw [if_pos e, show tb 0 = 0#32 by decide]; rfl
    · rw [if_neg e]; rfl
theorem tp_all : (arr 256 fun i => wv (tp 0 i)) = tabR := arr_congr fun i hi => by
  unfold tp
  rw [if_pos (Nat.mod_one i)]
theorem shr_128 (p q : Nat) (h : p + q = 7) : (128 : Int) / 2 ^ p = ((2 ^ q : Nat) : Int) := by
  obtain ⟨rfl, rfl⟩ | ⟨rfl, rfl⟩ | ⟨rfl, rfl⟩ | ⟨rfl, rfl⟩ | ⟨rfl, rfl⟩ | ⟨rfl, rfl⟩ | ⟨rfl, rfl⟩ | ⟨rfl, rfl⟩ : (p = 0 ∧ q = 7) ∨ (p = 1 ∧ q = 6) ∨ (p = 2 ∧ q = 5) ∨ (p = 3 ∧ q = 4) ∨ (p = 4 ∧ q = 3) ∨ (p = 5 ∧ q = 2) ∨ (p = 6 ∧ q = 1) ∨ (p = 7 ∧ q = 0) := by omega
  all_goals rfl
theorem stp_bit (p q : Nat) (h : p + q = 7) : stp (sN p 1#32) = tb (2 ^ q) := by
  obtain ⟨rfl, rfl⟩ | ⟨rfl, rfl⟩ | ⟨rfl, rfl⟩ | ⟨rfl, rfl⟩ | ⟨rfl, rfl⟩ | ⟨rfl, rfl⟩ | ⟨rfl, rfl⟩ | ⟨rfl, rfl⟩ : (p = 0 ∧ q = 7) ∨ (p = 1 ∧ q = 6) ∨ (p = 2 ∧ q = 5) ∨ (p = 3 ∧ q = 4) ∨ (p = 4 ∧ q = 3) ∨ (p = 5 ∧ q = 2) ∨ (p = 6 ∧ q = 1) ∨ (p = 7 ∧ q = 0) := by omega
  all_goals decide
theorem info33 : (Try.prog.info? 152).map (·.size) = some 256 := by kernel_rfl
theorem tabR_size : tabR.size = 256 := arr_size _ _
theorem tabR_info : (Try.prog.info? 152).map (·.size) = some tabR.size := by rw [tabR_size]; exact info33
theorem tabR_all : tabR.all (·.oneCell') = true := arr_all _ _ (fun _ _ => rfl)
/-- The row of the array's zero value. -/
def zr33 : Array Value := arr 256 fun _ => .int .u32 0
theorem zr33_size : zr33.size = 256 := arr_size _ _
theorem zr33_ne : zr33 ≠ #[] := fun h => by have := zr33_size; rw [h] at this; cases this
theorem zv33 (w : World) : (zeroValue 152).run Try.prog w = .ok (.agg zr33) w := by kernel_rfl
attribute [local go_sem] zv33 zr33_size zr33_ne

theorem zr33_all : zr33.all (·.oneCell') = true := arr_all _ _ (fun _ _ => rfl)
/-- A world with two new rows. -/
theorem two_new (w : World) (A B : Array Value) (t u : TypeId) : ∃ W, (w.alloc (.cells A t)).alloc (.cells B u) = W ∧ W.heap[w.heap.size]? = some (.cells A t) ∧ W.heap[w.heap.size + 1]? = some (.cells B u) ∧ Ch (fun _ => False) w W := by
  refine ⟨_, rfl, Ch.heap ((Ch.refl (fun _ => False) _).alloc _) (World.alloc_heap_new w _) id, ?_, ((Ch.refl _ w).alloc _).alloc _⟩
  have h := World.alloc_heap_new (w.alloc (.cells A t)) (.cells B u)
  rw [World.size_alloc] at h
  exact h

set_option maxRecDepth 100000 in
set_option maxHeartbeats 1000000 in
theorem table_any (w : World) : Calls Try.prog 98 #[] w fun e w' => e = .returned (.agg tabR) ∧ Ch (fun _ => False) w w' := by
  go_enter Try.func98, Try.ntmps98
  go_wp2_with fail
  rw [show Try.zeroCells152 = zr33 from by kernel_rfl]
  obtain ⟨W0, hW0, h0, h1, hc⟩ := two_new w zr33 zr33 152 152
  rw [hW0]
  rw [show zr33 = arr 256 fun i => wv (tp 8 i) from tp_zero.symm] at h1
  have H0 := Go.Lib.hid h0; have H1 := Go.Lib.hid h1; have HC := Go.Lib.hid hc
  have hne := fun (W : World) (h : Ch (fun k => k = w.heap.size + 1) W0 W) => h.heap h0 (by omega)
  have HNE := Go.Lib.hid hne
  clear hW0 h0 h1 hc hne
  go_loopw [3, 4, 6] (fun z _ i wr => ∃ p : Nat, p ≤ 8 ∧ i = .int .i64 p ∧ z = .int .u32 (un (sN p 1#32)) ∧ wr.heap[w.heap.size + 1]? = some (.cells (arr 256 fun i => wv (tp (8 - p) i)) 152) ∧ Ch (fun k => k = w.heap.size + 1) W0 wr) (fun _ _ i _ => 8 - (intOf i).toNat)
  case atStart => exact ⟨0, by omega, rfl, rfl, H1.out, Ch.refl _ _⟩
  case round =>
    obtain ⟨p, hp, rfl, rfl, hr, hC⟩ := hrel
    have HR := Go.Lib.hid hr; have HC2 := Go.Lib.hid hC
    clear hr hC
    by_cases hlt : p < 8
    · obtain ⟨q, hq⟩ : ∃ q, p + q = 7 := ⟨7 - p, by omega⟩
      have hq8 : q < 8 := by omega
      have HSH := Go.Lib.hid (shr_128 p q hq)
      have hst := stp_bit p q hq
      have HS := Go.Lib.hid (show sN (p + 1) 1#32 = tb (2 ^ q) from hst)
      have hg0 := gp_tp0 q
      rw [show q + 1 = 8 - p by omega] at hg0
      have HF := Go.Lib.hid (fill_any q (w.heap.size + 1) hq8 wr (by rw [hg0]; exact HR.out))
      have HT := Go.Lib.hid (gp_tp q)
      have HQ := Go.Lib.hid (show 8 - (p + 1) = q by omega)
      clear hg0 hq
      generalize sN p 1#32 = z at *
      generalize tb (2 ^ q) = y at *
      go_wp2_with (go_at_call 103; refine (step_any _ _).mono ?_; rintro e w' ⟨rfl, rfl⟩)
      rw [HSH.out]
      refine HF.out.mono ?_
      rintro e w3 ⟨rfl, h3, hc3⟩
      have H3 := Go.Lib.hid h3; have HC3 := Go.Lib.hid (HC2.out.trans hc3)
      clear h3 hc3
      go_wp2_with fail
      go_roundw
      case rel => exact ⟨p + 1, by omega, by go_num, by rw [HS.out], by rw [HQ.out, ← HT.out]; exact H3.out, HC3.out⟩
      case measure => simp [intOf]; omega
    · obtain rfl : p = 8 := by omega
      have hr : wr.heap[w.heap.size + 1]? = some (.cells tabR 152) := by rw [← tp_all]; exact HR.out
      have HRr := Go.Lib.hid hr; have HZ := Go.Lib.hid (HNE.out wr HC2.out)
      have HW := Go.Lib.hid (HC.out.then HC2.out (fun i hi h => by omega))
      clear hr
      go_wp2_with (first | (refine wpList_load_row rfl 152 (.tmp 1) rfl (w.heap.size + 1) rfl 152 _ (0, 0) _ HRr.out Try.underlying152 rfl tabR_info ?_) | (refine wpList_store_row rfl 152 (.tmp 0) (.tmp 17) rfl w.heap.size tabR rfl rfl 152 zr33 HZ.out tabR_info (zr33_size.trans tabR_size.symm) tabR_all ?_))
      have HE := Go.Lib.hid (heap_setRow (cells := tabR) HZ.out)
      have HX := Go.Lib.hid (HW.out.setRow (g := w.heap.size) (fun h => absurd h (Nat.lt_irrefl _)) tabR)
      refine bodyPost_ret (v := .agg tabR) (results_cell_row Try.results98 _ _ w.heap.size 152 tabR (0, 0) _ rfl HE.out Try.underlying152 rfl tabR_info) rfl ⟨rfl, HX.out⟩

end Go.Proofs.Ytljllfdigfojdaa
