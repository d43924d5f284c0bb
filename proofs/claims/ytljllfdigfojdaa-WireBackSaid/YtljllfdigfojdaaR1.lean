/- A reader's truths; its end. -/
import Derived.Test.YtljllfdigfojdaaV10
namespace Go.Proofs.Ytljllfdigfojdaa
open Go Go.RowKit

/-- A truth at the beginning. -/
def outB (f : Nat → UInt8) (n : Nat) : Out := if n = 0 then .lack else if 1 < (f 0).toNat then .wrong else .got (.bool (decide ((f 0).toNat = 1))) 1
/-- The end. -/
def outE (n : Nat) : Out := if n = 0 then .got (.bool true) 0 else .wrong
theorem outB_form {f : Nat → UInt8} {n : Nat} : ∀ x k, outB f n = .got x k → ∃ v, x = .bool v := fun x k h => by
  unfold outB at h
  split at h
  · cases h
  · split at h
    · cases h
    · cases h; exact ⟨_, rfl⟩
theorem outE_form {n : Nat} : ∀ x k, outE n = .got x k → ∃ v, x = .bool v := fun x k h => by
  unfold outE at h
  split at h
  · cases h; exact ⟨_, rfl⟩
  · cases h
theorem truth_any (l x0 : Nat) (p : Option Addr) (n c : Nat) (f : Nat → UInt8) (w : World) (hl : LeftAt w l x0 p n c f) :
    Calls Try.prog 60 #[.pointer (some ⟨l, 0, none⟩)] w (TakeTold (outB f n) f n l x0 w) := by
  unfold outB
  by_cases h0 : n = 0
  · have HT := Go.Lib.hid (take_lack l x0 p n c f 1 w hl (by omega))
    rw [if_pos h0]
    clear hl h0
    unfold TakeTold
    go_enter Try.func60, Try.ntmps60
    go_wp2_with fail
    refine HT.out.mono ?_
    rintro e w' ⟨rfl, rfl⟩
    go_wp2_with fail
    exact ⟨rfl, Ch.refl _ _, rfl⟩
  · rw [if_neg h0]
    have HT := Go.Lib.hid (takeL_any l x0 p n c f 1 w hl (by omega))
    have HK := Go.Lib.hid (show 1 ≤ n by omega)
    clear hl h0
    generalize hz : (f 0).toNat = z
    have HZ := Go.Lib.hid hz
    clear hz
    unfold TakeTold
    by_cases h1 : 1 < z
    · rw [if_pos h1]
      have h1' : (1 : Int) < (z : Int) := by omega
      clear h1
      go_enter Try.func60, Try.ntmps60
      go_wp2_with fail
      refine HT.out.mono ?_
      rintro e w' ⟨hc, rfl, hb, p', c', hl'⟩
      obtain ⟨x, y, rfl, _, hb2⟩ := hb.at0 (by decide)
      have hcell : w'.cell? ⟨x, y, none⟩ = some (.int .u8 (z : Int)) := by rw [← HZ.out]; exact hb2 0 (by decide)
      have HC := Go.Lib.hid hc
      clear hc hb hb2 hl'
      go_wp2_with fail
      exact ⟨rfl, HC.out, rfl⟩
    · rw [if_neg h1]
      have h1' : ¬ (1 : Int) < (z : Int) := by omega
      obtain ⟨B, hB⟩ : ∃ B, decide (z = 1) = B := ⟨_, rfl⟩
      have hB' : decide ((z : Int) = 1) = B := by rw [← hB]; exact decide_eq_decide.2 ⟨fun h => by omega, fun h => by omega⟩
      rw [hB]
      clear hB
      have hB2 : ((z : Int) == 1) = B := hB'
      clear h1
      have HB2 := Go.Lib.hid hB2; have HBD := Go.Lib.hid hB'
      clear hB2 hB'
      go_enter Try.func60, Try.ntmps60
      go_wp2_with fail
      refine HT.out.mono ?_
      rintro e w' ⟨hc, rfl, hb, p', c', hl'⟩
      obtain ⟨x, y, rfl, _, hb2⟩ := hb.at0 (by decide)
      have hcell : w'.cell? ⟨x, y, none⟩ = some (.int .u8 (z : Int)) := by rw [← HZ.out]; exact hb2 0 (by decide)
      have HC := Go.Lib.hid hc; have HL := Go.Lib.hid hl'
      clear hc hb hb2 hl'
      have hB2 := HB2.out; have hBD := HBD.out
      go_wp2_with fail
      go_ret
      exact ⟨HC.out, rfl, HK.out, p', c', HL.out⟩
theorem ended_any (l x0 : Nat) (p : Option Addr) (n c : Nat) (f : Nat → UInt8) (w : World) (hl : LeftAt w l x0 p n c f) :
    Calls Try.prog 66 #[.pointer (some ⟨l, 0, none⟩)] w (TakeTold (outE n) f n l x0 w) := by
  unfold outE
  have hc : w.cell? ⟨l, 0, none⟩ = some (.slice p n c) := (cell_of_heap hl.row 0).trans rfl
  have HL := Go.Lib.hid hl
  clear hl
  unfold TakeTold
  by_cases h0 : n = 0
  · rw [if_pos h0]
    subst h0
    go_enter Try.func66, Try.ntmps66
    go_wp2_with fail
    go_ret
    exact ⟨Ch.refl _ _, rfl, Nat.le_refl _, p, c, by simpa using HL.out⟩
  · rw [if_neg h0]
    have h0' : (0 : Int) < (n : Int) := by omega
    clear h0
    go_enter Try.func66, Try.ntmps66
    go_wp2_with fail
    exact ⟨rfl, Ch.refl _ _, rfl⟩
set_option maxRecDepth 100000 in
theorem pcB (tb l xb x0 : Nat) (n : Nat) (f : Nat → UInt8) (out : Out) (w : World) (htb : w.cell? ⟨tb, 0, none⟩ = some (.func (.func 60) #[] #[])) (hxr : w.heap[xb]? = some (.cells #[.bool false] 4)) (hne : xb ≠ l ∧ xb ≠ x0)
    (hxv : ∀ x k, out = .got x k → ∃ v, x = .bool v) (H : Calls Try.prog 60 #[.pointer (some ⟨l, 0, none⟩)] w (TakeTold out f n l x0 w)) :
    Calls Try.prog 84 #[.pointer (some ⟨tb, 0, none⟩), .pointer (some ⟨l, 0, none⟩), .pointer (some ⟨xb, 0, none⟩)] w (PcTold out f n l x0 xb (.bool false) 4 w) := by
  have HH := Go.Lib.hid H; have HX := Go.Lib.hid hxr; have HNE := Go.Lib.hid hne
  clear H hxr hne
  unfold TakeTold at HH
  unfold PcTold
  cases out with
  | lack =>
    clear hxv
    go_enter Try.func84, Try.ntmps84
    go_wp2_with fail
    refine HH.out.mono ?_
    rintro e w' ⟨hc, rfl⟩
    have HC := Go.Lib.hid hc
    clear hc
    go_wp2_with fail
    exact ⟨rfl, HC.out.mono (fun _ _ e => .inl e), rfl, HC.out.heap HX.out HNE.out.1⟩
  | wrong =>
    clear hxv
    go_enter Try.func84, Try.ntmps84
    go_wp2_with fail
    refine HH.out.mono ?_
    rintro e w' ⟨hc, rfl⟩
    have HC := Go.Lib.hid hc
    clear hc
    go_wp2_with fail
    exact ⟨rfl, HC.out.mono (fun _ _ e => .inl e), rfl, HC.out.heap HX.out HNE.out.1⟩
  | got x k =>
    obtain ⟨v, rfl⟩ := hxv x k rfl
    clear hxv
    go_enter Try.func84, Try.ntmps84
    go_wp2_with fail
    refine HH.out.mono ?_
    rintro e w1 ⟨hc, rfl, hk, p1, c1, h1⟩
    have hx1 := hc.heap HX.out HNE.out.1
    have hcl : w1.cell? ⟨xb, 0, none⟩ = some (.bool false) := (cell_of_heap hx1 0).trans rfl
    have hfz : w1.frozen? ⟨xb, 0, none⟩ = false := frozen_of_heap hx1 0
    have HX2 := Go.Lib.hid (show (w1.setCell ⟨xb, 0, none⟩ (.bool v)).heap[xb]? = some (.cells #[.bool v] 4) from (row_setM hx1 0 _).trans rfl)
    have hs : Ch (fun q => q = xb) w1 (w1.setCell ⟨xb, 0, none⟩ (.bool v)) := Ch.setCell (S := fun q => q = xb) (Ch.refl _ w1) (p := ⟨xb, 0, none⟩) (fun _ => rfl) _
    have HC := Go.Lib.hid ((hc.mono (T := fun q => q = l ∨ q = xb) (fun _ _ e => .inl e)).trans (hs.mono (fun _ _ e => .inr e)))
    have HL := Go.Lib.hid (h1.ch hs (show ¬ l = xb from fun e => HNE.out.1 e.symm) (show ¬ x0 = xb from fun e => HNE.out.2 e.symm))
    have HK := Go.Lib.hid hk
    clear hc hx1 hs h1 hk
    go_wp2_with fail
    first | go_end0 | refine bodyPost_ret (results_none rfl _ _ _) rfl ?_
    exact ⟨HC.out, rfl, HK.out, ⟨p1, c1, HL.out⟩, HX2.out⟩
set_option maxRecDepth 100000 in
set_option maxHeartbeats 1000000 in
theorem partB (r x0 : Nat) (p : Option Addr) (n c : Nat) (f : Nat → UInt8) (out : Out) (w : World) (hr : RdAt w r x0 p n c f false) (hxv : ∀ x k, out = .got x k → ∃ v, x = .bool v)
    (H : ∀ W l, Ch (fun _ => False) w W → LeftAt W l x0 p n c f → Calls Try.prog 60 #[.pointer (some ⟨l, 0, none⟩)] W (TakeTold out f n l x0 W)) :
    Calls Try.prog 59 #[.pointer (some ⟨r, 0, none⟩), .func (.func 60) #[] #[]] w (PartTold out f p n c r x0 (.bool false) w) := by
  have HR := Go.Lib.hid hr; have HH := Go.Lib.hid H; have HXV := Go.Lib.hid hxv
  have HRL := Go.Lib.hid (row_lt hr.row)
  clear hr H hxv
  go_enter Try.func59, Try.ntmps59
  go_wp2_with fail
  refine (state_any _ (HR.out.ch (((Ch.refl (fun _ => False) w).alloc _).alloc _) id id)).mono ?_
  rintro e w' ⟨rfl, rfl⟩
  have hr0 : ((w.alloc (.cells #[.func (.func 60) #[] #[]] 118)).alloc (.cells #[.bool false] 4)).cell? ⟨r, 0, none⟩ = some (.slice p n c) := ((((Ch.refl (fun _ => False) w).alloc _).alloc _).get ((cell_of_heap HR.out.row 0).trans rfl) id)
  go_wp2_with fail
  clear hr0
  generalize hW3 : World.alloc (World.alloc (World.alloc w _) _) _ = W3
  have hA : W3.heap[w.heap.size]? = some (.cells #[.func (.func 60) #[] #[]] 118) := by
    rw [← hW3]
    exact (((Ch.refl (fun _ => False) (w.alloc _)).alloc _).alloc _).heap (World.alloc_heap_new w _) id
  have hB : W3.heap[w.heap.size + 1]? = some (.cells #[.bool false] 4) := by
    rw [← hW3, ← World.size_alloc w (.cells #[.func (.func 60) #[] #[]] 118)]
    exact ((Ch.refl (fun _ => False) _).alloc _).heap (World.alloc_heap_new _ _) id
  have hC : W3.heap[w.heap.size + 1 + 1]? = some (.cells #[.slice p n c] 57) := by
    rw [← hW3, ← World.size_alloc w (.cells #[.func (.func 60) #[] #[]] 118), ← World.size_alloc (w.alloc _) (.cells #[.bool false] 4)]
    exact World.alloc_heap_new _ _
  have hc3 : Ch (fun _ => False) w W3 := by rw [← hW3]; exact (((Ch.refl _ w).alloc _).alloc _).alloc _
  have hs3 : w.heap.size + 3 = W3.heap.size := by rw [← hW3]; simp
  clear hW3
  have hrl := HRL.out; have hold := HR.out.old
  have hca : Ch (fun _ => False) W3 (W3.alloc (.cells #[.int .i64 0] 127)) := (Ch.refl _ W3).alloc _
  have hcw := hc3.trans hca
  have HT := Go.Lib.hid (tried84 _ _ _ W3 _ (pcB w.heap.size (w.heap.size + 1 + 1) (w.heap.size + 1) x0 n f out (W3.alloc (.cells #[.int .i64 0] 127)) (hca.get ((cell_of_heap hA 0).trans rfl) id) (hca.heap hB id) (by omega) HXV.out
    (HH.out (W3.alloc (.cells #[.int .i64 0] 127)) (w.heap.size + 1 + 1) hcw ⟨hca.heap hC id, HR.out.bytes.but hcw HR.out.blk id, by omega, HR.out.blk⟩))
    (fun e w' hpc => by
      refine ⟨?_, hpc.1.heap (World.alloc_heap_new W3 _) (by omega)⟩
      have h := hpc.2
      cases out with
      | lack => exact .inr (.inl h.1)
      | wrong => exact .inr (.inr h.1)
      | got x k => exact .inl h.1))
  have HC3 := Go.Lib.hid hc3
  have HD := Go.Lib.hid hs3
  clear hA hB hC hca hcw
  refine HT.out.mono ?_
  rintro e w' ⟨e1, w1, v, hpc, htold, rfl, rfl⟩
  have hcD : Ch (fun q => q = W3.heap.size) w1 (w1.setCell ⟨W3.heap.size, 0, none⟩ (.int .i64 v)) := Ch.setCell (S := fun q => q = W3.heap.size) (Ch.refl _ w1) (p := ⟨W3.heap.size, 0, none⟩) (fun _ => rfl) _
  have hcx : Ch (fun _ => False) w (w1.setCell ⟨W3.heap.size, 0, none⟩ (.int .i64 v)) := ((hc3.alloc _).then hpc.1 (fun i hi e => by omega)).then hcD (fun i hi e => by omega)
  have HCX := Go.Lib.hid hcx; have HCD := Go.Lib.hid hcD
  have hrx := hcx.heap HR.out.row id
  have HRX := Go.Lib.hid hrx
  have hcell0 : (w1.setCell ⟨W3.heap.size, 0, none⟩ (.int .i64 v)).cell? ⟨r, 0, none⟩ = some (.slice p n c) := (cell_of_heap hrx 0).trans rfl
  have hcell2 : (w1.setCell ⟨W3.heap.size, 0, none⟩ (.int .i64 v)).cell? ⟨r, 2, none⟩ = some (.bool false) := (cell_of_heap hrx 2).trans rfl
  have hfr0 : (w1.setCell ⟨W3.heap.size, 0, none⟩ (.int .i64 v)).frozen? ⟨r, 0, none⟩ = false := frozen_of_heap hrx 0
  have hfr2 : (w1.setCell ⟨W3.heap.size, 0, none⟩ (.int .i64 v)).frozen? ⟨r, 2, none⟩ = false := frozen_of_heap hrx 2
  have HPC := Go.Lib.hid hpc; have HTO := Go.Lib.hid htold
  clear hpc htold hcD hcx hrx HT hc3 hs3
  unfold PartTold
  unfold PcTold at HPC
  cases out with
  | lack =>
    obtain rfl : v = 1 := by
      obtain ⟨_, h, _⟩ := HPC.out
      rcases HTO.out with ⟨h1, h2⟩ | ⟨h1, h2⟩ | ⟨h1, h2⟩
      all_goals first | exact h2 | (rw [h] at h1; cases h1)
    have hxx : (w1.setCell ⟨W3.heap.size, 0, none⟩ (.int .i64 1)).heap[w.heap.size + 1]? = some (.cells #[.bool false] 4) := HCD.out.heap HPC.out.2.2 (by have := HD.out; omega)
    have hxc : (w1.setCell ⟨W3.heap.size, 0, none⟩ (.int .i64 1)).cell? ⟨w.heap.size + 1, 0, none⟩ = some (.bool false) := (cell_of_heap hxx 0).trans rfl
    have hxf : (w1.setCell ⟨W3.heap.size, 0, none⟩ (.int .i64 1)).frozen? ⟨w.heap.size + 1, 0, none⟩ = false := frozen_of_heap hxx 0
    have HXX := Go.Lib.hid hxx
    clear hxx HPC HTO HCD
    generalize w1.setCell ⟨W3.heap.size, 0, none⟩ (.int .i64 1) = WX at *
    go_wp2_with fail
    have c1 : Ch (fun q => q = r) WX (WX.setCell ⟨r, 2, none⟩ (.bool true)) := Ch.setCell (S := fun q => q = r) (Ch.refl _ WX) (p := ⟨r, 2, none⟩) (fun _ => rfl) _
    have hrow1 : (WX.setCell ⟨r, 2, none⟩ (.bool true)).heap[r]? = some (.cells #[.slice p n c, .bool true, .bool true] 59) := (row_setM HRX.out 2 _).trans rfl
    have hx1 := c1.heap HXX.out (show ¬ w.heap.size + 1 = r by omega)
    generalize WX.setCell ⟨r, 2, none⟩ (.bool true) = WY at *
    have hfin : (WY.setCell ⟨w.heap.size + 1, 0, none⟩ (.bool false)).cell? ⟨w.heap.size + 1, 0, none⟩ = some (.bool false) := (cell_of_heap (row_setM hx1 0 _) 0).trans rfl
    have c2 : Ch (fun q => q = w.heap.size + 1) WY (WY.setCell ⟨w.heap.size + 1, 0, none⟩ (.bool false)) := Ch.setCell (S := fun q => q = w.heap.size + 1) (Ch.refl _ WY) (p := ⟨w.heap.size + 1, 0, none⟩) (fun _ => rfl) _
    have hall : Ch (fun q => q = r) w (WY.setCell ⟨w.heap.size + 1, 0, none⟩ (.bool false)) := ((HCX.out.mono (fun _ _ e => e.elim)).trans c1).then c2 (fun i hi e => by omega)
    generalize WY.setCell ⟨w.heap.size + 1, 0, none⟩ (.bool false) = WF at *
    refine bodyPost_ret (v := .tuple #[.bool false, .int .i64 140]) (by simp [results, Try.results59, go_sem, hfin]) rfl ?_
    exact ⟨hall, rfl, ⟨c2.heap hrow1 (by omega), HR.out.bytes.but hall HR.out.blk HR.out.ne, HR.out.ne, HR.out.blk, Nat.lt_of_lt_of_le hold hall.size⟩⟩
  | wrong =>
    obtain rfl : v = 2 := by
      obtain ⟨_, h, _⟩ := HPC.out
      rcases HTO.out with ⟨h1, h2⟩ | ⟨h1, h2⟩ | ⟨h1, h2⟩
      all_goals first | exact h2 | (rw [h] at h1; cases h1)
    have hxx : (w1.setCell ⟨W3.heap.size, 0, none⟩ (.int .i64 2)).heap[w.heap.size + 1]? = some (.cells #[.bool false] 4) := HCD.out.heap HPC.out.2.2 (by have := HD.out; omega)
    have hxc : (w1.setCell ⟨W3.heap.size, 0, none⟩ (.int .i64 2)).cell? ⟨w.heap.size + 1, 0, none⟩ = some (.bool false) := (cell_of_heap hxx 0).trans rfl
    have hxf : (w1.setCell ⟨W3.heap.size, 0, none⟩ (.int .i64 2)).frozen? ⟨w.heap.size + 1, 0, none⟩ = false := frozen_of_heap hxx 0
    have HXX := Go.Lib.hid hxx
    clear hxx HPC HTO HCD
    generalize w1.setCell ⟨W3.heap.size, 0, none⟩ (.int .i64 2) = WX at *
    go_wp2_with fail
    have c1 : Ch (fun q => q = r) WX (WX.setCell ⟨r, 2, none⟩ (.bool true)) := Ch.setCell (S := fun q => q = r) (Ch.refl _ WX) (p := ⟨r, 2, none⟩) (fun _ => rfl) _
    have hrow1 : (WX.setCell ⟨r, 2, none⟩ (.bool true)).heap[r]? = some (.cells #[.slice p n c, .bool true, .bool true] 59) := (row_setM HRX.out 2 _).trans rfl
    have hx1 := c1.heap HXX.out (show ¬ w.heap.size + 1 = r by omega)
    generalize WX.setCell ⟨r, 2, none⟩ (.bool true) = WY at *
    have hfin : (WY.setCell ⟨w.heap.size + 1, 0, none⟩ (.bool false)).cell? ⟨w.heap.size + 1, 0, none⟩ = some (.bool false) := (cell_of_heap (row_setM hx1 0 _) 0).trans rfl
    have c2 : Ch (fun q => q = w.heap.size + 1) WY (WY.setCell ⟨w.heap.size + 1, 0, none⟩ (.bool false)) := Ch.setCell (S := fun q => q = w.heap.size + 1) (Ch.refl _ WY) (p := ⟨w.heap.size + 1, 0, none⟩) (fun _ => rfl) _
    have hall : Ch (fun q => q = r) w (WY.setCell ⟨w.heap.size + 1, 0, none⟩ (.bool false)) := ((HCX.out.mono (fun _ _ e => e.elim)).trans c1).then c2 (fun i hi e => by omega)
    generalize WY.setCell ⟨w.heap.size + 1, 0, none⟩ (.bool false) = WF at *
    refine bodyPost_ret (v := .tuple #[.bool false, .int .i64 140]) (by simp [results, Try.results59, go_sem, hfin]) rfl ?_
    exact ⟨hall, rfl, ⟨c2.heap hrow1 (by omega), HR.out.bytes.but hall HR.out.blk HR.out.ne, HR.out.ne, HR.out.blk, Nat.lt_of_lt_of_le hold hall.size⟩⟩
  | got x k =>
    obtain ⟨u, rfl⟩ := HXV.out x k rfl
    obtain rfl : v = 0 := by
      obtain ⟨_, h, _⟩ := HPC.out
      rcases HTO.out with ⟨h1, h2⟩ | ⟨h1, h2⟩ | ⟨h1, h2⟩
      all_goals first | exact h2 | (rw [h] at h1; cases h1)
    obtain ⟨_, _, hk, ⟨p', c', hl1⟩, hxh⟩ := HPC.out
    have hxx : (w1.setCell ⟨W3.heap.size, 0, none⟩ (.int .i64 0)).heap[w.heap.size + 1]? = some (.cells #[.bool u] 4) := HCD.out.heap hxh (by have := HD.out; omega)
    have hxc : (w1.setCell ⟨W3.heap.size, 0, none⟩ (.int .i64 0)).cell? ⟨w.heap.size + 1, 0, none⟩ = some (.bool u) := (cell_of_heap hxx 0).trans rfl
    have hxf : (w1.setCell ⟨W3.heap.size, 0, none⟩ (.int .i64 0)).frozen? ⟨w.heap.size + 1, 0, none⟩ = false := frozen_of_heap hxx 0
    have hl2 := hl1.ch HCD.out (show ¬ w.heap.size + 1 + 1 = W3.heap.size by have := HD.out; omega) (show ¬ x0 = W3.heap.size by have := HD.out; omega)
    have hlc : (w1.setCell ⟨W3.heap.size, 0, none⟩ (.int .i64 0)).cell? ⟨w.heap.size + 1 + 1, 0, none⟩ = some (.slice p' (n - k) c') := (cell_of_heap hl2.row 0).trans rfl
    have HXX := Go.Lib.hid hxx; have HL2 := Go.Lib.hid hl2; have HK := Go.Lib.hid hk
    clear hxx hxh hl1 hl2 hk HPC HTO HCD hcell2 hfr2
    generalize w1.setCell ⟨W3.heap.size, 0, none⟩ (.int .i64 0) = WX at *
    generalize hnk : n - k = m at *
    have HNK := Go.Lib.hid hnk
    clear hnk
    go_wp2_with fail
    have c1 : Ch (fun q => q = r) WX (WX.setCell ⟨r, 0, none⟩ (.slice p' m c')) := Ch.setCell (S := fun q => q = r) (Ch.refl _ WX) (p := ⟨r, 0, none⟩) (fun _ => rfl) _
    have hrow1 : (WX.setCell ⟨r, 0, none⟩ (.slice p' m c')).heap[r]? = some (.cells #[.slice p' m c', .bool true, .bool false] 59) := (row_setM HRX.out 0 _).trans rfl
    have hx1 := c1.heap HXX.out (show ¬ w.heap.size + 1 = r by omega)
    have hb1 := HL2.out.bytes.but c1 HL2.out.blk (show ¬ x0 = r from HR.out.ne)
    generalize WX.setCell ⟨r, 0, none⟩ (.slice p' m c') = WY at *
    have hfin : (WY.setCell ⟨w.heap.size + 1, 0, none⟩ (.bool u)).cell? ⟨w.heap.size + 1, 0, none⟩ = some (.bool u) := (cell_of_heap (row_setM hx1 0 _) 0).trans rfl
    have c2 : Ch (fun q => q = w.heap.size + 1) WY (WY.setCell ⟨w.heap.size + 1, 0, none⟩ (.bool u)) := Ch.setCell (S := fun q => q = w.heap.size + 1) (Ch.refl _ WY) (p := ⟨w.heap.size + 1, 0, none⟩) (fun _ => rfl) _
    have hall : Ch (fun q => q = r) w (WY.setCell ⟨w.heap.size + 1, 0, none⟩ (.bool u)) := ((HCX.out.mono (fun _ _ e => e.elim)).trans c1).then c2 (fun i hi e => by omega)
    generalize WY.setCell ⟨w.heap.size + 1, 0, none⟩ (.bool u) = WF at *
    refine bodyPost_ret (v := .tuple #[.bool u, .int .i64 0]) (by simp [results, Try.results59, go_sem, hfin]) rfl ?_
    exact ⟨hall, rfl, HK.out, p', c', ⟨by rw [HNK.out]; exact c2.heap hrow1 (by omega), by rw [HNK.out]; exact hb1.but c2 HL2.out.blk (by omega), HR.out.ne, HL2.out.blk, Nat.lt_of_lt_of_le hold hall.size⟩⟩
set_option maxRecDepth 100000 in
theorem partbadB (r x0 : Nat) (p : Option Addr) (n c : Nat) (f : Nat → UInt8) (w : World) (hr : RdAt w r x0 p n c f true) :
    Calls Try.prog 59 #[.pointer (some ⟨r, 0, none⟩), .func (.func 60) #[] #[]] w fun e w' => e = .returned (.tuple #[.bool false, .int .i64 140]) ∧ Ch (fun _ => False) w w' := by
  have HR := Go.Lib.hid hr
  clear hr
  go_enter Try.func59, Try.ntmps59
  go_wp2_with fail
  refine (state_any _ (HR.out.ch (((Ch.refl (fun _ => False) w).alloc _).alloc _) id id)).mono ?_
  rintro e w' ⟨rfl, rfl⟩
  generalize hW3 : World.alloc (World.alloc w _) _ = W3
  have hB : W3.heap[w.heap.size + 1]? = some (.cells #[.bool false] 4) := by
    rw [← hW3, ← World.size_alloc w]
    exact World.alloc_heap_new _ _
  have hc3 : Ch (fun _ => False) w W3 := by rw [← hW3]; exact ((Ch.refl _ w).alloc _).alloc _
  clear hW3
  have hxc : W3.cell? ⟨w.heap.size + 1, 0, none⟩ = some (.bool false) := (cell_of_heap hB 0).trans rfl
  have hxf : W3.frozen? ⟨w.heap.size + 1, 0, none⟩ = false := frozen_of_heap hB 0
  have HB := Go.Lib.hid hB; have HC3 := Go.Lib.hid hc3
  clear hB hc3
  go_wp2_with fail
  have hfin : (W3.setCell ⟨w.heap.size + 1, 0, none⟩ (.bool false)).cell? ⟨w.heap.size + 1, 0, none⟩ = some (.bool false) := (cell_of_heap (row_setM HB.out 0 _) 0).trans rfl
  have hall : Ch (fun _ => False) w (W3.setCell ⟨w.heap.size + 1, 0, none⟩ (.bool false)) := Ch.setCell HC3.out (p := ⟨w.heap.size + 1, 0, none⟩) (fun h => by have h' : w.heap.size + 1 < w.heap.size := h; omega) _
  generalize W3.setCell ⟨w.heap.size + 1, 0, none⟩ (.bool false) = WF at *
  refine bodyPost_ret (v := .tuple #[.bool false, .int .i64 140]) (by simp [results, Try.results59, go_sem, hfin]) rfl ?_
  exact ⟨rfl, hall⟩
set_option maxRecDepth 100000 in
theorem pcE (tb l xb x0 : Nat) (n : Nat) (f : Nat → UInt8) (out : Out) (w : World) (htb : w.cell? ⟨tb, 0, none⟩ = some (.func (.func 66) #[] #[])) (hxr : w.heap[xb]? = some (.cells #[.bool false] 4)) (hne : xb ≠ l ∧ xb ≠ x0)
    (hxv : ∀ x k, out = .got x k → ∃ v, x = .bool v) (H : Calls Try.prog 66 #[.pointer (some ⟨l, 0, none⟩)] w (TakeTold out f n l x0 w)) :
    Calls Try.prog 84 #[.pointer (some ⟨tb, 0, none⟩), .pointer (some ⟨l, 0, none⟩), .pointer (some ⟨xb, 0, none⟩)] w (PcTold out f n l x0 xb (.bool false) 4 w) := by
  have HH := Go.Lib.hid H; have HX := Go.Lib.hid hxr; have HNE := Go.Lib.hid hne
  clear H hxr hne
  unfold TakeTold at HH
  unfold PcTold
  cases out with
  | lack =>
    clear hxv
    go_enter Try.func84, Try.ntmps84
    go_wp2_with fail
    refine HH.out.mono ?_
    rintro e w' ⟨hc, rfl⟩
    have HC := Go.Lib.hid hc
    clear hc
    go_wp2_with fail
    exact ⟨rfl, HC.out.mono (fun _ _ e => .inl e), rfl, HC.out.heap HX.out HNE.out.1⟩
  | wrong =>
    clear hxv
    go_enter Try.func84, Try.ntmps84
    go_wp2_with fail
    refine HH.out.mono ?_
    rintro e w' ⟨hc, rfl⟩
    have HC := Go.Lib.hid hc
    clear hc
    go_wp2_with fail
    exact ⟨rfl, HC.out.mono (fun _ _ e => .inl e), rfl, HC.out.heap HX.out HNE.out.1⟩
  | got x k =>
    obtain ⟨v, rfl⟩ := hxv x k rfl
    clear hxv
    go_enter Try.func84, Try.ntmps84
    go_wp2_with fail
    refine HH.out.mono ?_
    rintro e w1 ⟨hc, rfl, hk, p1, c1, h1⟩
    have hx1 := hc.heap HX.out HNE.out.1
    have hcl : w1.cell? ⟨xb, 0, none⟩ = some (.bool false) := (cell_of_heap hx1 0).trans rfl
    have hfz : w1.frozen? ⟨xb, 0, none⟩ = false := frozen_of_heap hx1 0
    have HX2 := Go.Lib.hid (show (w1.setCell ⟨xb, 0, none⟩ (.bool v)).heap[xb]? = some (.cells #[.bool v] 4) from (row_setM hx1 0 _).trans rfl)
    have hs : Ch (fun q => q = xb) w1 (w1.setCell ⟨xb, 0, none⟩ (.bool v)) := Ch.setCell (S := fun q => q = xb) (Ch.refl _ w1) (p := ⟨xb, 0, none⟩) (fun _ => rfl) _
    have HC := Go.Lib.hid ((hc.mono (T := fun q => q = l ∨ q = xb) (fun _ _ e => .inl e)).trans (hs.mono (fun _ _ e => .inr e)))
    have HL := Go.Lib.hid (h1.ch hs (show ¬ l = xb from fun e => HNE.out.1 e.symm) (show ¬ x0 = xb from fun e => HNE.out.2 e.symm))
    have HK := Go.Lib.hid hk
    clear hc hx1 hs h1 hk
    go_wp2_with fail
    first | go_end0 | refine bodyPost_ret (results_none rfl _ _ _) rfl ?_
    exact ⟨HC.out, rfl, HK.out, ⟨p1, c1, HL.out⟩, HX2.out⟩
set_option maxRecDepth 100000 in
set_option maxHeartbeats 1000000 in
theorem partE (r x0 : Nat) (p : Option Addr) (n c : Nat) (f : Nat → UInt8) (out : Out) (w : World) (hr : RdAt w r x0 p n c f false) (hxv : ∀ x k, out = .got x k → ∃ v, x = .bool v)
    (H : ∀ W l, Ch (fun _ => False) w W → LeftAt W l x0 p n c f → Calls Try.prog 66 #[.pointer (some ⟨l, 0, none⟩)] W (TakeTold out f n l x0 W)) :
    Calls Try.prog 59 #[.pointer (some ⟨r, 0, none⟩), .func (.func 66) #[] #[]] w (PartTold out f p n c r x0 (.bool false) w) := by
  have HR := Go.Lib.hid hr; have HH := Go.Lib.hid H; have HXV := Go.Lib.hid hxv
  have HRL := Go.Lib.hid (row_lt hr.row)
  clear hr H hxv
  go_enter Try.func59, Try.ntmps59
  go_wp2_with fail
  refine (state_any _ (HR.out.ch (((Ch.refl (fun _ => False) w).alloc _).alloc _) id id)).mono ?_
  rintro e w' ⟨rfl, rfl⟩
  have hr0 : ((w.alloc (.cells #[.func (.func 66) #[] #[]] 118)).alloc (.cells #[.bool false] 4)).cell? ⟨r, 0, none⟩ = some (.slice p n c) := ((((Ch.refl (fun _ => False) w).alloc _).alloc _).get ((cell_of_heap HR.out.row 0).trans rfl) id)
  go_wp2_with fail
  clear hr0
  generalize hW3 : World.alloc (World.alloc (World.alloc w _) _) _ = W3
  have hA : W3.heap[w.heap.size]? = some (.cells #[.func (.func 66) #[] #[]] 118) := by
    rw [← hW3]
    exact (((Ch.refl (fun _ => False) (w.alloc _)).alloc _).alloc _).heap (World.alloc_heap_new w _) id
  have hB : W3.heap[w.heap.size + 1]? = some (.cells #[.bool false] 4) := by
    rw [← hW3, ← World.size_alloc w (.cells #[.func (.func 66) #[] #[]] 118)]
    exact ((Ch.refl (fun _ => False) _).alloc _).heap (World.alloc_heap_new _ _) id
  have hC : W3.heap[w.heap.size + 1 + 1]? = some (.cells #[.slice p n c] 57) := by
    rw [← hW3, ← World.size_alloc w (.cells #[.func (.func 66) #[] #[]] 118), ← World.size_alloc (w.alloc _) (.cells #[.bool false] 4)]
    exact World.alloc_heap_new _ _
  have hc3 : Ch (fun _ => False) w W3 := by rw [← hW3]; exact (((Ch.refl _ w).alloc _).alloc _).alloc _
  have hs3 : w.heap.size + 3 = W3.heap.size := by rw [← hW3]; simp
  clear hW3
  have hrl := HRL.out; have hold := HR.out.old
  have hca : Ch (fun _ => False) W3 (W3.alloc (.cells #[.int .i64 0] 127)) := (Ch.refl _ W3).alloc _
  have hcw := hc3.trans hca
  have HT := Go.Lib.hid (tried84 _ _ _ W3 _ (pcE w.heap.size (w.heap.size + 1 + 1) (w.heap.size + 1) x0 n f out (W3.alloc (.cells #[.int .i64 0] 127)) (hca.get ((cell_of_heap hA 0).trans rfl) id) (hca.heap hB id) (by omega) HXV.out
    (HH.out (W3.alloc (.cells #[.int .i64 0] 127)) (w.heap.size + 1 + 1) hcw ⟨hca.heap hC id, HR.out.bytes.but hcw HR.out.blk id, by omega, HR.out.blk⟩))
    (fun e w' hpc => by
      refine ⟨?_, hpc.1.heap (World.alloc_heap_new W3 _) (by omega)⟩
      have h := hpc.2
      cases out with
      | lack => exact .inr (.inl h.1)
      | wrong => exact .inr (.inr h.1)
      | got x k => exact .inl h.1))
  have HC3 := Go.Lib.hid hc3
  have HD := Go.Lib.hid hs3
  clear hA hB hC hca hcw
  refine HT.out.mono ?_
  rintro e w' ⟨e1, w1, v, hpc, htold, rfl, rfl⟩
  have hcD : Ch (fun q => q = W3.heap.size) w1 (w1.setCell ⟨W3.heap.size, 0, none⟩ (.int .i64 v)) := Ch.setCell (S := fun q => q = W3.heap.size) (Ch.refl _ w1) (p := ⟨W3.heap.size, 0, none⟩) (fun _ => rfl) _
  have hcx : Ch (fun _ => False) w (w1.setCell ⟨W3.heap.size, 0, none⟩ (.int .i64 v)) := ((hc3.alloc _).then hpc.1 (fun i hi e => by omega)).then hcD (fun i hi e => by omega)
  have HCX := Go.Lib.hid hcx; have HCD := Go.Lib.hid hcD
  have hrx := hcx.heap HR.out.row id
  have HRX := Go.Lib.hid hrx
  have hcell0 : (w1.setCell ⟨W3.heap.size, 0, none⟩ (.int .i64 v)).cell? ⟨r, 0, none⟩ = some (.slice p n c) := (cell_of_heap hrx 0).trans rfl
  have hcell2 : (w1.setCell ⟨W3.heap.size, 0, none⟩ (.int .i64 v)).cell? ⟨r, 2, none⟩ = some (.bool false) := (cell_of_heap hrx 2).trans rfl
  have hfr0 : (w1.setCell ⟨W3.heap.size, 0, none⟩ (.int .i64 v)).frozen? ⟨r, 0, none⟩ = false := frozen_of_heap hrx 0
  have hfr2 : (w1.setCell ⟨W3.heap.size, 0, none⟩ (.int .i64 v)).frozen? ⟨r, 2, none⟩ = false := frozen_of_heap hrx 2
  have HPC := Go.Lib.hid hpc; have HTO := Go.Lib.hid htold
  clear hpc htold hcD hcx hrx HT hc3 hs3
  unfold PartTold
  unfold PcTold at HPC
  cases out with
  | lack =>
    obtain rfl : v = 1 := by
      obtain ⟨_, h, _⟩ := HPC.out
      rcases HTO.out with ⟨h1, h2⟩ | ⟨h1, h2⟩ | ⟨h1, h2⟩
      all_goals first | exact h2 | (rw [h] at h1; cases h1)
    have hxx : (w1.setCell ⟨W3.heap.size, 0, none⟩ (.int .i64 1)).heap[w.heap.size + 1]? = some (.cells #[.bool false] 4) := HCD.out.heap HPC.out.2.2 (by have := HD.out; omega)
    have hxc : (w1.setCell ⟨W3.heap.size, 0, none⟩ (.int .i64 1)).cell? ⟨w.heap.size + 1, 0, none⟩ = some (.bool false) := (cell_of_heap hxx 0).trans rfl
    have hxf : (w1.setCell ⟨W3.heap.size, 0, none⟩ (.int .i64 1)).frozen? ⟨w.heap.size + 1, 0, none⟩ = false := frozen_of_heap hxx 0
    have HXX := Go.Lib.hid hxx
    clear hxx HPC HTO HCD
    generalize w1.setCell ⟨W3.heap.size, 0, none⟩ (.int .i64 1) = WX at *
    go_wp2_with fail
    have c1 : Ch (fun q => q = r) WX (WX.setCell ⟨r, 2, none⟩ (.bool true)) := Ch.setCell (S := fun q => q = r) (Ch.refl _ WX) (p := ⟨r, 2, none⟩) (fun _ => rfl) _
    have hrow1 : (WX.setCell ⟨r, 2, none⟩ (.bool true)).heap[r]? = some (.cells #[.slice p n c, .bool true, .bool true] 59) := (row_setM HRX.out 2 _).trans rfl
    have hx1 := c1.heap HXX.out (show ¬ w.heap.size + 1 = r by omega)
    generalize WX.setCell ⟨r, 2, none⟩ (.bool true) = WY at *
    have hfin : (WY.setCell ⟨w.heap.size + 1, 0, none⟩ (.bool false)).cell? ⟨w.heap.size + 1, 0, none⟩ = some (.bool false) := (cell_of_heap (row_setM hx1 0 _) 0).trans rfl
    have c2 : Ch (fun q => q = w.heap.size + 1) WY (WY.setCell ⟨w.heap.size + 1, 0, none⟩ (.bool false)) := Ch.setCell (S := fun q => q = w.heap.size + 1) (Ch.refl _ WY) (p := ⟨w.heap.size + 1, 0, none⟩) (fun _ => rfl) _
    have hall : Ch (fun q => q = r) w (WY.setCell ⟨w.heap.size + 1, 0, none⟩ (.bool false)) := ((HCX.out.mono (fun _ _ e => e.elim)).trans c1).then c2 (fun i hi e => by omega)
    generalize WY.setCell ⟨w.heap.size + 1, 0, none⟩ (.bool false) = WF at *
    refine bodyPost_ret (v := .tuple #[.bool false, .int .i64 140]) (by simp [results, Try.results59, go_sem, hfin]) rfl ?_
    exact ⟨hall, rfl, ⟨c2.heap hrow1 (by omega), HR.out.bytes.but hall HR.out.blk HR.out.ne, HR.out.ne, HR.out.blk, Nat.lt_of_lt_of_le hold hall.size⟩⟩
  | wrong =>
    obtain rfl : v = 2 := by
      obtain ⟨_, h, _⟩ := HPC.out
      rcases HTO.out with ⟨h1, h2⟩ | ⟨h1, h2⟩ | ⟨h1, h2⟩
      all_goals first | exact h2 | (rw [h] at h1; cases h1)
    have hxx : (w1.setCell ⟨W3.heap.size, 0, none⟩ (.int .i64 2)).heap[w.heap.size + 1]? = some (.cells #[.bool false] 4) := HCD.out.heap HPC.out.2.2 (by have := HD.out; omega)
    have hxc : (w1.setCell ⟨W3.heap.size, 0, none⟩ (.int .i64 2)).cell? ⟨w.heap.size + 1, 0, none⟩ = some (.bool false) := (cell_of_heap hxx 0).trans rfl
    have hxf : (w1.setCell ⟨W3.heap.size, 0, none⟩ (.int .i64 2)).frozen? ⟨w.heap.size + 1, 0, none⟩ = false := frozen_of_heap hxx 0
    have HXX := Go.Lib.hid hxx
    clear hxx HPC HTO HCD
    generalize w1.setCell ⟨W3.heap.size, 0, none⟩ (.int .i64 2) = WX at *
    go_wp2_with fail
    have c1 : Ch (fun q => q = r) WX (WX.setCell ⟨r, 2, none⟩ (.bool true)) := Ch.setCell (S := fun q => q = r) (Ch.refl _ WX) (p := ⟨r, 2, none⟩) (fun _ => rfl) _
    have hrow1 : (WX.setCell ⟨r, 2, none⟩ (.bool true)).heap[r]? = some (.cells #[.slice p n c, .bool true, .bool true] 59) := (row_setM HRX.out 2 _).trans rfl
    have hx1 := c1.heap HXX.out (show ¬ w.heap.size + 1 = r by omega)
    generalize WX.setCell ⟨r, 2, none⟩ (.bool true) = WY at *
    have hfin : (WY.setCell ⟨w.heap.size + 1, 0, none⟩ (.bool false)).cell? ⟨w.heap.size + 1, 0, none⟩ = some (.bool false) := (cell_of_heap (row_setM hx1 0 _) 0).trans rfl
    have c2 : Ch (fun q => q = w.heap.size + 1) WY (WY.setCell ⟨w.heap.size + 1, 0, none⟩ (.bool false)) := Ch.setCell (S := fun q => q = w.heap.size + 1) (Ch.refl _ WY) (p := ⟨w.heap.size + 1, 0, none⟩) (fun _ => rfl) _
    have hall : Ch (fun q => q = r) w (WY.setCell ⟨w.heap.size + 1, 0, none⟩ (.bool false)) := ((HCX.out.mono (fun _ _ e => e.elim)).trans c1).then c2 (fun i hi e => by omega)
    generalize WY.setCell ⟨w.heap.size + 1, 0, none⟩ (.bool false) = WF at *
    refine bodyPost_ret (v := .tuple #[.bool false, .int .i64 140]) (by simp [results, Try.results59, go_sem, hfin]) rfl ?_
    exact ⟨hall, rfl, ⟨c2.heap hrow1 (by omega), HR.out.bytes.but hall HR.out.blk HR.out.ne, HR.out.ne, HR.out.blk, Nat.lt_of_lt_of_le hold hall.size⟩⟩
  | got x k =>
    obtain ⟨u, rfl⟩ := HXV.out x k rfl
    obtain rfl : v = 0 := by
      obtain ⟨_, h, _⟩ := HPC.out
      rcases HTO.out with ⟨h1, h2⟩ | ⟨h1, h2⟩ | ⟨h1, h2⟩
      all_goals first | exact h2 | (rw [h] at h1; cases h1)
    obtain ⟨_, _, hk, ⟨p', c', hl1⟩, hxh⟩ := HPC.out
    have hxx : (w1.setCell ⟨W3.heap.size, 0, none⟩ (.int .i64 0)).heap[w.heap.size + 1]? = some (.cells #[.bool u] 4) := HCD.out.heap hxh (by have := HD.out; omega)
    have hxc : (w1.setCell ⟨W3.heap.size, 0, none⟩ (.int .i64 0)).cell? ⟨w.heap.size + 1, 0, none⟩ = some (.bool u) := (cell_of_heap hxx 0).trans rfl
    have hxf : (w1.setCell ⟨W3.heap.size, 0, none⟩ (.int .i64 0)).frozen? ⟨w.heap.size + 1, 0, none⟩ = false := frozen_of_heap hxx 0
    have hl2 := hl1.ch HCD.out (show ¬ w.heap.size + 1 + 1 = W3.heap.size by have := HD.out; omega) (show ¬ x0 = W3.heap.size by have := HD.out; omega)
    have hlc : (w1.setCell ⟨W3.heap.size, 0, none⟩ (.int .i64 0)).cell? ⟨w.heap.size + 1 + 1, 0, none⟩ = some (.slice p' (n - k) c') := (cell_of_heap hl2.row 0).trans rfl
    have HXX := Go.Lib.hid hxx; have HL2 := Go.Lib.hid hl2; have HK := Go.Lib.hid hk
    clear hxx hxh hl1 hl2 hk HPC HTO HCD hcell2 hfr2
    generalize w1.setCell ⟨W3.heap.size, 0, none⟩ (.int .i64 0) = WX at *
    generalize hnk : n - k = m at *
    have HNK := Go.Lib.hid hnk
    clear hnk
    go_wp2_with fail
    have c1 : Ch (fun q => q = r) WX (WX.setCell ⟨r, 0, none⟩ (.slice p' m c')) := Ch.setCell (S := fun q => q = r) (Ch.refl _ WX) (p := ⟨r, 0, none⟩) (fun _ => rfl) _
    have hrow1 : (WX.setCell ⟨r, 0, none⟩ (.slice p' m c')).heap[r]? = some (.cells #[.slice p' m c', .bool true, .bool false] 59) := (row_setM HRX.out 0 _).trans rfl
    have hx1 := c1.heap HXX.out (show ¬ w.heap.size + 1 = r by omega)
    have hb1 := HL2.out.bytes.but c1 HL2.out.blk (show ¬ x0 = r from HR.out.ne)
    generalize WX.setCell ⟨r, 0, none⟩ (.slice p' m c') = WY at *
    have hfin : (WY.setCell ⟨w.heap.size + 1, 0, none⟩ (.bool u)).cell? ⟨w.heap.size + 1, 0, none⟩ = some (.bool u) := (cell_of_heap (row_setM hx1 0 _) 0).trans rfl
    have c2 : Ch (fun q => q = w.heap.size + 1) WY (WY.setCell ⟨w.heap.size + 1, 0, none⟩ (.bool u)) := Ch.setCell (S := fun q => q = w.heap.size + 1) (Ch.refl _ WY) (p := ⟨w.heap.size + 1, 0, none⟩) (fun _ => rfl) _
    have hall : Ch (fun q => q = r) w (WY.setCell ⟨w.heap.size + 1, 0, none⟩ (.bool u)) := ((HCX.out.mono (fun _ _ e => e.elim)).trans c1).then c2 (fun i hi e => by omega)
    generalize WY.setCell ⟨w.heap.size + 1, 0, none⟩ (.bool u) = WF at *
    refine bodyPost_ret (v := .tuple #[.bool u, .int .i64 0]) (by simp [results, Try.results59, go_sem, hfin]) rfl ?_
    exact ⟨hall, rfl, HK.out, p', c', ⟨by rw [HNK.out]; exact c2.heap hrow1 (by omega), by rw [HNK.out]; exact hb1.but c2 HL2.out.blk (by omega), HR.out.ne, HL2.out.blk, Nat.lt_of_lt_of_le hold hall.size⟩⟩
set_option maxRecDepth 100000 in
theorem partbadE (r x0 : Nat) (p : Option Addr) (n c : Nat) (f : Nat → UInt8) (w : World) (hr : RdAt w r x0 p n c f true) :
    Calls Try.prog 59 #[.pointer (some ⟨r, 0, none⟩), .func (.func 66) #[] #[]] w fun e w' => e = .returned (.tuple #[.bool false, .int .i64 140]) ∧ Ch (fun _ => False) w w' := by
  have HR := Go.Lib.hid hr
  clear hr
  go_enter Try.func59, Try.ntmps59
  go_wp2_with fail
  refine (state_any _ (HR.out.ch (((Ch.refl (fun _ => False) w).alloc _).alloc _) id id)).mono ?_
  rintro e w' ⟨rfl, rfl⟩
  generalize hW3 : World.alloc (World.alloc w _) _ = W3
  have hB : W3.heap[w.heap.size + 1]? = some (.cells #[.bool false] 4) := by
    rw [← hW3, ← World.size_alloc w]
    exact World.alloc_heap_new _ _
  have hc3 : Ch (fun _ => False) w W3 := by rw [← hW3]; exact ((Ch.refl _ w).alloc _).alloc _
  clear hW3
  have hxc : W3.cell? ⟨w.heap.size + 1, 0, none⟩ = some (.bool false) := (cell_of_heap hB 0).trans rfl
  have hxf : W3.frozen? ⟨w.heap.size + 1, 0, none⟩ = false := frozen_of_heap hB 0
  have HB := Go.Lib.hid hB; have HC3 := Go.Lib.hid hc3
  clear hB hc3
  go_wp2_with fail
  have hfin : (W3.setCell ⟨w.heap.size + 1, 0, none⟩ (.bool false)).cell? ⟨w.heap.size + 1, 0, none⟩ = some (.bool false) := (cell_of_heap (row_setM HB.out 0 _) 0).trans rfl
  have hall : Ch (fun _ => False) w (W3.setCell ⟨w.heap.size + 1, 0, none⟩ (.bool false)) := Ch.setCell HC3.out (p := ⟨w.heap.size + 1, 0, none⟩) (fun h => by have h' : w.heap.size + 1 < w.heap.size := h; omega) _
  generalize W3.setCell ⟨w.heap.size + 1, 0, none⟩ (.bool false) = WF at *
  refine bodyPost_ret (v := .tuple #[.bool false, .int .i64 140]) (by simp [results, Try.results59, go_sem, hfin]) rfl ?_
  exact ⟨rfl, hall⟩
set_option maxRecDepth 100000 in
theorem rTruth_ok (r x0 : Nat) (p : Option Addr) (n c : Nat) (f : Nat → UInt8) (w : World) (hr : RdAt w r x0 p n c f false) :
    Calls Try.prog 23 #[.pointer (some ⟨r, 0, none⟩)] w (PartTold (outB f n) f p n c r x0 (.bool false) w) := by
  have HP := Go.Lib.hid (partB r x0 p n c f (outB f n) w hr outB_form (fun W l hc hl => truth_any l x0 p n c f W hl))
  clear hr
  unfold PartTold at HP ⊢
  cases ho : outB f n with
  | lack =>
    rw [ho] at HP
    clear ho
    go_enter Try.func23, Try.ntmps23
    go_wp2_with (go_at_call 59; refine HP.out.mono ?_; rintro e w' ⟨h1, rfl, h2⟩; have H1 := Go.Lib.hid (And.intro h1 h2); clear h1 h2)
    refine bodyPost_ret (v := .tuple #[.bool false, .int .i64 140]) (by simp [results, Try.results23, go_sem]) rfl ⟨H1.out.1, rfl, H1.out.2⟩
  | wrong =>
    rw [ho] at HP
    clear ho
    go_enter Try.func23, Try.ntmps23
    go_wp2_with (go_at_call 59; refine HP.out.mono ?_; rintro e w' ⟨h1, rfl, h2⟩; have H1 := Go.Lib.hid (And.intro h1 h2); clear h1 h2)
    refine bodyPost_ret (v := .tuple #[.bool false, .int .i64 140]) (by simp [results, Try.results23, go_sem]) rfl ⟨H1.out.1, rfl, H1.out.2⟩
  | got x k =>
    rw [ho] at HP
    clear ho
    go_enter Try.func23, Try.ntmps23
    go_wp2_with (go_at_call 59; refine HP.out.mono ?_; rintro e w' ⟨h1, rfl, h2⟩; have H1 := Go.Lib.hid (And.intro h1 h2); clear h1 h2)
    refine bodyPost_ret (v := .tuple #[x, .int .i64 0]) (by simp [results, Try.results23, go_sem]) rfl ⟨H1.out.1, rfl, H1.out.2⟩
set_option maxRecDepth 100000 in
theorem rTruth_bad (r x0 : Nat) (p : Option Addr) (n c : Nat) (f : Nat → UInt8) (w : World) (hr : RdAt w r x0 p n c f true) :
    Calls Try.prog 23 #[.pointer (some ⟨r, 0, none⟩)] w fun e w' => e = .returned (.tuple #[.bool false, .int .i64 140]) ∧ Ch (fun _ => False) w w' := by
  have HP := Go.Lib.hid (partbadB r x0 p n c f w hr)
  clear hr
  go_enter Try.func23, Try.ntmps23
  go_wp2_with (go_at_call 59; refine HP.out.mono ?_; rintro e w' ⟨rfl, h2⟩; have H2 := Go.Lib.hid h2; clear h2)
  refine bodyPost_ret (v := .tuple #[.bool false, .int .i64 140]) (by simp [results, Try.results23, go_sem]) rfl ⟨rfl, H2.out⟩
set_option maxRecDepth 100000 in
theorem rEnd_ok (r x0 : Nat) (p : Option Addr) (n c : Nat) (f : Nat → UInt8) (w : World) (hr : RdAt w r x0 p n c f false) :
    Calls Try.prog 26 #[.pointer (some ⟨r, 0, none⟩)] w fun e w' => Ch (fun q => q = r) w w' ∧ match outE n with | .got x k => e = .returned (.int .i64 0) ∧ k ≤ n ∧ ∃ p' c', RdAt w' r x0 p' (n - k) c' (fun j => f (k + j)) false | _ => e = .returned (.int .i64 140) ∧ RdAt w' r x0 p n c f true := by
  have HP := Go.Lib.hid (partE r x0 p n c f (outE n) w hr outE_form (fun W l hc hl => ended_any l x0 p n c f W hl))
  clear hr
  unfold PartTold at HP 
  cases ho : outE n with
  | lack =>
    rw [ho] at HP
    clear ho
    go_enter Try.func26, Try.ntmps26
    go_wp2_with (go_at_call 59; refine HP.out.mono ?_; rintro e w' ⟨h1, rfl, h2⟩; have H1 := Go.Lib.hid (And.intro h1 h2); clear h1 h2)
    go_ret
    exact ⟨H1.out.1, rfl, H1.out.2⟩
  | wrong =>
    rw [ho] at HP
    clear ho
    go_enter Try.func26, Try.ntmps26
    go_wp2_with (go_at_call 59; refine HP.out.mono ?_; rintro e w' ⟨h1, rfl, h2⟩; have H1 := Go.Lib.hid (And.intro h1 h2); clear h1 h2)
    go_ret
    exact ⟨H1.out.1, rfl, H1.out.2⟩
  | got x k =>
    rw [ho] at HP
    clear ho
    go_enter Try.func26, Try.ntmps26
    go_wp2_with (go_at_call 59; refine HP.out.mono ?_; rintro e w' ⟨h1, rfl, h2⟩; have H1 := Go.Lib.hid (And.intro h1 h2); clear h1 h2)
    go_ret
    exact ⟨H1.out.1, rfl, H1.out.2⟩
set_option maxRecDepth 100000 in
theorem rEnd_bad (r x0 : Nat) (p : Option Addr) (n c : Nat) (f : Nat → UInt8) (w : World) (hr : RdAt w r x0 p n c f true) :
    Calls Try.prog 26 #[.pointer (some ⟨r, 0, none⟩)] w fun e w' => e = .returned (.int .i64 140) ∧ Ch (fun _ => False) w w' := by
  have HP := Go.Lib.hid (partbadE r x0 p n c f w hr)
  clear hr
  go_enter Try.func26, Try.ntmps26
  go_wp2_with (go_at_call 59; refine HP.out.mono ?_; rintro e w' ⟨rfl, h2⟩; have H2 := Go.Lib.hid h2; clear h2)
  go_ret
  exact ⟨rfl, H2.out⟩
end Go.Proofs.Ytljllfdigfojdaa
