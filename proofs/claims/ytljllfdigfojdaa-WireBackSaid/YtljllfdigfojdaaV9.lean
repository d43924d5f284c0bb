/- A part of a reader. -/
import Derived.Test.YtljllfdigfojdaaV8
namespace Go.Proofs.Ytljllfdigfojdaa
open Go Go.RowKit
set_option maxRecDepth 100000 in
set_option maxHeartbeats 1000000 in
theorem part64 (r mb x0 : Nat) (p : Option Addr) (n c : Nat) (f : Nat → UInt8) (out : Out) (w : World) (hr : RdAt w r x0 p n c f false) (hxv : ∀ x k, out = .got x k → ∃ v, x = .int .i64 v)
    (H : ∀ W l, Ch (fun _ => False) w W → LeftAt W l x0 p n c f → Calls Try.prog 57 #[.pointer (some ⟨l, 0, none⟩), .pointer (some ⟨mb, 0, none⟩)] W (TakeTold out f n l x0 W)) :
    Calls Try.prog 56 #[.pointer (some ⟨r, 0, none⟩), .func (.func 57) #[] #[.pointer (some ⟨mb, 0, none⟩)]] w (PartTold out f p n c r x0 (.int .i64 0) w) := by
  have HR := Go.Lib.hid hr; have HH := Go.Lib.hid H; have HXV := Go.Lib.hid hxv
  have HRL := Go.Lib.hid (row_lt hr.row)
  clear hr H hxv
  go_enter Try.func56, Try.ntmps56
  go_wp2_with fail
  refine (state_any _ (HR.out.ch (((Ch.refl (fun _ => False) w).alloc _).alloc _) id id)).mono ?_
  rintro e w' ⟨rfl, rfl⟩
  have hr0 : ((w.alloc (.cells #[.func (.func 57) #[] #[.pointer (some ⟨mb, 0, none⟩)]] 116)).alloc (.cells #[.int .i64 0] 2)).cell? ⟨r, 0, none⟩ = some (.slice p n c) := ((((Ch.refl (fun _ => False) w).alloc _).alloc _).get ((cell_of_heap HR.out.row 0).trans rfl) id)
  go_wp2_with fail
  clear hr0
  generalize hW3 : World.alloc (World.alloc (World.alloc w _) _) _ = W3
  have hA : W3.heap[w.heap.size]? = some (.cells #[.func (.func 57) #[] #[.pointer (some ⟨mb, 0, none⟩)]] 116) := by
    rw [← hW3]
    exact (((Ch.refl (fun _ => False) (w.alloc _)).alloc _).alloc _).heap (World.alloc_heap_new w _) id
  have hB : W3.heap[w.heap.size + 1]? = some (.cells #[.int .i64 0] 2) := by
    rw [← hW3, ← World.size_alloc w (.cells #[.func (.func 57) #[] #[.pointer (some ⟨mb, 0, none⟩)]] 116)]
    exact ((Ch.refl (fun _ => False) _).alloc _).heap (World.alloc_heap_new _ _) id
  have hC : W3.heap[w.heap.size + 1 + 1]? = some (.cells #[.slice p n c] 57) := by
    rw [← hW3, ← World.size_alloc w (.cells #[.func (.func 57) #[] #[.pointer (some ⟨mb, 0, none⟩)]] 116), ← World.size_alloc (w.alloc _) (.cells #[.int .i64 0] 2)]
    exact World.alloc_heap_new _ _
  have hc3 : Ch (fun _ => False) w W3 := by rw [← hW3]; exact (((Ch.refl _ w).alloc _).alloc _).alloc _
  have hs3 : w.heap.size + 3 = W3.heap.size := by rw [← hW3]; simp
  clear hW3
  have hrl := HRL.out; have hold := HR.out.old
  have hca : Ch (fun _ => False) W3 (W3.alloc (.cells #[.int .i64 0] 127)) := (Ch.refl _ W3).alloc _
  have hcw := hc3.trans hca
  have HT := Go.Lib.hid (tried82 _ _ _ W3 _ (pc64 w.heap.size (w.heap.size + 1 + 1) (w.heap.size + 1) mb x0 n f out (W3.alloc (.cells #[.int .i64 0] 127)) (hca.get ((cell_of_heap hA 0).trans rfl) id) (hca.heap hB id) (by omega) HXV.out
    (HH.out (W3.alloc (.cells #[.int .i64 0] 127)) (w.heap.size + 1 + 1) hcw ⟨hca.heap hC id, HR.out.bytes.but hcw HR.out.blk id, by omega, HR.out.blk⟩))
    (fun e w' hpc => by
      refine ⟨?_, hpc.1.heap (World.alloc_heap_new W3 _) (by omega)⟩
      have h := hpc.2
      cases out with
      | lack => exact .inr (.inl h.1)
      | wrong => exact .inr (.inr h.1)
      | got x k => exact .inl h.1))
  have HC3 := Go.Lib.hid hc3
  have HD := Go.Lib.hid hs3
  clear hA hB hC hca hcw
  refine HT.out.mono ?_
  rintro e w' ⟨e1, w1, v, hpc, htold, rfl, rfl⟩
  have hcD : Ch (fun q => q = W3.heap.size) w1 (w1.setCell ⟨W3.heap.size, 0, none⟩ (.int .i64 v)) := Ch.setCell (S := fun q => q = W3.heap.size) (Ch.refl _ w1) (p := ⟨W3.heap.size, 0, none⟩) (fun _ => rfl) _
  have hcx : Ch (fun _ => False) w (w1.setCell ⟨W3.heap.size, 0, none⟩ (.int .i64 v)) := ((hc3.alloc _).then hpc.1 (fun i hi e => by omega)).then hcD (fun i hi e => by omega)
  have HCX := Go.Lib.hid hcx; have HCD := Go.Lib.hid hcD
  have hrx := hcx.heap HR.out.row id
  have HRX := Go.Lib.hid hrx
  have hcell0 : (w1.setCell ⟨W3.heap.size, 0, none⟩ (.int .i64 v)).cell? ⟨r, 0, none⟩ = some (.slice p n c) := (cell_of_heap hrx 0).trans rfl
  have hcell2 : (w1.setCell ⟨W3.heap.size, 0, none⟩ (.int .i64 v)).cell? ⟨r, 2, none⟩ = some (.bool false) := (cell_of_heap hrx 2).trans rfl
  have hfr0 : (w1.setCell ⟨W3.heap.size, 0, none⟩ (.int .i64 v)).frozen? ⟨r, 0, none⟩ = false := frozen_of_heap hrx 0
  have hfr2 : (w1.setCell ⟨W3.heap.size, 0, none⟩ (.int .i64 v)).frozen? ⟨r, 2, none⟩ = false := frozen_of_heap hrx 2
  have HPC := Go.Lib.hid hpc; have HTO := Go.Lib.hid htold
  clear hpc htold hcD hcx hrx HT hc3 hs3
  unfold PartTold
  unfold PcTold at HPC
  cases out with
  | lack =>
    obtain rfl : v = 1 := by
      obtain ⟨_, h, _⟩ := HPC.out
      rcases HTO.out with ⟨h1, h2⟩ | ⟨h1, h2⟩ | ⟨h1, h2⟩
      all_goals first | exact h2 | (rw [h] at h1; cases h1)
    have hxx : (w1.setCell ⟨W3.heap.size, 0, none⟩ (.int .i64 1)).heap[w.heap.size + 1]? = some (.cells #[.int .i64 0] 2) := HCD.out.heap HPC.out.2.2 (by have := HD.out; omega)
    have hxc : (w1.setCell ⟨W3.heap.size, 0, none⟩ (.int .i64 1)).cell? ⟨w.heap.size + 1, 0, none⟩ = some (.int .i64 0) := (cell_of_heap hxx 0).trans rfl
    have hxf : (w1.setCell ⟨W3.heap.size, 0, none⟩ (.int .i64 1)).frozen? ⟨w.heap.size + 1, 0, none⟩ = false := frozen_of_heap hxx 0
    have HXX := Go.Lib.hid hxx
    clear hxx HPC HTO HCD
    generalize w1.setCell ⟨W3.heap.size, 0, none⟩ (.int .i64 1) = WX at *
    go_wp2_with fail
    have c1 : Ch (fun q => q = r) WX (WX.setCell ⟨r, 2, none⟩ (.bool true)) := Ch.setCell (S := fun q => q = r) (Ch.refl _ WX) (p := ⟨r, 2, none⟩) (fun _ => rfl) _
    have hrow1 : (WX.setCell ⟨r, 2, none⟩ (.bool true)).heap[r]? = some (.cells #[.slice p n c, .bool true, .bool true] 59) := (row_setM HRX.out 2 _).trans rfl
    have hx1 := c1.heap HXX.out (show ¬ w.heap.size + 1 = r by omega)
    generalize WX.setCell ⟨r, 2, none⟩ (.bool true) = WY at *
    have hfin : (WY.setCell ⟨w.heap.size + 1, 0, none⟩ (.int .i64 0)).cell? ⟨w.heap.size + 1, 0, none⟩ = some (.int .i64 0) := (cell_of_heap (row_setM hx1 0 _) 0).trans rfl
    have c2 : Ch (fun q => q = w.heap.size + 1) WY (WY.setCell ⟨w.heap.size + 1, 0, none⟩ (.int .i64 0)) := Ch.setCell (S := fun q => q = w.heap.size + 1) (Ch.refl _ WY) (p := ⟨w.heap.size + 1, 0, none⟩) (fun _ => rfl) _
    have hall : Ch (fun q => q = r) w (WY.setCell ⟨w.heap.size + 1, 0, none⟩ (.int .i64 0)) := ((HCX.out.mono (fun _ _ e => e.elim)).trans c1).then c2 (fun i hi e => by omega)
    generalize WY.setCell ⟨w.heap.size + 1, 0, none⟩ (.int .i64 0) = WF at *
    refine bodyPost_ret (v := .tuple #[.int .i64 0, .int .i64 140]) (by simp [results, Try.results56, go_sem, hfin]) rfl ?_
    exact ⟨hall, rfl, ⟨c2.heap hrow1 (by omega), HR.out.bytes.but hall HR.out.blk HR.out.ne, HR.out.ne, HR.out.blk, Nat.lt_of_lt_of_le hold hall.size⟩⟩
  | wrong =>
    obtain rfl : v = 2 := by
      obtain ⟨_, h, _⟩ := HPC.out
      rcases HTO.out with ⟨h1, h2⟩ | ⟨h1, h2⟩ | ⟨h1, h2⟩
      all_goals first | exact h2 | (rw [h] at h1; cases h1)
    have hxx : (w1.setCell ⟨W3.heap.size, 0, none⟩ (.int .i64 2)).heap[w.heap.size + 1]? = some (.cells #[.int .i64 0] 2) := HCD.out.heap HPC.out.2.2 (by have := HD.out; omega)
    have hxc : (w1.setCell ⟨W3.heap.size, 0, none⟩ (.int .i64 2)).cell? ⟨w.heap.size + 1, 0, none⟩ = some (.int .i64 0) := (cell_of_heap hxx 0).trans rfl
    have hxf : (w1.setCell ⟨W3.heap.size, 0, none⟩ (.int .i64 2)).frozen? ⟨w.heap.size + 1, 0, none⟩ = false := frozen_of_heap hxx 0
    have HXX := Go.Lib.hid hxx
    clear hxx HPC HTO HCD
    generalize w1.setCell ⟨W3.heap.size, 0, none⟩ (.int .i64 2) = WX at *
    go_wp2_with fail
    have c1 : Ch (fun q => q = r) WX (WX.setCell ⟨r, 2, none⟩ (.bool true)) := Ch.setCell (S := fun q => q = r) (Ch.refl _ WX) (p := ⟨r, 2, none⟩) (fun _ => rfl) _
    have hrow1 : (WX.setCell ⟨r, 2, none⟩ (.bool true)).heap[r]? = some (.cells #[.slice p n c, .bool true, .bool true] 59) := (row_setM HRX.out 2 _).trans rfl
    have hx1 := c1.heap HXX.out (show ¬ w.heap.size + 1 = r by omega)
    generalize WX.setCell ⟨r, 2, none⟩ (.bool true) = WY at *
    have hfin : (WY.setCell ⟨w.heap.size + 1, 0, none⟩ (.int .i64 0)).cell? ⟨w.heap.size + 1, 0, none⟩ = some (.int .i64 0) := (cell_of_heap (row_setM hx1 0 _) 0).trans rfl
    have c2 : Ch (fun q => q = w.heap.size + 1) WY (WY.setCell ⟨w.heap.size + 1, 0, none⟩ (.int .i64 0)) := Ch.setCell (S := fun q => q = w.heap.size + 1) (Ch.refl _ WY) (p := ⟨w.heap.size + 1, 0, none⟩) (fun _ => rfl) _
    have hall : Ch (fun q => q = r) w (WY.setCell ⟨w.heap.size + 1, 0, none⟩ (.int .i64 0)) := ((HCX.out.mono (fun _ _ e => e.elim)).trans c1).then c2 (fun i hi e => by omega)
    generalize WY.setCell ⟨w.heap.size + 1, 0, none⟩ (.int .i64 0) = WF at *
    refine bodyPost_ret (v := .tuple #[.int .i64 0, .int .i64 140]) (by simp [results, Try.results56, go_sem, hfin]) rfl ?_
    exact ⟨hall, rfl, ⟨c2.heap hrow1 (by omega), HR.out.bytes.but hall HR.out.blk HR.out.ne, HR.out.ne, HR.out.blk, Nat.lt_of_lt_of_le hold hall.size⟩⟩
  | got x k =>
    obtain ⟨u, rfl⟩ := HXV.out x k rfl
    obtain rfl : v = 0 := by
      obtain ⟨_, h, _⟩ := HPC.out
      rcases HTO.out with ⟨h1, h2⟩ | ⟨h1, h2⟩ | ⟨h1, h2⟩
      all_goals first | exact h2 | (rw [h] at h1; cases h1)
    obtain ⟨_, _, hk, ⟨p', c', hl1⟩, hxh⟩ := HPC.out
    have hxx : (w1.setCell ⟨W3.heap.size, 0, none⟩ (.int .i64 0)).heap[w.heap.size + 1]? = some (.cells #[.int .i64 u] 2) := HCD.out.heap hxh (by have := HD.out; omega)
    have hxc : (w1.setCell ⟨W3.heap.size, 0, none⟩ (.int .i64 0)).cell? ⟨w.heap.size + 1, 0, none⟩ = some (.int .i64 u) := (cell_of_heap hxx 0).trans rfl
    have hxf : (w1.setCell ⟨W3.heap.size, 0, none⟩ (.int .i64 0)).frozen? ⟨w.heap.size + 1, 0, none⟩ = false := frozen_of_heap hxx 0
    have hl2 := hl1.ch HCD.out (show ¬ w.heap.size + 1 + 1 = W3.heap.size by have := HD.out; omega) (show ¬ x0 = W3.heap.size by have := HD.out; omega)
    have hlc : (w1.setCell ⟨W3.heap.size, 0, none⟩ (.int .i64 0)).cell? ⟨w.heap.size + 1 + 1, 0, none⟩ = some (.slice p' (n - k) c') := (cell_of_heap hl2.row 0).trans rfl
    have HXX := Go.Lib.hid hxx; have HL2 := Go.Lib.hid hl2; have HK := Go.Lib.hid hk
    clear hxx hxh hl1 hl2 hk HPC HTO HCD hcell2 hfr2
    generalize w1.setCell ⟨W3.heap.size, 0, none⟩ (.int .i64 0) = WX at *
    generalize hnk : n - k = m at *
    have HNK := Go.Lib.hid hnk
    clear hnk
    go_wp2_with fail
    have c1 : Ch (fun q => q = r) WX (WX.setCell ⟨r, 0, none⟩ (.slice p' m c')) := Ch.setCell (S := fun q => q = r) (Ch.refl _ WX) (p := ⟨r, 0, none⟩) (fun _ => rfl) _
    have hrow1 : (WX.setCell ⟨r, 0, none⟩ (.slice p' m c')).heap[r]? = some (.cells #[.slice p' m c', .bool true, .bool false] 59) := (row_setM HRX.out 0 _).trans rfl
    have hx1 := c1.heap HXX.out (show ¬ w.heap.size + 1 = r by omega)
    have hb1 := HL2.out.bytes.but c1 HL2.out.blk (show ¬ x0 = r from HR.out.ne)
    generalize WX.setCell ⟨r, 0, none⟩ (.slice p' m c') = WY at *
    have hfin : (WY.setCell ⟨w.heap.size + 1, 0, none⟩ (.int .i64 u)).cell? ⟨w.heap.size + 1, 0, none⟩ = some (.int .i64 u) := (cell_of_heap (row_setM hx1 0 _) 0).trans rfl
    have c2 : Ch (fun q => q = w.heap.size + 1) WY (WY.setCell ⟨w.heap.size + 1, 0, none⟩ (.int .i64 u)) := Ch.setCell (S := fun q => q = w.heap.size + 1) (Ch.refl _ WY) (p := ⟨w.heap.size + 1, 0, none⟩) (fun _ => rfl) _
    have hall : Ch (fun q => q = r) w (WY.setCell ⟨w.heap.size + 1, 0, none⟩ (.int .i64 u)) := ((HCX.out.mono (fun _ _ e => e.elim)).trans c1).then c2 (fun i hi e => by omega)
    generalize WY.setCell ⟨w.heap.size + 1, 0, none⟩ (.int .i64 u) = WF at *
    refine bodyPost_ret (v := .tuple #[.int .i64 u, .int .i64 0]) (by simp [results, Try.results56, go_sem, hfin]) rfl ?_
    exact ⟨hall, rfl, HK.out, p', c', ⟨by rw [HNK.out]; exact c2.heap hrow1 (by omega), by rw [HNK.out]; exact hb1.but c2 HL2.out.blk (by omega), HR.out.ne, HL2.out.blk, Nat.lt_of_lt_of_le hold hall.size⟩⟩
set_option maxRecDepth 100000 in
theorem partbad64 (r mb x0 : Nat) (p : Option Addr) (n c : Nat) (f : Nat → UInt8) (w : World) (hr : RdAt w r x0 p n c f true) :
    Calls Try.prog 56 #[.pointer (some ⟨r, 0, none⟩), .func (.func 57) #[] #[.pointer (some ⟨mb, 0, none⟩)]] w fun e w' => e = .returned (.tuple #[.int .i64 0, .int .i64 140]) ∧ Ch (fun _ => False) w w' := by
  have HR := Go.Lib.hid hr
  clear hr
  go_enter Try.func56, Try.ntmps56
  go_wp2_with fail
  refine (state_any _ (HR.out.ch (((Ch.refl (fun _ => False) w).alloc _).alloc _) id id)).mono ?_
  rintro e w' ⟨rfl, rfl⟩
  generalize hW3 : World.alloc (World.alloc w _) _ = W3
  have hB : W3.heap[w.heap.size + 1]? = some (.cells #[.int .i64 0] 2) := by
    rw [← hW3, ← World.size_alloc w]
    exact World.alloc_heap_new _ _
  have hc3 : Ch (fun _ => False) w W3 := by rw [← hW3]; exact ((Ch.refl _ w).alloc _).alloc _
  clear hW3
  have hxc : W3.cell? ⟨w.heap.size + 1, 0, none⟩ = some (.int .i64 0) := (cell_of_heap hB 0).trans rfl
  have hxf : W3.frozen? ⟨w.heap.size + 1, 0, none⟩ = false := frozen_of_heap hB 0
  have HB := Go.Lib.hid hB; have HC3 := Go.Lib.hid hc3
  clear hB hc3
  go_wp2_with fail
  have hfin : (W3.setCell ⟨w.heap.size + 1, 0, none⟩ (.int .i64 0)).cell? ⟨w.heap.size + 1, 0, none⟩ = some (.int .i64 0) := (cell_of_heap (row_setM HB.out 0 _) 0).trans rfl
  have hall : Ch (fun _ => False) w (W3.setCell ⟨w.heap.size + 1, 0, none⟩ (.int .i64 0)) := Ch.setCell HC3.out (p := ⟨w.heap.size + 1, 0, none⟩) (fun h => by have h' : w.heap.size + 1 < w.heap.size := h; omega) _
  generalize W3.setCell ⟨w.heap.size + 1, 0, none⟩ (.int .i64 0) = WF at *
  refine bodyPost_ret (v := .tuple #[.int .i64 0, .int .i64 140]) (by simp [results, Try.results56, go_sem, hfin]) rfl ?_
  exact ⟨rfl, hall⟩
set_option maxRecDepth 100000 in
set_option maxHeartbeats 1000000 in
theorem partS (r mb x0 : Nat) (p : Option Addr) (n c : Nat) (f : Nat → UInt8) (out : Out) (w : World) (hr : RdAt w r x0 p n c f false) (hxv : ∀ x k, out = .got x k → ∃ v, x = .string v)
    (H : ∀ W l, Ch (fun _ => False) w W → LeftAt W l x0 p n c f → Calls Try.prog 64 #[.pointer (some ⟨l, 0, none⟩), .pointer (some ⟨mb, 0, none⟩)] W (TakeTold out f n l x0 W)) :
    Calls Try.prog 63 #[.pointer (some ⟨r, 0, none⟩), .func (.func 64) #[] #[.pointer (some ⟨mb, 0, none⟩)]] w (PartTold out f p n c r x0 (.string { data := #[] }) w) := by
  have HR := Go.Lib.hid hr; have HH := Go.Lib.hid H; have HXV := Go.Lib.hid hxv
  have HRL := Go.Lib.hid (row_lt hr.row)
  clear hr H hxv
  go_enter Try.func63, Try.ntmps63
  go_wp2_with fail
  refine (state_any _ (HR.out.ch (((Ch.refl (fun _ => False) w).alloc _).alloc _) id id)).mono ?_
  rintro e w' ⟨rfl, rfl⟩
  have hr0 : ((w.alloc (.cells #[.func (.func 64) #[] #[.pointer (some ⟨mb, 0, none⟩)]] 124)).alloc (.cells #[.string { data := #[] }] 9)).cell? ⟨r, 0, none⟩ = some (.slice p n c) := ((((Ch.refl (fun _ => False) w).alloc _).alloc _).get ((cell_of_heap HR.out.row 0).trans rfl) id)
  go_wp2_with fail
  clear hr0
  generalize hW3 : World.alloc (World.alloc (World.alloc w _) _) _ = W3
  have hA : W3.heap[w.heap.size]? = some (.cells #[.func (.func 64) #[] #[.pointer (some ⟨mb, 0, none⟩)]] 124) := by
    rw [← hW3]
    exact (((Ch.refl (fun _ => False) (w.alloc _)).alloc _).alloc _).heap (World.alloc_heap_new w _) id
  have hB : W3.heap[w.heap.size + 1]? = some (.cells #[.string { data := #[] }] 9) := by
    rw [← hW3, ← World.size_alloc w (.cells #[.func (.func 64) #[] #[.pointer (some ⟨mb, 0, none⟩)]] 124)]
    exact ((Ch.refl (fun _ => False) _).alloc _).heap (World.alloc_heap_new _ _) id
  have hC : W3.heap[w.heap.size + 1 + 1]? = some (.cells #[.slice p n c] 57) := by
    rw [← hW3, ← World.size_alloc w (.cells #[.func (.func 64) #[] #[.pointer (some ⟨mb, 0, none⟩)]] 124), ← World.size_alloc (w.alloc _) (.cells #[.string { data := #[] }] 9)]
    exact World.alloc_heap_new _ _
  have hc3 : Ch (fun _ => False) w W3 := by rw [← hW3]; exact (((Ch.refl _ w).alloc _).alloc _).alloc _
  have hs3 : w.heap.size + 3 = W3.heap.size := by rw [← hW3]; simp
  clear hW3
  have hrl := HRL.out; have hold := HR.out.old
  have hca : Ch (fun _ => False) W3 (W3.alloc (.cells #[.int .i64 0] 127)) := (Ch.refl _ W3).alloc _
  have hcw := hc3.trans hca
  have HT := Go.Lib.hid (tried87 _ _ _ W3 _ (pcS w.heap.size (w.heap.size + 1 + 1) (w.heap.size + 1) mb x0 n f out (W3.alloc (.cells #[.int .i64 0] 127)) (hca.get ((cell_of_heap hA 0).trans rfl) id) (hca.heap hB id) (by omega) HXV.out
    (HH.out (W3.alloc (.cells #[.int .i64 0] 127)) (w.heap.size + 1 + 1) hcw ⟨hca.heap hC id, HR.out.bytes.but hcw HR.out.blk id, by omega, HR.out.blk⟩))
    (fun e w' hpc => by
      refine ⟨?_, hpc.1.heap (World.alloc_heap_new W3 _) (by omega)⟩
      have h := hpc.2
      cases out with
      | lack => exact .inr (.inl h.1)
      | wrong => exact .inr (.inr h.1)
      | got x k => exact .inl h.1))
  have HC3 := Go.Lib.hid hc3
  have HD := Go.Lib.hid hs3
  clear hA hB hC hca hcw
  refine HT.out.mono ?_
  rintro e w' ⟨e1, w1, v, hpc, htold, rfl, rfl⟩
  have hcD : Ch (fun q => q = W3.heap.size) w1 (w1.setCell ⟨W3.heap.size, 0, none⟩ (.int .i64 v)) := Ch.setCell (S := fun q => q = W3.heap.size) (Ch.refl _ w1) (p := ⟨W3.heap.size, 0, none⟩) (fun _ => rfl) _
  have hcx : Ch (fun _ => False) w (w1.setCell ⟨W3.heap.size, 0, none⟩ (.int .i64 v)) := ((hc3.alloc _).then hpc.1 (fun i hi e => by omega)).then hcD (fun i hi e => by omega)
  have HCX := Go.Lib.hid hcx; have HCD := Go.Lib.hid hcD
  have hrx := hcx.heap HR.out.row id
  have HRX := Go.Lib.hid hrx
  have hcell0 : (w1.setCell ⟨W3.heap.size, 0, none⟩ (.int .i64 v)).cell? ⟨r, 0, none⟩ = some (.slice p n c) := (cell_of_heap hrx 0).trans rfl
  have hcell2 : (w1.setCell ⟨W3.heap.size, 0, none⟩ (.int .i64 v)).cell? ⟨r, 2, none⟩ = some (.bool false) := (cell_of_heap hrx 2).trans rfl
  have hfr0 : (w1.setCell ⟨W3.heap.size, 0, none⟩ (.int .i64 v)).frozen? ⟨r, 0, none⟩ = false := frozen_of_heap hrx 0
  have hfr2 : (w1.setCell ⟨W3.heap.size, 0, none⟩ (.int .i64 v)).frozen? ⟨r, 2, none⟩ = false := frozen_of_heap hrx 2
  have HPC := Go.Lib.hid hpc; have HTO := Go.Lib.hid htold
  clear hpc htold hcD hcx hrx HT hc3 hs3
  unfold PartTold
  unfold PcTold at HPC
  cases out with
  | lack =>
    obtain rfl : v = 1 := by
      obtain ⟨_, h, _⟩ := HPC.out
      rcases HTO.out with ⟨h1, h2⟩ | ⟨h1, h2⟩ | ⟨h1, h2⟩
      all_goals first | exact h2 | (rw [h] at h1; cases h1)
    have hxx : (w1.setCell ⟨W3.heap.size, 0, none⟩ (.int .i64 1)).heap[w.heap.size + 1]? = some (.cells #[.string { data := #[] }] 9) := HCD.out.heap HPC.out.2.2 (by have := HD.out; omega)
    have hxc : (w1.setCell ⟨W3.heap.size, 0, none⟩ (.int .i64 1)).cell? ⟨w.heap.size + 1, 0, none⟩ = some (.string { data := #[] }) := (cell_of_heap hxx 0).trans rfl
    have hxf : (w1.setCell ⟨W3.heap.size, 0, none⟩ (.int .i64 1)).frozen? ⟨w.heap.size + 1, 0, none⟩ = false := frozen_of_heap hxx 0
    have HXX := Go.Lib.hid hxx
    clear hxx HPC HTO HCD
    generalize w1.setCell ⟨W3.heap.size, 0, none⟩ (.int .i64 1) = WX at *
    go_wp2_with fail
    have c1 : Ch (fun q => q = r) WX (WX.setCell ⟨r, 2, none⟩ (.bool true)) := Ch.setCell (S := fun q => q = r) (Ch.refl _ WX) (p := ⟨r, 2, none⟩) (fun _ => rfl) _
    have hrow1 : (WX.setCell ⟨r, 2, none⟩ (.bool true)).heap[r]? = some (.cells #[.slice p n c, .bool true, .bool true] 59) := (row_setM HRX.out 2 _).trans rfl
    have hx1 := c1.heap HXX.out (show ¬ w.heap.size + 1 = r by omega)
    generalize WX.setCell ⟨r, 2, none⟩ (.bool true) = WY at *
    have hfin : (WY.setCell ⟨w.heap.size + 1, 0, none⟩ (.string { data := #[] })).cell? ⟨w.heap.size + 1, 0, none⟩ = some (.string { data := #[] }) := (cell_of_heap (row_setM hx1 0 _) 0).trans rfl
    have c2 : Ch (fun q => q = w.heap.size + 1) WY (WY.setCell ⟨w.heap.size + 1, 0, none⟩ (.string { data := #[] })) := Ch.setCell (S := fun q => q = w.heap.size + 1) (Ch.refl _ WY) (p := ⟨w.heap.size + 1, 0, none⟩) (fun _ => rfl) _
    have hall : Ch (fun q => q = r) w (WY.setCell ⟨w.heap.size + 1, 0, none⟩ (.string { data := #[] })) := ((HCX.out.mono (fun _ _ e => e.elim)).trans c1).then c2 (fun i hi e => by omega)
    generalize WY.setCell ⟨w.heap.size + 1, 0, none⟩ (.string { data := #[] }) = WF at *
    refine bodyPost_ret (v := .tuple #[.string { data := #[] }, .int .i64 140]) (by simp [results, Try.results63, go_sem, hfin]) rfl ?_
    exact ⟨hall, rfl, ⟨c2.heap hrow1 (by omega), HR.out.bytes.but hall HR.out.blk HR.out.ne, HR.out.ne, HR.out.blk, Nat.lt_of_lt_of_le hold hall.size⟩⟩
  | wrong =>
    obtain rfl : v = 2 := by
      obtain ⟨_, h, _⟩ := HPC.out
      rcases HTO.out with ⟨h1, h2⟩ | ⟨h1, h2⟩ | ⟨h1, h2⟩
      all_goals first | exact h2 | (rw [h] at h1; cases h1)
    have hxx : (w1.setCell ⟨W3.heap.size, 0, none⟩ (.int .i64 2)).heap[w.heap.size + 1]? = some (.cells #[.string { data := #[] }] 9) := HCD.out.heap HPC.out.2.2 (by have := HD.out; omega)
    have hxc : (w1.setCell ⟨W3.heap.size, 0, none⟩ (.int .i64 2)).cell? ⟨w.heap.size + 1, 0, none⟩ = some (.string { data := #[] }) := (cell_of_heap hxx 0).trans rfl
    have hxf : (w1.setCell ⟨W3.heap.size, 0, none⟩ (.int .i64 2)).frozen? ⟨w.heap.size + 1, 0, none⟩ = false := frozen_of_heap hxx 0
    have HXX := Go.Lib.hid hxx
    clear hxx HPC HTO HCD
    generalize w1.setCell ⟨W3.heap.size, 0, none⟩ (.int .i64 2) = WX at *
    go_wp2_with fail
    have c1 : Ch (fun q => q = r) WX (WX.setCell ⟨r, 2, none⟩ (.bool true)) := Ch.setCell (S := fun q => q = r) (Ch.refl _ WX) (p := ⟨r, 2, none⟩) (fun _ => rfl) _
    have hrow1 : (WX.setCell ⟨r, 2, none⟩ (.bool true)).heap[r]? = some (.cells #[.slice p n c, .bool true, .bool true] 59) := (row_setM HRX.out 2 _).trans rfl
    have hx1 := c1.heap HXX.out (show ¬ w.heap.size + 1 = r by omega)
    generalize WX.setCell ⟨r, 2, none⟩ (.bool true) = WY at *
    have hfin : (WY.setCell ⟨w.heap.size + 1, 0, none⟩ (.string { data := #[] })).cell? ⟨w.heap.size + 1, 0, none⟩ = some (.string { data := #[] }) := (cell_of_heap (row_setM hx1 0 _) 0).trans rfl
    have c2 : Ch (fun q => q = w.heap.size + 1) WY (WY.setCell ⟨w.heap.size + 1, 0, none⟩ (.string { data := #[] })) := Ch.setCell (S := fun q => q = w.heap.size + 1) (Ch.refl _ WY) (p := ⟨w.heap.size + 1, 0, none⟩) (fun _ => rfl) _
    have hall : Ch (fun q => q = r) w (WY.setCell ⟨w.heap.size + 1, 0, none⟩ (.string { data := #[] })) := ((HCX.out.mono (fun _ _ e => e.elim)).trans c1).then c2 (fun i hi e => by omega)
    generalize WY.setCell ⟨w.heap.size + 1, 0, none⟩ (.string { data := #[] }) = WF at *
    refine bodyPost_ret (v := .tuple #[.string { data := #[] }, .int .i64 140]) (by simp [results, Try.results63, go_sem, hfin]) rfl ?_
    exact ⟨hall, rfl, ⟨c2.heap hrow1 (by omega), HR.out.bytes.but hall HR.out.blk HR.out.ne, HR.out.ne, HR.out.blk, Nat.lt_of_lt_of_le hold hall.size⟩⟩
  | got x k =>
    obtain ⟨u, rfl⟩ := HXV.out x k rfl
    obtain rfl : v = 0 := by
      obtain ⟨_, h, _⟩ := HPC.out
      rcases HTO.out with ⟨h1, h2⟩ | ⟨h1, h2⟩ | ⟨h1, h2⟩
      all_goals first | exact h2 | (rw [h] at h1; cases h1)
    obtain ⟨_, _, hk, ⟨p', c', hl1⟩, hxh⟩ := HPC.out
    have hxx : (w1.setCell ⟨W3.heap.size, 0, none⟩ (.int .i64 0)).heap[w.heap.size + 1]? = some (.cells #[.string u] 9) := HCD.out.heap hxh (by have := HD.out; omega)
    have hxc : (w1.setCell ⟨W3.heap.size, 0, none⟩ (.int .i64 0)).cell? ⟨w.heap.size + 1, 0, none⟩ = some (.string u) := (cell_of_heap hxx 0).trans rfl
    have hxf : (w1.setCell ⟨W3.heap.size, 0, none⟩ (.int .i64 0)).frozen? ⟨w.heap.size + 1, 0, none⟩ = false := frozen_of_heap hxx 0
    have hl2 := hl1.ch HCD.out (show ¬ w.heap.size + 1 + 1 = W3.heap.size by have := HD.out; omega) (show ¬ x0 = W3.heap.size by have := HD.out; omega)
    have hlc : (w1.setCell ⟨W3.heap.size, 0, none⟩ (.int .i64 0)).cell? ⟨w.heap.size + 1 + 1, 0, none⟩ = some (.slice p' (n - k) c') := (cell_of_heap hl2.row 0).trans rfl
    have HXX := Go.Lib.hid hxx; have HL2 := Go.Lib.hid hl2; have HK := Go.Lib.hid hk
    clear hxx hxh hl1 hl2 hk HPC HTO HCD hcell2 hfr2
    generalize w1.setCell ⟨W3.heap.size, 0, none⟩ (.int .i64 0) = WX at *
    generalize hnk : n - k = m at *
    have HNK := Go.Lib.hid hnk
    clear hnk
    go_wp2_with fail
    have c1 : Ch (fun q => q = r) WX (WX.setCell ⟨r, 0, none⟩ (.slice p' m c')) := Ch.setCell (S := fun q => q = r) (Ch.refl _ WX) (p := ⟨r, 0, none⟩) (fun _ => rfl) _
    have hrow1 : (WX.setCell ⟨r, 0, none⟩ (.slice p' m c')).heap[r]? = some (.cells #[.slice p' m c', .bool true, .bool false] 59) := (row_setM HRX.out 0 _).trans rfl
    have hx1 := c1.heap HXX.out (show ¬ w.heap.size + 1 = r by omega)
    have hb1 := HL2.out.bytes.but c1 HL2.out.blk (show ¬ x0 = r from HR.out.ne)
    generalize WX.setCell ⟨r, 0, none⟩ (.slice p' m c') = WY at *
    have hfin : (WY.setCell ⟨w.heap.size + 1, 0, none⟩ (.string u)).cell? ⟨w.heap.size + 1, 0, none⟩ = some (.string u) := (cell_of_heap (row_setM hx1 0 _) 0).trans rfl
    have c2 : Ch (fun q => q = w.heap.size + 1) WY (WY.setCell ⟨w.heap.size + 1, 0, none⟩ (.string u)) := Ch.setCell (S := fun q => q = w.heap.size + 1) (Ch.refl _ WY) (p := ⟨w.heap.size + 1, 0, none⟩) (fun _ => rfl) _
    have hall : Ch (fun q => q = r) w (WY.setCell ⟨w.heap.size + 1, 0, none⟩ (.string u)) := ((HCX.out.mono (fun _ _ e => e.elim)).trans c1).then c2 (fun i hi e => by omega)
    generalize WY.setCell ⟨w.heap.size + 1, 0, none⟩ (.string u) = WF at *
    refine bodyPost_ret (v := .tuple #[.string u, .int .i64 0]) (by simp [results, Try.results63, go_sem, hfin]) rfl ?_
    exact ⟨hall, rfl, HK.out, p', c', ⟨by rw [HNK.out]; exact c2.heap hrow1 (by omega), by rw [HNK.out]; exact hb1.but c2 HL2.out.blk (by omega), HR.out.ne, HL2.out.blk, Nat.lt_of_lt_of_le hold hall.size⟩⟩
set_option maxRecDepth 100000 in
theorem partbadS (r mb x0 : Nat) (p : Option Addr) (n c : Nat) (f : Nat → UInt8) (w : World) (hr : RdAt w r x0 p n c f true) :
    Calls Try.prog 63 #[.pointer (some ⟨r, 0, none⟩), .func (.func 64) #[] #[.pointer (some ⟨mb, 0, none⟩)]] w fun e w' => e = .returned (.tuple #[.string { data := #[] }, .int .i64 140]) ∧ Ch (fun _ => False) w w' := by
  have HR := Go.Lib.hid hr
  clear hr
  go_enter Try.func63, Try.ntmps63
  go_wp2_with fail
  refine (state_any _ (HR.out.ch (((Ch.refl (fun _ => False) w).alloc _).alloc _) id id)).mono ?_
  rintro e w' ⟨rfl, rfl⟩
  generalize hW3 : World.alloc (World.alloc w _) _ = W3
  have hB : W3.heap[w.heap.size + 1]? = some (.cells #[.string { data := #[] }] 9) := by
    rw [← hW3, ← World.size_alloc w]
    exact World.alloc_heap_new _ _
  have hc3 : Ch (fun _ => False) w W3 := by rw [← hW3]; exact ((Ch.refl _ w).alloc _).alloc _
  clear hW3
  have hxc : W3.cell? ⟨w.heap.size + 1, 0, none⟩ = some (.string { data := #[] }) := (cell_of_heap hB 0).trans rfl
  have hxf : W3.frozen? ⟨w.heap.size + 1, 0, none⟩ = false := frozen_of_heap hB 0
  have HB := Go.Lib.hid hB; have HC3 := Go.Lib.hid hc3
  clear hB hc3
  go_wp2_with fail
  have hfin : (W3.setCell ⟨w.heap.size + 1, 0, none⟩ (.string { data := #[] })).cell? ⟨w.heap.size + 1, 0, none⟩ = some (.string { data := #[] }) := (cell_of_heap (row_setM HB.out 0 _) 0).trans rfl
  have hall : Ch (fun _ => False) w (W3.setCell ⟨w.heap.size + 1, 0, none⟩ (.string { data := #[] })) := Ch.setCell HC3.out (p := ⟨w.heap.size + 1, 0, none⟩) (fun h => by have h' : w.heap.size + 1 < w.heap.size := h; omega) _
  generalize W3.setCell ⟨w.heap.size + 1, 0, none⟩ (.string { data := #[] }) = WF at *
  refine bodyPost_ret (v := .tuple #[.string { data := #[] }, .int .i64 140]) (by simp [results, Try.results63, go_sem, hfin]) rfl ?_
  exact ⟨rfl, hall⟩
end Go.Proofs.Ytljllfdigfojdaa
