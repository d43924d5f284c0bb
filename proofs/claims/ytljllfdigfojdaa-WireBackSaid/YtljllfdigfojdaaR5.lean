/- A reader's hashes. -/
import Derived.Test.YtljllfdigfojdaaR1
import Derived.Test.YtljllfdigfojdaaL1
import Derived.Laws.ResultCell
namespace Go.Proofs.Ytljllfdigfojdaa
open Go Go.RowKit

theorem add_at0 (g o j : Nat) : (⟨g, o, none⟩ : Addr).add j = ⟨g, o + j, none⟩ := by
  unfold Addr.add
  split
  · next h => subst h; rfl
  · rfl
def zH : Array Value := hv fun _ => 0
theorem zH_size : zH.size = 32 := hv_size _
theorem zH_info : (Try.prog.info? 44).map (·.size) = some zH.size := hv_info _
theorem zH_all : zH.all (·.oneCell') = true := hv_all _
/-- A hash at the beginning. -/
def outH (f : Nat → UInt8) (n : Nat) : Out := if n < 32 then .lack else .got (.agg (hv f)) 32
set_option maxRecDepth 100000 in
theorem hash_any (l x0 : Nat) (p : Option Addr) (n c : Nat) (f : Nat → UInt8) (w : World) (hl : LeftAt w l x0 p n c f) :
    Calls Try.prog 62 #[.pointer (some ⟨l, 0, none⟩)] w (TakeTold (outH f n) f n l x0 w) := by
  unfold outH
  have hlb := row_lt hl.row
  have hal : ∀ o, Ch (fun _ => False) w (w.alloc o) := fun o => (Ch.refl _ w).alloc o
  by_cases h0 : n < 32
  · have HT := Go.Lib.hid (fun W (hc : Ch (fun _ => False) w W) => take_lack l x0 p n c f 32 W (hl.ch hc id id) h0)
    rw [if_pos h0]
    have HA := Go.Lib.hid hal
    clear hl h0 hlb hal
    unfold TakeTold
    go_enter Try.func62, Try.ntmps62
    go_wp2_with fail
    refine (HT.out _ (HA.out _)).mono ?_
    rintro e w' ⟨rfl, rfl⟩
    go_wp2_with fail
    exact ⟨rfl, (HA.out _).mono (fun _ _ e => e.elim), rfl⟩
  · rw [if_neg h0]
    have HT := Go.Lib.hid (fun W (hc : Ch (fun _ => False) w W) => takeL_any l x0 p n c f 32 W (hl.ch hc id id) (by omega))
    have HA := Go.Lib.hid hal
    have HK := Go.Lib.hid (show 32 ≤ n by omega)
    have hx0 : ¬ x0 = w.heap.size := by
      obtain ⟨x, y, e, hx, _⟩ := hl.bytes.at0 (by omega)
      have : x = x0 := hl.blk _ e
      omega
    have HX0 := Go.Lib.hid hx0
    clear hx0
    have HLB := Go.Lib.hid hlb
    clear hl h0 hlb hal
    unfold TakeTold
    go_enter Try.func62, Try.ntmps62
    go_wp2_with fail
    refine (HT.out _ (HA.out _)).mono ?_
    rintro e w' ⟨hc, rfl, hb, p', c', hl'⟩
    obtain ⟨x, y, rfl, _, hb2⟩ := hb.at0 (by decide)
    have hlb := HLB.out
    have HB := Go.Lib.hid (show w'.heap[w.heap.size]? = some (.cells zH 44) from hc.heap (World.alloc_heap_new w (.cells zH 44)) (by omega))
    have HLD := Go.Lib.hid (run_loadVar_part (P := Try.prog) w' ⟨x, y, none⟩ 44 (hv f) _ (fun j u hj => by
      have hj' : j < 32 := by have := (List.getElem?_eq_some_iff.1 hj).1; simpa [hv_size] using this
      rw [Array.getElem?_toList, hv_get f j hj'] at hj
      cases hj
      rw [add_at0]; exact hb2 j hj') Try.underlying44 rfl (hv_info f))
    have HC := Go.Lib.hid (((HA.out (.cells zH 44)).mono (T := fun q => q = l) (fun _ _ e => e.elim)).trans hc); have HL := Go.Lib.hid hl'
    have harr : (Instr.arrayAt 44 (.slice (some ⟨x, y, none⟩) 32 c)).run Try.prog w' = .ok (.pointer (some ⟨x, y, none⟩)) w' := by
      unfold Instr.arrayAt
      rw [Sem.run_bind, run_underlying Try.underlying44 w']
      rfl
    clear hc hb hb2 hl' hlb
    go_wp2_with (first | (refine wpList_load_at rfl 44 (.tmp 5) rfl ⟨x, y, none⟩ rfl _ HLD.out ?_) | (refine wpList_store_row rfl 44 (.tmp 2) (.tmp 6) rfl w.heap.size (hv f) rfl rfl 44 zH HB.out (hv_info f) (zH_size.trans (hv_size f).symm) (hv_all f) ?_))
    have hst : Ch (fun q => q = w.heap.size) w' (w'.setRow w.heap.size (hv f)) := Ch.setRow (S := fun q => q = w.heap.size) (Ch.refl _ w') (g := w.heap.size) (fun _ => rfl) _
    have hall : Ch (fun q => q = l) w (w'.setRow w.heap.size (hv f)) := HC.out.then hst (fun i hi e => by omega)
    have hlb := HLB.out
    refine bodyPost_ret (v := .agg (hv f)) (results_cell_row Try.results62 _ _ w.heap.size 44 (hv f) (0, 0) _ rfl (heap_setRow HB.out) Try.underlying44 rfl (hv_info f)) rfl ⟨hall, rfl, HK.out, p', c', HL.out.ch hst (show ¬ l = w.heap.size by omega) (show ¬ x0 = w.heap.size from HX0.out)⟩
end Go.Proofs.Ytljllfdigfojdaa
/- A reader's part of a hash; its Hash. -/
namespace Go.Proofs.Ytljllfdigfojdaa
open Go Go.RowKit

set_option maxRecDepth 100000 in
theorem results_row_tmp {fn : Func} {p u : Tmp} (h : fn.results = #[.cell p 44, .tmp u]) (tmps : Array Value) (w : World) (g : Nat) (cs : Array Value) (hp : tmps.getD p undef = .pointer (some ⟨g, 0, none⟩)) (hg : w.heap[g]? = some (.cells cs 44)) (hi : (Try.prog.info? 44).map (·.size) = some cs.size) :
    (results fn tmps).run Try.prog w = .ok (.tuple #[.agg cs, tmps.getD u undef]) w := by
  rw [results_cell_tmp h, hp]
  show ((loadVar 44 ⟨g, 0, none⟩).run Try.prog w).andThen _ = _
  rw [run_loadVar_part (P := Try.prog) w ⟨g, 0, none⟩ 44 cs _ (fun j u hj => by rw [add_at0]; exact (cell_of_heap hg (0 + j)).trans (by rw [Nat.zero_add, ← Array.getElem?_toList]; exact hj)) Try.underlying44 rfl hi]
  rfl
def PcH (f : Nat → UInt8) (n l x0 xb : Nat) (w : World) (e : Ending) (w' : World) : Prop :=
  Ch (fun q => q = l ∨ q = xb) w w' ∧ ((n < 32 ∧ e = gaveUp 1 ∧ w'.heap[xb]? = some (.cells zH 44)) ∨ (32 ≤ n ∧ e = .returned (.tuple #[]) ∧ (∃ p' c', LeftAt w' l x0 p' (n - 32) c' (fun j => f (32 + j))) ∧ w'.heap[xb]? = some (.cells (hv f) 44)))
set_option maxRecDepth 100000 in
theorem pcH (tb l xb x0 : Nat) (n : Nat) (f : Nat → UInt8) (w : World) (htb : w.cell? ⟨tb, 0, none⟩ = some (.func (.func 62) #[] #[])) (hxr : w.heap[xb]? = some (.cells zH 44)) (hne : xb ≠ l ∧ xb ≠ x0)
    (H : Calls Try.prog 62 #[.pointer (some ⟨l, 0, none⟩)] w (TakeTold (outH f n) f n l x0 w)) :
    Calls Try.prog 86 #[.pointer (some ⟨tb, 0, none⟩), .pointer (some ⟨l, 0, none⟩), .pointer (some ⟨xb, 0, none⟩)] w (PcH f n l x0 xb w) := by
  have HH := Go.Lib.hid H; have HX := Go.Lib.hid hxr; have HNE := Go.Lib.hid hne
  clear H hxr hne
  unfold TakeTold outH at HH
  unfold PcH
  by_cases hn : n < 32
  · rw [if_pos hn] at HH
    have HN := Go.Lib.hid hn
    clear hn
    go_enter Try.func86, Try.ntmps86
    go_wp2_with fail
    refine HH.out.mono ?_
    rintro e w' ⟨hc, rfl⟩
    have HC := Go.Lib.hid hc
    clear hc
    go_wp2_with fail
    exact ⟨rfl, HC.out.mono (fun _ _ e => .inl e), .inl ⟨HN.out, rfl, HC.out.heap HX.out HNE.out.1⟩⟩
  · rw [if_neg hn] at HH
    have HN := Go.Lib.hid (show 32 ≤ n by omega)
    clear hn
    go_enter Try.func86, Try.ntmps86
    go_wp2_with fail
    refine HH.out.mono ?_
    rintro e w1 ⟨hc, rfl, hk, p1, c1, h1⟩
    have hx1 := hc.heap HX.out HNE.out.1
    have HX1 := Go.Lib.hid hx1
    have HX2 := Go.Lib.hid (heap_setRow (cells := hv f) hx1)
    have hs : Ch (fun q => q = xb) w1 (w1.setRow xb (hv f)) := Ch.setRow (S := fun q => q = xb) (Ch.refl _ w1) (g := xb) (fun _ => rfl) _
    have HC := Go.Lib.hid ((hc.mono (T := fun q => q = l ∨ q = xb) (fun _ _ e => .inl e)).trans (hs.mono (fun _ _ e => .inr e)))
    have HL := Go.Lib.hid (h1.ch hs (show ¬ l = xb from fun e => HNE.out.1 e.symm) (show ¬ x0 = xb from fun e => HNE.out.2 e.symm))
    clear hc hx1 hs h1 hk
    go_wp2_with (refine wpList_store_row rfl 44 (.tmp 2) (.tmp 4) rfl xb (hv f) rfl rfl 44 zH HX1.out (hv_info f) (zH_size.trans (hv_size f).symm) (hv_all f) ?_)
    first | go_end0 | refine bodyPost_ret (results_none rfl _ _ _) rfl ?_
    exact ⟨HC.out, .inr ⟨HN.out, rfl, ⟨p1, c1, HL.out⟩, HX2.out⟩⟩
set_option maxRecDepth 100000 in
set_option maxHeartbeats 1000000 in
theorem partH (r x0 : Nat) (p : Option Addr) (n c : Nat) (f : Nat → UInt8) (w : World) (hr : RdAt w r x0 p n c f false)
    (H : ∀ W l, Ch (fun _ => False) w W → LeftAt W l x0 p n c f → Calls Try.prog 62 #[.pointer (some ⟨l, 0, none⟩)] W (TakeTold (outH f n) f n l x0 W)) :
    Calls Try.prog 61 #[.pointer (some ⟨r, 0, none⟩), .func (.func 62) #[] #[]] w (PartTold (outH f n) f p n c r x0 (.agg zH) w) := by
  have HR := Go.Lib.hid hr; have HH := Go.Lib.hid H
  have HRL := Go.Lib.hid (row_lt hr.row)
  clear hr H
  go_enter Try.func61, Try.ntmps61
  go_wp2_with fail
  refine (state_any _ (HR.out.ch (((Ch.refl (fun _ => False) w).alloc _).alloc _) id id)).mono ?_
  rintro e w' ⟨rfl, rfl⟩
  rw [show (#[.int .u8 0, .int .u8 0, .int .u8 0, .int .u8 0, .int .u8 0, .int .u8 0, .int .u8 0, .int .u8 0, .int .u8 0, .int .u8 0, .int .u8 0, .int .u8 0, .int .u8 0, .int .u8 0, .int .u8 0, .int .u8 0, .int .u8 0, .int .u8 0, .int .u8 0, .int .u8 0, .int .u8 0, .int .u8 0, .int .u8 0, .int .u8 0, .int .u8 0, .int .u8 0, .int .u8 0, .int .u8 0, .int .u8 0, .int .u8 0, .int .u8 0, .int .u8 0] : Array Value) = zH from by kernel_rfl]
  have hr0 : ((w.alloc (.cells #[.func (.func 62) #[] #[]] 120)).alloc (.cells zH 44)).cell? ⟨r, 0, none⟩ = some (.slice p n c) := ((((Ch.refl (fun _ => False) w).alloc _).alloc _).get ((cell_of_heap HR.out.row 0).trans rfl) id)
  go_wp2_with fail
  clear hr0
  generalize hW3 : World.alloc (World.alloc (World.alloc w _) _) _ = W3
  have hA : W3.heap[w.heap.size]? = some (.cells #[.func (.func 62) #[] #[]] 120) := by
    rw [← hW3]
    exact (((Ch.refl (fun _ => False) (w.alloc _)).alloc _).alloc _).heap (World.alloc_heap_new w _) id
  have hB : W3.heap[w.heap.size + 1]? = some (.cells zH 44) := by
    rw [← hW3, ← World.size_alloc w (.cells #[.func (.func 62) #[] #[]] 120)]
    exact ((Ch.refl (fun _ => False) _).alloc _).heap (World.alloc_heap_new _ _) id
  have hC : W3.heap[w.heap.size + 1 + 1]? = some (.cells #[.slice p n c] 57) := by
    rw [← hW3, ← World.size_alloc w (.cells #[.func (.func 62) #[] #[]] 120), ← World.size_alloc (w.alloc _) (.cells zH 44)]
    exact World.alloc_heap_new _ _
  have hc3 : Ch (fun _ => False) w W3 := by rw [← hW3]; exact (((Ch.refl _ w).alloc _).alloc _).alloc _
  have hs3 : w.heap.size + 3 = W3.heap.size := by rw [← hW3]; simp
  clear hW3
  have hrl := HRL.out; have hold := HR.out.old
  have hca : Ch (fun _ => False) W3 (W3.alloc (.cells #[.int .i64 0] 127)) := (Ch.refl _ W3).alloc _
  have hcw := hc3.trans hca
  have HT := Go.Lib.hid (tried86 _ _ _ W3 _ (pcH w.heap.size (w.heap.size + 1 + 1) (w.heap.size + 1) x0 n f (W3.alloc (.cells #[.int .i64 0] 127)) (hca.get ((cell_of_heap hA 0).trans rfl) id) (hca.heap hB id) (by omega)
    (HH.out (W3.alloc (.cells #[.int .i64 0] 127)) (w.heap.size + 1 + 1) hcw ⟨hca.heap hC id, HR.out.bytes.but hcw HR.out.blk id, by omega, HR.out.blk⟩))
    (fun e w' hpc => by
      refine ⟨?_, hpc.1.heap (World.alloc_heap_new W3 _) (by omega)⟩
      rcases hpc.2 with ⟨_, h, _⟩ | ⟨_, h, _⟩
      · exact .inr (.inl h)
      · exact .inl h))
  have HC3 := Go.Lib.hid hc3
  have HD := Go.Lib.hid hs3
  clear hA hB hC hca hcw
  refine HT.out.mono ?_
  rintro e w' ⟨e1, w1, v, hpc, htold, rfl, rfl⟩
  have hcD : Ch (fun q => q = W3.heap.size) w1 (w1.setCell ⟨W3.heap.size, 0, none⟩ (.int .i64 v)) := Ch.setCell (S := fun q => q = W3.heap.size) (Ch.refl _ w1) (p := ⟨W3.heap.size, 0, none⟩) (fun _ => rfl) _
  have hcx : Ch (fun _ => False) w (w1.setCell ⟨W3.heap.size, 0, none⟩ (.int .i64 v)) := ((hc3.alloc _).then hpc.1 (fun i hi e => by omega)).then hcD (fun i hi e => by omega)
  have HCX := Go.Lib.hid hcx; have HCD := Go.Lib.hid hcD
  have hrx := hcx.heap HR.out.row id
  have HRX := Go.Lib.hid hrx
  have hcell0 : (w1.setCell ⟨W3.heap.size, 0, none⟩ (.int .i64 v)).cell? ⟨r, 0, none⟩ = some (.slice p n c) := (cell_of_heap hrx 0).trans rfl
  have hcell2 : (w1.setCell ⟨W3.heap.size, 0, none⟩ (.int .i64 v)).cell? ⟨r, 2, none⟩ = some (.bool false) := (cell_of_heap hrx 2).trans rfl
  have hfr0 : (w1.setCell ⟨W3.heap.size, 0, none⟩ (.int .i64 v)).frozen? ⟨r, 0, none⟩ = false := frozen_of_heap hrx 0
  have hfr2 : (w1.setCell ⟨W3.heap.size, 0, none⟩ (.int .i64 v)).frozen? ⟨r, 2, none⟩ = false := frozen_of_heap hrx 2
  have HPC := Go.Lib.hid hpc; have HTO := Go.Lib.hid htold
  clear hpc htold hcD hcx hrx HT hc3 hs3
  unfold PartTold
  rcases HPC.out.2 with ⟨hn, hE, hX⟩ | ⟨hn, hE, ⟨p', c', hl1⟩, hX⟩
  · have HO := Go.Lib.hid (show outH f n = .lack from if_pos hn)
    obtain rfl : v = 1 := by
      rcases HTO.out with ⟨h1, h2⟩ | ⟨h1, h2⟩ | ⟨h1, h2⟩
      all_goals first | exact h2 | (rw [hE] at h1; cases h1)
    have hxx : (w1.setCell ⟨W3.heap.size, 0, none⟩ (.int .i64 1)).heap[w.heap.size + 1]? = some (.cells zH 44) := HCD.out.heap hX (by have := HD.out; omega)
    have HXX := Go.Lib.hid hxx
    clear hxx HPC HTO HCD hE hX hn
    generalize w1.setCell ⟨W3.heap.size, 0, none⟩ (.int .i64 1) = WX at *
    have HC1 := Go.Lib.hid (show Ch (fun q => q = r) WX (WX.setCell ⟨r, 2, none⟩ (.bool true)) from Ch.setCell (S := fun q => q = r) (Ch.refl _ WX) (p := ⟨r, 2, none⟩) (fun _ => rfl) _)
    have HROW1 := Go.Lib.hid (show (WX.setCell ⟨r, 2, none⟩ (.bool true)).heap[r]? = some (.cells #[.slice p n c, .bool true, .bool true] 59) from (row_setM HRX.out 2 _).trans rfl)
    have HX1 := Go.Lib.hid (HC1.out.heap HXX.out (show ¬ w.heap.size + 1 = r by omega))
    go_wp2_with (first | (refine wpList_load_row rfl 44 (.tmp 4) rfl (w.heap.size + 1) rfl 44 zH (0, 0) _ HX1.out Try.underlying44 rfl zH_info ?_) | (refine wpList_store_row rfl 44 (.tmp 4) (.tmp 23) rfl (w.heap.size + 1) zH rfl rfl 44 zH HX1.out zH_info rfl zH_all ?_))
    have c2 : Ch (fun q => q = w.heap.size + 1) (WX.setCell ⟨r, 2, none⟩ (.bool true)) ((WX.setCell ⟨r, 2, none⟩ (.bool true)).setRow (w.heap.size + 1) zH) := Ch.setRow (S := fun q => q = w.heap.size + 1) (Ch.refl _ _) (g := w.heap.size + 1) (fun _ => rfl) _
    have hall : Ch (fun q => q = r) w ((WX.setCell ⟨r, 2, none⟩ (.bool true)).setRow (w.heap.size + 1) zH) := ((HCX.out.mono (fun _ _ e => e.elim)).trans HC1.out).then c2 (fun i hi e => by omega)
    refine bodyPost_ret (v := .tuple #[.agg zH, .int .i64 140]) (results_row_tmp Try.results61 _ _ (w.heap.size + 1) zH rfl (heap_setRow HX1.out) zH_info) rfl ?_
    rw [HO.out]
    exact ⟨hall, rfl, ⟨c2.heap HROW1.out (by omega), HR.out.bytes.but hall HR.out.blk HR.out.ne, HR.out.ne, HR.out.blk, Nat.lt_of_lt_of_le hold hall.size⟩⟩
  · have HO := Go.Lib.hid (show outH f n = .got (.agg (hv f)) 32 from if_neg (by omega))
    obtain rfl : v = 0 := by
      rcases HTO.out with ⟨h1, h2⟩ | ⟨h1, h2⟩ | ⟨h1, h2⟩
      all_goals first | exact h2 | (rw [hE] at h1; cases h1)
    have hxx : (w1.setCell ⟨W3.heap.size, 0, none⟩ (.int .i64 0)).heap[w.heap.size + 1]? = some (.cells (hv f) 44) := HCD.out.heap hX (by have := HD.out; omega)
    have hl2 := hl1.ch HCD.out (show ¬ w.heap.size + 1 + 1 = W3.heap.size by have := HD.out; omega) (show ¬ x0 = W3.heap.size by have := HD.out; omega)
    have hlc : (w1.setCell ⟨W3.heap.size, 0, none⟩ (.int .i64 0)).cell? ⟨w.heap.size + 1 + 1, 0, none⟩ = some (.slice p' (n - 32) c') := (cell_of_heap hl2.row 0).trans rfl
    have HXX := Go.Lib.hid hxx; have HL2 := Go.Lib.hid hl2; have HK := Go.Lib.hid hn
    clear hxx hl1 hl2 hn HPC HTO HCD hcell2 hfr2 hE hX
    generalize w1.setCell ⟨W3.heap.size, 0, none⟩ (.int .i64 0) = WX at *
    generalize hnk : n - 32 = m at *
    have HNK := Go.Lib.hid hnk
    clear hnk
    have HC1 := Go.Lib.hid (show Ch (fun q => q = r) WX (WX.setCell ⟨r, 0, none⟩ (.slice p' m c')) from Ch.setCell (S := fun q => q = r) (Ch.refl _ WX) (p := ⟨r, 0, none⟩) (fun _ => rfl) _)
    have HROW1 := Go.Lib.hid (show (WX.setCell ⟨r, 0, none⟩ (.slice p' m c')).heap[r]? = some (.cells #[.slice p' m c', .bool true, .bool false] 59) from (row_setM HRX.out 0 _).trans rfl)
    have HX1 := Go.Lib.hid (HC1.out.heap HXX.out (show ¬ w.heap.size + 1 = r by omega))
    have HB1 := Go.Lib.hid (HL2.out.bytes.but HC1.out HL2.out.blk (show ¬ x0 = r from HR.out.ne))
    go_wp2_with (first | (refine wpList_load_row rfl 44 (.tmp 4) rfl (w.heap.size + 1) rfl 44 (hv f) (0, 0) _ HX1.out Try.underlying44 rfl (hv_info f) ?_) | (refine wpList_store_row rfl 44 (.tmp 4) (.tmp 28) rfl (w.heap.size + 1) (hv f) rfl rfl 44 (hv f) HX1.out (hv_info f) rfl (hv_all f) ?_))
    generalize hWY : WX.setCell ⟨r, 0, none⟩ (.slice p' m c') = WY at *
    have c2 : Ch (fun q => q = w.heap.size + 1) WY (WY.setRow (w.heap.size + 1) (hv f)) := Ch.setRow (S := fun q => q = w.heap.size + 1) (Ch.refl _ _) (g := w.heap.size + 1) (fun _ => rfl) _
    have hall : Ch (fun q => q = r) w (WY.setRow (w.heap.size + 1) (hv f)) := ((HCX.out.mono (fun _ _ e => e.elim)).trans HC1.out).then c2 (fun i hi e => by omega)
    refine bodyPost_ret (v := .tuple #[.agg (hv f), .int .i64 0]) (results_row_tmp Try.results61 _ _ (w.heap.size + 1) (hv f) rfl (heap_setRow HX1.out) (hv_info f)) rfl ?_
    rw [HO.out]
    exact ⟨hall, rfl, HK.out, p', c', ⟨by rw [HNK.out]; exact c2.heap HROW1.out (by omega), by rw [HNK.out]; exact HB1.out.but c2 HL2.out.blk (by omega), HR.out.ne, HL2.out.blk, Nat.lt_of_lt_of_le hold hall.size⟩⟩
set_option maxRecDepth 100000 in
theorem partbadH (r x0 : Nat) (p : Option Addr) (n c : Nat) (f : Nat → UInt8) (w : World) (hr : RdAt w r x0 p n c f true) :
    Calls Try.prog 61 #[.pointer (some ⟨r, 0, none⟩), .func (.func 62) #[] #[]] w fun e w' => e = .returned (.tuple #[.agg zH, .int .i64 140]) ∧ Ch (fun _ => False) w w' := by
  have HR := Go.Lib.hid hr
  clear hr
  go_enter Try.func61, Try.ntmps61
  go_wp2_with fail
  refine (state_any _ (HR.out.ch (((Ch.refl (fun _ => False) w).alloc _).alloc _) id id)).mono ?_
  rintro e w' ⟨rfl, rfl⟩
  rw [show (#[.int .u8 0, .int .u8 0, .int .u8 0, .int .u8 0, .int .u8 0, .int .u8 0, .int .u8 0, .int .u8 0, .int .u8 0, .int .u8 0, .int .u8 0, .int .u8 0, .int .u8 0, .int .u8 0, .int .u8 0, .int .u8 0, .int .u8 0, .int .u8 0, .int .u8 0, .int .u8 0, .int .u8 0, .int .u8 0, .int .u8 0, .int .u8 0, .int .u8 0, .int .u8 0, .int .u8 0, .int .u8 0, .int .u8 0, .int .u8 0, .int .u8 0, .int .u8 0] : Array Value) = zH from by kernel_rfl]
  generalize hW3 : World.alloc (World.alloc w _) _ = W3
  have hB : W3.heap[w.heap.size + 1]? = some (.cells zH 44) := by
    rw [← hW3, ← World.size_alloc w]
    exact World.alloc_heap_new _ _
  have hc3 : Ch (fun _ => False) w W3 := by rw [← hW3]; exact ((Ch.refl _ w).alloc _).alloc _
  clear hW3
  have HB := Go.Lib.hid hB; have HC3 := Go.Lib.hid hc3
  clear hB hc3
  go_wp2_with (first | (refine wpList_load_row rfl 44 (.tmp 4) rfl (w.heap.size + 1) rfl 44 zH (0, 0) _ HB.out Try.underlying44 rfl zH_info ?_) | (refine wpList_store_row rfl 44 (.tmp 4) (.tmp 11) rfl (w.heap.size + 1) zH rfl rfl 44 zH HB.out zH_info rfl zH_all ?_))
  have hall : Ch (fun _ => False) w (W3.setRow (w.heap.size + 1) zH) := HC3.out.setRow (g := w.heap.size + 1) (fun h => by omega) _
  refine bodyPost_ret (v := .tuple #[.agg zH, .int .i64 140]) (results_row_tmp Try.results61 _ _ (w.heap.size + 1) zH rfl (heap_setRow HB.out) zH_info) rfl ?_
  exact ⟨rfl, hall⟩
end Go.Proofs.Ytljllfdigfojdaa
/- A reader's Hash; what is told of no reader. -/
namespace Go.Proofs.Ytljllfdigfojdaa
open Go Go.RowKit

set_option maxRecDepth 100000 in
theorem rHash_ok (r x0 : Nat) (p : Option Addr) (n c : Nat) (f : Nat → UInt8) (w : World) (hr : RdAt w r x0 p n c f false) :
    Calls Try.prog 24 #[.pointer (some ⟨r, 0, none⟩)] w (PartTold (outH f n) f p n c r x0 (.agg zH) w) := by
  have HR := Go.Lib.hid hr
  have hal : Ch (fun _ => False) w (w.alloc (.cells zH 44)) := (Ch.refl _ w).alloc _
  have HP := Go.Lib.hid (partH r x0 p n c f (w.alloc (.cells zH 44)) (hr.ch hal id id) (fun W l hc hl => hash_any l x0 p n c f W hl))
  have HAL := Go.Lib.hid hal; have HZB := Go.Lib.hid (World.alloc_heap_new w (.cells zH 44))
  have HRL := Go.Lib.hid (row_lt hr.row); have HOLD := Go.Lib.hid hr.old
  clear hr hal
  unfold PartTold at HP
  by_cases hn : n < 32
  · have HO := Go.Lib.hid (show outH f n = .lack from if_pos hn)
    rw [HO.out] at HP
    clear hn
    go_enter Try.func24, Try.ntmps24
    go_wp2_with fail
    rw [show (#[.int .u8 0, .int .u8 0, .int .u8 0, .int .u8 0, .int .u8 0, .int .u8 0, .int .u8 0, .int .u8 0, .int .u8 0, .int .u8 0, .int .u8 0, .int .u8 0, .int .u8 0, .int .u8 0, .int .u8 0, .int .u8 0, .int .u8 0, .int .u8 0, .int .u8 0, .int .u8 0, .int .u8 0, .int .u8 0, .int .u8 0, .int .u8 0, .int .u8 0, .int .u8 0, .int .u8 0, .int .u8 0, .int .u8 0, .int .u8 0, .int .u8 0, .int .u8 0] : Array Value) = zH from by kernel_rfl]
    refine HP.out.mono ?_
    rintro e w1 ⟨hc, rfl, hr1⟩
    have hrl := HRL.out; have hold := HOLD.out
    have HB1 := Go.Lib.hid (hc.heap HZB.out (show ¬ w.heap.size = r by omega))
    have HC := Go.Lib.hid ((HAL.out.mono (T := fun q => q = r) (fun _ _ e => e.elim)).trans hc); have HR1 := Go.Lib.hid hr1
    clear hc hr1 hrl hold
    go_wp2_with (refine wpList_store_row rfl 44 (.tmp 2) (.tmp 6) rfl w.heap.size zH rfl rfl 44 zH HB1.out zH_info rfl zH_all ?_)
    have hst : Ch (fun q => q = w.heap.size) w1 (w1.setRow w.heap.size zH) := Ch.setRow (S := fun q => q = w.heap.size) (Ch.refl _ _) (g := w.heap.size) (fun _ => rfl) _
    have hrl := HRL.out; have hold := HOLD.out
    refine bodyPost_ret (v := .tuple #[.agg zH, .int .i64 140]) (results_row_tmp Try.results24 _ _ w.heap.size zH rfl (heap_setRow HB1.out) zH_info) rfl ?_
    unfold PartTold
    rw [HO.out]
    exact ⟨HC.out.then hst (fun i hi e => by omega), rfl, HR1.out.ch hst (by omega) (by omega)⟩
  · have HO := Go.Lib.hid (show outH f n = .got (.agg (hv f)) 32 from if_neg hn)
    rw [HO.out] at HP
    clear hn
    go_enter Try.func24, Try.ntmps24
    go_wp2_with fail
    rw [show (#[.int .u8 0, .int .u8 0, .int .u8 0, .int .u8 0, .int .u8 0, .int .u8 0, .int .u8 0, .int .u8 0, .int .u8 0, .int .u8 0, .int .u8 0, .int .u8 0, .int .u8 0, .int .u8 0, .int .u8 0, .int .u8 0, .int .u8 0, .int .u8 0, .int .u8 0, .int .u8 0, .int .u8 0, .int .u8 0, .int .u8 0, .int .u8 0, .int .u8 0, .int .u8 0, .int .u8 0, .int .u8 0, .int .u8 0, .int .u8 0, .int .u8 0, .int .u8 0] : Array Value) = zH from by kernel_rfl]
    refine HP.out.mono ?_
    rintro e w1 ⟨hc, rfl, hk, p', c', hr1⟩
    have hrl := HRL.out; have hold := HOLD.out
    have HB1 := Go.Lib.hid (hc.heap HZB.out (show ¬ w.heap.size = r by omega))
    have HC := Go.Lib.hid ((HAL.out.mono (T := fun q => q = r) (fun _ _ e => e.elim)).trans hc); have HR1 := Go.Lib.hid hr1; have HK := Go.Lib.hid hk
    clear hc hr1 hrl hold hk
    go_wp2_with (refine wpList_store_row rfl 44 (.tmp 2) (.tmp 6) rfl w.heap.size (hv f) rfl rfl 44 zH HB1.out (hv_info f) (zH_size.trans (hv_size f).symm) (hv_all f) ?_)
    have hst : Ch (fun q => q = w.heap.size) w1 (w1.setRow w.heap.size (hv f)) := Ch.setRow (S := fun q => q = w.heap.size) (Ch.refl _ _) (g := w.heap.size) (fun _ => rfl) _
    have hrl := HRL.out; have hold := HOLD.out
    refine bodyPost_ret (v := .tuple #[.agg (hv f), .int .i64 0]) (results_row_tmp Try.results24 _ _ w.heap.size (hv f) rfl (heap_setRow HB1.out) (hv_info f)) rfl ?_
    unfold PartTold
    rw [HO.out]
    exact ⟨HC.out.then hst (fun i hi e => by omega), rfl, HK.out, p', c', HR1.out.ch hst (by omega) (by omega)⟩
set_option maxRecDepth 100000 in
theorem rHash_bad (r x0 : Nat) (p : Option Addr) (n c : Nat) (f : Nat → UInt8) (w : World) (hr : RdAt w r x0 p n c f true) :
    Calls Try.prog 24 #[.pointer (some ⟨r, 0, none⟩)] w fun e w' => e = .returned (.tuple #[.agg zH, .int .i64 140]) ∧ Ch (fun _ => False) w w' := by
  have hal : Ch (fun _ => False) w (w.alloc (.cells zH 44)) := (Ch.refl _ w).alloc _
  have HP := Go.Lib.hid (partbadH r x0 p n c f (w.alloc (.cells zH 44)) (hr.ch hal id id))
  have HAL := Go.Lib.hid hal; have HZB := Go.Lib.hid (World.alloc_heap_new w (.cells zH 44))
  clear hr hal
  go_enter Try.func24, Try.ntmps24
  go_wp2_with fail
  rw [show (#[.int .u8 0, .int .u8 0, .int .u8 0, .int .u8 0, .int .u8 0, .int .u8 0, .int .u8 0, .int .u8 0, .int .u8 0, .int .u8 0, .int .u8 0, .int .u8 0, .int .u8 0, .int .u8 0, .int .u8 0, .int .u8 0, .int .u8 0, .int .u8 0, .int .u8 0, .int .u8 0, .int .u8 0, .int .u8 0, .int .u8 0, .int .u8 0, .int .u8 0, .int .u8 0, .int .u8 0, .int .u8 0, .int .u8 0, .int .u8 0, .int .u8 0, .int .u8 0] : Array Value) = zH from by kernel_rfl]
  refine HP.out.mono ?_
  rintro e w1 ⟨rfl, hc⟩
  have HB1 := Go.Lib.hid (hc.heap HZB.out id)
  have HC := Go.Lib.hid (HAL.out.trans hc)
  clear hc
  go_wp2_with (refine wpList_store_row rfl 44 (.tmp 2) (.tmp 6) rfl w.heap.size zH rfl rfl 44 zH HB1.out zH_info rfl zH_all ?_)
  refine bodyPost_ret (v := .tuple #[.agg zH, .int .i64 140]) (results_row_tmp Try.results24 _ _ w.heap.size zH rfl (heap_setRow HB1.out) zH_info) rfl ?_
  exact ⟨rfl, HC.out.setRow (g := w.heap.size) (fun h => absurd h (Nat.lt_irrefl _)) _⟩
/-- No reader. -/
def NoneR (w : World) (v : Value) : Prop := v = .pointer none ∨ ∃ b, v = .pointer (some ⟨b, 0, none⟩) ∧ w.heap[b]? = some (.cells #[.slice none 0 0, .bool false, .bool false] 59)
theorem NoneR.ch {w w' : World} {v : Value} (h : NoneR w v) (hc : Ch (fun _ => False) w w') : NoneR w' v := h.imp id fun ⟨b, e, h⟩ => ⟨b, e, hc.heap h id⟩
theorem nrthere_any (v : Value) (w : World) (h : NoneR w v) : Calls Try.prog 54 #[v] w fun e w' => e = .returned (.bool false) ∧ w = w' := by
  rcases h with rfl | ⟨b, rfl, h⟩
  · go_enter Try.func54, Try.ntmps54
    go_wp2
    go_ret
    exact ⟨rfl, rfl⟩
  · have h1 : w.cell? ⟨b, 1, none⟩ = some (.bool false) := (cell_of_heap h 1).trans rfl
    clear h
    go_enter Try.func54, Try.ntmps54
    go_wp2
    go_ret
    exact ⟨rfl, rfl⟩
theorem nstate_any (v : Value) (w : World) (h : NoneR w v) : Calls Try.prog 55 #[v] w fun e w' => e = .returned (.int .i64 1) ∧ w = w' := by
  have HT := Go.Lib.hid (nrthere_any v w h)
  clear h
  go_enter Try.func55, Try.ntmps55
  go_wp2_with (go_at_call 54; refine HT.out.mono ?_; rintro e w' ⟨rfl, rfl⟩)
  go_ret
  exact ⟨rfl, rfl⟩
end Go.Proofs.Ytljllfdigfojdaa
/- What is told of no reader. -/
namespace Go.Proofs.Ytljllfdigfojdaa
open Go Go.RowKit

set_option maxRecDepth 100000 in
theorem npart64 (v : Value) (mb : Nat) (w : World) (hr : NoneR w v) :
    Calls Try.prog 56 #[v, .func (.func 57) #[] #[.pointer (some ⟨mb, 0, none⟩)]] w fun e w' => e = .returned (.tuple #[.int .i64 0, .int .i64 1]) ∧ Ch (fun _ => False) w w' := by
  have HR := Go.Lib.hid hr
  clear hr
  go_enter Try.func56, Try.ntmps56
  go_wp2_with fail
  refine (nstate_any _ _ (HR.out.ch (((Ch.refl (fun _ => False) w).alloc _).alloc _))).mono ?_
  rintro e w' ⟨rfl, rfl⟩
  generalize hW3 : World.alloc (World.alloc w _) _ = W3
  have hB : W3.heap[w.heap.size + 1]? = some (.cells #[.int .i64 0] 2) := by
    rw [← hW3, ← World.size_alloc w]
    exact World.alloc_heap_new _ _
  have hc3 : Ch (fun _ => False) w W3 := by rw [← hW3]; exact ((Ch.refl _ w).alloc _).alloc _
  clear hW3
  have hxc : W3.cell? ⟨w.heap.size + 1, 0, none⟩ = some (.int .i64 0) := (cell_of_heap hB 0).trans rfl
  have hxf : W3.frozen? ⟨w.heap.size + 1, 0, none⟩ = false := frozen_of_heap hB 0
  have HB := Go.Lib.hid hB; have HC3 := Go.Lib.hid hc3
  clear hB hc3
  go_wp2_with fail
  have hfin : (W3.setCell ⟨w.heap.size + 1, 0, none⟩ (.int .i64 0)).cell? ⟨w.heap.size + 1, 0, none⟩ = some (.int .i64 0) := (cell_of_heap (row_setM HB.out 0 _) 0).trans rfl
  have hall : Ch (fun _ => False) w (W3.setCell ⟨w.heap.size + 1, 0, none⟩ (.int .i64 0)) := Ch.setCell HC3.out (p := ⟨w.heap.size + 1, 0, none⟩) (fun h => by have h' : w.heap.size + 1 < w.heap.size := h; omega) _
  generalize W3.setCell ⟨w.heap.size + 1, 0, none⟩ (.int .i64 0) = WF at *
  refine bodyPost_ret (v := .tuple #[.int .i64 0, .int .i64 1]) (by simp [results, Try.results56, go_sem, hfin]) rfl ?_
  exact ⟨rfl, hall⟩
set_option maxRecDepth 100000 in
theorem npartS (v : Value) (mb : Nat) (w : World) (hr : NoneR w v) :
    Calls Try.prog 63 #[v, .func (.func 64) #[] #[.pointer (some ⟨mb, 0, none⟩)]] w fun e w' => e = .returned (.tuple #[.string { data := #[] }, .int .i64 1]) ∧ Ch (fun _ => False) w w' := by
  have HR := Go.Lib.hid hr
  clear hr
  go_enter Try.func63, Try.ntmps63
  go_wp2_with fail
  refine (nstate_any _ _ (HR.out.ch (((Ch.refl (fun _ => False) w).alloc _).alloc _))).mono ?_
  rintro e w' ⟨rfl, rfl⟩
  generalize hW3 : World.alloc (World.alloc w _) _ = W3
  have hB : W3.heap[w.heap.size + 1]? = some (.cells #[.string { data := #[] }] 9) := by
    rw [← hW3, ← World.size_alloc w]
    exact World.alloc_heap_new _ _
  have hc3 : Ch (fun _ => False) w W3 := by rw [← hW3]; exact ((Ch.refl _ w).alloc _).alloc _
  clear hW3
  have hxc : W3.cell? ⟨w.heap.size + 1, 0, none⟩ = some (.string { data := #[] }) := (cell_of_heap hB 0).trans rfl
  have hxf : W3.frozen? ⟨w.heap.size + 1, 0, none⟩ = false := frozen_of_heap hB 0
  have HB := Go.Lib.hid hB; have HC3 := Go.Lib.hid hc3
  clear hB hc3
  go_wp2_with fail
  have hfin : (W3.setCell ⟨w.heap.size + 1, 0, none⟩ (.string { data := #[] })).cell? ⟨w.heap.size + 1, 0, none⟩ = some (.string { data := #[] }) := (cell_of_heap (row_setM HB.out 0 _) 0).trans rfl
  have hall : Ch (fun _ => False) w (W3.setCell ⟨w.heap.size + 1, 0, none⟩ (.string { data := #[] })) := Ch.setCell HC3.out (p := ⟨w.heap.size + 1, 0, none⟩) (fun h => by have h' : w.heap.size + 1 < w.heap.size := h; omega) _
  generalize W3.setCell ⟨w.heap.size + 1, 0, none⟩ (.string { data := #[] }) = WF at *
  refine bodyPost_ret (v := .tuple #[.string { data := #[] }, .int .i64 1]) (by simp [results, Try.results63, go_sem, hfin]) rfl ?_
  exact ⟨rfl, hall⟩
set_option maxRecDepth 100000 in
theorem npartB (v : Value) (w : World) (hr : NoneR w v) :
    Calls Try.prog 59 #[v, .func (.func 60) #[] #[]] w fun e w' => e = .returned (.tuple #[.bool false, .int .i64 1]) ∧ Ch (fun _ => False) w w' := by
  have HR := Go.Lib.hid hr
  clear hr
  go_enter Try.func59, Try.ntmps59
  go_wp2_with fail
  refine (nstate_any _ _ (HR.out.ch (((Ch.refl (fun _ => False) w).alloc _).alloc _))).mono ?_
  rintro e w' ⟨rfl, rfl⟩
  generalize hW3 : World.alloc (World.alloc w _) _ = W3
  have hB : W3.heap[w.heap.size + 1]? = some (.cells #[.bool false] 4) := by
    rw [← hW3, ← World.size_alloc w]
    exact World.alloc_heap_new _ _
  have hc3 : Ch (fun _ => False) w W3 := by rw [← hW3]; exact ((Ch.refl _ w).alloc _).alloc _
  clear hW3
  have hxc : W3.cell? ⟨w.heap.size + 1, 0, none⟩ = some (.bool false) := (cell_of_heap hB 0).trans rfl
  have hxf : W3.frozen? ⟨w.heap.size + 1, 0, none⟩ = false := frozen_of_heap hB 0
  have HB := Go.Lib.hid hB; have HC3 := Go.Lib.hid hc3
  clear hB hc3
  go_wp2_with fail
  have hfin : (W3.setCell ⟨w.heap.size + 1, 0, none⟩ (.bool false)).cell? ⟨w.heap.size + 1, 0, none⟩ = some (.bool false) := (cell_of_heap (row_setM HB.out 0 _) 0).trans rfl
  have hall : Ch (fun _ => False) w (W3.setCell ⟨w.heap.size + 1, 0, none⟩ (.bool false)) := Ch.setCell HC3.out (p := ⟨w.heap.size + 1, 0, none⟩) (fun h => by have h' : w.heap.size + 1 < w.heap.size := h; omega) _
  generalize W3.setCell ⟨w.heap.size + 1, 0, none⟩ (.bool false) = WF at *
  refine bodyPost_ret (v := .tuple #[.bool false, .int .i64 1]) (by simp [results, Try.results59, go_sem, hfin]) rfl ?_
  exact ⟨rfl, hall⟩
set_option maxRecDepth 100000 in
theorem npartE (v : Value) (w : World) (hr : NoneR w v) :
    Calls Try.prog 59 #[v, .func (.func 66) #[] #[]] w fun e w' => e = .returned (.tuple #[.bool false, .int .i64 1]) ∧ Ch (fun _ => False) w w' := by
  have HR := Go.Lib.hid hr
  clear hr
  go_enter Try.func59, Try.ntmps59
  go_wp2_with fail
  refine (nstate_any _ _ (HR.out.ch (((Ch.refl (fun _ => False) w).alloc _).alloc _))).mono ?_
  rintro e w' ⟨rfl, rfl⟩
  generalize hW3 : World.alloc (World.alloc w _) _ = W3
  have hB : W3.heap[w.heap.size + 1]? = some (.cells #[.bool false] 4) := by
    rw [← hW3, ← World.size_alloc w]
    exact World.alloc_heap_new _ _
  have hc3 : Ch (fun _ => False) w W3 := by rw [← hW3]; exact ((Ch.refl _ w).alloc _).alloc _
  clear hW3
  have hxc : W3.cell? ⟨w.heap.size + 1, 0, none⟩ = some (.bool false) := (cell_of_heap hB 0).trans rfl
  have hxf : W3.frozen? ⟨w.heap.size + 1, 0, none⟩ = false := frozen_of_heap hB 0
  have HB := Go.Lib.hid hB; have HC3 := Go.Lib.hid hc3
  clear hB hc3
  go_wp2_with fail
  have hfin : (W3.setCell ⟨w.heap.size + 1, 0, none⟩ (.bool false)).cell? ⟨w.heap.size + 1, 0, none⟩ = some (.bool false) := (cell_of_heap (row_setM HB.out 0 _) 0).trans rfl
  have hall : Ch (fun _ => False) w (W3.setCell ⟨w.heap.size + 1, 0, none⟩ (.bool false)) := Ch.setCell HC3.out (p := ⟨w.heap.size + 1, 0, none⟩) (fun h => by have h' : w.heap.size + 1 < w.heap.size := h; omega) _
  generalize W3.setCell ⟨w.heap.size + 1, 0, none⟩ (.bool false) = WF at *
  refine bodyPost_ret (v := .tuple #[.bool false, .int .i64 1]) (by simp [results, Try.results59, go_sem, hfin]) rfl ?_
  exact ⟨rfl, hall⟩
set_option maxRecDepth 100000 in
theorem npartH (v : Value) (w : World) (hr : NoneR w v) :
    Calls Try.prog 61 #[v, .func (.func 62) #[] #[]] w fun e w' => e = .returned (.tuple #[.agg zH, .int .i64 1]) ∧ Ch (fun _ => False) w w' := by
  have HR := Go.Lib.hid hr
  clear hr
  go_enter Try.func61, Try.ntmps61
  go_wp2_with fail
  refine (nstate_any _ _ (HR.out.ch (((Ch.refl (fun _ => False) w).alloc _).alloc _))).mono ?_
  rintro e w' ⟨rfl, rfl⟩
  rw [show (#[.int .u8 0, .int .u8 0, .int .u8 0, .int .u8 0, .int .u8 0, .int .u8 0, .int .u8 0, .int .u8 0, .int .u8 0, .int .u8 0, .int .u8 0, .int .u8 0, .int .u8 0, .int .u8 0, .int .u8 0, .int .u8 0, .int .u8 0, .int .u8 0, .int .u8 0, .int .u8 0, .int .u8 0, .int .u8 0, .int .u8 0, .int .u8 0, .int .u8 0, .int .u8 0, .int .u8 0, .int .u8 0, .int .u8 0, .int .u8 0, .int .u8 0, .int .u8 0] : Array Value) = zH from by kernel_rfl]
  generalize hW3 : World.alloc (World.alloc w _) _ = W3
  have hB : W3.heap[w.heap.size + 1]? = some (.cells zH 44) := by
    rw [← hW3, ← World.size_alloc w]
    exact World.alloc_heap_new _ _
  have hc3 : Ch (fun _ => False) w W3 := by rw [← hW3]; exact ((Ch.refl _ w).alloc _).alloc _
  clear hW3
  have HB := Go.Lib.hid hB; have HC3 := Go.Lib.hid hc3
  clear hB hc3
  go_wp2_with (first | (refine wpList_load_row rfl 44 (.tmp 4) rfl (w.heap.size + 1) rfl 44 zH (0, 0) _ HB.out Try.underlying44 rfl zH_info ?_) | (refine wpList_store_row rfl 44 (.tmp 4) (.tmp 11) rfl (w.heap.size + 1) zH rfl rfl 44 zH HB.out zH_info rfl zH_all ?_))
  have hall : Ch (fun _ => False) w (W3.setRow (w.heap.size + 1) zH) := HC3.out.setRow (g := w.heap.size + 1) (fun h => by omega) _
  refine bodyPost_ret (v := .tuple #[.agg zH, .int .i64 1]) (results_row_tmp Try.results61 _ _ (w.heap.size + 1) zH rfl (heap_setRow HB.out) zH_info) rfl ?_
  exact ⟨rfl, hall⟩
theorem nr23 (v : Value) (w : World) (h : NoneR w v) : Calls Try.prog 23 #[v] w fun e w' => e = .returned (.tuple #[.bool false, .int .i64 1]) ∧ Ch (fun _ => False) w w' := by
  have HP := Go.Lib.hid (npartB v w h)
  clear h
  go_enter Try.func23, Try.ntmps23
  go_wp2_with (go_at_call 59; refine HP.out.mono ?_; rintro e w' ⟨rfl, h2⟩; have H2 := Go.Lib.hid h2; clear h2)
  refine bodyPost_ret (v := .tuple #[.bool false, .int .i64 1]) (by simp [results, Try.results23, go_sem]) rfl ⟨rfl, H2.out⟩
theorem nr26 (v : Value) (w : World) (h : NoneR w v) : Calls Try.prog 26 #[v] w fun e w' => e = .returned (.int .i64 1) ∧ Ch (fun _ => False) w w' := by
  have HP := Go.Lib.hid (npartE v w h)
  clear h
  go_enter Try.func26, Try.ntmps26
  go_wp2_with (go_at_call 59; refine HP.out.mono ?_; rintro e w' ⟨rfl, h2⟩; have H2 := Go.Lib.hid h2; clear h2)
  go_ret
  exact ⟨rfl, H2.out⟩
theorem nr22 (v : Value) (w : World) (h : NoneR w v) : Calls Try.prog 22 #[v, .int .i64 1] w fun e w' => e = .returned (.tuple #[.int .i64 0, .int .i64 1]) ∧ Ch (fun _ => False) w w' := by
  have hal : Ch (fun _ => False) w (w.alloc (.cells #[.int .i64 1] 2)) := (Ch.refl _ w).alloc _
  have HST := Go.Lib.hid (nstate_any v _ (h.ch hal))
  have HP := Go.Lib.hid (npart64 v w.heap.size _ (h.ch hal))
  have HAL := Go.Lib.hid hal
  clear h hal
  go_enter Try.func22, Try.ntmps22
  go_wp2_with (first
    | (go_at_call 55; refine HST.out.mono ?_; rintro e w' ⟨rfl, rfl⟩)
    | (go_at_call 56; refine HP.out.mono ?_; rintro e w' ⟨rfl, h2⟩; have H2 := Go.Lib.hid (HAL.out.trans h2); clear h2))
  refine bodyPost_ret (v := .tuple #[.int .i64 0, .int .i64 1]) (by simp [results, Try.results22, go_sem]) rfl ⟨rfl, H2.out⟩
theorem nr25 (v : Value) (w : World) (h : NoneR w v) : Calls Try.prog 25 #[v, .int .i64 1] w fun e w' => e = .returned (.tuple #[.string { data := #[] }, .int .i64 1]) ∧ Ch (fun _ => False) w w' := by
  have hal : Ch (fun _ => False) w (w.alloc (.cells #[.int .i64 1] 3)) := (Ch.refl _ w).alloc _
  have HST := Go.Lib.hid (nstate_any v _ (h.ch hal))
  have HP := Go.Lib.hid (npartS v w.heap.size _ (h.ch hal))
  have HAL := Go.Lib.hid hal
  clear h hal
  go_enter Try.func25, Try.ntmps25
  go_wp2_with (first
    | (go_at_call 55; refine HST.out.mono ?_; rintro e w' ⟨rfl, rfl⟩)
    | (go_at_call 63; refine HP.out.mono ?_; rintro e w' ⟨rfl, h2⟩; have H2 := Go.Lib.hid (HAL.out.trans h2); clear h2))
  refine bodyPost_ret (v := .tuple #[.string { data := #[] }, .int .i64 1]) (by simp [results, Try.results25, go_sem]) rfl ⟨rfl, H2.out⟩
set_option maxRecDepth 100000 in
theorem nr24 (v : Value) (w : World) (h : NoneR w v) : Calls Try.prog 24 #[v] w fun e w' => e = .returned (.tuple #[.agg zH, .int .i64 1]) ∧ Ch (fun _ => False) w w' := by
  have hal : Ch (fun _ => False) w (w.alloc (.cells zH 44)) := (Ch.refl _ w).alloc _
  have HP := Go.Lib.hid (npartH v (w.alloc (.cells zH 44)) (h.ch hal))
  have HAL := Go.Lib.hid hal; have HZB := Go.Lib.hid (World.alloc_heap_new w (.cells zH 44))
  clear h hal
  go_enter Try.func24, Try.ntmps24
  go_wp2_with fail
  rw [show (#[.int .u8 0, .int .u8 0, .int .u8 0, .int .u8 0, .int .u8 0, .int .u8 0, .int .u8 0, .int .u8 0, .int .u8 0, .int .u8 0, .int .u8 0, .int .u8 0, .int .u8 0, .int .u8 0, .int .u8 0, .int .u8 0, .int .u8 0, .int .u8 0, .int .u8 0, .int .u8 0, .int .u8 0, .int .u8 0, .int .u8 0, .int .u8 0, .int .u8 0, .int .u8 0, .int .u8 0, .int .u8 0, .int .u8 0, .int .u8 0, .int .u8 0, .int .u8 0] : Array Value) = zH from by kernel_rfl]
  refine HP.out.mono ?_
  rintro e w1 ⟨rfl, hc⟩
  have HB1 := Go.Lib.hid (hc.heap HZB.out id)
  have HC := Go.Lib.hid (HAL.out.trans hc)
  clear hc
  go_wp2_with (refine wpList_store_row rfl 44 (.tmp 2) (.tmp 6) rfl w.heap.size zH rfl rfl 44 zH HB1.out zH_info rfl zH_all ?_)
  refine bodyPost_ret (v := .tuple #[.agg zH, .int .i64 1]) (results_row_tmp Try.results24 _ _ w.heap.size zH rfl (heap_setRow HB1.out) zH_info) rfl ?_
  exact ⟨rfl, HC.out.setRow (g := w.heap.size) (fun h => absurd h (Nat.lt_irrefl _)) _⟩
theorem nr21 (v : Value) (w : World) (h : NoneR w v) : Calls Try.prog 21 #[v] w fun e w' => e = .returned (.int .i64 0) ∧ w = w' := by
  have HT := Go.Lib.hid (nrthere_any v w h)
  clear h
  go_enter Try.func21, Try.ntmps21
  go_wp2_with (go_at_call 54; refine HT.out.mono ?_; rintro e w' ⟨rfl, rfl⟩)
  go_ret
  exact ⟨rfl, rfl⟩
theorem left_any (r x0 : Nat) (p : Option Addr) (n c : Nat) (f : Nat → UInt8) (bad : Bool) (w : World) (h : RdAt w r x0 p n c f bad) : Calls Try.prog 21 #[.pointer (some ⟨r, 0, none⟩)] w fun e w' => e = .returned (.int .i64 (n : Int)) ∧ w = w' := by
  have HT := Go.Lib.hid (rthere_any w h)
  have h0 : w.cell? ⟨r, 0, none⟩ = some (.slice p n c) := (cell_of_heap h.row 0).trans rfl
  clear h
  go_enter Try.func21, Try.ntmps21
  go_wp2_with (go_at_call 54; refine HT.out.mono ?_; rintro e w' ⟨rfl, rfl⟩)
  go_ret
  exact ⟨rfl, rfl⟩
end Go.Proofs.Ytljllfdigfojdaa
