/- The reference's Told: a state as a hash. -/
import Derived.Test.YtikdpiedjkailaaDoorR3
namespace Go.Proofs.YtikdpiedjkailaaDoor
open Go.RowKit

theorem b_quo32 (t : TypeId) (x : BitVec 32) (n : Nat) (hn : n < 32) : binOp .quo t (.int .u32 (un x)) (.int .u32 ((2 ^ n : Nat) : Int)) = pure (.int .u32 (un (x >>> n))) := by
  show Op.intDiv .quo .u32 (un x) ((2 ^ n : Nat) : Int) = _
  have hp : 0 < 2 ^ n := Nat.two_pow_pos n
  have h : (un x).tdiv ((2 ^ n : Nat) : Int) = un (x >>> n) := by
    rw [Int.tdiv_eq_ediv_of_nonneg (un_nonneg _)]
    unfold un
    rw [BitVec.toNat_ushiftRight, Nat.shiftRight_eq_div_pow]
    rfl
  have h0 : ((2 ^ n : Nat) : Int) ≠ 0 := by omega
  simp only [Op.intDiv, h, wrap_un, if_neg h0]
theorem b_quo24 (t : TypeId) (x : BitVec 32) : binOp .quo t (.int .u32 (un x)) (.int .u32 16777216) = pure (.int .u32 (un (x >>> 24))) := b_quo32 t x 24 (by omega)
theorem b_quo16 (t : TypeId) (x : BitVec 32) : binOp .quo t (.int .u32 (un x)) (.int .u32 65536) = pure (.int .u32 (un (x >>> 16))) := b_quo32 t x 16 (by omega)
theorem b_quo8 (t : TypeId) (x : BitVec 32) : binOp .quo t (.int .u32 (un x)) (.int .u32 256) = pure (.int .u32 (un (x >>> 8))) := b_quo32 t x 8 (by omega)
theorem b_rem256 (t : TypeId) (x : BitVec 32) : binOp .rem t (.int .u32 (un x)) (.int .u32 256) = pure (.int .u32 (un (x % 256#32))) := by
  show Op.intDiv .rem .u32 (un x) 256 = _
  have h : (un x).tmod 256 = un (x % 256#32) := by
    rw [Int.tmod_eq_emod_of_nonneg (un_nonneg _)]
    unfold un
    rw [BitVec.toNat_umod]
    rfl
  simp [Op.intDiv, h]
/-- A byte as it stands in a cell. -/
def u8v (c : UInt8) : Int := (c.toNat : Int)
def lowB (x : BitVec 32) : UInt8 := UInt8.ofNat x.toNat
theorem wrap8 (x : BitVec 32) : IntKind.u8.wrap (un x) = u8v (lowB x) := by
  unfold un u8v lowB
  rw [UInt8.toNat_ofNat']
  simp [IntKind.wrap, IntKind.bits, IntKind.signed]
theorem out0 (s : St) (i : Nat) (h : i < 8) : lowB (s.word i >>> 24) = outB s (4 * i) := by
  unfold outB lowB
  rw [show 4 * i / 4 = i by omega, show 4 * i % 4 = 0 by omega, BitVec.toNat_ushiftRight, Nat.shiftRight_eq_div_pow]
theorem ofNat_mod256 (n : Nat) : UInt8.ofNat (n % 256) = UInt8.ofNat n := by
  apply UInt8.toNat_inj.1; rw [UInt8.toNat_ofNat', UInt8.toNat_ofNat']; omega
theorem out_mod (x : BitVec 32) (n : Nat) : UInt8.ofNat (x >>> n % 256#32).toNat = UInt8.ofNat (x.toNat / 2 ^ n) := by
  rw [BitVec.toNat_umod, BitVec.toNat_ushiftRight, Nat.shiftRight_eq_div_pow]
  exact ofNat_mod256 _
theorem out1 (s : St) (i : Nat) (h : i < 8) : lowB (s.word i >>> 16 % 256#32) = outB s (4 * i + 1) := by
  unfold outB lowB
  rw [show (4 * i + 1) / 4 = i by omega, show (4 * i + 1) % 4 = 1 by omega, out_mod]
theorem out2 (s : St) (i : Nat) (h : i < 8) : lowB (s.word i >>> 8 % 256#32) = outB s (4 * i + 2) := by
  unfold outB lowB
  rw [show (4 * i + 2) / 4 = i by omega, show (4 * i + 2) % 4 = 2 by omega, out_mod]
theorem out3 (s : St) (i : Nat) (h : i < 8) : lowB (s.word i % 256#32) = outB s (4 * i + 3) := by
  unfold outB lowB
  rw [show (4 * i + 3) / 4 = i by omega, show (4 * i + 3) % 4 = 3 by omega, BitVec.toNat_umod]
  refine (ofNat_mod256 _).trans ?_
  simp
attribute [local go_sem high] b_quo24 b_quo16 b_quo8 b_rem256 wrap8

/-- The bytes told so far. -/
def trow (s : St) (n : Nat) : Nat → Value := fun j => if j < n then .int .u8 (u8v (outB s j)) else .int .u8 0
theorem trow_at (s : St) (n j : Nat) (h : n ≤ j) : trow s n j = .int .u8 0 := if_neg (by omega)
theorem trow_next (s : St) (n : Nat) : (fun j => if j = n then (.int .u8 (u8v (outB s n)) : Value) else trow s n j) = trow s (n + 1) := by
  funext j
  unfold trow
  by_cases e : j = n
  · subst e; rw [if_pos rfl, if_pos (by omega)]
  · rw [if_neg e]
    by_cases e2 : j < n
    · rw [if_pos e2, if_pos (by omega)]
    · rw [if_neg e2, if_neg (by omega)]
theorem trow_hv (s : St) : arr 32 (trow s 32) = hv (outB s) := arr_congr (fun i h => if_pos h)

set_option maxRecDepth 100000 in
set_option maxHeartbeats 1000000 in
theorem told_any (s : St) (w : World) : Calls Tryd.prog 38 #[s.val] w fun e w' => e = .returned (.agg (hv (outB s))) ∧ Ch (fun _ => False) w w' := by
  have hall := hv_all (outB s)
  rw [← trow_hv] at hall ⊢
  have HALL := Go.Lib.hid hall
  clear hall
  unfold St.val
  have HCA := Go.Lib.hid (fun j (h : j < 8) => (show s.cells[j]? = some (wv (s.word j)) by rw [cells_arr, arr_get _ _ _ h]))
  generalize hcs : s.cells = cs at *
  clear hcs
  go_enter Tryd.func38, Tryd.ntmps38
  go_wp2_with fail
  have hz : arr 32 (trow s 0) = arr 32 fun _ => .int .u8 0 := arr_congr (fun i _ => if_neg (by omega))
  generalize hW0 : World.alloc (World.alloc (World.alloc w _) _) _ = W0
  have hg0 : W0.heap[w.heap.size]? = some (.cells cs 81) := by
    rw [← hW0]; exact Ch.heap (((Ch.refl (fun _ => False) _).alloc _).alloc _) (World.alloc_heap_new w _) id
  have hg1 : W0.heap[w.heap.size + 1]? = some (.cells (arr 32 fun _ => .int .u8 0) 28) := by
    rw [← hW0]; exact Ch.heap (((Ch.refl (fun _ => False) (((w.alloc _)).alloc (.cells (arr 32 fun _ => .int .u8 0) 28))).alloc _)) (by rw [← World.size_alloc w]; exact World.alloc_heap_new _ _) id
  have hg2 : W0.heap[w.heap.size + 1 + 1]? = some (.cells (arr 32 (trow s 0)) 28) := by
    rw [← hW0, hz, ← World.size_alloc w, ← World.size_alloc (w.alloc _)]; exact World.alloc_heap_new _ _
  have hc0 : Ch (fun _ => False) w W0 := by rw [← hW0]; exact (((Ch.refl _ w).alloc _).alloc _).alloc _
  clear hW0 hz
  generalize hA : w.heap.size = A at *
  have HA := Go.Lib.hid hA
  have HG0 := Go.Lib.hid hg0; have HG1 := Go.Lib.hid hg1; have HG2 := Go.Lib.hid hg2; have HC0 := Go.Lib.hid hc0
  clear hA hg0 hg1 hg2 hc0
  go_loopw [4] (fun i wr => ∃ t : Nat, t ≤ 8 ∧ i = .int .i64 t ∧ wr.heap[A + 1 + 1]? = some (.cells (arr 32 (trow s (4 * t))) 28) ∧ Ch (fun k => k = A + 1 + 1) W0 wr) (fun i _ => 8 - (intOf i).toNat)
  case atStart => exact ⟨0, by omega, rfl, HG2.out, Ch.refl _ _⟩
  case round =>
    obtain ⟨t, ht, rfl, hh, hC⟩ := hrel
    have HH := Go.Lib.hid hh; have HC := Go.Lib.hid hC
    clear hh hC
    by_cases hlt : t < 8
    · have e0 : IntKind.i64.wrap (4 * (t : Int)) = ((4 * t : Nat) : Int) := by simp [IntKind.wrap, IntKind.bits, IntKind.signed]; omega
      have e1 : IntKind.i64.wrap (((4 * t : Nat) : Int) + 1) = ((4 * t : Nat) : Int) + 1 := by simp [IntKind.wrap, IntKind.bits, IntKind.signed]; omega
      have e2 : IntKind.i64.wrap (((4 * t : Nat) : Int) + 2) = ((4 * t : Nat) : Int) + 2 := by simp [IntKind.wrap, IntKind.bits, IntKind.signed]; omega
      have e3 : IntKind.i64.wrap (((4 * t : Nat) : Int) + 3) = ((4 * t : Nat) : Int) + 3 := by simp [IntKind.wrap, IntKind.bits, IntKind.signed]; omega
      have b0 : ((4 * t : Nat) : Int) < 32 := by omega
      have b1 : ((4 * t : Nat) : Int) + 1 < 32 := by omega
      have b2 : ((4 * t : Nat) : Int) + 2 < 32 := by omega
      have b3 : ((4 * t : Nat) : Int) + 3 < 32 := by omega
      have d1 : 0 ≤ ((4 * t : Nat) : Int) + 1 := by omega
      have d2 : 0 ≤ ((4 * t : Nat) : Int) + 2 := by omega
      have d3 : 0 ≤ ((4 * t : Nat) : Int) + 3 := by omega
      have n2 : (((4 * t : Nat) : Int) + 2).toNat = 4 * t + 2 := by omega
      have n3 : (((4 * t : Nat) : Int) + 3).toNat = 4 * t + 3 := by omega
      have hlti : (t : Int) < 8 := by omega
      have H0 := Go.Lib.hid (out0 s t hlt); have H1 := Go.Lib.hid (out1 s t hlt); have H2 := Go.Lib.hid (out2 s t hlt); have H3 := Go.Lib.hid (out3 s t hlt)
      have HT4 := Go.Lib.hid (show 4 * t < 32 ∧ True from ⟨by omega, trivial⟩)
      have HT5 := Go.Lib.hid (show 4 * (t + 1) = 4 * t + 3 + 1 by omega)
      have HX := Go.Lib.hid (fun (W : World) (h : Ch (fun k => k = A + 1 + 1) W0 W) => (cell_of_heap (h.heap HG0.out (by omega)) t).trans (HCA.out t hlt))
      generalize s.word t = x at *
      generalize ht5 : 4 * (t + 1) = t5 at *
      have HTT := Go.Lib.hid ht5
      clear ht5
      generalize 4 * t = t4 at *
      have cx := HX.out _ HC.out
      have ct : wr.cell? ⟨A + 1 + 1, t4, none⟩ = some (.int .u8 0) := (cell_of_heap HH.out t4).trans (by rw [arr_get _ _ _ HT4.out.1, trow_at _ _ _ (by omega)])
      have ft : wr.frozen? ⟨A + 1 + 1, t4, none⟩ = false := frozen_of_heap HH.out t4
      go_upto_region 6 with (fail)
      generalize hw1 : wr.setCell ⟨A + 1 + 1, t4, none⟩ (.int .u8 (u8v (lowB (x >>> 24)))) = v1
      have HH1 := Go.Lib.hid (show v1.heap[A + 1 + 1]? = some (.cells (arr 32 (trow s (t4 + 1))) 28) by rw [← hw1, H0.out]; exact (heap_set HH.out (t4) _).trans (by rw [trow_next]))
      have HC1 := Go.Lib.hid (show Ch (fun k => k = A + 1 + 1) W0 v1 by rw [← hw1]; exact Ch.setCell (S := fun k => k = A + 1 + 1) HC.out (p := ⟨A + 1 + 1, t4, none⟩) (fun _ => rfl) _)
      clear hw1 cx ct ft HH HC
      have cx := HX.out _ HC1.out
      have ct : v1.cell? ⟨A + 1 + 1, t4 + 1, none⟩ = some (.int .u8 0) := (cell_of_heap HH1.out (t4 + 1)).trans (by rw [arr_get _ _ _ (by omega), trow_at _ _ _ (by omega)])
      have ft : v1.frozen? ⟨A + 1 + 1, t4 + 1, none⟩ = false := frozen_of_heap HH1.out (t4 + 1)
      go_upto_region 7 with (fail)
      generalize hw2 : v1.setCell ⟨A + 1 + 1, t4 + 1, none⟩ (.int .u8 (u8v (lowB (x >>> 16 % 256#32)))) = v2
      have HH2 := Go.Lib.hid (show v2.heap[A + 1 + 1]? = some (.cells (arr 32 (trow s (t4 + 2))) 28) by rw [← hw2, H1.out]; exact (heap_set HH1.out (t4 + 1) _).trans (by rw [trow_next]))
      have HC2 := Go.Lib.hid (show Ch (fun k => k = A + 1 + 1) W0 v2 by rw [← hw2]; exact Ch.setCell (S := fun k => k = A + 1 + 1) HC1.out (p := ⟨A + 1 + 1, t4 + 1, none⟩) (fun _ => rfl) _)
      clear hw2 cx ct ft HH1 HC1
      have cx := HX.out _ HC2.out
      have ct : v2.cell? ⟨A + 1 + 1, t4 + 2, none⟩ = some (.int .u8 0) := (cell_of_heap HH2.out (t4 + 2)).trans (by rw [arr_get _ _ _ (by omega), trow_at _ _ _ (by omega)])
      have ft : v2.frozen? ⟨A + 1 + 1, t4 + 2, none⟩ = false := frozen_of_heap HH2.out (t4 + 2)
      go_upto_region 8 with (fail)
      generalize hw3 : v2.setCell ⟨A + 1 + 1, t4 + 2, none⟩ (.int .u8 (u8v (lowB (x >>> 8 % 256#32)))) = v3
      have HH3 := Go.Lib.hid (show v3.heap[A + 1 + 1]? = some (.cells (arr 32 (trow s (t4 + 3))) 28) by rw [← hw3, H2.out]; exact (heap_set HH2.out (t4 + 2) _).trans (by rw [trow_next]))
      have HC3 := Go.Lib.hid (show Ch (fun k => k = A + 1 + 1) W0 v3 by rw [← hw3]; exact Ch.setCell (S := fun k => k = A + 1 + 1) HC2.out (p := ⟨A + 1 + 1, t4 + 2, none⟩) (fun _ => rfl) _)
      clear hw3 cx ct ft HH2 HC2
      have cx := HX.out _ HC3.out
      have ct : v3.cell? ⟨A + 1 + 1, t4 + 3, none⟩ = some (.int .u8 0) := (cell_of_heap HH3.out (t4 + 3)).trans (by rw [arr_get _ _ _ (by omega), trow_at _ _ _ (by omega)])
      have ft : v3.frozen? ⟨A + 1 + 1, t4 + 3, none⟩ = false := frozen_of_heap HH3.out (t4 + 3)
      go_upto_region 4 with (fail)
      generalize hw4 : v3.setCell ⟨A + 1 + 1, t4 + 3, none⟩ (.int .u8 (u8v (lowB (x % 256#32)))) = v4
      have HH4 := Go.Lib.hid (show v4.heap[A + 1 + 1]? = some (.cells (arr 32 (trow s (t4 + 4))) 28) by rw [← hw4, H3.out]; exact (heap_set HH3.out (t4 + 3) _).trans (by rw [trow_next]))
      have HC4 := Go.Lib.hid (show Ch (fun k => k = A + 1 + 1) W0 v4 by rw [← hw4]; exact Ch.setCell (S := fun k => k = A + 1 + 1) HC3.out (p := ⟨A + 1 + 1, t4 + 3, none⟩) (fun _ => rfl) _)
      clear hw4 cx ct ft HH3 HC3
      go_wp2_with fail
      go_roundw
      case rel => exact ⟨t + 1, by omega, by go_num, by rw [HTT.out, HT5.out]; exact HH4.out, HC4.out⟩
      case measure => simp [intOf]; omega
    · obtain rfl : t = 8 := by omega
      have HR := Go.Lib.hid (HC.out.heap HG1.out (by omega))
      have HS := Go.Lib.hid (show Ch (fun _ => False) w wr from HC0.out.then HC.out (fun i hi h => by have := HA.out; omega))
      have HP1 := Go.Lib.hid (show (Tryd.prog.info? 28).map (·.size) = some (arr 32 (trow s 32)).size by rw [arr_size]; exact info31)
      have HP2 := Go.Lib.hid (show (arr 32 fun _ => (.int .u8 0 : Value)).size = (arr 32 (trow s 32)).size by rw [arr_size, arr_size])
      have hh : wr.heap[A + 1 + 1]? = some (.cells (arr 32 (trow s 32)) 28) := HH.out
      have HHF := Go.Lib.hid hh
      clear hh HH hlt
      generalize hR : arr 32 (trow s 32) = R at *
      have HRE := Go.Lib.hid hR
      clear hR
      go_wp2_with (first | (refine wpList_load_row rfl 28 (.tmp 3) rfl (A + 1 + 1) rfl 28 R (0, 0) _ HHF.out Tryd.underlying28 rfl HP1.out ?_) | (refine wpList_store_row rfl 28 (.tmp 2) (.tmp 46) rfl (A + 1) R rfl rfl 28 _ HR.out HP1.out HP2.out HALL.out ?_))
      refine bodyPost_ret (results_cell_row (h := Tryd.results38) _ _ (A + 1) 28 R (0, 0) _ rfl (heap_setRow HR.out) Tryd.underlying28 rfl HP1.out) rfl ⟨by rw [HRE.out], ?_⟩
      exact HS.out.setRow (fun h => by have := HA.out; omega) _
end Go.Proofs.YtikdpiedjkailaaDoor
