/- The reference's Press: its first loop, the words. -/
import Derived.Test.YtikdpiedjkailaaDoorR2
namespace Go.Proofs.YtikdpiedjkailaaDoor
open Go.RowKit
attribute [local go_sem high] b_add b_xor b_and b_or b_shr b_shl not32 wrap_un beq32

theorem ring_word (m : Nat → BitVec 32) (t : Nat) : ∀ j, j < t → t ≤ j + 16 → ringAt m t (j % 16) = word m j := by
  induction t with
  | zero => intro j h; omega
  | succ t ih =>
    intro j h1 h2
    by_cases e : j = t
    · subst e; rfl
    · have h := ih j (by omega) (by omega)
      rw [ringAt]
      split
      · exact h
      · show (if j % 16 = t % 16 then made (ringAt m t) t else ringAt m t (j % 16)) = _
        rw [if_neg (by omega)]; exact h
theorem ring_head (m : Nat → BitVec 32) (t : Nat) (h : t ≤ 16) : ringAt m t = m := by
  induction t with
  | zero => rfl
  | succ t ih => rw [ringAt, if_pos (by omega)]; exact ih (by omega)
theorem word_head (m : Nat → BitVec 32) (t : Nat) (h : t < 16) : word m t = m t := by
  unfold word
  rw [ring_head m _ (by omega), Nat.mod_eq_of_lt h]
theorem word_rec (m : Nat → BitVec 32) (t : Nat) (h : 16 ≤ t) :
    near (word m (t - 2)) + word m (t - 7) + far (word m (t - 15)) + word m (t - 16) = word m t := by
  have e : word m t = made (ringAt m t) t := by
    unfold word
    rw [ringAt, if_neg (by omega)]
    simp
  rw [e]
  unfold made
  rw [show t % 16 = (t - 16) % 16 by omega, show (t + 14) % 16 = (t - 2) % 16 by omega, show (t + 9) % 16 = (t - 7) % 16 by omega, show (t + 1) % 16 = (t - 15) % 16 by omega,
    ring_word m t _ (by omega) (by omega), ring_word m t _ (by omega) (by omega), ring_word m t _ (by omega) (by omega), ring_word m t _ (by omega) (by omega)]
  exact BitVec.add_comm _ _

theorem word_of_bytes (f : Nat → UInt8) (k : Nat) : BitVec.ofNat 32 (f (4 * k)).toNat <<< 24 + BitVec.ofNat 32 (f (4 * k + 1)).toNat <<< 16 + BitVec.ofNat 32 (f (4 * k + 2)).toNat <<< 8 + BitVec.ofNat 32 (f (4 * k + 3)).toNat = wordOf f 0 k := by
  have h0 := (f (4 * k)).toNat_lt
  have h1 := (f (4 * k + 1)).toNat_lt
  have h2 := (f (4 * k + 2)).toNat_lt
  have h3 := (f (4 * k + 3)).toNat_lt
  unfold wordOf
  simp only [beval, Nat.zero_add, Nat.add_zero]
  generalize (f (4 * k)).toNat = a at *
  generalize (f (4 * k + 1)).toNat = b at *
  generalize (f (4 * k + 2)).toNat = c at *
  generalize (f (4 * k + 3)).toNat = d at *
  apply BitVec.eq_of_toNat_eq
  simp only [BitVec.toNat_add, BitVec.toNat_shiftLeft, BitVec.toNat_ofNat, Nat.shiftLeft_eq]
  omega
theorem conv_byte (c : UInt8) : (.int .u32 (c.toNat : Int) : Value) = wv (BitVec.ofNat 32 c.toNat) := by
  have := c.toNat_lt
  unfold wv
  rw [un_ofNat _ (by omega)]

theorem wrap_byte (c : UInt8) : IntKind.u32.wrap (c.toNat : Int) = un (BitVec.ofNat 32 c.toNat) := wrap32_nat c.toNat
/-- The words made so far. -/
def mrow (m : Nat → BitVec 32) (t : Nat) : Array Value := arr 64 fun j => if j < t then wv (word m j) else .int .u32 0
theorem near_any (x : BitVec 32) (w : World) : Calls Tryd.prog 50 #[.int .u32 (un x), .int .i64 17, .int .i64 19, .int .i64 10] w fun e w' => e = .returned (.int .u32 (un (near x))) ∧ w' = w :=
  r_any x 17 19 10 w (by omega) (by omega) (by omega)
theorem far_any (x : BitVec 32) (w : World) : Calls Tryd.prog 50 #[.int .u32 (un x), .int .i64 7, .int .i64 18, .int .i64 3] w fun e w' => e = .returned (.int .u32 (un (far x))) ∧ w' = w :=
  r_any x 7 18 3 w (by omega) (by omega) (by omega)
theorem S1_any (x : BitVec 32) (w : World) : Calls Tryd.prog 52 #[.int .u32 (un x), .int .i64 6, .int .i64 11, .int .i64 25] w fun e w' => e = .returned (.int .u32 (un (sx x [6, 11, 25]))) ∧ w' = w :=
  s_any x 6 11 25 w (by omega) (by omega) (by omega)
theorem S0_any (x : BitVec 32) (w : World) : Calls Tryd.prog 52 #[.int .u32 (un x), .int .i64 2, .int .i64 13, .int .i64 22] w fun e w' => e = .returned (.int .u32 (un (sx x [2, 13, 22]))) ∧ w' = w :=
  s_any x 2 13 22 w (by omega) (by omega) (by omega)
theorem turn_eq (T : St) (k m : BitVec 32) : turn T k m = ⟨T.h + sx T.e [6, 11, 25] + pick T.e T.f T.g + k + m + (sx T.a [2, 13, 22] + maj T.a T.b T.c), T.a, T.b, T.c, T.d + (T.h + sx T.e [6, 11, 25] + pick T.e T.f T.g + k + m), T.e, T.f, T.g⟩ := rfl
theorem cells_arr (T : St) : T.cells = arr 8 fun j => wv (T.word j) := rfl
theorem plus_arr (s T : St) : (arr 8 fun j => wv (T.word j + s.word j)) = (s.plus T).cells := by
  rw [cells_arr]
  refine arr_congr (fun i hi => ?_)
  congr 2
  match i, hi with
  | 0, _ => exact BitVec.add_comm _ _ | 1, _ => exact BitVec.add_comm _ _ | 2, _ => exact BitVec.add_comm _ _ | 3, _ => exact BitVec.add_comm _ _
  | 4, _ => exact BitVec.add_comm _ _ | 5, _ => exact BitVec.add_comm _ _ | 6, _ => exact BitVec.add_comm _ _ | 7, _ => exact BitVec.add_comm _ _
def xrow (s T : St) (i : Nat) : Array Value := arr 8 fun j => if j < i then wv (T.word j + s.word j) else wv (T.word j)
theorem xrow_zero (s T : St) : xrow s T 0 = T.cells := by
  rw [cells_arr]; exact arr_congr (fun j _ => if_neg (by omega))
theorem xrow_all (s T : St) : xrow s T 8 = (s.plus T).cells := by
  rw [← plus_arr]; exact arr_congr (fun j hj => if_pos hj)
theorem st_cells_all (T : St) : T.cells.all (·.oneCell') = true := by rw [cells_arr]; exact arr_all _ _ (fun _ _ => rfl)
theorem info22 : (Tryd.prog.info? 65).map (·.size) = some 64 := by kernel_rfl
set_option maxRecDepth 100000 in
set_option maxHeartbeats 2000000 in
theorem rpress_any (s : St) (f : Nat → UInt8) (w : World) :
    Calls Tryd.prog 37 #[s.val, .agg (arr 64 fun i => .int .u8 ((f i).toNat : Int))] w fun e w' => e = .returned (press1 s (wordOf f 0)).val ∧ Ch (fun _ => False) w w' := by
  unfold St.val St.cells
  generalize hB : (arr 64 fun i => .int .u8 ((f i).toNat : Int)) = B
  have hBs : B.size = 64 := by rw [← hB, arr_size]
  have hBg : ∀ i, i < 64 → B[i]? = some (.int .u8 ((f i).toNat : Int)) := fun i hi => by rw [← hB]; exact arr_get _ _ _ hi
  have HBS := Go.Lib.hid hBs; have HBG := Go.Lib.hid hBg
  clear hBs hBg hB
  go_enter Tryd.func37, Tryd.ntmps37
  go_wp2_with fail
  generalize hm : wordOf f 0 = m
  have HM := Go.Lib.hid hm
  clear hm
  obtain ⟨W0, hW0⟩ : ∃ W0, W0 = ((((w.alloc (.cells #[wv s.a, wv s.b, wv s.c, wv s.d, wv s.e, wv s.f, wv s.g, wv s.h] 81)).alloc (.cells B 65)).alloc (.cells #[.int .u32 0, .int .u32 0, .int .u32 0, .int .u32 0, .int .u32 0, .int .u32 0, .int .u32 0, .int .u32 0] 81)).alloc (.cells (mrow m 0) 100)) := ⟨_, rfl⟩
  have hg0 : W0.heap[w.heap.size]? = some (.cells #[wv s.a, wv s.b, wv s.c, wv s.d, wv s.e, wv s.f, wv s.g, wv s.h] 81) := by
    rw [hW0]; exact Ch.heap ((((Ch.refl (fun _ => False) _).alloc _).alloc _).alloc _) (World.alloc_heap_new w _) id
  have hg1 : W0.heap[w.heap.size + 1]? = some (.cells B 65) := by
    rw [hW0]; exact Ch.heap (((Ch.refl (fun _ => False) (((w.alloc _)).alloc (.cells B 65))).alloc _).alloc _) (by rw [← World.size_alloc w]; exact World.alloc_heap_new _ _) id
  have hg2 : W0.heap[w.heap.size + 1 + 1]? = some (.cells #[.int .u32 0, .int .u32 0, .int .u32 0, .int .u32 0, .int .u32 0, .int .u32 0, .int .u32 0, .int .u32 0] 81) := by
    rw [hW0]; exact Ch.heap (((Ch.refl (fun _ => False) ((((w.alloc _)).alloc _).alloc (.cells #[.int .u32 0, .int .u32 0, .int .u32 0, .int .u32 0, .int .u32 0, .int .u32 0, .int .u32 0, .int .u32 0] 81))).alloc _)) (by rw [← World.size_alloc w, ← World.size_alloc (w.alloc _)]; exact World.alloc_heap_new _ _) id
  have hg3 : W0.heap[w.heap.size + 1 + 1 + 1]? = some (.cells (mrow m 0) 100) := by
    rw [hW0, ← World.size_alloc w, ← World.size_alloc (w.alloc _), ← World.size_alloc ((w.alloc _).alloc _)]; exact World.alloc_heap_new _ _
  have hc0 : Ch (fun _ => False) w W0 := by rw [hW0]; exact ((((Ch.refl _ w).alloc _).alloc _).alloc _).alloc _
  have hs0 : W0.heap.size = w.heap.size + 4 := by rw [hW0]; simp
  have hmr : mrow m 0 = arr 64 fun _ => .int .u32 0 := by unfold mrow; exact arr_congr (fun i _ => by simp)
  rw [hmr] at hW0
  have hW0' := hW0.symm
  simp only [arr, List.range, List.range.loop, List.map] at hW0'
  rw [hW0']
  clear hW0 hW0' hmr
  generalize hA : w.heap.size = A at *
  have HWA := Go.Lib.hid hA
  clear hA
  have HG0 := Go.Lib.hid hg0; have HG1 := Go.Lib.hid hg1; have HG2 := Go.Lib.hid hg2; have HG3 := Go.Lib.hid hg3; have HC0 := Go.Lib.hid hc0; have HS0 := Go.Lib.hid hs0
  clear hg0 hg1 hg2 hg3 hc0 hs0
  go_loopw [6] (fun i wr => ∃ t : Nat, t ≤ 64 ∧ i = .int .i64 t ∧ wr.heap[A + 1 + 1 + 1]? = some (.cells (mrow m t) 100) ∧ Ch (fun k => k = A + 1 + 1 + 1) W0 wr) (fun i _ => 64 - (intOf i).toNat)
  case atStart => exact ⟨0, by omega, rfl, HG3.out, Ch.refl _ _⟩
  case round =>
    obtain ⟨t, ht, rfl, hh, hC⟩ := hrel
    have HH := Go.Lib.hid hh; have HC := Go.Lib.hid hC
    clear hh hC
    by_cases hlt : t < 64
    · by_cases h16 : t < 16
      · have cB : ∀ j, j < 64 → wr.cell? ⟨A + 1, j, none⟩ = some (.int .u8 ((f j).toNat : Int)) := fun j hj => (cell_of_heap (HC.out.heap HG1.out (by omega)) j).trans (HBG.out j hj)
        have c0 := cB (4 * t) (by omega)
        have c1 := cB (4 * t + 1) (by omega)
        have c2 := cB (4 * t + 2) (by omega)
        have c3 := cB (4 * t + 3) (by omega)
        clear cB
        have e0 : IntKind.i64.wrap (4 * (t : Int)) = ((4 * t : Nat) : Int) := by simp [IntKind.wrap, IntKind.bits, IntKind.signed]; omega
        have e1 : IntKind.i64.wrap (((4 * t : Nat) : Int) + 1) = ((4 * t : Nat) : Int) + 1 := by simp [IntKind.wrap, IntKind.bits, IntKind.signed]; omega
        have e2 : IntKind.i64.wrap (((4 * t : Nat) : Int) + 2) = ((4 * t : Nat) : Int) + 2 := by simp [IntKind.wrap, IntKind.bits, IntKind.signed]; omega
        have e3 : IntKind.i64.wrap (((4 * t : Nat) : Int) + 3) = ((4 * t : Nat) : Int) + 3 := by simp [IntKind.wrap, IntKind.bits, IntKind.signed]; omega
        have b0 : ((4 * t : Nat) : Int) < 64 := by omega
        have b1 : ((4 * t : Nat) : Int) + 1 < 64 := by omega
        have b2 : ((4 * t : Nat) : Int) + 2 < 64 := by omega
        have b3 : ((4 * t : Nat) : Int) + 3 < 64 := by omega
        have d1 : 0 ≤ ((4 * t : Nat) : Int) + 1 := by omega
        have d2 : 0 ≤ ((4 * t : Nat) : Int) + 2 := by omega
        have d3 : 0 ≤ ((4 * t : Nat) : Int) + 3 := by omega
        have n2 : (((4 * t : Nat) : Int) + 2).toNat = 4 * t + 2 := by omega
        have n3 : (((4 * t : Nat) : Int) + 3).toNat = 4 * t + 3 := by omega
        have HWB := Go.Lib.hid (word_of_bytes f t)
        have u0 := wrap_byte (f (4 * t))
        have u1 := wrap_byte (f (4 * t + 1))
        have u2 := wrap_byte (f (4 * t + 2))
        have u3 := wrap_byte (f (4 * t + 3))
        have hlti : (t : Int) < 64 := by omega
        generalize ((f (4 * t)).toNat : Int) = y0 at *
        generalize ((f (4 * t + 1)).toNat : Int) = y1 at *
        generalize ((f (4 * t + 2)).toNat : Int) = y2 at *
        generalize ((f (4 * t + 3)).toNat : Int) = y3 at *
        generalize 4 * t = t4 at *
        go_upto_region 6 with (fail)
        refine wp_region_quiet_tail 31 (by kernel_rfl) (by kernel_rfl) ?_
        simp only [List.take_succ_cons, List.take_zero, List.drop_succ_cons, List.drop_zero]
        repeat (quiet_step (fail))
        refine wpQuiet_nil ?_
        intro _ hw'
        obtain ⟨q1, rfl⟩ := hw'
        have ct : (wr.drewN q1).cell? ⟨A + 1 + 1 + 1, t, none⟩ = some (.int .u32 0) := (cell_of_heap HH.out t).trans (by unfold mrow; rw [arr_get _ _ _ hlt, if_neg (by omega)])
        have ft : (wr.drewN q1).frozen? ⟨A + 1 + 1 + 1, t, none⟩ = false := frozen_of_heap HH.out t
        go_wp2_with fail
        go_roundw
        case rel =>
          refine ⟨t + 1, by omega, by go_num, ?_, ?_⟩
          · refine (heap_set (show (wr.drewN q1).heap[A + 1 + 1 + 1]? = some (.cells (arr 64 fun j => if j < t then wv (word m j) else .int .u32 0) 100) from HH.out) t _).trans ?_
            rw [HWB.out, HM.out]
            congr 2
            exact arr_congr (fun j hj => by
              by_cases e : j = t
              · subst e; rw [if_pos rfl, if_pos (by omega), word_head m j h16]
              · rw [if_neg e]
                by_cases e2 : j < t
                · rw [if_pos e2, if_pos (by omega)]
                · rw [if_neg e2, if_neg (by omega)])
          · exact Ch.setCell (S := fun k => k = A + 1 + 1 + 1) (HC.out.drewN q1) (p := ⟨A + 1 + 1 + 1, t, none⟩) (fun _ => rfl) _
        case measure => simp [intOf]; omega
      · have hcm : ∀ j, j < t → wr.cell? ⟨A + 1 + 1 + 1, j, none⟩ = some (wv (word m j)) := fun j hj => (cell_of_heap HH.out j).trans (by unfold mrow; rw [arr_get _ _ _ (by omega), if_pos hj])
        have g2 := hcm (t - 2) (by omega)
        have g7 := hcm (t - 7) (by omega)
        have g15 := hcm (t - 15) (by omega)
        have g16 := hcm (t - 16) (by omega)
        have e2 : IntKind.i64.wrap ((t : Int) - 2) = ((t - 2 : Nat) : Int) := by simp [IntKind.wrap, IntKind.bits, IntKind.signed]; omega
        have e7 : IntKind.i64.wrap ((t : Int) - 7) = ((t - 7 : Nat) : Int) := by simp [IntKind.wrap, IntKind.bits, IntKind.signed]; omega
        have e15 : IntKind.i64.wrap ((t : Int) - 15) = ((t - 15 : Nat) : Int) := by simp [IntKind.wrap, IntKind.bits, IntKind.signed]; omega
        have e16 : IntKind.i64.wrap ((t : Int) - 16) = ((t - 16 : Nat) : Int) := by simp [IntKind.wrap, IntKind.bits, IntKind.signed]; omega
        have b2 : ((t - 2 : Nat) : Int) < 64 := by omega
        have b7 : ((t - 7 : Nat) : Int) < 64 := by omega
        have b15 : ((t - 15 : Nat) : Int) < 64 := by omega
        have b16 : ((t - 16 : Nat) : Int) < 64 := by omega
        have hlti : (t : Int) < 64 := by omega
        have HW := Go.Lib.hid (word_rec m t (by omega))
        have HN := Go.Lib.hid (fun W => near_any (word m (t - 2)) W)
        have HF := Go.Lib.hid (fun W => far_any (word m (t - 15)) W)
        clear hcm
        generalize word m (t - 2) = x2 at *
        generalize word m (t - 7) = x7 at *
        generalize word m (t - 15) = x15 at *
        generalize word m (t - 16) = x16 at *
        generalize t - 2 = t2 at *
        generalize t - 7 = t7 at *
        generalize t - 15 = t15 at *
        generalize t - 16 = t16 at *
        go_upto_region 7 with (fail)
        refine wp_region_quiet_tail 22 (by kernel_rfl) (by kernel_rfl) ?_
        simp only [List.take_succ_cons, List.take_zero, List.drop_succ_cons, List.drop_zero]
        repeat (quiet_step (first | (go_at_call 50; (with_reducible exact Calls.quiet_of_same (HN.out _))) | (go_at_call 50; (with_reducible exact Calls.quiet_of_same (HF.out _)))))
        refine wpQuiet_nil ?_
        intro _ hw'
        obtain ⟨q1, rfl⟩ := hw'
        have ct : (wr.drewN q1).cell? ⟨A + 1 + 1 + 1, t, none⟩ = some (.int .u32 0) := (cell_of_heap HH.out t).trans (by unfold mrow; rw [arr_get _ _ _ hlt, if_neg (by omega)])
        have ft : (wr.drewN q1).frozen? ⟨A + 1 + 1 + 1, t, none⟩ = false := frozen_of_heap HH.out t
        go_wp2_with fail
        go_roundw
        case rel =>
          refine ⟨t + 1, by omega, by go_num, ?_, ?_⟩
          · refine (heap_set (show (wr.drewN q1).heap[A + 1 + 1 + 1]? = some (.cells (arr 64 fun j => if j < t then wv (word m j) else .int .u32 0) 100) from HH.out) t _).trans ?_
            rw [HW.out]
            congr 2
            exact arr_congr (fun j hj => by
              by_cases e : j = t
              · subst e; rw [if_pos rfl, if_pos (by omega)]
              · rw [if_neg e]
                by_cases e2 : j < t
                · rw [if_pos e2, if_pos (by omega)]
                · rw [if_neg e2, if_neg (by omega)])
          · exact Ch.setCell (S := fun k => k = A + 1 + 1 + 1) (HC.out.drewN q1) (p := ⟨A + 1 + 1 + 1, t, none⟩) (fun _ => rfl) _
        case measure => simp [intOf]; omega
    · obtain rfl : t = 64 := by omega
      clear hlt
      have HKA := Go.Lib.hid (fun W => k_any W)
      generalize hkk : (arr 64 fun t => wv (kt t)) = kk at *
      have hks : kk.size = 64 := by rw [← hkk, arr_size]
      have hka : kk.all (·.oneCell') = true := by rw [← hkk]; exact arr_all _ _ (fun i _ => rfl)
      have HKK := Go.Lib.hid (fun t (ht : t < 64) => (show kk[t]? = some (wv (kt t)) by rw [← hkk]; exact arr_get _ _ _ ht))
      have HKS := Go.Lib.hid hks; have HKL := Go.Lib.hid hka
      clear hkk hks hka
      go_wp2_with fail
      refine (HKA.out _).mono ?_; rintro e w1 ⟨rfl, hw1⟩; have HC1 := Go.Lib.hid hw1; clear hw1
      go_upto_region 9 with (refine wpList_store_row rfl 100 (.tmp 7) (.tmp 73) rfl w1.heap.size kk rfl rfl 100 (arr 64 fun _ => .int .u32 0) (World.alloc_heap_new w1 _) (by rw [HKS.out]; exact info69) (by rw [arr_size, HKS.out]) HKL.out ?_)
      have hA1 : w1.heap[A]? = some (.cells #[wv s.a, wv s.b, wv s.c, wv s.d, wv s.e, wv s.f, wv s.g, wv s.h] 81) := HC1.out.heap (HC.out.heap HG0.out (by omega)) id
      have hR1 : w1.heap[A + 1 + 1]? = some (.cells #[.int .u32 0, .int .u32 0, .int .u32 0, .int .u32 0, .int .u32 0, .int .u32 0, .int .u32 0, .int .u32 0] 81) := HC1.out.heap (HC.out.heap HG2.out (by omega)) id
      have hM1 : w1.heap[A + 1 + 1 + 1]? = some (.cells (mrow m 64) 100) := HC1.out.heap HH.out id
      have hcw1 : Ch (fun _ => False) w w1 := (HC0.out.then HC.out (fun i hi h => by have := HWA.out; omega)).trans HC1.out
      have hsz1 : A + 4 ≤ w1.heap.size := by have := HS0.out; have := HC.out.size; have := HC1.out.size; omega
      generalize hW2 : (w1.alloc _).setRow w1.heap.size kk = W2
      have hK2 : W2.heap[w1.heap.size]? = some (.cells kk 100) := by rw [← hW2]; exact heap_setRow (World.alloc_heap_new w1 _)
      have hc2 : Ch (fun _ => False) w1 W2 := by rw [← hW2]; exact ((Ch.refl _ _).alloc _).setRow (fun h => absurd h (Nat.lt_irrefl _)) _
      have HA2 := Go.Lib.hid (hc2.heap hA1 id); have HR2 := Go.Lib.hid (hc2.heap hR1 id); have HM2 := Go.Lib.hid (hc2.heap hM1 id); have HK2 := Go.Lib.hid hK2
      have HCW2 := Go.Lib.hid (hcw1.trans hc2)
      have hsz2 : A + 4 ≤ w1.heap.size ∧ w1.heap.size < W2.heap.size := ⟨hsz1, (Array.getElem?_eq_some_iff.1 hK2).1⟩
      have HSZ2 := Go.Lib.hid hsz2
      clear hW2 hK2 hc2 hA1 hR1 hM1 hcw1 hsz1 hsz2 HG0 HG1 HG2 HG3 HC0 HS0 HC HH HC1
      generalize w1.heap.size = K at *
      go_upto_region 10 with (first | (refine wpList_load_row rfl 81 (.tmp 2) rfl A rfl 81 _ (0, 0) _ HA2.out Tryd.underlying81 rfl info26 ?_) | (refine wpList_store_row rfl 81 (.tmp 8) (.tmp 74) rfl W2.heap.size #[wv s.a, wv s.b, wv s.c, wv s.d, wv s.e, wv s.f, wv s.g, wv s.h] rfl rfl 81 #[.int .u32 0, .int .u32 0, .int .u32 0, .int .u32 0, .int .u32 0, .int .u32 0, .int .u32 0, .int .u32 0] (World.alloc_heap_new W2 _) info26 rfl (by simp [Value.oneCell']) ?_))
      generalize hW3 : (W2.alloc _).setRow W2.heap.size _ = W3
      have hX3 : W3.heap[W2.heap.size]? = some (.cells s.cells 81) := by rw [← hW3]; exact heap_setRow (World.alloc_heap_new W2 _)
      have hc3 : Ch (fun _ => False) W2 W3 := by rw [← hW3]; exact ((Ch.refl _ _).alloc _).setRow (fun h => absurd h (Nat.lt_irrefl _)) _
      have HA3 := Go.Lib.hid (hc3.heap HA2.out id); have HR3 := Go.Lib.hid (hc3.heap HR2.out id); have HM3 := Go.Lib.hid (hc3.heap HM2.out id); have HK3 := Go.Lib.hid (hc3.heap HK2.out id); have HX3 := Go.Lib.hid hX3
      have HCW3 := Go.Lib.hid (HCW2.out.trans hc3)
      clear hW3 hX3 hc3 HA2 HR2 HM2 HK2 HCW2 HKA
      have hsz3 : A + 4 ≤ K ∧ K < W2.heap.size := HSZ2.out
      generalize W2.heap.size = X at *
      have HSZ3 := Go.Lib.hid hsz3
      clear hsz3 HSZ2
      go_wp2_with fail
      go_loopw [9, 10, 11] (fun i _ _ wr => ∃ t : Nat, t ≤ 64 ∧ i = .int .i64 t ∧ wr.heap[X]? = some (.cells (turns kt m s t).cells 81) ∧ Ch (fun k => k = X) W3 wr) (fun i _ _ _ => 64 - (intOf i).toNat)
      case atStart => exact ⟨0, by omega, rfl, HX3.out, Ch.refl _ _⟩
      case round =>
        obtain ⟨t, ht, hi9, hh, hC⟩ := hrel
        have HH := Go.Lib.hid hh; have HC := Go.Lib.hid hC
        clear hh hC
        by_cases hlt : t < 64
        · subst hi9
          have hk := (cell_of_heap (HC.out.heap HK3.out (by have := HSZ3.out; omega)) t).trans (HKK.out t hlt)
          have hmw : wr.cell? ⟨A + 1 + 1 + 1, t, none⟩ = some (wv (word m t)) := (cell_of_heap (HC.out.heap HM3.out (by have := HSZ3.out; omega)) t).trans (by unfold mrow; rw [arr_get _ _ _ hlt, if_pos hlt])
          have HT := Go.Lib.hid (show turns kt m s (t + 1) = turn (turns kt m s t) (kt t) (word m t) from rfl)
          generalize turns kt m s t = T at *
          generalize kt t = k at *
          generalize word m t = mt at *
          have c0 : wr.cell? ⟨X, 0, none⟩ = some (wv T.a) := cell_of_heap HH.out 0
          have c1 : wr.cell? ⟨X, 1, none⟩ = some (wv T.b) := cell_of_heap HH.out 1
          have c2 : wr.cell? ⟨X, 2, none⟩ = some (wv T.c) := cell_of_heap HH.out 2
          have c3 : wr.cell? ⟨X, 3, none⟩ = some (wv T.d) := cell_of_heap HH.out 3
          have c4 : wr.cell? ⟨X, 4, none⟩ = some (wv T.e) := cell_of_heap HH.out 4
          have c5 : wr.cell? ⟨X, 5, none⟩ = some (wv T.f) := cell_of_heap HH.out 5
          have c6 : wr.cell? ⟨X, 6, none⟩ = some (wv T.g) := cell_of_heap HH.out 6
          have c7 : wr.cell? ⟨X, 7, none⟩ = some (wv T.h) := cell_of_heap HH.out 7
          have HS1 := Go.Lib.hid (fun W => S1_any T.e W)
          have HS0 := Go.Lib.hid (fun W => S0_any T.a W)
          have HP := Go.Lib.hid (fun W => picked_any T.e T.f T.g W)
          have HJ := Go.Lib.hid (fun W => most_any T.a T.b T.c W)
          have HTE := Go.Lib.hid (HT.out.trans (turn_eq T k mt))
          generalize sx T.e [6, 11, 25] = s1 at *
          generalize sx T.a [2, 13, 22] = s0 at *
          generalize pick T.e T.f T.g = pk at *
          generalize maj T.a T.b T.c = mj at *
          have hlti : (t : Int) < 64 := by omega
          go_upto_region 13 with (fail)
          go_quiet (first | (go_at_call 52; (with_reducible exact Calls.quiet_of_same (HS1.out _))) | (go_at_call 53; (with_reducible exact Calls.quiet_of_same (HP.out _))))
          generalize hwq : wr.drewN nq = wq
          have HHq := Go.Lib.hid (show wq.heap[X]? = some (.cells T.cells 81) by rw [← hwq]; exact HH.out)
          have HCq := Go.Lib.hid (show Ch (fun k => k = X) W3 wq by rw [← hwq]; exact HC.out.drewN nq)
          clear hwq c0 c1 c2 c3 c4 c5 c6 c7 hk hmw
          clear HH HC
          have c0 : wq.cell? ⟨X, 0, none⟩ = some (wv T.a) := cell_of_heap HHq.out 0
          have c1 : wq.cell? ⟨X, 1, none⟩ = some (wv T.b) := cell_of_heap HHq.out 1
          have c2 : wq.cell? ⟨X, 2, none⟩ = some (wv T.c) := cell_of_heap HHq.out 2
          go_upto_region 14 with (fail)
          refine wp_region_quiet_lit (by kernel_rfl) (by kernel_rfl) ?_
          repeat (quiet_step (first | (go_at_call 52; (with_reducible exact Calls.quiet_of_same (HS0.out _))) | (go_at_call 54; (with_reducible exact Calls.quiet_of_same (HJ.out _)))))
          refine wpQuiet_nil ?_
          intro _ hw'
          obtain ⟨n2, rfl⟩ := hw'
          generalize hwq2 : wq.drewN n2 = wp
          have HHp := Go.Lib.hid (show wp.heap[X]? = some (.cells T.cells 81) by rw [← hwq2]; exact HHq.out)
          have HCp := Go.Lib.hid (show Ch (fun k => k = X) W3 wp by rw [← hwq2]; exact HCq.out.drewN n2)
          clear hwq2 c0 c1 c2 HHq HCq
          have c0 : wp.cell? ⟨X, 0, none⟩ = some (wv T.a) := cell_of_heap HHp.out 0
          have c1 : wp.cell? ⟨X, 1, none⟩ = some (wv T.b) := cell_of_heap HHp.out 1
          have c2 : wp.cell? ⟨X, 2, none⟩ = some (wv T.c) := cell_of_heap HHp.out 2
          have c3 : wp.cell? ⟨X, 3, none⟩ = some (wv T.d) := cell_of_heap HHp.out 3
          have c4 : wp.cell? ⟨X, 4, none⟩ = some (wv T.e) := cell_of_heap HHp.out 4
          have c5 : wp.cell? ⟨X, 5, none⟩ = some (wv T.f) := cell_of_heap HHp.out 5
          have c6 : wp.cell? ⟨X, 6, none⟩ = some (wv T.g) := cell_of_heap HHp.out 6
          generalize hT' : (⟨T.h + s1 + pk + k + mt + (s0 + mj), T.a, T.b, T.c, T.d + (T.h + s1 + pk + k + mt), T.e, T.f, T.g⟩ : St) = T' at *
          have HT' := Go.Lib.hid hT'
          have HCL := Go.Lib.hid (show #[wv (T.h + s1 + pk + k + mt + (s0 + mj)), wv T.a, wv T.b, wv T.c, wv (T.d + (T.h + s1 + pk + k + mt)), wv T.e, wv T.f, wv T.g] = T'.cells by rw [← hT']; rfl)
          clear hT'
          go_wp2_with (refine wpList_store_row rfl 81 (.tmp 8) (.tmp 131) rfl X #[wv (T.h + s1 + pk + k + mt + (s0 + mj)), wv T.a, wv T.b, wv T.c, wv (T.d + (T.h + s1 + pk + k + mt)), wv T.e, wv T.f, wv T.g] rfl rfl 81 T.cells HHp.out info26 rfl (by simp [Value.oneCell']) ?_)
          go_roundw
          case rel =>
            refine ⟨t + 1, by omega, by go_num, ?_, HCp.out.setRow (fun _ => rfl) _⟩
            rw [HTE.out, ← HCL.out]
            exact heap_setRow HHp.out
          case measure => simp [intOf]; omega
        · obtain rfl : t = 64 := by omega
          simp only [Int.cast_ofNat_Int] at hi9
          subst hi9
          generalize hTf : turns kt m s 64 = T at *
          have HTf := Go.Lib.hid hTf
          clear hTf hlt
          go_wp2_with fail
          go_loopw [12] (fun i wz => ∃ t : Nat, t ≤ 8 ∧ i = .int .i64 t ∧ wz.heap[X]? = some (.cells (xrow s T t) 81) ∧ Ch (fun k => k = X) W3 wz) (fun i _ => 8 - (intOf i).toNat)
          case atStart => exact ⟨0, by omega, rfl, by rw [xrow_zero]; exact HH.out, HC.out⟩
          case round =>
            obtain ⟨t, ht, rfl, hh, hC⟩ := hrel
            have HHz := Go.Lib.hid hh; have HCz := Go.Lib.hid hC
            clear hh hC
            by_cases hlt : t < 8
            · have cx : wr.cell? ⟨X, t, none⟩ = some (wv (T.word t)) := (cell_of_heap HHz.out t).trans (by unfold xrow; rw [arr_get _ _ _ hlt, if_neg (by omega)])
              have ca : wr.cell? ⟨A, t, none⟩ = some (wv (s.word t)) := (cell_of_heap (HCz.out.heap HA3.out (by have := HSZ3.out; omega)) t).trans (by
                show s.cells[t]? = _
                rw [cells_arr, arr_get _ _ _ hlt])
              have hlti : (t : Int) < 8 := by omega
              go_upto_region 19 with (fail)
              refine wp_region_quiet_tail 9 (by kernel_rfl) (by kernel_rfl) ?_
              simp only [List.take_succ_cons, List.take_zero, List.drop_succ_cons, List.drop_zero]
              repeat (quiet_step (fail))
              refine wpQuiet_nil ?_
              intro _ hw'
              obtain ⟨q1, rfl⟩ := hw'
              have ft : (wr.drewN q1).frozen? ⟨X, t, none⟩ = false := frozen_of_heap HHz.out t
              go_wp2_with fail
              go_roundw
              case rel =>
                refine ⟨t + 1, by omega, by go_num, ?_, ?_⟩
                · refine (heap_set (show (wr.drewN q1).heap[X]? = some (.cells (arr 8 fun j => if j < t then wv (T.word j + s.word j) else wv (T.word j)) 81) from HHz.out) t _).trans ?_
                  congr 2
                  exact arr_congr (fun j hj => by
                    by_cases e : j = t
                    · subst e; rw [if_pos rfl, if_pos (by omega)]
                    · rw [if_neg e]
                      by_cases e2 : j < t
                      · rw [if_pos e2, if_pos (by omega)]
                      · rw [if_neg e2, if_neg (by omega)])
                · exact Ch.setCell (S := fun k => k = X) (HCz.out.drewN q1) (p := ⟨X, t, none⟩) (fun _ => rfl) _
              case measure => simp [intOf]; omega
            · obtain rfl : t = 8 := by omega
              have hx : wr.heap[X]? = some (.cells (s.plus T).cells 81) := by rw [← xrow_all]; exact HHz.out
              have HX := Go.Lib.hid hx
              have hr : wr.heap[A + 1 + 1]? = some (.cells #[.int .u32 0, .int .u32 0, .int .u32 0, .int .u32 0, .int .u32 0, .int .u32 0, .int .u32 0, .int .u32 0] 81) := HCz.out.heap HR3.out (by have := HSZ3.out; omega)
              have HR := Go.Lib.hid hr
              have hch : Ch (fun _ => False) w wr := HCW3.out.then HCz.out (fun i hi h => by have := HWA.out; have := HSZ3.out; omega)
              have HCH := Go.Lib.hid hch
              have HPE := Go.Lib.hid (show press1 s (wordOf f 0) = s.plus T by rw [HM.out]; unfold press1; rw [HTf.out])
              clear hx hr hch hlt
              generalize s.plus T = P at *
              have HP1 := Go.Lib.hid (show (Tryd.prog.info? 81).map (·.size) = some P.cells.size from info26)
              have HP2 := Go.Lib.hid (show P.cells.size = 8 from rfl)
              have HP3 := Go.Lib.hid (st_cells_all P)
              have HP4 := Go.Lib.hid (show Value.agg P.cells = .agg #[wv P.a, wv P.b, wv P.c, wv P.d, wv P.e, wv P.f, wv P.g, wv P.h] from rfl)
              generalize P.cells = pc at *
              go_wp2_with (first | (refine wpList_load_row rfl 81 (.tmp 8) rfl X rfl 81 pc (0, 0) _ HX.out Tryd.underlying81 rfl HP1.out ?_) | (refine wpList_store_row rfl 81 (.tmp 4) (.tmp 145) rfl (A + 1 + 1) pc rfl rfl 81 #[.int .u32 0, .int .u32 0, .int .u32 0, .int .u32 0, .int .u32 0, .int .u32 0, .int .u32 0, .int .u32 0] HR.out HP1.out HP2.out.symm HP3.out ?_))
              refine bodyPost_ret (results_cell_row (h := Tryd.results37) _ _ (A + 1 + 1) 81 pc (0, 0) _ rfl (heap_setRow HR.out) Tryd.underlying81 rfl HP1.out) rfl ⟨?_, ?_⟩
              · rw [HPE.out, HP4.out]
              · exact HCH.out.setRow (fun h => by have := HWA.out; omega) _
end Go.Proofs.YtikdpiedjkailaaDoor
