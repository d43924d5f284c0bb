/- CrcPlaces: the function. -/
import Derived.Test.YthbpfgcgfhlmnaaT20
import Derived.Test.YthbpfgcgfhlmnaaRegP
namespace Go.Proofs.Ythbpfgcgfhlmnaa
open Go Go.RowKit
attribute [local go_sem high] b_add b_xor b_and b_or b_shr b_shl not32 wrap_un beq32 neg32 b_turn lowB_wrap

set_option maxRecDepth 100000 in
set_option maxHeartbeats 4000000 in
theorem places_in (q0 q1 q2 q3 : Option Addr) (n0 n1 n2 n3 c0 c1 c2 c3 : Nat) (f0 f1 f2 f3 : Nat → UInt8) (w : World)
    (hb0 : BytesAt w q0 n0 c0 f0) (hb1 : BytesAt w q1 n1 c1 f1) (hb2 : BytesAt w q2 n2 c2 f2) (hb3 : BytesAt w q3 n3 c3 f3)
    (hc1 : n1 ≤ c1) (hc2 : n2 ≤ c2) (h0 : n0 ≤ 200) (h1 : n1 ≤ 200) (h2 : n2 ≤ 200) (h3 : n3 ≤ 200) :
    Calls Try.prog 8 #[.slice q0 n0 c0, .slice q1 n1 c1, .slice q2 n2 c2, .slice q3 n3 c3] w fun e w' => e = .returned (.bool true) ∧ Ch (fun _ => False) w w' := by
  obtain ⟨ti, hi, hz0, hz1, hz2⟩ := info_parts info5
  have hmin : (if n2 < n1 then (n2 : Int) else (n1 : Int)) = ((min n1 n2 : Nat) : Int) := by split <;> omega
  have hm1 : min n1 n2 ≤ n1 := Nat.min_le_left _ _
  have hm2 : min n1 n2 ≤ n2 := Nat.min_le_right _ _
  generalize min n1 n2 = n at *
  have HB0 := Go.Lib.hid hb0; have HB3 := Go.Lib.hid hb3
  have HB1 := Go.Lib.hid (hb1.short hm1); have HB2 := Go.Lib.hid (hb2.short hm2)
  have HS1 := Go.Lib.hid (fun w => slice_to q1 n1 c1 n (by omega) w)
  have HS2 := Go.Lib.hid (fun w => slice_to q2 n2 c2 n (by omega) w)
  have HX1 := Go.Lib.hid (fun g w' (hc : Ch (fun _ => False) w w') (hh : w'.heap[g]? = some (.cells #[.slice q0 n0 c0, .slice q1 n c1, .slice q3 n3 c3] 24)) => sum3 g q0 q1 q3 n0 c0 n c1 n3 c3 f0 f1 f3 w' (cell_of_heap hh 0) (cell_of_heap hh 1) (cell_of_heap hh 2) (HB0.out.ch hc (fun _ _ h => h)) (HB1.out.ch hc (fun _ _ h => h)) (HB3.out.ch hc (fun _ _ h => h)) (by omega) (by omega) (by omega))
  have HX2 := Go.Lib.hid (fun g w' (hc : Ch (fun _ => False) w w') (hh : w'.heap[g]? = some (.cells #[.slice q1 n c1] 24)) => sum1 g q1 n c1 f1 w' (cell_of_heap hh 0) (HB1.out.ch hc (fun _ _ h => h)) (by omega))
  have HX3 := Go.Lib.hid (fun g w' (hc : Ch (fun _ => False) w w') (hh : w'.heap[g]? = some (.cells #[.slice q2 n c2] 24)) => sum1 g q2 n c2 f2 w' (cell_of_heap hh 0) (HB2.out.ch hc (fun _ _ h => h)) (by omega))
  have HX4 := Go.Lib.hid (fun g w' (hc : Ch (fun _ => False) w w') (hh : w'.heap[g]? = some (.cells #[.slice q0 n0 c0] 24)) => sum1 g q0 n0 c0 f0 w' (cell_of_heap hh 0) (HB0.out.ch hc (fun _ _ h => h)) (by omega))
  have HX5 := Go.Lib.hid (fun g w' (hc : Ch (fun _ => False) w w') (hh : w'.heap[g]? = some (.cells #[.slice q0 n0 c0, .slice q2 n c2, .slice q3 n3 c3] 24)) => sum3 g q0 q2 q3 n0 c0 n c2 n3 c3 f0 f2 f3 w' (cell_of_heap hh 0) (cell_of_heap hh 1) (cell_of_heap hh 2) (HB0.out.ch hc (fun _ _ h => h)) (HB2.out.ch hc (fun _ _ h => h)) (HB3.out.ch hc (fun _ _ h => h)) (by omega) (by omega) (by omega))
  have HX6 := Go.Lib.hid (fun g z w' (hc : Ch (fun _ => False) w w') (hh : w'.heap[g]? = some (.cells #[.slice q0 n0 c0, .slice (some ⟨z, 0, none⟩) n n] 24)) (hz : w'.heap[z]? = some (.cells (Go.madeCells #[.int .u8 0] n) 5)) => sum2 g q0 (some ⟨z, 0, none⟩) n0 c0 n n f0 (fun _ => 0) w' (cell_of_heap hh 0) (cell_of_heap hh 1) (HB0.out.ch hc (fun _ _ h => h)) (zero_bytes hz) (by omega) (by omega))
  have HZ := Go.Lib.hid (fun w' => patch_in (~~~(cw (cw (cw1 f0 n0) f1 n) f3 n3)) (~~~(cw1 f1 n)) (~~~(cw1 f2 n)) n3 (by omega) w')
  rw [patch_math] at HZ
  have HY := Go.Lib.hid (fun w' => noughts_in (~~~(cw1 f0 n0)) n (by omega) w')
  rw [BitVec.not_not, show far0 (cw1 f0 n0) n = cw (cw1 f0 n0) (fun _ => 0) n from (cw_zero _ _).symm] at HY
  generalize ~~~(cw (cw (cw1 f0 n0) f1 n) f3 n3) = X1 at *
  generalize ~~~(cw (cw (cw1 f0 n0) f2 n) f3 n3) = Z at *
  generalize ~~~(cw1 f1 n) = X2 at *
  generalize ~~~(cw1 f2 n) = X3 at *
  generalize ~~~(cw1 f0 n0) = X4 at *
  generalize ~~~(cw (cw1 f0 n0) (fun _ => 0) n) = Y at *
  have i0 : (n0 : Int) ≤ 200 := by omega
  have i1 : (n1 : Int) ≤ 200 := by omega
  have i2 : (n2 : Int) ≤ 200 := by omega
  have i3 : (n3 : Int) ≤ 200 := by omega
  clear hb0 hb1 hb2 hb3
  go_enter Try.func8, Try.ntmps8
  go_upto_region 4 with (fail)
  refine wp_region_any (by kernel_rfl) ?_
  generalize hwx : ({ w with drawn := w.drawn + 1 } : World) = wx
  have HWX := Go.Lib.hid (show Ch (fun _ => False) w wx by rw [← hwx]; exact (Ch.refl _ _).drew)
  clear hwx
  generalize hax : Act.mk _ _ = ax
  have HSZ := Go.Lib.hid (show ax.tmps.size = 98 by rw [← hax]; rfl)
  have F0 := Go.Lib.hid (show gt ax 0 = .slice q0 n0 c0 by rw [← hax]; rfl)
  have F1 := Go.Lib.hid (show gt ax 1 = .slice q1 n1 c1 by rw [← hax]; rfl)
  have F2 := Go.Lib.hid (show gt ax 2 = .slice q2 n2 c2 by rw [← hax]; rfl)
  have F3 := Go.Lib.hid (show gt ax 3 = .slice q3 n3 c3 by rw [← hax]; rfl)
  have F9 := Go.Lib.hid (show gt ax 9 = .int .i64 (n : Int) by rw [← hax]; rfl)
  have HAX := Go.Lib.hid hax
  clear hax
  have HND := Go.Lib.hid (show ([39, 40, 41, 42, 43, 44, 45, 46, 47, 48, 49, 50, 51, 52, 53, 54, 55, 56, 57, 58, 38, 59, 60, 10, 11] : List Nat).Nodup by decide)
  have HLS : Hid (Lasts [(39, fun x _ => x = .slice q0 n0 c0), (40, fun x _ => x = .slice q1 n1 c1), (41, fun x _ => x = .int .i64 (n : Int)), (42, fun x _ => x = .slice q1 n c1), (43, fun x _ => x = .slice q3 n3 c3), (44, fun x v => ∃ g, x = .slice (some ⟨g, 0, none⟩) 3 3 ∧ v.heap[g]? = some (.cells #[.slice q0 n0 c0, .slice q1 n c1, .slice q3 n3 c3] 24)), (45, fun x _ => x = .int .u32 (un X1)), (46, fun x _ => x = .slice q1 n1 c1), (47, fun x _ => x = .int .i64 (n : Int)), (48, fun x _ => x = .slice q1 n c1), (49, fun x v => ∃ g, x = .slice (some ⟨g, 0, none⟩) 1 1 ∧ v.heap[g]? = some (.cells #[.slice q1 n c1] 24)), (50, fun x _ => x = .int .u32 (un X2)), (51, fun x _ => x = .slice q2 n2 c2), (52, fun x _ => x = .int .i64 (n : Int)), (53, fun x _ => x = .slice q2 n c2), (54, fun x v => ∃ g, x = .slice (some ⟨g, 0, none⟩) 1 1 ∧ v.heap[g]? = some (.cells #[.slice q2 n c2] 24)), (55, fun x _ => x = .int .u32 (un X3)), (56, fun x _ => x = .slice q3 n3 c3), (57, fun x _ => x = .int .i64 (n3 : Int)), (58, fun x _ => x = .tuple #[.int .u32 (un Z), .int .i64 0]), (38, fun x _ => x = .tuple #[.int .u32 (un Z), .int .i64 0]), (59, fun x _ => x = .int .u32 (un Z)), (60, fun x _ => x = .int .i64 0), (10, fun x _ => x = .int .u32 (un Z)), (11, fun x _ => x = .int .i64 0)]) := Go.Lib.hid (by
    intro p hp v w1 w2 hc h
    simp only [List.mem_cons, List.not_mem_nil, or_false] at hp
    rcases hp with rfl | rfl | rfl | rfl | rfl | rfl | rfl | rfl | rfl | rfl | rfl | rfl | rfl | rfl | rfl | rfl | rfl | rfl | rfl | rfl | rfl | rfl | rfl | rfl | rfl
    all_goals first | exact h | (obtain ⟨g, h1, h2⟩ := h; exact ⟨g, h1, hc.heap h2 id⟩) | (obtain ⟨g, c, h1, h2⟩ := h; exact ⟨g, c, h1, h2.ch hc (fun _ _ h => h)⟩))
  refine wpAny_inv (InvP 98 [(39, fun x _ => x = .slice q0 n0 c0), (40, fun x _ => x = .slice q1 n1 c1), (41, fun x _ => x = .int .i64 (n : Int)), (42, fun x _ => x = .slice q1 n c1), (43, fun x _ => x = .slice q3 n3 c3), (44, fun x v => ∃ g, x = .slice (some ⟨g, 0, none⟩) 3 3 ∧ v.heap[g]? = some (.cells #[.slice q0 n0 c0, .slice q1 n c1, .slice q3 n3 c3] 24)), (45, fun x _ => x = .int .u32 (un X1)), (46, fun x _ => x = .slice q1 n1 c1), (47, fun x _ => x = .int .i64 (n : Int)), (48, fun x _ => x = .slice q1 n c1), (49, fun x v => ∃ g, x = .slice (some ⟨g, 0, none⟩) 1 1 ∧ v.heap[g]? = some (.cells #[.slice q1 n c1] 24)), (50, fun x _ => x = .int .u32 (un X2)), (51, fun x _ => x = .slice q2 n2 c2), (52, fun x _ => x = .int .i64 (n : Int)), (53, fun x _ => x = .slice q2 n c2), (54, fun x v => ∃ g, x = .slice (some ⟨g, 0, none⟩) 1 1 ∧ v.heap[g]? = some (.cells #[.slice q2 n c2] 24)), (55, fun x _ => x = .int .u32 (un X3)), (56, fun x _ => x = .slice q3 n3 c3), (57, fun x _ => x = .int .i64 (n3 : Int)), (58, fun x _ => x = .tuple #[.int .u32 (un Z), .int .i64 0]), (38, fun x _ => x = .tuple #[.int .u32 (un Z), .int .i64 0]), (59, fun x _ => x = .int .u32 (un Z)), (60, fun x _ => x = .int .i64 0), (10, fun x _ => x = .int .u32 (un Z)), (11, fun x _ => x = .int .i64 0)] (fun _ w' => Ch (fun _ => False) wx w') ax) ?_ ?_ _ _ _ _ rfl (by decide) (InvP.start rfl HSZ.out (Ch.refl _ _))
  · intro L a w' i hI hr
    obtain ⟨h1, o, ho, hall⟩ := mem_ready.1 hr
    have hlt : i < 25 := (Array.getElem?_eq_some_iff.1 ho).1
    have hsplit : i = 0 ∨ i = 1 ∨ i = 2 ∨ i = 3 ∨ i = 4 ∨ i = 5 ∨ i = 6 ∨ i = 7 ∨ i = 8 ∨ i = 9 ∨ i = 10 ∨ i = 11 ∨ i = 12 ∨ i = 13 ∨ i = 14 ∨ i = 15 ∨ i = 16 ∨ i = 17 ∨ i = 18 ∨ i = 19 ∨ i = 20 ∨ i = 21 ∨ i = 22 ∨ i = 23 ∨ i = 24 := by omega
    clear hlt h1 hr
    rcases hsplit with rfl | rfl | rfl | rfl | rfl | rfl | rfl | rfl | rfl | rfl | rfl | rfl | rfl | rfl | rfl | rfl | rfl | rfl | rfl | rfl | rfl | rfl | rfl | rfl | rfl
    · have q0 := (hI.fixed 0 (by simp)).trans F0.out
      unfold gt at q0
      clear hall
      refine wpOp_step (o := _) rfl (fun K' hK' => ?_)
      go_simp
      exact hK' _ _ (hI.put 0 rfl (by decide) HND.out HLS.out  (Ch.refl _ _) rfl hI.wld)
    · have q1 := (hI.fixed 1 (by simp)).trans F1.out
      unfold gt at q1
      clear hall
      refine wpOp_step (o := _) rfl (fun K' hK' => ?_)
      go_simp
      exact hK' _ _ (hI.put 1 rfl (by decide) HND.out HLS.out  (Ch.refl _ _) rfl hI.wld)
    · have q9 := (hI.fixed 9 (by simp)).trans F9.out
      unfold gt at q9
      clear hall
      refine wpOp_step (o := _) rfl (fun K' hK' => ?_)
      go_simp
      exact hK' _ _ (hI.put 2 rfl (by decide) HND.out HLS.out  (Ch.refl _ _) rfl hI.wld)
    · simp at ho
      have e1 : lg L 1 = true := by unfold lg; simpa using hall ⟨1, .data⟩ (by rw [← ho]; simp) rfl
      have f1 : gt a 40 = .slice q1 n1 c1 := hI.val 1 _ rfl e1
      have e2 : lg L 2 = true := by unfold lg; simpa using hall ⟨2, .data⟩ (by rw [← ho]; simp) rfl
      have f2 : gt a 41 = .int .i64 (n : Int) := hI.val 2 _ rfl e2
      have hsl := HS1.out w'
      unfold gt at f1 f2
      clear hall
      clear ho
      refine wpOp_step (o := _) rfl (fun K' hK' => ?_)
      go_simp
      exact hK' _ _ (hI.put 3 rfl (by decide) HND.out HLS.out  (Ch.refl _ _) rfl hI.wld)
    · have q3 := (hI.fixed 3 (by simp)).trans F3.out
      unfold gt at q3
      clear hall
      refine wpOp_step (o := _) rfl (fun K' hK' => ?_)
      go_simp
      exact hK' _ _ (hI.put 4 rfl (by decide) HND.out HLS.out  (Ch.refl _ _) rfl hI.wld)
    · simp at ho
      have e0 : lg L 0 = true := by unfold lg; simpa using hall ⟨0, .data⟩ (by rw [← ho]; simp) rfl
      have f0 : gt a 39 = .slice q0 n0 c0 := hI.val 0 _ rfl e0
      have e3 : lg L 3 = true := by unfold lg; simpa using hall ⟨3, .data⟩ (by rw [← ho]; simp) rfl
      have f3 : gt a 42 = .slice q1 n c1 := hI.val 3 _ rfl e3
      have e4 : lg L 4 = true := by unfold lg; simpa using hall ⟨4, .data⟩ (by rw [← ho]; simp) rfl
      have f4 : gt a 43 = .slice q3 n3 c3 := hI.val 4 _ rfl e4
      unfold gt at f0 f3 f4
      clear hall
      clear ho
      refine wpOp_step (o := _) rfl (fun K' hK' => ?_)
      go_simp
      exact hK' _ _ (hI.put 5 rfl (by decide) HND.out HLS.out  ((Ch.refl _ _).alloc _) ⟨_, rfl, World.alloc_heap_new w' _⟩ (hI.wld.alloc _))
    · simp at ho
      have e5 : lg L 5 = true := by unfold lg; simpa using hall ⟨5, .data⟩ (by rw [← ho]; simp) rfl
      obtain ⟨g5, f5, hh5⟩ : ∃ g, gt a 44 = .slice (some ⟨g, 0, none⟩) 3 3 ∧ w'.heap[g]? = some (.cells #[.slice q0 n0 c0, .slice q1 n c1, .slice q3 n3 c3] 24) := hI.val 5 _ rfl e5
      unfold gt at f5
      clear hall
      clear ho
      have HCT := Go.Lib.hid (HX1.out g5 w' (HWX.out.trans hI.wld) hh5)
      refine wpOp_step (o := _) rfl (fun K' hK' => ?_)
      go_simp
      refine HCT.out.mono ?_
      rintro e w3 ⟨rfl, hc⟩
      exact hK' _ _ (hI.put 6 rfl (by decide) HND.out HLS.out  hc rfl (hI.wld.trans hc))
    · have q1 := (hI.fixed 1 (by simp)).trans F1.out
      unfold gt at q1
      clear hall
      refine wpOp_step (o := _) rfl (fun K' hK' => ?_)
      go_simp
      exact hK' _ _ (hI.put 7 rfl (by decide) HND.out HLS.out  (Ch.refl _ _) rfl hI.wld)
    · have q9 := (hI.fixed 9 (by simp)).trans F9.out
      unfold gt at q9
      clear hall
      refine wpOp_step (o := _) rfl (fun K' hK' => ?_)
      go_simp
      exact hK' _ _ (hI.put 8 rfl (by decide) HND.out HLS.out  (Ch.refl _ _) rfl hI.wld)
    · simp at ho
      have e7 : lg L 7 = true := by unfold lg; simpa using hall ⟨7, .data⟩ (by rw [← ho]; simp) rfl
      have f7 : gt a 46 = .slice q1 n1 c1 := hI.val 7 _ rfl e7
      have e8 : lg L 8 = true := by unfold lg; simpa using hall ⟨8, .data⟩ (by rw [← ho]; simp) rfl
      have f8 : gt a 47 = .int .i64 (n : Int) := hI.val 8 _ rfl e8
      have hsl := HS1.out w'
      unfold gt at f7 f8
      clear hall
      clear ho
      refine wpOp_step (o := _) rfl (fun K' hK' => ?_)
      go_simp
      exact hK' _ _ (hI.put 9 rfl (by decide) HND.out HLS.out  (Ch.refl _ _) rfl hI.wld)
    · simp at ho
      have e9 : lg L 9 = true := by unfold lg; simpa using hall ⟨9, .data⟩ (by rw [← ho]; simp) rfl
      have f9 : gt a 48 = .slice q1 n c1 := hI.val 9 _ rfl e9
      unfold gt at f9
      clear hall
      clear ho
      refine wpOp_step (o := _) rfl (fun K' hK' => ?_)
      go_simp
      exact hK' _ _ (hI.put 10 rfl (by decide) HND.out HLS.out  ((Ch.refl _ _).alloc _) ⟨_, rfl, World.alloc_heap_new w' _⟩ (hI.wld.alloc _))
    · simp at ho
      have e10 : lg L 10 = true := by unfold lg; simpa using hall ⟨10, .data⟩ (by rw [← ho]; simp) rfl
      obtain ⟨g10, f10, hh10⟩ : ∃ g, gt a 49 = .slice (some ⟨g, 0, none⟩) 1 1 ∧ w'.heap[g]? = some (.cells #[.slice q1 n c1] 24) := hI.val 10 _ rfl e10
      unfold gt at f10
      clear hall
      clear ho
      have HCT := Go.Lib.hid (HX2.out g10 w' (HWX.out.trans hI.wld) hh10)
      refine wpOp_step (o := _) rfl (fun K' hK' => ?_)
      go_simp
      refine HCT.out.mono ?_
      rintro e w3 ⟨rfl, hc⟩
      exact hK' _ _ (hI.put 11 rfl (by decide) HND.out HLS.out  hc rfl (hI.wld.trans hc))
    · have q2 := (hI.fixed 2 (by simp)).trans F2.out
      unfold gt at q2
      clear hall
      refine wpOp_step (o := _) rfl (fun K' hK' => ?_)
      go_simp
      exact hK' _ _ (hI.put 12 rfl (by decide) HND.out HLS.out  (Ch.refl _ _) rfl hI.wld)
    · have q9 := (hI.fixed 9 (by simp)).trans F9.out
      unfold gt at q9
      clear hall
      refine wpOp_step (o := _) rfl (fun K' hK' => ?_)
      go_simp
      exact hK' _ _ (hI.put 13 rfl (by decide) HND.out HLS.out  (Ch.refl _ _) rfl hI.wld)
    · simp at ho
      have e12 : lg L 12 = true := by unfold lg; simpa using hall ⟨12, .data⟩ (by rw [← ho]; simp) rfl
      have f12 : gt a 51 = .slice q2 n2 c2 := hI.val 12 _ rfl e12
      have e13 : lg L 13 = true := by unfold lg; simpa using hall ⟨13, .data⟩ (by rw [← ho]; simp) rfl
      have f13 : gt a 52 = .int .i64 (n : Int) := hI.val 13 _ rfl e13
      have hsl := HS2.out w'
      unfold gt at f12 f13
      clear hall
      clear ho
      refine wpOp_step (o := _) rfl (fun K' hK' => ?_)
      go_simp
      exact hK' _ _ (hI.put 14 rfl (by decide) HND.out HLS.out  (Ch.refl _ _) rfl hI.wld)
    · simp at ho
      have e14 : lg L 14 = true := by unfold lg; simpa using hall ⟨14, .data⟩ (by rw [← ho]; simp) rfl
      have f14 : gt a 53 = .slice q2 n c2 := hI.val 14 _ rfl e14
      unfold gt at f14
      clear hall
      clear ho
      refine wpOp_step (o := _) rfl (fun K' hK' => ?_)
      go_simp
      exact hK' _ _ (hI.put 15 rfl (by decide) HND.out HLS.out  ((Ch.refl _ _).alloc _) ⟨_, rfl, World.alloc_heap_new w' _⟩ (hI.wld.alloc _))
    · simp at ho
      have e15 : lg L 15 = true := by unfold lg; simpa using hall ⟨15, .data⟩ (by rw [← ho]; simp) rfl
      obtain ⟨g15, f15, hh15⟩ : ∃ g, gt a 54 = .slice (some ⟨g, 0, none⟩) 1 1 ∧ w'.heap[g]? = some (.cells #[.slice q2 n c2] 24) := hI.val 15 _ rfl e15
      unfold gt at f15
      clear hall
      clear ho
      have HCT := Go.Lib.hid (HX3.out g15 w' (HWX.out.trans hI.wld) hh15)
      refine wpOp_step (o := _) rfl (fun K' hK' => ?_)
      go_simp
      refine HCT.out.mono ?_
      rintro e w3 ⟨rfl, hc⟩
      exact hK' _ _ (hI.put 16 rfl (by decide) HND.out HLS.out  hc rfl (hI.wld.trans hc))
    · have q3 := (hI.fixed 3 (by simp)).trans F3.out
      unfold gt at q3
      clear hall
      refine wpOp_step (o := _) rfl (fun K' hK' => ?_)
      go_simp
      exact hK' _ _ (hI.put 17 rfl (by decide) HND.out HLS.out  (Ch.refl _ _) rfl hI.wld)
    · simp at ho
      have e17 : lg L 17 = true := by unfold lg; simpa using hall ⟨17, .data⟩ (by rw [← ho]; simp) rfl
      have f17 : gt a 56 = .slice q3 n3 c3 := hI.val 17 _ rfl e17
      unfold gt at f17
      clear hall
      clear ho
      refine wpOp_step (o := _) rfl (fun K' hK' => ?_)
      go_simp
      exact hK' _ _ (hI.put 18 rfl (by decide) HND.out HLS.out  (Ch.refl _ _) rfl hI.wld)
    · simp at ho
      have e6 : lg L 6 = true := by unfold lg; simpa using hall ⟨6, .data⟩ (by rw [← ho]; simp) rfl
      have f6 : gt a 45 = .int .u32 (un X1) := hI.val 6 _ rfl e6
      have e11 : lg L 11 = true := by unfold lg; simpa using hall ⟨11, .data⟩ (by rw [← ho]; simp) rfl
      have f11 : gt a 50 = .int .u32 (un X2) := hI.val 11 _ rfl e11
      have e16 : lg L 16 = true := by unfold lg; simpa using hall ⟨16, .data⟩ (by rw [← ho]; simp) rfl
      have f16 : gt a 55 = .int .u32 (un X3) := hI.val 16 _ rfl e16
      have e18 : lg L 18 = true := by unfold lg; simpa using hall ⟨18, .data⟩ (by rw [← ho]; simp) rfl
      have f18 : gt a 57 = .int .i64 (n3 : Int) := hI.val 18 _ rfl e18
      unfold gt at f6 f11 f16 f18
      clear hall
      clear ho
      have HCT := Go.Lib.hid (HZ.out w')
      refine wpOp_step (o := _) rfl (fun K' hK' => ?_)
      go_simp
      refine HCT.out.mono ?_
      rintro e w3 ⟨rfl, hc⟩
      exact hK' _ _ (hI.put 19 rfl (by decide) HND.out HLS.out  hc rfl (hI.wld.trans hc))
    · simp at ho
      have e19 : lg L 19 = true := by unfold lg; simpa using hall ⟨19, .data⟩ (by rw [← ho]; simp) rfl
      have f19 : gt a 58 = .tuple #[.int .u32 (un Z), .int .i64 0] := hI.val 19 _ rfl e19
      unfold gt at f19
      clear hall
      clear ho
      refine wpOp_step (o := _) rfl (fun K' hK' => ?_)
      go_simp
      exact hK' _ _ (hI.put 20 rfl (by decide) HND.out HLS.out  (Ch.refl _ _) rfl hI.wld)
    · simp at ho
      have e20 : lg L 20 = true := by unfold lg; simpa using hall ⟨20, .data⟩ (by rw [← ho]; simp) rfl
      have f20 : gt a 38 = .tuple #[.int .u32 (un Z), .int .i64 0] := hI.val 20 _ rfl e20
      unfold gt at f20
      clear hall
      clear ho
      refine wpOp_step (o := _) rfl (fun K' hK' => ?_)
      go_simp
      exact hK' _ _ (hI.put 21 rfl (by decide) HND.out HLS.out  (Ch.refl _ _) rfl hI.wld)
    · simp at ho
      have e20 : lg L 20 = true := by unfold lg; simpa using hall ⟨20, .data⟩ (by rw [← ho]; simp) rfl
      have f20 : gt a 38 = .tuple #[.int .u32 (un Z), .int .i64 0] := hI.val 20 _ rfl e20
      unfold gt at f20
      clear hall
      clear ho
      refine wpOp_step (o := _) rfl (fun K' hK' => ?_)
      go_simp
      exact hK' _ _ (hI.put 22 rfl (by decide) HND.out HLS.out  (Ch.refl _ _) rfl hI.wld)
    · simp at ho
      have e21 : lg L 21 = true := by unfold lg; simpa using hall ⟨21, .data⟩ (by rw [← ho]; simp) rfl
      have f21 : gt a 59 = .int .u32 (un Z) := hI.val 21 _ rfl e21
      unfold gt at f21
      clear hall
      clear ho
      refine wpOp_step (o := _) rfl (fun K' hK' => ?_)
      go_simp
      exact hK' _ _ (hI.put 23 rfl (by decide) HND.out HLS.out  (Ch.refl _ _) rfl hI.wld)
    · simp at ho
      have e22 : lg L 22 = true := by unfold lg; simpa using hall ⟨22, .data⟩ (by rw [← ho]; simp) rfl
      have f22 : gt a 60 = .int .i64 0 := hI.val 22 _ rfl e22
      unfold gt at f22
      clear hall
      clear ho
      refine wpOp_step (o := _) rfl (fun K' hK' => ?_)
      go_simp
      exact hK' _ _ (hI.put 24 rfl (by decide) HND.out HLS.out  (Ch.refl _ _) rfl hI.wld)
  · intro L a w' hI hr
    have hal := all_listed' (md := .any) (by kernel_rfl) hI.lsize hr
    have hfr := hI.frame HSZ.out (by simp) (fun i hi => hal i hi)
    have k0 : gt a 39 = .slice q0 n0 c0 := hI.val 0 _ rfl (hal 0 (by decide))
    have k1 : gt a 40 = .slice q1 n1 c1 := hI.val 1 _ rfl (hal 1 (by decide))
    have k2 : gt a 41 = .int .i64 (n : Int) := hI.val 2 _ rfl (hal 2 (by decide))
    have k3 : gt a 42 = .slice q1 n c1 := hI.val 3 _ rfl (hal 3 (by decide))
    have k4 : gt a 43 = .slice q3 n3 c3 := hI.val 4 _ rfl (hal 4 (by decide))
    obtain ⟨g5, k5, _⟩ : ∃ g, gt a 44 = .slice (some ⟨g, 0, none⟩) 3 3 ∧ w'.heap[g]? = some (.cells #[.slice q0 n0 c0, .slice q1 n c1, .slice q3 n3 c3] 24) := hI.val 5 _ rfl (hal 5 (by decide))
    have k6 : gt a 45 = .int .u32 (un X1) := hI.val 6 _ rfl (hal 6 (by decide))
    have k7 : gt a 46 = .slice q1 n1 c1 := hI.val 7 _ rfl (hal 7 (by decide))
    have k8 : gt a 47 = .int .i64 (n : Int) := hI.val 8 _ rfl (hal 8 (by decide))
    have k9 : gt a 48 = .slice q1 n c1 := hI.val 9 _ rfl (hal 9 (by decide))
    obtain ⟨g10, k10, _⟩ : ∃ g, gt a 49 = .slice (some ⟨g, 0, none⟩) 1 1 ∧ w'.heap[g]? = some (.cells #[.slice q1 n c1] 24) := hI.val 10 _ rfl (hal 10 (by decide))
    have k11 : gt a 50 = .int .u32 (un X2) := hI.val 11 _ rfl (hal 11 (by decide))
    have k12 : gt a 51 = .slice q2 n2 c2 := hI.val 12 _ rfl (hal 12 (by decide))
    have k13 : gt a 52 = .int .i64 (n : Int) := hI.val 13 _ rfl (hal 13 (by decide))
    have k14 : gt a 53 = .slice q2 n c2 := hI.val 14 _ rfl (hal 14 (by decide))
    obtain ⟨g15, k15, _⟩ : ∃ g, gt a 54 = .slice (some ⟨g, 0, none⟩) 1 1 ∧ w'.heap[g]? = some (.cells #[.slice q2 n c2] 24) := hI.val 15 _ rfl (hal 15 (by decide))
    have k16 : gt a 55 = .int .u32 (un X3) := hI.val 16 _ rfl (hal 16 (by decide))
    have k17 : gt a 56 = .slice q3 n3 c3 := hI.val 17 _ rfl (hal 17 (by decide))
    have k18 : gt a 57 = .int .i64 (n3 : Int) := hI.val 18 _ rfl (hal 18 (by decide))
    have k19 : gt a 58 = .tuple #[.int .u32 (un Z), .int .i64 0] := hI.val 19 _ rfl (hal 19 (by decide))
    have k20 : gt a 38 = .tuple #[.int .u32 (un Z), .int .i64 0] := hI.val 20 _ rfl (hal 20 (by decide))
    have k21 : gt a 59 = .int .u32 (un Z) := hI.val 21 _ rfl (hal 21 (by decide))
    have k22 : gt a 60 = .int .i64 0 := hI.val 22 _ rfl (hal 22 (by decide))
    have k23 : gt a 10 = .int .u32 (un Z) := hI.val 23 _ rfl (hal 23 (by decide))
    have k24 : gt a 11 = .int .i64 0 := hI.val 24 _ rfl (hal 24 (by decide))
    rw [hfr, ← HAX.out]
    have HCZ := Go.Lib.hid (HWX.out.trans hI.wld)
    simp only [List.map_cons, List.map_nil, List.foldl_cons, List.foldl_nil, k0, k1, k2, k3, k4, k5, k6, k7, k8, k9, k10, k11, k12, k13, k14, k15, k16, k17, k18, k19, k20, k21, k22, k23, k24, List.setIfInBounds_toArray, List.set_cons_succ, List.set_cons_zero]
    clear hfr hI hr hal k0 k1 k2 k3 k4 k5 k6 k7 k8 k9 k10 k11 k12 k13 k14 k15 k16 k17 k18 k19 k20 k21 k22 k23 k24
    have hs2 := HS2.out
    go_wp2_with fail
    have hh4 := World.alloc_heap_new w' (.cells #[.slice q0 n0 c0] 24)
    have hc4 := HCZ.out.alloc (.cells #[.slice q0 n0 c0] 24)
    have HW4 := Go.Lib.hid (HX4.out _ _ hc4 hh4)
    have HC4 := Go.Lib.hid hc4
    clear hh4 hc4 HX1 HX2 HX3 HX4 HZ HCZ
    refine HW4.out.mono ?_
    rintro e w2 ⟨rfl, hw2⟩
    have HC2 := Go.Lib.hid (HC4.out.trans hw2)
    clear hw2 HW4 HC4
    go_wp2_with (first | (go_at_call 18; refine (HY.out _).mono ?_; rintro e w3 ⟨rfl, hw3⟩; have HC3 := Go.Lib.hid (HC2.out.trans hw3); clear hw3) | (go_at_call 20; refine (num_any _ _).mono ?_; rintro e w' ⟨rfl, rfl⟩))
    have hh5 := World.alloc_heap_new w3 (.cells #[.slice q0 n0 c0, .slice q2 n c2, .slice q3 n3 c3] 24)
    have hc5 := HC3.out.alloc (.cells #[.slice q0 n0 c0, .slice q2 n c2, .slice q3 n3 c3] 24)
    have HW5 := Go.Lib.hid (HX5.out _ _ hc5 hh5)
    have HC5 := Go.Lib.hid hc5
    clear hh5 hc5 HX5 HY HC2 HC3
    refine HW5.out.mono ?_
    rintro e w4 ⟨rfl, hw4⟩
    have HC6 := Go.Lib.hid (HC5.out.trans hw4)
    clear hw4 HW5 HC5
    have hmk := fun (W : World) => run_make (P := Try.prog) W 24 5 ti (.int .u8 0) Try.underlying24 hi hz0 .i64 .i64 (n : Int) (n : Int) (by omega) (by omega) (by rw [hz2]; omega) (by omega)
    rw [hz1] at hmk
    simp only [Int.toNat_natCast, Nat.mul_one, Value.cells] at hmk
    go_wp2_with fail
    clear hmk
    obtain ⟨W7, hW7, z1, z2, z3⟩ := two_new w4 (Go.madeCells #[.int .u8 0] n) #[.slice q0 n0 c0, .slice (some ⟨w4.heap.size, 0, none⟩) n n] 5 24
    rw [hW7]
    have HW7 := Go.Lib.hid (HX6.out _ _ W7 (HC6.out.trans z3) z2 z1)
    have HC7 := Go.Lib.hid (HC6.out.trans z3)
    clear hW7 z1 z2 z3 HX6 HC6
    refine HW7.out.mono ?_
    rintro e w8 ⟨rfl, hw8⟩
    have HC8 := Go.Lib.hid (HC7.out.trans hw8)
    clear hw8 HW7 HC7
    go_wp2_with (go_at_call 11; refine (works_any _).mono ?_; rintro e w9 ⟨rfl, hw9⟩; have HC9 := Go.Lib.hid hw9; clear hw9)
    go_ret
    exact ⟨rfl, HC8.out.trans HC9.out⟩
set_option maxHeartbeats 1000000 in
theorem places_out (q0 q1 q2 q3 : Option Addr) (n0 n1 n2 n3 c0 c1 c2 c3 : Nat) (w : World) (h : ¬ (n0 ≤ 200 ∧ n1 ≤ 200 ∧ n2 ≤ 200 ∧ n3 ≤ 200)) :
    Calls Try.prog 8 #[.slice q0 n0 c0, .slice q1 n1 c1, .slice q2 n2 c2, .slice q3 n3 c3] w fun e w' => e = .returned (.bool true) ∧ Ch (fun _ => False) w w' := by
  by_cases h0 : n0 ≤ 200
  · have i0 : (n0 : Int) ≤ 200 := by omega
    by_cases h1 : n1 ≤ 200
    · have i1 : (n1 : Int) ≤ 200 := by omega
      by_cases h2 : n2 ≤ 200
      · have i2 : (n2 : Int) ≤ 200 := by omega
        have i3 : 200 < (n3 : Int) := by omega
        clear h h0 h1 h2
        go_enter Try.func8, Try.ntmps8
        go_wp2_with (go_at_call 11; refine (works_any _).mono ?_; rintro e w9 ⟨rfl, hw9⟩; have HC9 := Go.Lib.hid hw9; clear hw9)
        go_ret
        exact ⟨rfl, HC9.out⟩
      · have i2 : 200 < (n2 : Int) := by omega
        clear h h0 h1 h2
        go_enter Try.func8, Try.ntmps8
        go_wp2_with (go_at_call 11; refine (works_any _).mono ?_; rintro e w9 ⟨rfl, hw9⟩; have HC9 := Go.Lib.hid hw9; clear hw9)
        go_ret
        exact ⟨rfl, HC9.out⟩
    · have i1 : 200 < (n1 : Int) := by omega
      clear h h0 h1
      go_enter Try.func8, Try.ntmps8
      go_wp2_with (go_at_call 11; refine (works_any _).mono ?_; rintro e w9 ⟨rfl, hw9⟩; have HC9 := Go.Lib.hid hw9; clear hw9)
      go_ret
      exact ⟨rfl, HC9.out⟩
  · have i0 : 200 < (n0 : Int) := by omega
    clear h h0
    go_enter Try.func8, Try.ntmps8
    go_wp2_with (go_at_call 11; refine (works_any _).mono ?_; rintro e w9 ⟨rfl, hw9⟩; have HC9 := Go.Lib.hid hw9; clear hw9)
    go_ret
    exact ⟨rfl, HC9.out⟩
theorem crcPlaces_any (q0 q1 q2 q3 : Option Addr) (n0 n1 n2 n3 c0 c1 c2 c3 : Nat) (f0 f1 f2 f3 : Nat → UInt8) (w : World)
    (hb0 : BytesAt w q0 n0 c0 f0) (hb1 : BytesAt w q1 n1 c1 f1) (hb2 : BytesAt w q2 n2 c2 f2) (hb3 : BytesAt w q3 n3 c3 f3) (hc1 : n1 ≤ c1) (hc2 : n2 ≤ c2) :
    Calls Try.prog 8 #[.slice q0 n0 c0, .slice q1 n1 c1, .slice q2 n2 c2, .slice q3 n3 c3] w fun e w' => e = .returned (.bool true) ∧ Ch (fun _ => False) w w' := by
  by_cases h : n0 ≤ 200 ∧ n1 ≤ 200 ∧ n2 ≤ 200 ∧ n3 ≤ 200
  · exact places_in q0 q1 q2 q3 n0 n1 n2 n3 c0 c1 c2 c3 f0 f1 f2 f3 w hb0 hb1 hb2 hb3 hc1 hc2 h.1 h.2.1 h.2.2.1 h.2.2.2
  · exact places_out q0 q1 q2 q3 n0 n1 n2 n3 c0 c1 c2 c3 w h
end Go.Proofs.Ythbpfgcgfhlmnaa
