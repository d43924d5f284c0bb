/- CrcSeals: the function. -/
import Derived.Test.YthbpfgcgfhlmnaaT22
namespace Go.Proofs.Ythbpfgcgfhlmnaa
open Go Go.RowKit
attribute [local go_sem high] b_add b_xor b_and b_or b_shr b_shl not32 wrap_un beq32 neg32 b_turn lowB_wrap

theorem own_some {w : World} {base k : Nat} {v : Value} {xs : List Value} (h : w.ownsRow base 5 1 v (k + 1) xs) : ∃ g cap cur, v = .slice (some ⟨g, 0, none⟩) (k + 1) cap ∧ base ≤ g ∧ w.heap[g]? = some (.cells cur 5) ∧ k + 1 ≤ cap ∧ cur.toList.take (k + 1) = xs := by
  rcases h.2 with ⟨_, h⟩ | ⟨g, cap, cur, rfl, hb, hg, hnc, _, _, htake⟩
  · omega
  · rw [Nat.mul_one] at htake
    exact ⟨g, cap, cur, rfl, hb, hg, hnc, htake⟩
theorem heap_setC {w : World} {b : Nat} {t : TypeId} {fr : Nat × Nat} {cur : Array Value} (h : w.heap[b]? = some (.cells cur t fr)) (k : Nat) (v : Value) : (w.setCell ⟨b, k, none⟩ v).heap[b]? = some (.cells (cur.setIfInBounds k v) t fr) := by
  simp only [World.setCell, Array.getElem?_modify]
  rw [h]
  simp
theorem take_at {cur : Array Value} {k : Nat} {xs : List Value} (h : cur.toList.take k = xs) (j : Nat) (hj : j < k) : cur[j]? = xs[j]? := by
  rw [← h, List.getElem?_take, if_pos hj]; simp
set_option maxHeartbeats 1000000 in
theorem seals_out (q0 q1 : Option Addr) (n0 n1 c0 c1 : Nat) (w : World) (h : ¬ (n0 ≤ 500 ∧ n1 ≤ 500)) :
    Calls Try.prog 7 #[.slice q0 n0 c0, .slice q1 n1 c1] w fun e w' => e = .returned (.bool true) ∧ Ch (fun _ => False) w w' := by
  by_cases h0 : n0 ≤ 500
  · have i0 : (n0 : Int) ≤ 500 := by omega
    have i1 : 500 < (n1 : Int) := by omega
    clear h h0
    go_enter Try.func7, Try.ntmps7
    go_wp2_with (go_at_call 11; refine (works_any _).mono ?_; rintro e w9 ⟨rfl, hw9⟩; have HC9 := Go.Lib.hid hw9; clear hw9)
    go_ret
    exact ⟨rfl, HC9.out⟩
  · have i0 : 500 < (n0 : Int) := by omega
    clear h h0
    go_enter Try.func7, Try.ntmps7
    go_wp2_with (go_at_call 11; refine (works_any _).mono ?_; rintro e w9 ⟨rfl, hw9⟩; have HC9 := Go.Lib.hid hw9; clear hw9)
    go_ret
    exact ⟨rfl, HC9.out⟩

set_option maxRecDepth 100000 in
set_option maxHeartbeats 4000000 in
theorem seals_in (q0 q1 : Option Addr) (n0 n1 c0 c1 : Nat) (f0 f1 : Nat → UInt8) (w : World) (hb0 : BytesAt w q0 n0 c0 f0) (hb1 : BytesAt w q1 n1 c1 f1) (hc1 : n1 ≤ c1) (h0 : n0 ≤ 500) (h1 : n1 ≤ 500) :
    Calls Try.prog 7 #[.slice q0 n0 c0, .slice q1 n1 c1] w fun e w' => e = .returned (.bool true) ∧ Ch (fun _ => False) w w' := by
  obtain ⟨ti, hi, hz0, hz1, hz2⟩ := info_parts info5
  obtain ⟨kx, er, qw, dw, hkn, hbw, hop, hrp⟩ := open_both q1 n1 c1 f1 w (by omega) hc1 hb1
  have HB0 := Go.Lib.hid hb0; have HBW := Go.Lib.hid hbw; have HOP := Go.Lib.hid hop; have HRP := Go.Lib.hid hrp
  have i0 : (n0 : Int) ≤ 500 := by omega
  have i1 : (n1 : Int) ≤ 500 := by omega
  clear hb0 hb1 hbw hop hrp hc1
  go_enter Try.func7, Try.ntmps7
  go_wp2_with (at_builtin; first
    | (refine wpList_append_bytes rfl (.tmp 24) (.tmp 25) rfl w.heap.size _ _ _ rfl (ownsRow_empty w _ (Nat.le_refl _)) q0 n0 c0 f0 rfl (HB0.out.ch ((Ch.refl (fun _ => False) w).alloc _) (fun _ _ h => h)) (by omega) (by simp) ?_
       intro v1 w1 hown1 hgrow1
       rw [Nat.zero_add, List.nil_append] at hown1
       have HO1 := Go.Lib.hid hown1; have HW1 := Go.Lib.hid hgrow1; clear hown1 hgrow1)
    | (refine wpList_append_own _ rfl (.tmp 26) (.tmp 27) 24 rfl w.heap.size 5 ti (.int .u8 0) 1 1 Try.underlying24 hi hz0 hz1 hz2 rfl (by decide) _ _ _ rfl (HO1.out.alloc _) ⟨w1.heap.size, 0, none⟩ 1 1 [.int .u8 77] rfl rfl (one_at w1 _ _) (by simp [Value.oneCell']) (by simp [maxLen]; omega) (by omega) (by have := HW1.out.size; simp at this ⊢; omega) ?_
       intro v2 w2 hown2 hgrow2 hx2; clear hx2
       have hc2 : Ch (fun _ => False) w w2 := Ch.grown (Ch.alloc (Ch.grown ((Ch.refl _ w).alloc _) HW1.out (fun k hk hlt => by
         have h : some w.heap.size = some k := hk
         cases h; omega)) _) hgrow2 (fun k hk hlt => by
         have := (World.ownsRow.lt HO1.out) k hk; omega)
       obtain ⟨gm, cm, cur, rfl, hgm, hgh, hcm, htk⟩ := own_some hown2
       have HC2 := Go.Lib.hid hc2; have HGM := Go.Lib.hid hgm; have HGH := Go.Lib.hid hgh; have HTK := Go.Lib.hid htk
       have hsl := fun w => slice_to (some ⟨gm, 0, none⟩) (n0 + 1) cm n0 (by omega) w
       clear hown2 hgrow2 hc2 hgm hgh htk HO1 HW1))
  have hm : ∀ j, j < n0 + 1 → w2.cell? ⟨gm, j, none⟩ = (fL f0 n0 ++ [.int .u8 77])[j]? := fun j hj => (cell_of_heap HGH.out j).trans (take_at HTK.out j hj)
  have hbm : BytesAt w2 (some ⟨gm, 0, none⟩) n0 cm f0 := .inl ⟨gm, 0, rfl, by omega, (Array.getElem?_eq_some_iff.1 HGH.out).1, fun j hj => by
    rw [Nat.zero_add, hm j (by omega), List.getElem?_append_left (by rw [fL_len]; exact hj)]
    simp [fL, hj]⟩
  have h77 : w2.cell? ⟨gm, n0, none⟩ = some (.int .u8 77) := by
    rw [hm n0 (by omega), List.getElem?_append_right (by rw [fL_len]; omega), fL_len]; simp
  have HBM := Go.Lib.hid hbm; have H772 := Go.Lib.hid h77
  have hal : Ch (fun _ => False) w2 (w2.alloc (.cells #[.slice (some ⟨gm, 0, none⟩) n0 cm] 24)) := (Ch.refl _ w2).alloc _
  have HSL := Go.Lib.hid (show Calls Try.prog 23 #[.slice (some ⟨w2.heap.size, 0, none⟩) 1 1] (w2.alloc (.cells #[.slice (some ⟨gm, 0, none⟩) n0 cm] 24)) _ from
    seal_any w2.heap.size 0 1 1 _ _ _ _ f0 _ (.inl rfl) (parts_one (x := gm) (y := 0) (n := n0) (c := cm) (f := f0) (cell_fresh w2 _ 24 0) (Nat.lt_of_lt_of_le (Array.getElem?_eq_some_iff.1 HGH.out).1 hal.size) (fun j hj => hal.get (by
      rw [Nat.zero_add, hm j (by omega), List.getElem?_append_left (by rw [fL_len]; exact hj)]
      simp [fL, hj]) id)) (by omega) (by rw [upto_one]; omega))
  rw [upto_one] at HSL
  have HAL := Go.Lib.hid hal
  have HSM := Go.Lib.hid (fun w => slice_to (some ⟨gm, 0, none⟩) n0 cm (n0 + 1) (by omega) w)
  clear hm hbm h77 hal HGH HTK hsl
  refine HSL.out.mono ?_
  rintro e w3 ⟨v3, rfl, ho3, hc3⟩
  obtain ⟨qs, ds, rfl, hqs⟩ := own_bytes ho3
  have HQS := Go.Lib.hid hqs
  have HC23 := Go.Lib.hid (HAL.out.trans hc3)
  have HC3 := Go.Lib.hid (HC2.out.trans HC23.out)
  clear ho3 hqs hc3 HSL HAL
  go_wp2_with fail
  refine (HOP.out w3 HC3.out).mono ?_
  rintro e w4 ⟨hc4, qx, dx, rfl, hox⟩
  have HOX := Go.Lib.hid hox
  have HC34 := Go.Lib.hid hc4
  clear hc4 hox
  go_wp2_with fail
  refine (HRP.out w4 (HC3.out.trans HC34.out)).mono ?_
  rintro e w5 ⟨hc5, rfl⟩
  have HC45 := Go.Lib.hid hc5
  clear hc5
  go_upto_region 7 with (fail)
  refine wp_region_any (by kernel_rfl) ?_
  generalize hwx : ({ w5 with drawn := w5.drawn + 1 } : World) = wx
  have hx5 : Ch (fun _ => False) w5 wx := by rw [← hwx]; exact (Ch.refl _ _).drew
  have HX4 := Go.Lib.hid (HC45.out.trans hx5)
  have HX3 := Go.Lib.hid (HC34.out.trans HX4.out)
  have HX2 := Go.Lib.hid (HC23.out.trans HX3.out)
  have HWX := Go.Lib.hid (HC2.out.trans HX2.out)
  clear hwx hx5
  have hOX : OwnAt w.heap.size wx qx kx dx f1 := by
    rcases HOX.out with h | ⟨h, cur, e1, e2, e3, e4, e5⟩
    · exact .inl h
    · exact .inr ⟨h, cur, e1, e2, Nat.le_trans HC3.out.size e3, HX4.out.heap e4 id, e5⟩
  have hbx : BytesAt wx qx kx dx f1 := by
    rcases hOX with h | ⟨h, cur, e1, e2, _, e4, e5⟩
    · exact .inr h
    · exact .inl ⟨h, 0, e1, by omega, (Array.getElem?_eq_some_iff.1 e4).1, fun j hj => (cell_of_heap e4 _).trans (by rw [Nat.zero_add]; exact e5 j hj)⟩
  have HOW := Go.Lib.hid hOX
  have fr : ∀ {a b : World}, Ch (fun _ => False) a b → ∀ i, i < a.heap.size → ¬ (fun _ => False) i := fun _ _ _ h => h
  have HCS := Go.Lib.hid (fun w' (h : Ch (fun _ => False) wx w') => conv_bytes (HQS.out.ch (HX3.out.trans h) (fun _ _ h => h)))
  have HCR := Go.Lib.hid (fun q d w' (h : BytesAt w' q (n0 + 4) d (sealF f0 n0)) => conv_bytes h)
  have HCM := Go.Lib.hid (fun w' (h : Ch (fun _ => False) wx w') => conv_bytes (HBM.out.ch (HX2.out.trans h) (fun _ _ h => h)))
  have HCB := Go.Lib.hid (fun w' (h : Ch (fun _ => False) wx w') => conv_bytes (HB0.out.ch (HWX.out.trans h) (fun _ _ h => h)))
  have HCX := Go.Lib.hid (fun w' (h : Ch (fun _ => False) wx w') => conv_bytes (hbx.ch h (fun _ _ h => h)))
  have HCW := Go.Lib.hid (fun w' (h : Ch (fun _ => False) wx w') => conv_bytes (HBW.out.ch (HWX.out.trans h) (fun _ _ h => h)))
  have HCW0 := Go.Lib.hid (fun w' (h : Ch (fun _ => False) w w') => conv_bytes (HBW.out.ch h (fun _ _ h => h)))
  have H77 := Go.Lib.hid (HX2.out.get H772.out id)
  have HRS := Go.Lib.hid (fun w' (h : Ch (fun _ => False) wx w') => (rseal_any q0 n0 c0 f0 w' (HB0.out.ch (HWX.out.trans h) (fun _ _ h => h)) (by omega)).mono (fun e w2 h2 => (show ∃ q d, e = .returned (.slice q (n0 + 4) d) ∧ BytesAt w2 q (n0 + 4) d (sealF f0 n0) ∧ Ch (fun _ => False) w' w2 from by
    obtain ⟨v, rfl, ho, hc⟩ := h2
    obtain ⟨q, d, rfl, hq⟩ := own_bytes ho
    exact ⟨q, d, rfl, hq, hc⟩)))
  generalize bS (sealF f0 n0) (n0 + 4) = XS at *
  generalize bS f0 n0 = XB at *
  generalize bS f1 kx = XX at *
  clear hbx hOX fr HQS HBM HOX HC2 HC23 HC3 HC34 HC45 HX4 HX3 HX2 H772 HOP
  generalize hax : Act.mk _ _ = ax
  have HSZ := Go.Lib.hid (show ax.tmps.size = 111 by rw [← hax]; rfl)
  have F0 := Go.Lib.hid (show gt ax 0 = .slice q0 n0 c0 by rw [← hax]; rfl)
  have F5 := Go.Lib.hid (show gt ax 5 = .slice (some ⟨gm, 0, none⟩) n0 cm by rw [← hax]; rfl)
  have F6 := Go.Lib.hid (show gt ax 6 = .slice qs (n0 + 4) ds by rw [← hax]; rfl)
  have F7 := Go.Lib.hid (show gt ax 7 = .slice qx kx dx by rw [← hax]; rfl)
  have F8 := Go.Lib.hid (show gt ax 8 = .int .i64 er by rw [← hax]; rfl)
  have F9 := Go.Lib.hid (show gt ax 9 = .slice qw kx dw by rw [← hax]; rfl)
  have F10 := Go.Lib.hid (show gt ax 10 = .int .i64 er by rw [← hax]; rfl)
  have HAX := Go.Lib.hid hax
  clear hax
  have HND := Go.Lib.hid (show ([45, 46, 47, 48, 49, 50, 51, 52, 53, 54, 55, 56, 57, 58, 59, 60, 61, 62, 63, 64, 65, 66, 67, 68, 69, 70, 71, 72, 73, 74, 75, 76, 77, 78, 79, 80, 81, 82, 11] : List Nat).Nodup by decide)
  have HLS : Hid (Lasts [(45, fun x _ => x = .slice qs (n0 + 4) ds), (46, fun x _ => x = .string XS), (47, fun x _ => x = .slice q0 n0 c0), (48, fun x v => ∃ q d, x = .slice q (n0 + 4) d ∧ BytesAt v q (n0 + 4) d (sealF f0 n0)), (49, fun x _ => x = .string XS), (50, fun x _ => x = .bool true), (51, fun x _ => x = .bool true), (52, fun x _ => x = .slice (some ⟨gm, 0, none⟩) n0 cm), (53, fun x _ => x = .string XB), (54, fun x _ => x = .slice q0 n0 c0), (55, fun x _ => x = .string XB), (56, fun x _ => x = .bool true), (57, fun x _ => x = .bool true), (58, fun x _ => x = .bool true), (59, fun x _ => x = .slice (some ⟨gm, 0, none⟩) n0 cm), (60, fun x _ => x = .slice q0 n0 c0), (61, fun x _ => x = .int .i64 (n0 : Int)), (62, fun x _ => x = .int .i64 ((n0 : Int) + 1)), (63, fun x _ => x = .slice (some ⟨gm, 0, none⟩) (n0 + 1) cm), (64, fun x _ => x = .slice q0 n0 c0), (65, fun x _ => x = .int .i64 (n0 : Int)), (66, fun x _ => x = .pointer (some ⟨gm, n0, none⟩)), (67, fun x _ => x = .int .u8 77), (68, fun x _ => x = .bool true), (69, fun x _ => x = .bool true), (70, fun x _ => x = .bool true), (71, fun x _ => x = .slice qx kx dx), (72, fun x _ => x = .string XX), (73, fun x _ => x = .slice qw kx dw), (74, fun x _ => x = .string XX), (75, fun x _ => x = .bool true), (76, fun x _ => x = .bool true), (77, fun x _ => x = .bool true), (78, fun x _ => x = .int .i64 er), (79, fun x _ => x = .int .i64 er), (80, fun x _ => x = .int .i64 er), (81, fun x _ => x = .bool true), (82, fun x _ => x = .bool true), (11, fun x _ => x = .bool true)]) := Go.Lib.hid (by
    intro p hp v w1 w2 hc h
    simp only [List.mem_cons, List.not_mem_nil, or_false] at hp
    rcases hp with rfl | rfl | rfl | rfl | rfl | rfl | rfl | rfl | rfl | rfl | rfl | rfl | rfl | rfl | rfl | rfl | rfl | rfl | rfl | rfl | rfl | rfl | rfl | rfl | rfl | rfl | rfl | rfl | rfl | rfl | rfl | rfl | rfl | rfl | rfl | rfl | rfl | rfl | rfl
    all_goals first | exact h | (obtain ⟨g, h1, h2⟩ := h; exact ⟨g, h1, hc.heap h2 id⟩) | (obtain ⟨g, c, h1, h2⟩ := h; exact ⟨g, c, h1, h2.ch hc (fun _ _ h => h)⟩))
  refine wpAny_inv (InvP 111 [(45, fun x _ => x = .slice qs (n0 + 4) ds), (46, fun x _ => x = .string XS), (47, fun x _ => x = .slice q0 n0 c0), (48, fun x v => ∃ q d, x = .slice q (n0 + 4) d ∧ BytesAt v q (n0 + 4) d (sealF f0 n0)), (49, fun x _ => x = .string XS), (50, fun x _ => x = .bool true), (51, fun x _ => x = .bool true), (52, fun x _ => x = .slice (some ⟨gm, 0, none⟩) n0 cm), (53, fun x _ => x = .string XB), (54, fun x _ => x = .slice q0 n0 c0), (55, fun x _ => x = .string XB), (56, fun x _ => x = .bool true), (57, fun x _ => x = .bool true), (58, fun x _ => x = .bool true), (59, fun x _ => x = .slice (some ⟨gm, 0, none⟩) n0 cm), (60, fun x _ => x = .slice q0 n0 c0), (61, fun x _ => x = .int .i64 (n0 : Int)), (62, fun x _ => x = .int .i64 ((n0 : Int) + 1)), (63, fun x _ => x = .slice (some ⟨gm, 0, none⟩) (n0 + 1) cm), (64, fun x _ => x = .slice q0 n0 c0), (65, fun x _ => x = .int .i64 (n0 : Int)), (66, fun x _ => x = .pointer (some ⟨gm, n0, none⟩)), (67, fun x _ => x = .int .u8 77), (68, fun x _ => x = .bool true), (69, fun x _ => x = .bool true), (70, fun x _ => x = .bool true), (71, fun x _ => x = .slice qx kx dx), (72, fun x _ => x = .string XX), (73, fun x _ => x = .slice qw kx dw), (74, fun x _ => x = .string XX), (75, fun x _ => x = .bool true), (76, fun x _ => x = .bool true), (77, fun x _ => x = .bool true), (78, fun x _ => x = .int .i64 er), (79, fun x _ => x = .int .i64 er), (80, fun x _ => x = .int .i64 er), (81, fun x _ => x = .bool true), (82, fun x _ => x = .bool true), (11, fun x _ => x = .bool true)] (fun _ w' => Ch (fun _ => False) wx w') ax) ?_ ?_ _ _ _ _ rfl (by decide) (InvP.start rfl HSZ.out (Ch.refl _ _))
  · intro L a w' i hI hr
    obtain ⟨h1, o, ho, hall⟩ := mem_ready.1 hr
    have hlt : i < 39 := (Array.getElem?_eq_some_iff.1 ho).1
    have hsplit : i = 0 ∨ i = 1 ∨ i = 2 ∨ i = 3 ∨ i = 4 ∨ i = 5 ∨ i = 6 ∨ i = 7 ∨ i = 8 ∨ i = 9 ∨ i = 10 ∨ i = 11 ∨ i = 12 ∨ i = 13 ∨ i = 14 ∨ i = 15 ∨ i = 16 ∨ i = 17 ∨ i = 18 ∨ i = 19 ∨ i = 20 ∨ i = 21 ∨ i = 22 ∨ i = 23 ∨ i = 24 ∨ i = 25 ∨ i = 26 ∨ i = 27 ∨ i = 28 ∨ i = 29 ∨ i = 30 ∨ i = 31 ∨ i = 32 ∨ i = 33 ∨ i = 34 ∨ i = 35 ∨ i = 36 ∨ i = 37 ∨ i = 38 := by omega
    clear hlt h1 hr
    rcases hsplit with rfl | rfl | rfl | rfl | rfl | rfl | rfl | rfl | rfl | rfl | rfl | rfl | rfl | rfl | rfl | rfl | rfl | rfl | rfl | rfl | rfl | rfl | rfl | rfl | rfl | rfl | rfl | rfl | rfl | rfl | rfl | rfl | rfl | rfl | rfl | rfl | rfl | rfl | rfl
    · have q6 := (hI.fixed 6 (by simp)).trans F6.out
      unfold gt at q6
      clear hall
      refine wpOp_step (o := _) rfl (fun K' hK' => ?_)
      go_simp
      exact hK' _ _ (hI.put 0 rfl (by decide) HND.out HLS.out  (Ch.refl _ _) rfl hI.wld)
    · simp at ho
      have e0 : lg L 0 = true := by unfold lg; simpa using hall ⟨0, .data⟩ (by rw [← ho]; simp) rfl
      have f0 : gt a 45 = .slice qs (n0 + 4) ds := hI.val 0 _ rfl e0
      have hcv := HCS.out w' hI.wld
      unfold gt at f0
      clear hall
      clear ho
      refine wpOp_step (o := _) rfl (fun K' hK' => ?_)
      go_simp
      exact hK' _ _ (hI.put 1 rfl (by decide) HND.out HLS.out  (Ch.refl _ _) rfl hI.wld)
    · have q0 := (hI.fixed 0 (by simp)).trans F0.out
      unfold gt at q0
      clear hall
      refine wpOp_step (o := _) rfl (fun K' hK' => ?_)
      go_simp
      exact hK' _ _ (hI.put 2 rfl (by decide) HND.out HLS.out  (Ch.refl _ _) rfl hI.wld)
    · simp at ho
      have e2 : lg L 2 = true := by unfold lg; simpa using hall ⟨2, .data⟩ (by rw [← ho]; simp) rfl
      have f2 : gt a 47 = .slice q0 n0 c0 := hI.val 2 _ rfl e2
      unfold gt at f2
      clear hall
      clear ho
      have HCT := Go.Lib.hid (HRS.out w' hI.wld)
      refine wpOp_step (o := _) rfl (fun K' hK' => ?_)
      go_simp
      refine HCT.out.mono ?_
      rintro e w3 ⟨q, d, rfl, hq, hc⟩
      exact hK' _ _ (hI.put 3 rfl (by decide) HND.out HLS.out hc ⟨q, d, rfl, hq⟩ (hI.wld.trans hc))
    · simp at ho
      have e3 : lg L 3 = true := by unfold lg; simpa using hall ⟨3, .data⟩ (by rw [← ho]; simp) rfl
      obtain ⟨g3, c3, f3, hh3⟩ : (fun x v => ∃ q d, x = .slice q (n0 + 4) d ∧ BytesAt v q (n0 + 4) d (sealF f0 n0)) (gt a 48) w' := hI.val 3 _ rfl e3
      have hcv := HCR.out _ _ w' hh3
      unfold gt at f3
      clear hall
      clear ho
      refine wpOp_step (o := _) rfl (fun K' hK' => ?_)
      go_simp
      exact hK' _ _ (hI.put 4 rfl (by decide) HND.out HLS.out  (Ch.refl _ _) rfl hI.wld)
    · simp at ho
      have e1 : lg L 1 = true := by unfold lg; simpa using hall ⟨1, .data⟩ (by rw [← ho]; simp) rfl
      have f1 : gt a 46 = .string XS := hI.val 1 _ rfl e1
      have e4 : lg L 4 = true := by unfold lg; simpa using hall ⟨4, .data⟩ (by rw [← ho]; simp) rfl
      have f4 : gt a 49 = .string XS := hI.val 4 _ rfl e4
      unfold gt at f1 f4
      clear hall
      clear ho
      refine wpOp_step (o := _) rfl (fun K' hK' => ?_)
      go_simp
      exact hK' _ _ (hI.put 5 rfl (by decide) HND.out HLS.out  (Ch.refl _ _) rfl hI.wld)
    · simp at ho
      have e5 : lg L 5 = true := by unfold lg; simpa using hall ⟨5, .data⟩ (by rw [← ho]; simp) rfl
      have f5 : gt a 50 = .bool true := hI.val 5 _ rfl e5
      unfold gt at f5
      clear hall
      clear ho
      refine wpOp_step (o := _) rfl (fun K' hK' => ?_)
      go_simp
      exact hK' _ _ (hI.put 6 rfl (by decide) HND.out HLS.out  (Ch.refl _ _) rfl hI.wld)
    · simp at ho
      have q5 := (hI.fixed 5 (by simp)).trans F5.out
      have eg : lg L 6 = true := by unfold lg; simpa using hall ⟨6, .guard⟩ (by rw [← ho]; simp) rfl
      have fg0 : gt a 51 = .bool true := hI.val 6 _ rfl eg
      have fg := guard_of fg0 (by rw [hI.size]; decide)
      clear eg fg0
      unfold gt at q5
      clear hall
      clear ho
      refine wpOp_step (o := _) rfl (fun K' hK' => ?_)
      go_simp
      exact hK' _ _ (hI.put 7 rfl (by decide) HND.out HLS.out  (Ch.refl _ _) rfl hI.wld)
    · simp at ho
      have e7 : lg L 7 = true := by unfold lg; simpa using hall ⟨7, .data⟩ (by rw [← ho]; simp) rfl
      have f7 : gt a 52 = .slice (some ⟨gm, 0, none⟩) n0 cm := hI.val 7 _ rfl e7
      have eg : lg L 6 = true := by unfold lg; simpa using hall ⟨6, .guard⟩ (by rw [← ho]; simp) rfl
      have fg0 : gt a 51 = .bool true := hI.val 6 _ rfl eg
      have fg := guard_of fg0 (by rw [hI.size]; decide)
      clear eg fg0
      have hcv := HCM.out w' hI.wld
      unfold gt at f7
      clear hall
      clear ho
      refine wpOp_step (o := _) rfl (fun K' hK' => ?_)
      go_simp
      exact hK' _ _ (hI.put 8 rfl (by decide) HND.out HLS.out  (Ch.refl _ _) rfl hI.wld)
    · simp at ho
      have q0 := (hI.fixed 0 (by simp)).trans F0.out
      have eg : lg L 6 = true := by unfold lg; simpa using hall ⟨6, .guard⟩ (by rw [← ho]; simp) rfl
      have fg0 : gt a 51 = .bool true := hI.val 6 _ rfl eg
      have fg := guard_of fg0 (by rw [hI.size]; decide)
      clear eg fg0
      unfold gt at q0
      clear hall
      clear ho
      refine wpOp_step (o := _) rfl (fun K' hK' => ?_)
      go_simp
      exact hK' _ _ (hI.put 9 rfl (by decide) HND.out HLS.out  (Ch.refl _ _) rfl hI.wld)
    · simp at ho
      have e9 : lg L 9 = true := by unfold lg; simpa using hall ⟨9, .data⟩ (by rw [← ho]; simp) rfl
      have f9 : gt a 54 = .slice q0 n0 c0 := hI.val 9 _ rfl e9
      have eg : lg L 6 = true := by unfold lg; simpa using hall ⟨6, .guard⟩ (by rw [← ho]; simp) rfl
      have fg0 : gt a 51 = .bool true := hI.val 6 _ rfl eg
      have fg := guard_of fg0 (by rw [hI.size]; decide)
      clear eg fg0
      have hcv := HCB.out w' hI.wld
      unfold gt at f9
      clear hall
      clear ho
      refine wpOp_step (o := _) rfl (fun K' hK' => ?_)
      go_simp
      exact hK' _ _ (hI.put 10 rfl (by decide) HND.out HLS.out  (Ch.refl _ _) rfl hI.wld)
    · simp at ho
      have e8 : lg L 8 = true := by unfold lg; simpa using hall ⟨8, .data⟩ (by rw [← ho]; simp) rfl
      have f8 : gt a 53 = .string XB := hI.val 8 _ rfl e8
      have e10 : lg L 10 = true := by unfold lg; simpa using hall ⟨10, .data⟩ (by rw [← ho]; simp) rfl
      have f10 : gt a 55 = .string XB := hI.val 10 _ rfl e10
      have eg : lg L 6 = true := by unfold lg; simpa using hall ⟨6, .guard⟩ (by rw [← ho]; simp) rfl
      have fg0 : gt a 51 = .bool true := hI.val 6 _ rfl eg
      have fg := guard_of fg0 (by rw [hI.size]; decide)
      clear eg fg0
      unfold gt at f8 f10
      clear hall
      clear ho
      refine wpOp_step (o := _) rfl (fun K' hK' => ?_)
      go_simp
      exact hK' _ _ (hI.put 11 rfl (by decide) HND.out HLS.out  (Ch.refl _ _) rfl hI.wld)
    · simp at ho
      have e6 : lg L 6 = true := by unfold lg; simpa using hall ⟨6, .data⟩ (by rw [← ho]; simp) rfl
      have f6 : gt a 51 = .bool true := hI.val 6 _ rfl e6
      have e11 : lg L 11 = true := by unfold lg; simpa using hall ⟨11, .data⟩ (by rw [← ho]; simp) rfl
      have f11 : gt a 56 = .bool true := hI.val 11 _ rfl e11
      unfold gt at f6 f11
      clear hall
      clear ho
      refine wpOp_step (o := _) rfl (fun K' hK' => ?_)
      go_simp
      exact hK' _ _ (hI.put 12 rfl (by decide) HND.out HLS.out  (Ch.refl _ _) rfl hI.wld)
    · simp at ho
      have e12 : lg L 12 = true := by unfold lg; simpa using hall ⟨12, .data⟩ (by rw [← ho]; simp) rfl
      have f12 : gt a 57 = .bool true := hI.val 12 _ rfl e12
      unfold gt at f12
      clear hall
      clear ho
      refine wpOp_step (o := _) rfl (fun K' hK' => ?_)
      go_simp
      exact hK' _ _ (hI.put 13 rfl (by decide) HND.out HLS.out  (Ch.refl _ _) rfl hI.wld)
    · simp at ho
      have q5 := (hI.fixed 5 (by simp)).trans F5.out
      have eg : lg L 13 = true := by unfold lg; simpa using hall ⟨13, .guard⟩ (by rw [← ho]; simp) rfl
      have fg0 : gt a 58 = .bool true := hI.val 13 _ rfl eg
      have fg := guard_of fg0 (by rw [hI.size]; decide)
      clear eg fg0
      unfold gt at q5
      clear hall
      clear ho
      refine wpOp_step (o := _) rfl (fun K' hK' => ?_)
      go_simp
      exact hK' _ _ (hI.put 14 rfl (by decide) HND.out HLS.out  (Ch.refl _ _) rfl hI.wld)
    · simp at ho
      have q0 := (hI.fixed 0 (by simp)).trans F0.out
      have eg : lg L 13 = true := by unfold lg; simpa using hall ⟨13, .guard⟩ (by rw [← ho]; simp) rfl
      have fg0 : gt a 58 = .bool true := hI.val 13 _ rfl eg
      have fg := guard_of fg0 (by rw [hI.size]; decide)
      clear eg fg0
      unfold gt at q0
      clear hall
      clear ho
      refine wpOp_step (o := _) rfl (fun K' hK' => ?_)
      go_simp
      exact hK' _ _ (hI.put 15 rfl (by decide) HND.out HLS.out  (Ch.refl _ _) rfl hI.wld)
    · simp at ho
      have e15 : lg L 15 = true := by unfold lg; simpa using hall ⟨15, .data⟩ (by rw [← ho]; simp) rfl
      have f15 : gt a 60 = .slice q0 n0 c0 := hI.val 15 _ rfl e15
      have eg : lg L 13 = true := by unfold lg; simpa using hall ⟨13, .guard⟩ (by rw [← ho]; simp) rfl
      have fg0 : gt a 58 = .bool true := hI.val 13 _ rfl eg
      have fg := guard_of fg0 (by rw [hI.size]; decide)
      clear eg fg0
      unfold gt at f15
      clear hall
      clear ho
      refine wpOp_step (o := _) rfl (fun K' hK' => ?_)
      go_simp
      exact hK' _ _ (hI.put 16 rfl (by decide) HND.out HLS.out  (Ch.refl _ _) rfl hI.wld)
    · simp at ho
      have e16 : lg L 16 = true := by unfold lg; simpa using hall ⟨16, .data⟩ (by rw [← ho]; simp) rfl
      have f16 : gt a 61 = .int .i64 (n0 : Int) := hI.val 16 _ rfl e16
      have eg : lg L 13 = true := by unfold lg; simpa using hall ⟨13, .guard⟩ (by rw [← ho]; simp) rfl
      have fg0 : gt a 58 = .bool true := hI.val 13 _ rfl eg
      have fg := guard_of fg0 (by rw [hI.size]; decide)
      clear eg fg0
      have hwn : IntKind.i64.wrap ((n0 : Int) + 1) = (n0 : Int) + 1 := by rw [IntKind.wrap_i64]; omega
      unfold gt at f16
      clear hall
      clear ho
      refine wpOp_step (o := _) rfl (fun K' hK' => ?_)
      go_simp
      exact hK' _ _ (hI.put 17 rfl (by decide) HND.out HLS.out  (Ch.refl _ _) rfl hI.wld)
    · simp at ho
      have e14 : lg L 14 = true := by unfold lg; simpa using hall ⟨14, .data⟩ (by rw [← ho]; simp) rfl
      have f14 : gt a 59 = .slice (some ⟨gm, 0, none⟩) n0 cm := hI.val 14 _ rfl e14
      have e17 : lg L 17 = true := by unfold lg; simpa using hall ⟨17, .data⟩ (by rw [← ho]; simp) rfl
      have f17 : gt a 62 = .int .i64 ((n0 : Int) + 1) := hI.val 17 _ rfl e17
      have eg : lg L 13 = true := by unfold lg; simpa using hall ⟨13, .guard⟩ (by rw [← ho]; simp) rfl
      have fg0 : gt a 58 = .bool true := hI.val 13 _ rfl eg
      have fg := guard_of fg0 (by rw [hI.size]; decide)
      clear eg fg0
      have hl1 : 0 ≤ (n0 : Int) + 1 := by omega
      have hl2 : (n0 : Int) + 1 ≤ (cm : Int) := by omega
      unfold gt at f14 f17
      clear hall
      clear ho
      refine wpOp_step (o := _) rfl (fun K' hK' => ?_)
      go_simp
      exact hK' _ _ (hI.put 18 rfl (by decide) HND.out HLS.out  (Ch.refl _ _) rfl hI.wld)
    · simp at ho
      have q0 := (hI.fixed 0 (by simp)).trans F0.out
      have eg : lg L 13 = true := by unfold lg; simpa using hall ⟨13, .guard⟩ (by rw [← ho]; simp) rfl
      have fg0 : gt a 58 = .bool true := hI.val 13 _ rfl eg
      have fg := guard_of fg0 (by rw [hI.size]; decide)
      clear eg fg0
      unfold gt at q0
      clear hall
      clear ho
      refine wpOp_step (o := _) rfl (fun K' hK' => ?_)
      go_simp
      exact hK' _ _ (hI.put 19 rfl (by decide) HND.out HLS.out  (Ch.refl _ _) rfl hI.wld)
    · simp at ho
      have e19 : lg L 19 = true := by unfold lg; simpa using hall ⟨19, .data⟩ (by rw [← ho]; simp) rfl
      have f19 : gt a 64 = .slice q0 n0 c0 := hI.val 19 _ rfl e19
      have eg : lg L 13 = true := by unfold lg; simpa using hall ⟨13, .guard⟩ (by rw [← ho]; simp) rfl
      have fg0 : gt a 58 = .bool true := hI.val 13 _ rfl eg
      have fg := guard_of fg0 (by rw [hI.size]; decide)
      clear eg fg0
      unfold gt at f19
      clear hall
      clear ho
      refine wpOp_step (o := _) rfl (fun K' hK' => ?_)
      go_simp
      exact hK' _ _ (hI.put 20 rfl (by decide) HND.out HLS.out  (Ch.refl _ _) rfl hI.wld)
    · simp at ho
      have e18 : lg L 18 = true := by unfold lg; simpa using hall ⟨18, .data⟩ (by rw [← ho]; simp) rfl
      have f18 : gt a 63 = .slice (some ⟨gm, 0, none⟩) (n0 + 1) cm := hI.val 18 _ rfl e18
      have e20 : lg L 20 = true := by unfold lg; simpa using hall ⟨20, .data⟩ (by rw [← ho]; simp) rfl
      have f20 : gt a 65 = .int .i64 (n0 : Int) := hI.val 20 _ rfl e20
      have eg : lg L 13 = true := by unfold lg; simpa using hall ⟨13, .guard⟩ (by rw [← ho]; simp) rfl
      have fg0 : gt a 58 = .bool true := hI.val 13 _ rfl eg
      have fg := guard_of fg0 (by rw [hI.size]; decide)
      clear eg fg0
      have hl1 : (n0 : Int) < (n0 : Int) + 1 := by omega
      have hl2 : 0 ≤ (n0 : Int) := by omega
      unfold gt at f18 f20
      clear hall
      clear ho
      refine wpOp_step (o := _) rfl (fun K' hK' => ?_)
      go_simp
      exact hK' _ _ (hI.put 21 rfl (by decide) HND.out HLS.out  (Ch.refl _ _) rfl hI.wld)
    · simp at ho
      have e21 : lg L 21 = true := by unfold lg; simpa using hall ⟨21, .data⟩ (by rw [← ho]; simp) rfl
      have f21 : gt a 66 = .pointer (some ⟨gm, n0, none⟩) := hI.val 21 _ rfl e21
      have eg : lg L 13 = true := by unfold lg; simpa using hall ⟨13, .guard⟩ (by rw [← ho]; simp) rfl
      have fg0 : gt a 58 = .bool true := hI.val 13 _ rfl eg
      have fg := guard_of fg0 (by rw [hI.size]; decide)
      clear eg fg0
      have hcl := hI.wld.get H77.out id
      unfold gt at f21
      clear hall
      clear ho
      refine wpOp_step (o := _) rfl (fun K' hK' => ?_)
      go_simp
      exact hK' _ _ (hI.put 22 rfl (by decide) HND.out HLS.out  (Ch.refl _ _) rfl hI.wld)
    · simp at ho
      have e22 : lg L 22 = true := by unfold lg; simpa using hall ⟨22, .data⟩ (by rw [← ho]; simp) rfl
      have f22 : gt a 67 = .int .u8 77 := hI.val 22 _ rfl e22
      have eg : lg L 13 = true := by unfold lg; simpa using hall ⟨13, .guard⟩ (by rw [← ho]; simp) rfl
      have fg0 : gt a 58 = .bool true := hI.val 13 _ rfl eg
      have fg := guard_of fg0 (by rw [hI.size]; decide)
      clear eg fg0
      unfold gt at f22
      clear hall
      clear ho
      refine wpOp_step (o := _) rfl (fun K' hK' => ?_)
      go_simp
      exact hK' _ _ (hI.put 23 rfl (by decide) HND.out HLS.out  (Ch.refl _ _) rfl hI.wld)
    · simp at ho
      have e13 : lg L 13 = true := by unfold lg; simpa using hall ⟨13, .data⟩ (by rw [← ho]; simp) rfl
      have f13 : gt a 58 = .bool true := hI.val 13 _ rfl e13
      have e23 : lg L 23 = true := by unfold lg; simpa using hall ⟨23, .data⟩ (by rw [← ho]; simp) rfl
      have f23 : gt a 68 = .bool true := hI.val 23 _ rfl e23
      unfold gt at f13 f23
      clear hall
      clear ho
      refine wpOp_step (o := _) rfl (fun K' hK' => ?_)
      go_simp
      exact hK' _ _ (hI.put 24 rfl (by decide) HND.out HLS.out  (Ch.refl _ _) rfl hI.wld)
    · simp at ho
      have e24 : lg L 24 = true := by unfold lg; simpa using hall ⟨24, .data⟩ (by rw [← ho]; simp) rfl
      have f24 : gt a 69 = .bool true := hI.val 24 _ rfl e24
      unfold gt at f24
      clear hall
      clear ho
      refine wpOp_step (o := _) rfl (fun K' hK' => ?_)
      go_simp
      exact hK' _ _ (hI.put 25 rfl (by decide) HND.out HLS.out  (Ch.refl _ _) rfl hI.wld)
    · simp at ho
      have q7 := (hI.fixed 7 (by simp)).trans F7.out
      have eg : lg L 25 = true := by unfold lg; simpa using hall ⟨25, .guard⟩ (by rw [← ho]; simp) rfl
      have fg0 : gt a 70 = .bool true := hI.val 25 _ rfl eg
      have fg := guard_of fg0 (by rw [hI.size]; decide)
      clear eg fg0
      unfold gt at q7
      clear hall
      clear ho
      refine wpOp_step (o := _) rfl (fun K' hK' => ?_)
      go_simp
      exact hK' _ _ (hI.put 26 rfl (by decide) HND.out HLS.out  (Ch.refl _ _) rfl hI.wld)
    · simp at ho
      have e26 : lg L 26 = true := by unfold lg; simpa using hall ⟨26, .data⟩ (by rw [← ho]; simp) rfl
      have f26 : gt a 71 = .slice qx kx dx := hI.val 26 _ rfl e26
      have eg : lg L 25 = true := by unfold lg; simpa using hall ⟨25, .guard⟩ (by rw [← ho]; simp) rfl
      have fg0 : gt a 70 = .bool true := hI.val 25 _ rfl eg
      have fg := guard_of fg0 (by rw [hI.size]; decide)
      clear eg fg0
      have hcv := HCX.out w' hI.wld
      unfold gt at f26
      clear hall
      clear ho
      refine wpOp_step (o := _) rfl (fun K' hK' => ?_)
      go_simp
      exact hK' _ _ (hI.put 27 rfl (by decide) HND.out HLS.out  (Ch.refl _ _) rfl hI.wld)
    · simp at ho
      have q9 := (hI.fixed 9 (by simp)).trans F9.out
      have eg : lg L 25 = true := by unfold lg; simpa using hall ⟨25, .guard⟩ (by rw [← ho]; simp) rfl
      have fg0 : gt a 70 = .bool true := hI.val 25 _ rfl eg
      have fg := guard_of fg0 (by rw [hI.size]; decide)
      clear eg fg0
      unfold gt at q9
      clear hall
      clear ho
      refine wpOp_step (o := _) rfl (fun K' hK' => ?_)
      go_simp
      exact hK' _ _ (hI.put 28 rfl (by decide) HND.out HLS.out  (Ch.refl _ _) rfl hI.wld)
    · simp at ho
      have e28 : lg L 28 = true := by unfold lg; simpa using hall ⟨28, .data⟩ (by rw [← ho]; simp) rfl
      have f28 : gt a 73 = .slice qw kx dw := hI.val 28 _ rfl e28
      have eg : lg L 25 = true := by unfold lg; simpa using hall ⟨25, .guard⟩ (by rw [← ho]; simp) rfl
      have fg0 : gt a 70 = .bool true := hI.val 25 _ rfl eg
      have fg := guard_of fg0 (by rw [hI.size]; decide)
      clear eg fg0
      have hcv := HCW.out w' hI.wld
      unfold gt at f28
      clear hall
      clear ho
      refine wpOp_step (o := _) rfl (fun K' hK' => ?_)
      go_simp
      exact hK' _ _ (hI.put 29 rfl (by decide) HND.out HLS.out  (Ch.refl _ _) rfl hI.wld)
    · simp at ho
      have e27 : lg L 27 = true := by unfold lg; simpa using hall ⟨27, .data⟩ (by rw [← ho]; simp) rfl
      have f27 : gt a 72 = .string XX := hI.val 27 _ rfl e27
      have e29 : lg L 29 = true := by unfold lg; simpa using hall ⟨29, .data⟩ (by rw [← ho]; simp) rfl
      have f29 : gt a 74 = .string XX := hI.val 29 _ rfl e29
      have eg : lg L 25 = true := by unfold lg; simpa using hall ⟨25, .guard⟩ (by rw [← ho]; simp) rfl
      have fg0 : gt a 70 = .bool true := hI.val 25 _ rfl eg
      have fg := guard_of fg0 (by rw [hI.size]; decide)
      clear eg fg0
      unfold gt at f27 f29
      clear hall
      clear ho
      refine wpOp_step (o := _) rfl (fun K' hK' => ?_)
      go_simp
      exact hK' _ _ (hI.put 30 rfl (by decide) HND.out HLS.out  (Ch.refl _ _) rfl hI.wld)
    · simp at ho
      have e25 : lg L 25 = true := by unfold lg; simpa using hall ⟨25, .data⟩ (by rw [← ho]; simp) rfl
      have f25 : gt a 70 = .bool true := hI.val 25 _ rfl e25
      have e30 : lg L 30 = true := by unfold lg; simpa using hall ⟨30, .data⟩ (by rw [← ho]; simp) rfl
      have f30 : gt a 75 = .bool true := hI.val 30 _ rfl e30
      unfold gt at f25 f30
      clear hall
      clear ho
      refine wpOp_step (o := _) rfl (fun K' hK' => ?_)
      go_simp
      exact hK' _ _ (hI.put 31 rfl (by decide) HND.out HLS.out  (Ch.refl _ _) rfl hI.wld)
    · simp at ho
      have e31 : lg L 31 = true := by unfold lg; simpa using hall ⟨31, .data⟩ (by rw [← ho]; simp) rfl
      have f31 : gt a 76 = .bool true := hI.val 31 _ rfl e31
      unfold gt at f31
      clear hall
      clear ho
      refine wpOp_step (o := _) rfl (fun K' hK' => ?_)
      go_simp
      exact hK' _ _ (hI.put 32 rfl (by decide) HND.out HLS.out  (Ch.refl _ _) rfl hI.wld)
    · simp at ho
      have q8 := (hI.fixed 8 (by simp)).trans F8.out
      have eg : lg L 32 = true := by unfold lg; simpa using hall ⟨32, .guard⟩ (by rw [← ho]; simp) rfl
      have fg0 : gt a 77 = .bool true := hI.val 32 _ rfl eg
      have fg := guard_of fg0 (by rw [hI.size]; decide)
      clear eg fg0
      unfold gt at q8
      clear hall
      clear ho
      refine wpOp_step (o := _) rfl (fun K' hK' => ?_)
      go_simp
      exact hK' _ _ (hI.put 33 rfl (by decide) HND.out HLS.out  (Ch.refl _ _) rfl hI.wld)
    · simp at ho
      have e33 : lg L 33 = true := by unfold lg; simpa using hall ⟨33, .data⟩ (by rw [← ho]; simp) rfl
      have f33 : gt a 78 = .int .i64 er := hI.val 33 _ rfl e33
      have eg : lg L 32 = true := by unfold lg; simpa using hall ⟨32, .guard⟩ (by rw [← ho]; simp) rfl
      have fg0 : gt a 77 = .bool true := hI.val 32 _ rfl eg
      have fg := guard_of fg0 (by rw [hI.size]; decide)
      clear eg fg0
      unfold gt at f33
      clear hall
      clear ho
      have HCT := Go.Lib.hid (num_any er w')
      refine wpOp_step (o := _) rfl (fun K' hK' => ?_)
      go_simp
      refine HCT.out.mono ?_
      rintro e w3 ⟨rfl, rfl⟩
      exact hK' _ _ (hI.put 34 rfl (by decide) HND.out HLS.out (Ch.refl _ _) rfl hI.wld)
    · simp at ho
      have q10 := (hI.fixed 10 (by simp)).trans F10.out
      have eg : lg L 32 = true := by unfold lg; simpa using hall ⟨32, .guard⟩ (by rw [← ho]; simp) rfl
      have fg0 : gt a 77 = .bool true := hI.val 32 _ rfl eg
      have fg := guard_of fg0 (by rw [hI.size]; decide)
      clear eg fg0
      unfold gt at q10
      clear hall
      clear ho
      refine wpOp_step (o := _) rfl (fun K' hK' => ?_)
      go_simp
      exact hK' _ _ (hI.put 35 rfl (by decide) HND.out HLS.out  (Ch.refl _ _) rfl hI.wld)
    · simp at ho
      have e34 : lg L 34 = true := by unfold lg; simpa using hall ⟨34, .data⟩ (by rw [← ho]; simp) rfl
      have f34 : gt a 79 = .int .i64 er := hI.val 34 _ rfl e34
      have e35 : lg L 35 = true := by unfold lg; simpa using hall ⟨35, .data⟩ (by rw [← ho]; simp) rfl
      have f35 : gt a 80 = .int .i64 er := hI.val 35 _ rfl e35
      have eg : lg L 32 = true := by unfold lg; simpa using hall ⟨32, .guard⟩ (by rw [← ho]; simp) rfl
      have fg0 : gt a 77 = .bool true := hI.val 32 _ rfl eg
      have fg := guard_of fg0 (by rw [hI.size]; decide)
      clear eg fg0
      unfold gt at f34 f35
      clear hall
      clear ho
      refine wpOp_step (o := _) rfl (fun K' hK' => ?_)
      go_simp
      exact hK' _ _ (hI.put 36 rfl (by decide) HND.out HLS.out  (Ch.refl _ _) rfl hI.wld)
    · simp at ho
      have e32 : lg L 32 = true := by unfold lg; simpa using hall ⟨32, .data⟩ (by rw [← ho]; simp) rfl
      have f32 : gt a 77 = .bool true := hI.val 32 _ rfl e32
      have e36 : lg L 36 = true := by unfold lg; simpa using hall ⟨36, .data⟩ (by rw [← ho]; simp) rfl
      have f36 : gt a 81 = .bool true := hI.val 36 _ rfl e36
      unfold gt at f32 f36
      clear hall
      clear ho
      refine wpOp_step (o := _) rfl (fun K' hK' => ?_)
      go_simp
      exact hK' _ _ (hI.put 37 rfl (by decide) HND.out HLS.out  (Ch.refl _ _) rfl hI.wld)
    · simp at ho
      have e37 : lg L 37 = true := by unfold lg; simpa using hall ⟨37, .data⟩ (by rw [← ho]; simp) rfl
      have f37 : gt a 82 = .bool true := hI.val 37 _ rfl e37
      unfold gt at f37
      clear hall
      clear ho
      refine wpOp_step (o := _) rfl (fun K' hK' => ?_)
      go_simp
      exact hK' _ _ (hI.put 38 rfl (by decide) HND.out HLS.out  (Ch.refl _ _) rfl hI.wld)
  · intro L a w' hI hr
    have hal := all_listed' (md := .any) (by kernel_rfl) hI.lsize hr
    have hfr := hI.frame HSZ.out (by simp) (fun i hi => hal i hi)
    have k0 : gt a 45 = .slice qs (n0 + 4) ds := hI.val 0 _ rfl (hal 0 (by decide))
    have k1 : gt a 46 = .string XS := hI.val 1 _ rfl (hal 1 (by decide))
    have k2 : gt a 47 = .slice q0 n0 c0 := hI.val 2 _ rfl (hal 2 (by decide))
    obtain ⟨g3, c3, k3, _⟩ : (fun x v => ∃ q d, x = .slice q (n0 + 4) d ∧ BytesAt v q (n0 + 4) d (sealF f0 n0)) (gt a 48) w' := hI.val 3 _ rfl (hal 3 (by decide))
    have k4 : gt a 49 = .string XS := hI.val 4 _ rfl (hal 4 (by decide))
    have k5 : gt a 50 = .bool true := hI.val 5 _ rfl (hal 5 (by decide))
    have k6 : gt a 51 = .bool true := hI.val 6 _ rfl (hal 6 (by decide))
    have k7 : gt a 52 = .slice (some ⟨gm, 0, none⟩) n0 cm := hI.val 7 _ rfl (hal 7 (by decide))
    have k8 : gt a 53 = .string XB := hI.val 8 _ rfl (hal 8 (by decide))
    have k9 : gt a 54 = .slice q0 n0 c0 := hI.val 9 _ rfl (hal 9 (by decide))
    have k10 : gt a 55 = .string XB := hI.val 10 _ rfl (hal 10 (by decide))
    have k11 : gt a 56 = .bool true := hI.val 11 _ rfl (hal 11 (by decide))
    have k12 : gt a 57 = .bool true := hI.val 12 _ rfl (hal 12 (by decide))
    have k13 : gt a 58 = .bool true := hI.val 13 _ rfl (hal 13 (by decide))
    have k14 : gt a 59 = .slice (some ⟨gm, 0, none⟩) n0 cm := hI.val 14 _ rfl (hal 14 (by decide))
    have k15 : gt a 60 = .slice q0 n0 c0 := hI.val 15 _ rfl (hal 15 (by decide))
    have k16 : gt a 61 = .int .i64 (n0 : Int) := hI.val 16 _ rfl (hal 16 (by decide))
    have k17 : gt a 62 = .int .i64 ((n0 : Int) + 1) := hI.val 17 _ rfl (hal 17 (by decide))
    have k18 : gt a 63 = .slice (some ⟨gm, 0, none⟩) (n0 + 1) cm := hI.val 18 _ rfl (hal 18 (by decide))
    have k19 : gt a 64 = .slice q0 n0 c0 := hI.val 19 _ rfl (hal 19 (by decide))
    have k20 : gt a 65 = .int .i64 (n0 : Int) := hI.val 20 _ rfl (hal 20 (by decide))
    have k21 : gt a 66 = .pointer (some ⟨gm, n0, none⟩) := hI.val 21 _ rfl (hal 21 (by decide))
    have k22 : gt a 67 = .int .u8 77 := hI.val 22 _ rfl (hal 22 (by decide))
    have k23 : gt a 68 = .bool true := hI.val 23 _ rfl (hal 23 (by decide))
    have k24 : gt a 69 = .bool true := hI.val 24 _ rfl (hal 24 (by decide))
    have k25 : gt a 70 = .bool true := hI.val 25 _ rfl (hal 25 (by decide))
    have k26 : gt a 71 = .slice qx kx dx := hI.val 26 _ rfl (hal 26 (by decide))
    have k27 : gt a 72 = .string XX := hI.val 27 _ rfl (hal 27 (by decide))
    have k28 : gt a 73 = .slice qw kx dw := hI.val 28 _ rfl (hal 28 (by decide))
    have k29 : gt a 74 = .string XX := hI.val 29 _ rfl (hal 29 (by decide))
    have k30 : gt a 75 = .bool true := hI.val 30 _ rfl (hal 30 (by decide))
    have k31 : gt a 76 = .bool true := hI.val 31 _ rfl (hal 31 (by decide))
    have k32 : gt a 77 = .bool true := hI.val 32 _ rfl (hal 32 (by decide))
    have k33 : gt a 78 = .int .i64 er := hI.val 33 _ rfl (hal 33 (by decide))
    have k34 : gt a 79 = .int .i64 er := hI.val 34 _ rfl (hal 34 (by decide))
    have k35 : gt a 80 = .int .i64 er := hI.val 35 _ rfl (hal 35 (by decide))
    have k36 : gt a 81 = .bool true := hI.val 36 _ rfl (hal 36 (by decide))
    have k37 : gt a 82 = .bool true := hI.val 37 _ rfl (hal 37 (by decide))
    have k38 : gt a 11 = .bool true := hI.val 38 _ rfl (hal 38 (by decide))
    rw [hfr, ← HAX.out]
    have HXW := Go.Lib.hid hI.wld
    have HCZ := Go.Lib.hid (HWX.out.trans hI.wld)
    simp only [List.map_cons, List.map_nil, List.foldl_cons, List.foldl_nil, k0, k1, k2, k3, k4, k5, k6, k7, k8, k9, k10, k11, k12, k13, k14, k15, k16, k17, k18, k19, k20, k21, k22, k23, k24, k25, k26, k27, k28, k29, k30, k31, k32, k33, k34, k35, k36, k37, k38, List.setIfInBounds_toArray, List.set_cons_succ, List.set_cons_zero]
    clear hfr hI hr hal k0 k1 k2 k3 k4 k5 k6 k7 k8 k9 k10 k11 k12 k13 k14 k15 k16 k17 k18 k19 k20 k21 k22 k23 k24 k25 k26 k27 k28 k29 k30 k31 k32 k33 k34 k35 k36 k37 k38
    clear HCS HCR HCM HCB HCX HCW H77 HRS
    rcases HOW.out with ⟨hk0, hd0⟩ | ⟨h, cur, hqx, hdx, hbase, hh, hcu⟩
    · subst hk0
      clear hd0 HOW
      go_wp2_with fail
      go_loopw [12] (fun i wr => i = .int .i64 0 ∧ Ch (fun _ => False) w wr) (fun i _ => 0)
      case atStart => exact ⟨rfl, HCZ.out⟩
      case round =>
        obtain ⟨rfl, hC⟩ := hrel
        have HC := Go.Lib.hid hC
        clear hC
        go_wp2_with fail
        refine (HRP.out wr HC.out).mono ?_
        rintro e w6 ⟨hc6, rfl⟩
        have HC6 := Go.Lib.hid (HC.out.trans hc6)
        have hcv := HCW0.out w6 (HC.out.trans hc6)
        clear hc6
        go_wp2_with (go_at_call 11; refine (works_any _).mono ?_; rintro e w9 ⟨rfl, hw9⟩; have HC9 := Go.Lib.hid hw9; clear hw9)
        go_ret
        exact ⟨rfl, HC6.out.trans HC9.out⟩
    · subst hqx
      subst hdx
      have HBS := Go.Lib.hid hbase
      have HH := Go.Lib.hid (HXW.out.heap hh id)
      have HCU := Go.Lib.hid (show ∀ j, j < dx → ∃ z : Int, cur[j]? = some (.int .u8 z) from fun j hj => ⟨_, hcu j hj⟩)
      clear hbase hh hcu HOW
      go_wp2_with fail
      go_loopw [12] (fun i wr => ∃ (t : Nat) (cur : Array Value), t ≤ dx ∧ i = .int .i64 t ∧ wr.heap[h]? = some (.cells cur 5) ∧ (∀ j, j < dx → ∃ z : Int, cur[j]? = some (.int .u8 z)) ∧ Ch (fun _ => False) w wr) (fun i _ => dx - (intOf i).toNat)
      case atStart => exact ⟨0, cur, by omega, rfl, HH.out, HCU.out, HCZ.out⟩
      case round =>
        clear HCU HH
        obtain ⟨t, cu, ht, rfl, hh, hcu, hC⟩ := hrel
        have HC := Go.Lib.hid hC; have HH := Go.Lib.hid hh; have HCU := Go.Lib.hid hcu
        clear hC hh hcu
        by_cases htl : t < dx
        · obtain ⟨z, hz⟩ := HCU.out t htl
          have hcl : wr.cell? ⟨h, t, none⟩ = some (.int .u8 z) := (cell_of_heap HH.out t).trans hz
          have hfz : wr.frozen? ⟨h, t, none⟩ = false := frozen_of_heap HH.out t
          clear hz
          go_wp2_with fail
          go_roundw
          case rel =>
            refine ⟨t + 1, _, by omega, by go_num, heap_setC HH.out t _, fun j hj => ?_, Ch.setCell (S := fun _ => False) HC.out (p := ⟨h, t, none⟩) (fun hlt => by have := HBS.out; simp at hlt; omega) _⟩
            rw [Array.getElem?_setIfInBounds]
            obtain ⟨y, hy⟩ := HCU.out j hj
            by_cases e : t = j
            · subst e
              have hsz : t < cu.size := (Array.getElem?_eq_some_iff.1 hy).1
              rw [if_pos rfl, if_pos hsz]; exact ⟨_, rfl⟩
            · rw [if_neg e]; exact ⟨y, hy⟩
          case measure => simp [intOf]; omega
        · obtain rfl : t = dx := by omega
          go_wp2_with fail
          refine (HRP.out wr HC.out).mono ?_
          rintro e w6 ⟨hc6, rfl⟩
          have HC6 := Go.Lib.hid (HC.out.trans hc6)
          have hcv := HCW0.out w6 (HC.out.trans hc6)
          clear hc6
          go_wp2_with (go_at_call 11; refine (works_any _).mono ?_; rintro e w9 ⟨rfl, hw9⟩; have HC9 := Go.Lib.hid hw9; clear hw9)
          go_ret
          exact ⟨rfl, HC6.out.trans HC9.out⟩
theorem crcSeals_any (q0 q1 : Option Addr) (n0 n1 c0 c1 : Nat) (f0 f1 : Nat → UInt8) (w : World) (hb0 : BytesAt w q0 n0 c0 f0) (hb1 : BytesAt w q1 n1 c1 f1) (hc1 : n1 ≤ c1) :
    Calls Try.prog 7 #[.slice q0 n0 c0, .slice q1 n1 c1] w fun e w' => e = .returned (.bool true) ∧ Ch (fun _ => False) w w' := by
  by_cases h : n0 ≤ 500 ∧ n1 ≤ 500
  · exact seals_in q0 q1 n0 n1 c0 c1 f0 f1 w hb0 hb1 hc1 h.1 h.2
  · exact seals_out q0 q1 n0 n1 c0 c1 w h
end Go.Proofs.Ythbpfgcgfhlmnaa
