/- The reference's Open; both Opens. -/
import Derived.Test.YthbpfgcgfhlmnaaT20
import Derived.Test.YthbpfgcgfhlmnaaRegP
namespace Go.Proofs.Ythbpfgcgfhlmnaa
open Go Go.RowKit
attribute [local go_sem high] b_add b_xor b_and b_or b_shr b_shl not32 wrap_un beq32 neg32 b_turn lowB_wrap

set_option maxRecDepth 100000 in
set_option maxHeartbeats 4000000 in
theorem ropen_short (p : Option Addr) (n c : Nat) (w : World) (hn : n < 4) :
    Calls Try.prog 25 #[.slice p n c] w fun e w' => e = .returned (.tuple #[.slice none 0 0, .int .i64 130]) ∧ Ch (fun _ => False) w w' := by
  have hlt : (n : Int) < 4 := by omega
  go_enter Try.func25, Try.ntmps25
  go_upto_region 1 with (fail)
  refine wp_region_any (by kernel_rfl) ?_
  generalize hwx : ({ w with drawn := w.drawn + 1 } : World) = wx
  have HWX := Go.Lib.hid (show Ch (fun _ => False) w wx by rw [← hwx]; exact (Ch.refl _ _).drew)
  clear hwx
  generalize hax : Act.mk _ _ = ax
  have HSZ := Go.Lib.hid (show ax.tmps.size = 24 by rw [← hax]; rfl)
  have F0 := Go.Lib.hid (show gt ax 0 = .slice p n c by rw [← hax]; rfl)
  have HAX := Go.Lib.hid hax
  clear hax
  have HND := Go.Lib.hid (show ([4, 5, 6, 7, 8, 9, 10, 11, 12, 13, 14, 15, 16, 17, 18] : List Nat).Nodup by decide)
  have HLS : Hid (Lasts [(4, fun x _ => x = .slice p n c), (5, fun x _ => x = .int .i64 (n : Int)), (6, fun x _ => x = .bool true), (7, fun x _ => x = .bool true), (8, fun x _ => x = undef), (9, fun x _ => x = undef), (10, fun x _ => x = undef), (11, fun x _ => x = undef), (12, fun x _ => x = undef), (13, fun x _ => x = undef), (14, fun x _ => x = undef), (15, fun x _ => x = undef), (16, fun x _ => x = undef), (17, fun x _ => x = undef), (18, fun x _ => x = .bool true)]) := Go.Lib.hid (by
    intro p hp v w1 w2 hc h
    simp only [List.mem_cons, List.not_mem_nil, or_false] at hp
    rcases hp with rfl | rfl | rfl | rfl | rfl | rfl | rfl | rfl | rfl | rfl | rfl | rfl | rfl | rfl | rfl
    all_goals first | exact h | (obtain ⟨g, h1, h2⟩ := h; exact ⟨g, h1, hc.heap h2 id⟩) | (obtain ⟨g, c, h1, h2⟩ := h; exact ⟨g, c, h1, h2.ch hc (fun _ _ h => h)⟩))
  refine wpAny_inv (InvP 24 [(4, fun x _ => x = .slice p n c), (5, fun x _ => x = .int .i64 (n : Int)), (6, fun x _ => x = .bool true), (7, fun x _ => x = .bool true), (8, fun x _ => x = undef), (9, fun x _ => x = undef), (10, fun x _ => x = undef), (11, fun x _ => x = undef), (12, fun x _ => x = undef), (13, fun x _ => x = undef), (14, fun x _ => x = undef), (15, fun x _ => x = undef), (16, fun x _ => x = undef), (17, fun x _ => x = undef), (18, fun x _ => x = .bool true)] (fun _ w' => Ch (fun _ => False) wx w') ax) ?_ ?_ _ _ _ _ rfl (by decide) (InvP.start rfl HSZ.out (Ch.refl _ _))
  · intro L a w' i hI hr
    obtain ⟨h1, o, ho, hall⟩ := mem_ready.1 hr
    have hlt : i < 15 := (Array.getElem?_eq_some_iff.1 ho).1
    have hsplit : i = 0 ∨ i = 1 ∨ i = 2 ∨ i = 3 ∨ i = 4 ∨ i = 5 ∨ i = 6 ∨ i = 7 ∨ i = 8 ∨ i = 9 ∨ i = 10 ∨ i = 11 ∨ i = 12 ∨ i = 13 ∨ i = 14 := by omega
    clear hlt h1 hr
    rcases hsplit with rfl | rfl | rfl | rfl | rfl | rfl | rfl | rfl | rfl | rfl | rfl | rfl | rfl | rfl | rfl
    · have q0 := (hI.fixed 0 (by simp)).trans F0.out
      unfold gt at q0
      clear hall
      refine wpOp_step (o := _) rfl (fun K' hK' => ?_)
      go_simp
      exact hK' _ _ (hI.put 0 rfl (by decide) HND.out HLS.out  (Ch.refl _ _) rfl hI.wld)
    · simp at ho
      have e0 : lg L 0 = true := by unfold lg; simpa using hall ⟨0, .data⟩ (by rw [← ho]; simp) rfl
      have f0 : gt a 4 = .slice p n c := hI.val 0 _ rfl e0
      unfold gt at f0
      clear hall
      clear ho
      refine wpOp_step (o := _) rfl (fun K' hK' => ?_)
      go_simp
      exact hK' _ _ (hI.put 1 rfl (by decide) HND.out HLS.out  (Ch.refl _ _) rfl hI.wld)
    · simp at ho
      have e1 : lg L 1 = true := by unfold lg; simpa using hall ⟨1, .data⟩ (by rw [← ho]; simp) rfl
      have f1 : gt a 5 = .int .i64 (n : Int) := hI.val 1 _ rfl e1
      unfold gt at f1
      clear hall
      clear ho
      refine wpOp_step (o := _) rfl (fun K' hK' => ?_)
      go_simp
      exact hK' _ _ (hI.put 2 rfl (by decide) HND.out HLS.out  (Ch.refl _ _) rfl hI.wld)
    · simp at ho
      have e2 : lg L 2 = true := by unfold lg; simpa using hall ⟨2, .data⟩ (by rw [← ho]; simp) rfl
      have f2 : gt a 6 = .bool true := hI.val 2 _ rfl e2
      unfold gt at f2
      clear hall
      clear ho
      refine wpOp_step (o := _) rfl (fun K' hK' => ?_)
      go_simp
      exact hK' _ _ (hI.put 3 rfl (by decide) HND.out HLS.out  (Ch.refl _ _) rfl hI.wld)
    · simp at ho
      have eg : lg L 3 = true := by unfold lg; simpa using hall ⟨3, .guard⟩ (by rw [← ho]; simp) rfl
      have fg0 : gt a 7 = .bool true := hI.val 3 _ rfl eg
      have fg := guard_of fg0 (by rw [hI.size]; decide)
      clear eg fg0
      clear hall
      clear ho
      refine wpOp_step (o := _) rfl (fun K' hK' => ?_)
      rw [if_neg (by simp [Region.wanted, yielded, fg])]
      exact hK' _ _ (hI.put 4 rfl (by decide) HND.out HLS.out  (Ch.refl _ _) rfl hI.wld)
    · simp at ho
      have eg : lg L 3 = true := by unfold lg; simpa using hall ⟨3, .guard⟩ (by rw [← ho]; simp) rfl
      have fg0 : gt a 7 = .bool true := hI.val 3 _ rfl eg
      have fg := guard_of fg0 (by rw [hI.size]; decide)
      clear eg fg0
      clear hall
      clear ho
      refine wpOp_step (o := _) rfl (fun K' hK' => ?_)
      rw [if_neg (by simp [Region.wanted, yielded, fg])]
      exact hK' _ _ (hI.put 5 rfl (by decide) HND.out HLS.out  (Ch.refl _ _) rfl hI.wld)
    · simp at ho
      have eg : lg L 3 = true := by unfold lg; simpa using hall ⟨3, .guard⟩ (by rw [← ho]; simp) rfl
      have fg0 : gt a 7 = .bool true := hI.val 3 _ rfl eg
      have fg := guard_of fg0 (by rw [hI.size]; decide)
      clear eg fg0
      clear hall
      clear ho
      refine wpOp_step (o := _) rfl (fun K' hK' => ?_)
      rw [if_neg (by simp [Region.wanted, yielded, fg])]
      exact hK' _ _ (hI.put 6 rfl (by decide) HND.out HLS.out  (Ch.refl _ _) rfl hI.wld)
    · simp at ho
      have eg : lg L 3 = true := by unfold lg; simpa using hall ⟨3, .guard⟩ (by rw [← ho]; simp) rfl
      have fg0 : gt a 7 = .bool true := hI.val 3 _ rfl eg
      have fg := guard_of fg0 (by rw [hI.size]; decide)
      clear eg fg0
      clear hall
      clear ho
      refine wpOp_step (o := _) rfl (fun K' hK' => ?_)
      rw [if_neg (by simp [Region.wanted, yielded, fg])]
      exact hK' _ _ (hI.put 7 rfl (by decide) HND.out HLS.out  (Ch.refl _ _) rfl hI.wld)
    · simp at ho
      have eg : lg L 3 = true := by unfold lg; simpa using hall ⟨3, .guard⟩ (by rw [← ho]; simp) rfl
      have fg0 : gt a 7 = .bool true := hI.val 3 _ rfl eg
      have fg := guard_of fg0 (by rw [hI.size]; decide)
      clear eg fg0
      clear hall
      clear ho
      refine wpOp_step (o := _) rfl (fun K' hK' => ?_)
      rw [if_neg (by simp [Region.wanted, yielded, fg])]
      exact hK' _ _ (hI.put 8 rfl (by decide) HND.out HLS.out  (Ch.refl _ _) rfl hI.wld)
    · simp at ho
      have eg : lg L 3 = true := by unfold lg; simpa using hall ⟨3, .guard⟩ (by rw [← ho]; simp) rfl
      have fg0 : gt a 7 = .bool true := hI.val 3 _ rfl eg
      have fg := guard_of fg0 (by rw [hI.size]; decide)
      clear eg fg0
      clear hall
      clear ho
      refine wpOp_step (o := _) rfl (fun K' hK' => ?_)
      rw [if_neg (by simp [Region.wanted, yielded, fg])]
      exact hK' _ _ (hI.put 9 rfl (by decide) HND.out HLS.out  (Ch.refl _ _) rfl hI.wld)
    · simp at ho
      have eg : lg L 3 = true := by unfold lg; simpa using hall ⟨3, .guard⟩ (by rw [← ho]; simp) rfl
      have fg0 : gt a 7 = .bool true := hI.val 3 _ rfl eg
      have fg := guard_of fg0 (by rw [hI.size]; decide)
      clear eg fg0
      clear hall
      clear ho
      refine wpOp_step (o := _) rfl (fun K' hK' => ?_)
      rw [if_neg (by simp [Region.wanted, yielded, fg])]
      exact hK' _ _ (hI.put 10 rfl (by decide) HND.out HLS.out  (Ch.refl _ _) rfl hI.wld)
    · simp at ho
      have eg : lg L 3 = true := by unfold lg; simpa using hall ⟨3, .guard⟩ (by rw [← ho]; simp) rfl
      have fg0 : gt a 7 = .bool true := hI.val 3 _ rfl eg
      have fg := guard_of fg0 (by rw [hI.size]; decide)
      clear eg fg0
      clear hall
      clear ho
      refine wpOp_step (o := _) rfl (fun K' hK' => ?_)
      rw [if_neg (by simp [Region.wanted, yielded, fg])]
      exact hK' _ _ (hI.put 11 rfl (by decide) HND.out HLS.out  (Ch.refl _ _) rfl hI.wld)
    · simp at ho
      have eg : lg L 3 = true := by unfold lg; simpa using hall ⟨3, .guard⟩ (by rw [← ho]; simp) rfl
      have fg0 : gt a 7 = .bool true := hI.val 3 _ rfl eg
      have fg := guard_of fg0 (by rw [hI.size]; decide)
      clear eg fg0
      clear hall
      clear ho
      refine wpOp_step (o := _) rfl (fun K' hK' => ?_)
      rw [if_neg (by simp [Region.wanted, yielded, fg])]
      exact hK' _ _ (hI.put 12 rfl (by decide) HND.out HLS.out  (Ch.refl _ _) rfl hI.wld)
    · simp at ho
      have eg : lg L 3 = true := by unfold lg; simpa using hall ⟨3, .guard⟩ (by rw [← ho]; simp) rfl
      have fg0 : gt a 7 = .bool true := hI.val 3 _ rfl eg
      have fg := guard_of fg0 (by rw [hI.size]; decide)
      clear eg fg0
      clear hall
      clear ho
      refine wpOp_step (o := _) rfl (fun K' hK' => ?_)
      rw [if_neg (by simp [Region.wanted, yielded, fg])]
      exact hK' _ _ (hI.put 13 rfl (by decide) HND.out HLS.out  (Ch.refl _ _) rfl hI.wld)
    · simp at ho
      have e3 : lg L 3 = true := by unfold lg; simpa using hall ⟨3, .data⟩ (by rw [← ho]; simp) rfl
      have f3 : gt a 7 = .bool true := hI.val 3 _ rfl e3
      have e13 : lg L 13 = true := by unfold lg; simpa using hall ⟨13, .data⟩ (by rw [← ho]; simp) rfl
      have f13 : gt a 17 = undef := hI.val 13 _ rfl e13
      unfold gt at f3 f13
      clear hall
      clear ho
      refine wpOp_step (o := _) rfl (fun K' hK' => ?_)
      go_simp
      exact hK' _ _ (hI.put 14 rfl (by decide) HND.out HLS.out  (Ch.refl _ _) rfl hI.wld)
  · intro L a w' hI hr
    have hal := all_listed' (md := .any) (by kernel_rfl) hI.lsize hr
    have hfr := hI.frame HSZ.out (by simp) (fun i hi => hal i hi)
    have k0 : gt a 4 = .slice p n c := hI.val 0 _ rfl (hal 0 (by decide))
    have k1 : gt a 5 = .int .i64 (n : Int) := hI.val 1 _ rfl (hal 1 (by decide))
    have k2 : gt a 6 = .bool true := hI.val 2 _ rfl (hal 2 (by decide))
    have k3 : gt a 7 = .bool true := hI.val 3 _ rfl (hal 3 (by decide))
    have k4 : gt a 8 = undef := hI.val 4 _ rfl (hal 4 (by decide))
    have k5 : gt a 9 = undef := hI.val 5 _ rfl (hal 5 (by decide))
    have k6 : gt a 10 = undef := hI.val 6 _ rfl (hal 6 (by decide))
    have k7 : gt a 11 = undef := hI.val 7 _ rfl (hal 7 (by decide))
    have k8 : gt a 12 = undef := hI.val 8 _ rfl (hal 8 (by decide))
    have k9 : gt a 13 = undef := hI.val 9 _ rfl (hal 9 (by decide))
    have k10 : gt a 14 = undef := hI.val 10 _ rfl (hal 10 (by decide))
    have k11 : gt a 15 = undef := hI.val 11 _ rfl (hal 11 (by decide))
    have k12 : gt a 16 = undef := hI.val 12 _ rfl (hal 12 (by decide))
    have k13 : gt a 17 = undef := hI.val 13 _ rfl (hal 13 (by decide))
    have k14 : gt a 18 = .bool true := hI.val 14 _ rfl (hal 14 (by decide))
    rw [hfr, ← HAX.out]
    have HCZ := Go.Lib.hid (HWX.out.trans hI.wld)
    simp only [List.map_cons, List.map_nil, List.foldl_cons, List.foldl_nil, k0, k1, k2, k3, k4, k5, k6, k7, k8, k9, k10, k11, k12, k13, k14, List.setIfInBounds_toArray, List.set_cons_succ, List.set_cons_zero]
    clear hfr hI hr hal k0 k1 k2 k3 k4 k5 k6 k7 k8 k9 k10 k11 k12 k13 k14
    go_wp2_with fail
    refine bodyPost_ret (v := .tuple #[.slice none 0 0, .int .i64 130]) (by simp [results, Try.results25, go_sem]) rfl ⟨rfl, HCZ.out⟩

set_option maxRecDepth 100000 in
set_option maxHeartbeats 4000000 in
theorem ropen_long (p : Option Addr) (m c : Nat) (g : Nat → UInt8) (w : World) (hm : m ≤ 100000000000) (hc : m + 4 ≤ c) (hb : BytesAt w p (m + 4) c g) :
    Calls Try.prog 25 #[.slice p (m + 4) c] w fun e w' => Ch (fun _ => False) w w' ∧
      ((bL (sealF g m) (m + 4) == bL g (m + 4)) = false ∧ e = .returned (.tuple #[.slice none 0 0, .int .i64 130]) ∨
       (bL (sealF g m) (m + 4) == bL g (m + 4)) = true ∧ e = .returned (.tuple #[.slice p m c, .int .i64 0])) := by
  have HB := Go.Lib.hid hb
  have HS := Go.Lib.hid (fun w => slice_to p (m + 4) c m (by omega) w)
  have hs := HS.out
  have HX := Go.Lib.hid (fun w' (h : Ch (fun _ => False) w w') => (rseal_any p m c g w' ((hb.ch h (fun _ _ h => h)).short (by omega)) (by omega)).mono (fun e w2 h2 => (show ∃ q d, e = .returned (.slice q (m + 4) d) ∧ BytesAt w2 q (m + 4) d (sealF g m) ∧ Ch (fun _ => False) w' w2 from by
    obtain ⟨v, rfl, ho, hc⟩ := h2
    obtain ⟨q, d, rfl, hq⟩ := own_bytes ho
    exact ⟨q, d, rfl, hq, hc⟩)))
  have HCX := Go.Lib.hid (fun q d w' (h : BytesAt w' q (m + 4) d (sealF g m)) => conv_bytes h)
  have HCY := Go.Lib.hid (fun w' (h : Ch (fun _ => False) w w') => conv_bytes (hb.ch h (fun _ _ h => h)))
  have HE1 := Go.Lib.hid (show ((bS (sealF g m) (m + 4)).toList == (bS g (m + 4)).toList) = (bL (sealF g m) (m + 4) == bL g (m + 4)) by rw [bS_list, bS_list])
  have HE2 := Go.Lib.hid (show ((bS (sealF g m) (m + 4)).toList != (bS g (m + 4)).toList) = !(bL (sealF g m) (m + 4) == bL g (m + 4)) by rw [bS_list, bS_list]; rfl)
  generalize hE : (bL (sealF g m) (m + 4) == bL g (m + 4)) = E at *
  generalize bS (sealF g m) (m + 4) = X at *
  generalize bS g (m + 4) = Y at *
  clear hE hb
  have hm4 : (m : Int) ≤ 100000000000 := by omega
  go_enter Try.func25, Try.ntmps25
  go_upto_region 1 with (fail)
  refine wp_region_any (by kernel_rfl) ?_
  generalize hwx : ({ w with drawn := w.drawn + 1 } : World) = wx
  have HWX := Go.Lib.hid (show Ch (fun _ => False) w wx by rw [← hwx]; exact (Ch.refl _ _).drew)
  clear hwx
  generalize hax : Act.mk _ _ = ax
  have HSZ := Go.Lib.hid (show ax.tmps.size = 24 by rw [← hax]; rfl)
  have F0 := Go.Lib.hid (show gt ax 0 = .slice p (m + 4) c by rw [← hax]; rfl)
  have HAX := Go.Lib.hid hax
  clear hax
  have HND := Go.Lib.hid (show ([4, 5, 6, 7, 8, 9, 10, 11, 12, 13, 14, 15, 16, 17, 18] : List Nat).Nodup by decide)
  have HLS : Hid (Lasts [(4, fun x _ => x = .slice p (m + 4) c), (5, fun x _ => x = .int .i64 ((m : Int) + 4)), (6, fun x _ => x = .bool false), (7, fun x _ => x = .bool false), (8, fun x _ => x = .slice p (m + 4) c), (9, fun x _ => x = .slice p (m + 4) c), (10, fun x _ => x = .int .i64 ((m : Int) + 4)), (11, fun x _ => x = .int .i64 (m : Int)), (12, fun x _ => x = .slice p m c), (13, fun x v => ∃ q d, x = .slice q (m + 4) d ∧ BytesAt v q (m + 4) d (sealF g m)), (14, fun x _ => x = .string X), (15, fun x _ => x = .slice p (m + 4) c), (16, fun x _ => x = .string Y), (17, fun x _ => x = .bool !E), (18, fun x _ => x = .bool !E)]) := Go.Lib.hid (by
    intro p hp v w1 w2 hc h
    simp only [List.mem_cons, List.not_mem_nil, or_false] at hp
    rcases hp with rfl | rfl | rfl | rfl | rfl | rfl | rfl | rfl | rfl | rfl | rfl | rfl | rfl | rfl | rfl
    all_goals first | exact h | (obtain ⟨g, h1, h2⟩ := h; exact ⟨g, h1, hc.heap h2 id⟩) | (obtain ⟨g, c, h1, h2⟩ := h; exact ⟨g, c, h1, h2.ch hc (fun _ _ h => h)⟩))
  refine wpAny_inv (InvP 24 [(4, fun x _ => x = .slice p (m + 4) c), (5, fun x _ => x = .int .i64 ((m : Int) + 4)), (6, fun x _ => x = .bool false), (7, fun x _ => x = .bool false), (8, fun x _ => x = .slice p (m + 4) c), (9, fun x _ => x = .slice p (m + 4) c), (10, fun x _ => x = .int .i64 ((m : Int) + 4)), (11, fun x _ => x = .int .i64 (m : Int)), (12, fun x _ => x = .slice p m c), (13, fun x v => ∃ q d, x = .slice q (m + 4) d ∧ BytesAt v q (m + 4) d (sealF g m)), (14, fun x _ => x = .string X), (15, fun x _ => x = .slice p (m + 4) c), (16, fun x _ => x = .string Y), (17, fun x _ => x = .bool !E), (18, fun x _ => x = .bool !E)] (fun _ w' => Ch (fun _ => False) wx w') ax) ?_ ?_ _ _ _ _ rfl (by decide) (InvP.start rfl HSZ.out (Ch.refl _ _))
  · intro L a w' i hI hr
    obtain ⟨h1, o, ho, hall⟩ := mem_ready.1 hr
    have hlt : i < 15 := (Array.getElem?_eq_some_iff.1 ho).1
    have hsplit : i = 0 ∨ i = 1 ∨ i = 2 ∨ i = 3 ∨ i = 4 ∨ i = 5 ∨ i = 6 ∨ i = 7 ∨ i = 8 ∨ i = 9 ∨ i = 10 ∨ i = 11 ∨ i = 12 ∨ i = 13 ∨ i = 14 := by omega
    clear hlt h1 hr
    rcases hsplit with rfl | rfl | rfl | rfl | rfl | rfl | rfl | rfl | rfl | rfl | rfl | rfl | rfl | rfl | rfl
    · have q0 := (hI.fixed 0 (by simp)).trans F0.out
      unfold gt at q0
      clear hall
      refine wpOp_step (o := _) rfl (fun K' hK' => ?_)
      go_simp
      exact hK' _ _ (hI.put 0 rfl (by decide) HND.out HLS.out  (Ch.refl _ _) rfl hI.wld)
    · simp at ho
      have e0 : lg L 0 = true := by unfold lg; simpa using hall ⟨0, .data⟩ (by rw [← ho]; simp) rfl
      have f0 : gt a 4 = .slice p (m + 4) c := hI.val 0 _ rfl e0
      unfold gt at f0
      clear hall
      clear ho
      refine wpOp_step (o := _) rfl (fun K' hK' => ?_)
      go_simp
      exact hK' _ _ (hI.put 1 rfl (by decide) HND.out HLS.out  (Ch.refl _ _) rfl hI.wld)
    · simp at ho
      have e1 : lg L 1 = true := by unfold lg; simpa using hall ⟨1, .data⟩ (by rw [← ho]; simp) rfl
      have f1 : gt a 5 = .int .i64 ((m : Int) + 4) := hI.val 1 _ rfl e1
      have hlt4 : ¬ ((m : Int) + 4 < 4) := by omega
      unfold gt at f1
      clear hall
      clear ho
      refine wpOp_step (o := _) rfl (fun K' hK' => ?_)
      go_simp
      exact hK' _ _ (hI.put 2 rfl (by decide) HND.out HLS.out  (Ch.refl _ _) rfl hI.wld)
    · simp at ho
      have e2 : lg L 2 = true := by unfold lg; simpa using hall ⟨2, .data⟩ (by rw [← ho]; simp) rfl
      have f2 : gt a 6 = .bool false := hI.val 2 _ rfl e2
      unfold gt at f2
      clear hall
      clear ho
      refine wpOp_step (o := _) rfl (fun K' hK' => ?_)
      go_simp
      exact hK' _ _ (hI.put 3 rfl (by decide) HND.out HLS.out  (Ch.refl _ _) rfl hI.wld)
    · simp at ho
      have q0 := (hI.fixed 0 (by simp)).trans F0.out
      have eg : lg L 3 = true := by unfold lg; simpa using hall ⟨3, .guard⟩ (by rw [← ho]; simp) rfl
      have fg0 : gt a 7 = .bool false := hI.val 3 _ rfl eg
      have fg := guard_of fg0 (by rw [hI.size]; decide)
      clear eg fg0
      unfold gt at q0
      clear hall
      clear ho
      refine wpOp_step (o := _) rfl (fun K' hK' => ?_)
      go_simp
      exact hK' _ _ (hI.put 4 rfl (by decide) HND.out HLS.out  (Ch.refl _ _) rfl hI.wld)
    · simp at ho
      have q0 := (hI.fixed 0 (by simp)).trans F0.out
      have eg : lg L 3 = true := by unfold lg; simpa using hall ⟨3, .guard⟩ (by rw [← ho]; simp) rfl
      have fg0 : gt a 7 = .bool false := hI.val 3 _ rfl eg
      have fg := guard_of fg0 (by rw [hI.size]; decide)
      clear eg fg0
      unfold gt at q0
      clear hall
      clear ho
      refine wpOp_step (o := _) rfl (fun K' hK' => ?_)
      go_simp
      exact hK' _ _ (hI.put 5 rfl (by decide) HND.out HLS.out  (Ch.refl _ _) rfl hI.wld)
    · simp at ho
      have e5 : lg L 5 = true := by unfold lg; simpa using hall ⟨5, .data⟩ (by rw [← ho]; simp) rfl
      have f5 : gt a 9 = .slice p (m + 4) c := hI.val 5 _ rfl e5
      have eg : lg L 3 = true := by unfold lg; simpa using hall ⟨3, .guard⟩ (by rw [← ho]; simp) rfl
      have fg0 : gt a 7 = .bool false := hI.val 3 _ rfl eg
      have fg := guard_of fg0 (by rw [hI.size]; decide)
      clear eg fg0
      unfold gt at f5
      clear hall
      clear ho
      refine wpOp_step (o := _) rfl (fun K' hK' => ?_)
      go_simp
      exact hK' _ _ (hI.put 6 rfl (by decide) HND.out HLS.out  (Ch.refl _ _) rfl hI.wld)
    · simp at ho
      have e6 : lg L 6 = true := by unfold lg; simpa using hall ⟨6, .data⟩ (by rw [← ho]; simp) rfl
      have f6 : gt a 10 = .int .i64 ((m : Int) + 4) := hI.val 6 _ rfl e6
      have eg : lg L 3 = true := by unfold lg; simpa using hall ⟨3, .guard⟩ (by rw [← ho]; simp) rfl
      have fg0 : gt a 7 = .bool false := hI.val 3 _ rfl eg
      have fg := guard_of fg0 (by rw [hI.size]; decide)
      clear eg fg0
      have hwm : IntKind.i64.wrap (m : Int) = (m : Int) := by rw [IntKind.wrap_i64]; omega
      unfold gt at f6
      clear hall
      clear ho
      refine wpOp_step (o := _) rfl (fun K' hK' => ?_)
      go_simp
      exact hK' _ _ (hI.put 7 rfl (by decide) HND.out HLS.out  (Ch.refl _ _) rfl hI.wld)
    · simp at ho
      have e4 : lg L 4 = true := by unfold lg; simpa using hall ⟨4, .data⟩ (by rw [← ho]; simp) rfl
      have f4 : gt a 8 = .slice p (m + 4) c := hI.val 4 _ rfl e4
      have e7 : lg L 7 = true := by unfold lg; simpa using hall ⟨7, .data⟩ (by rw [← ho]; simp) rfl
      have f7 : gt a 11 = .int .i64 (m : Int) := hI.val 7 _ rfl e7
      have eg : lg L 3 = true := by unfold lg; simpa using hall ⟨3, .guard⟩ (by rw [← ho]; simp) rfl
      have fg0 : gt a 7 = .bool false := hI.val 3 _ rfl eg
      have fg := guard_of fg0 (by rw [hI.size]; decide)
      clear eg fg0
      have hsl := HS.out w'
      unfold gt at f4 f7
      clear hall
      clear ho
      refine wpOp_step (o := _) rfl (fun K' hK' => ?_)
      go_simp
      exact hK' _ _ (hI.put 8 rfl (by decide) HND.out HLS.out  (Ch.refl _ _) rfl hI.wld)
    · simp at ho
      have e8 : lg L 8 = true := by unfold lg; simpa using hall ⟨8, .data⟩ (by rw [← ho]; simp) rfl
      have f8 : gt a 12 = .slice p m c := hI.val 8 _ rfl e8
      have eg : lg L 3 = true := by unfold lg; simpa using hall ⟨3, .guard⟩ (by rw [← ho]; simp) rfl
      have fg0 : gt a 7 = .bool false := hI.val 3 _ rfl eg
      have fg := guard_of fg0 (by rw [hI.size]; decide)
      clear eg fg0
      unfold gt at f8
      clear hall
      clear ho
      have HCT := Go.Lib.hid (HX.out w' (HWX.out.trans hI.wld))
      refine wpOp_step (o := _) rfl (fun K' hK' => ?_)
      go_simp
      refine HCT.out.mono ?_
      rintro e w3 ⟨q, d, rfl, hq, hc⟩
      exact hK' _ _ (hI.put 9 rfl (by decide) HND.out HLS.out hc ⟨q, d, rfl, hq⟩ (hI.wld.trans hc))
    · simp at ho
      have e9 : lg L 9 = true := by unfold lg; simpa using hall ⟨9, .data⟩ (by rw [← ho]; simp) rfl
      obtain ⟨g9, c9, f9, hh9⟩ : (fun x v => ∃ q d, x = .slice q (m + 4) d ∧ BytesAt v q (m + 4) d (sealF g m)) (gt a 13) w' := hI.val 9 _ rfl e9
      have eg : lg L 3 = true := by unfold lg; simpa using hall ⟨3, .guard⟩ (by rw [← ho]; simp) rfl
      have fg0 : gt a 7 = .bool false := hI.val 3 _ rfl eg
      have fg := guard_of fg0 (by rw [hI.size]; decide)
      clear eg fg0
      have hcv := HCX.out _ _ w' hh9
      unfold gt at f9
      clear hall
      clear ho
      refine wpOp_step (o := _) rfl (fun K' hK' => ?_)
      go_simp
      exact hK' _ _ (hI.put 10 rfl (by decide) HND.out HLS.out  (Ch.refl _ _) rfl hI.wld)
    · simp at ho
      have q0 := (hI.fixed 0 (by simp)).trans F0.out
      have eg : lg L 3 = true := by unfold lg; simpa using hall ⟨3, .guard⟩ (by rw [← ho]; simp) rfl
      have fg0 : gt a 7 = .bool false := hI.val 3 _ rfl eg
      have fg := guard_of fg0 (by rw [hI.size]; decide)
      clear eg fg0
      unfold gt at q0
      clear hall
      clear ho
      refine wpOp_step (o := _) rfl (fun K' hK' => ?_)
      go_simp
      exact hK' _ _ (hI.put 11 rfl (by decide) HND.out HLS.out  (Ch.refl _ _) rfl hI.wld)
    · simp at ho
      have e11 : lg L 11 = true := by unfold lg; simpa using hall ⟨11, .data⟩ (by rw [← ho]; simp) rfl
      have f11 : gt a 15 = .slice p (m + 4) c := hI.val 11 _ rfl e11
      have eg : lg L 3 = true := by unfold lg; simpa using hall ⟨3, .guard⟩ (by rw [← ho]; simp) rfl
      have fg0 : gt a 7 = .bool false := hI.val 3 _ rfl eg
      have fg := guard_of fg0 (by rw [hI.size]; decide)
      clear eg fg0
      have hcv := HCY.out w' (HWX.out.trans hI.wld)
      unfold gt at f11
      clear hall
      clear ho
      refine wpOp_step (o := _) rfl (fun K' hK' => ?_)
      go_simp
      exact hK' _ _ (hI.put 12 rfl (by decide) HND.out HLS.out  (Ch.refl _ _) rfl hI.wld)
    · simp at ho
      have e10 : lg L 10 = true := by unfold lg; simpa using hall ⟨10, .data⟩ (by rw [← ho]; simp) rfl
      have f10 : gt a 14 = .string X := hI.val 10 _ rfl e10
      have e12 : lg L 12 = true := by unfold lg; simpa using hall ⟨12, .data⟩ (by rw [← ho]; simp) rfl
      have f12 : gt a 16 = .string Y := hI.val 12 _ rfl e12
      have eg : lg L 3 = true := by unfold lg; simpa using hall ⟨3, .guard⟩ (by rw [← ho]; simp) rfl
      have fg0 : gt a 7 = .bool false := hI.val 3 _ rfl eg
      have fg := guard_of fg0 (by rw [hI.size]; decide)
      clear eg fg0
      have hq1 := HE1.out
      have hq2 := HE2.out
      unfold gt at f10 f12
      clear hall
      clear ho
      refine wpOp_step (o := _) rfl (fun K' hK' => ?_)
      go_simp
      exact hK' _ _ (hI.put 13 rfl (by decide) HND.out HLS.out  (Ch.refl _ _) rfl hI.wld)
    · simp at ho
      have e3 : lg L 3 = true := by unfold lg; simpa using hall ⟨3, .data⟩ (by rw [← ho]; simp) rfl
      have f3 : gt a 7 = .bool false := hI.val 3 _ rfl e3
      have e13 : lg L 13 = true := by unfold lg; simpa using hall ⟨13, .data⟩ (by rw [← ho]; simp) rfl
      have f13 : gt a 17 = .bool !E := hI.val 13 _ rfl e13
      unfold gt at f3 f13
      clear hall
      clear ho
      refine wpOp_step (o := _) rfl (fun K' hK' => ?_)
      go_simp
      exact hK' _ _ (hI.put 14 rfl (by decide) HND.out HLS.out  (Ch.refl _ _) rfl hI.wld)
  · intro L a w' hI hr
    have hal := all_listed' (md := .any) (by kernel_rfl) hI.lsize hr
    have hfr := hI.frame HSZ.out (by simp) (fun i hi => hal i hi)
    have k0 : gt a 4 = .slice p (m + 4) c := hI.val 0 _ rfl (hal 0 (by decide))
    have k1 : gt a 5 = .int .i64 ((m : Int) + 4) := hI.val 1 _ rfl (hal 1 (by decide))
    have k2 : gt a 6 = .bool false := hI.val 2 _ rfl (hal 2 (by decide))
    have k3 : gt a 7 = .bool false := hI.val 3 _ rfl (hal 3 (by decide))
    have k4 : gt a 8 = .slice p (m + 4) c := hI.val 4 _ rfl (hal 4 (by decide))
    have k5 : gt a 9 = .slice p (m + 4) c := hI.val 5 _ rfl (hal 5 (by decide))
    have k6 : gt a 10 = .int .i64 ((m : Int) + 4) := hI.val 6 _ rfl (hal 6 (by decide))
    have k7 : gt a 11 = .int .i64 (m : Int) := hI.val 7 _ rfl (hal 7 (by decide))
    have k8 : gt a 12 = .slice p m c := hI.val 8 _ rfl (hal 8 (by decide))
    obtain ⟨g9, c9, k9, _⟩ : (fun x v => ∃ q d, x = .slice q (m + 4) d ∧ BytesAt v q (m + 4) d (sealF g m)) (gt a 13) w' := hI.val 9 _ rfl (hal 9 (by decide))
    have k10 : gt a 14 = .string X := hI.val 10 _ rfl (hal 10 (by decide))
    have k11 : gt a 15 = .slice p (m + 4) c := hI.val 11 _ rfl (hal 11 (by decide))
    have k12 : gt a 16 = .string Y := hI.val 12 _ rfl (hal 12 (by decide))
    have k13 : gt a 17 = .bool !E := hI.val 13 _ rfl (hal 13 (by decide))
    have k14 : gt a 18 = .bool !E := hI.val 14 _ rfl (hal 14 (by decide))
    rw [hfr, ← HAX.out]
    have HCZ := Go.Lib.hid (HWX.out.trans hI.wld)
    simp only [List.map_cons, List.map_nil, List.foldl_cons, List.foldl_nil, k0, k1, k2, k3, k4, k5, k6, k7, k8, k9, k10, k11, k12, k13, k14, List.setIfInBounds_toArray, List.set_cons_succ, List.set_cons_zero]
    clear hfr hI hr hal k0 k1 k2 k3 k4 k5 k6 k7 k8 k9 k10 k11 k12 k13 k14 HX HCX HCY HE1 HE2
    cases E with
    | false =>
      go_wp2_with fail
      refine bodyPost_ret (v := .tuple #[.slice none 0 0, .int .i64 130]) (by simp [results, Try.results25, go_sem]) rfl ⟨HCZ.out, rfl⟩
    | true =>
      go_wp2_with fail
      refine bodyPost_ret (v := .tuple #[.slice p m c, .int .i64 0]) (by simp [results, Try.results25, go_sem]) rfl ⟨HCZ.out, rfl⟩

/-- Where the bytes of an answer of one's own lie. -/
def OwnAt (base : Nat) (w : World) (q : Option Addr) (k d : Nat) (g : Nat → UInt8) : Prop :=
  (k = 0 ∧ (q = none → d = 0)) ∨ (∃ h cur, q = some ⟨h, 0, none⟩ ∧ d = k ∧ base ≤ h ∧ w.heap[h]? = some (.cells cur 5) ∧ ∀ j, j < k → cur[j]? = some (.int .u8 ((g j).toNat : Int)))
theorem open_both (p : Option Addr) (n c : Nat) (g : Nat → UInt8) (w : World) (hn : n ≤ 1000) (hc : n ≤ c) (hb : BytesAt w p n c g) :
    ∃ (k : Nat) (er : Int) (qw : Option Addr) (dw : Nat), k ≤ n ∧ BytesAt w qw k dw g ∧
      (∀ W, Ch (fun _ => False) w W → Calls Try.prog 24 #[.slice p n c] W fun e w' => Ch (fun _ => False) W w' ∧ ∃ qx dx, e = .returned (.tuple #[.slice qx k dx, .int .i64 er]) ∧ OwnAt W.heap.size w' qx k dx g) ∧
      (∀ W, Ch (fun _ => False) w W → Calls Try.prog 25 #[.slice p n c] W fun e w' => Ch (fun _ => False) W w' ∧ e = .returned (.tuple #[.slice qw k dw, .int .i64 er])) := by
  by_cases h4 : n < 4
  · exact ⟨0, 130, none, 0, by omega, .inr ⟨rfl, fun _ => rfl⟩, fun W _ => (open_short p n c W h4).mono (fun e w' h => ⟨h.2 ▸ Ch.refl _ _, none, 0, h.1, .inl ⟨rfl, fun _ => rfl⟩⟩), fun W _ => (ropen_short p n c W h4).mono (fun e w' h => ⟨h.2, h.1⟩)⟩
  · obtain ⟨m, rfl⟩ : ∃ m, n = m + 4 := ⟨n - 4, by omega⟩
    obtain ⟨x, y, rfl, hx, hcell⟩ := hb.at0 (by omega)
    have ho := fun W (h : Ch (fun _ => False) w W) => open_long x y m c g W (by omega) hc (Nat.lt_of_lt_of_le hx h.size) (fun j hj => h.get (hcell j hj) id)
    have hr := fun W (h : Ch (fun _ => False) w W) => ropen_long (some ⟨x, y, none⟩) m c g W (by omega) hc (hb.ch h (fun _ _ h => h))
    cases hE : (bL (sealF g m) (m + 4) == bL g (m + 4)) with
    | false =>
      refine ⟨0, 130, none, 0, by omega, .inr ⟨rfl, fun _ => rfl⟩, fun W h => (ho W h).mono (fun e w' h2 => ?_), fun W h => (hr W h).mono (fun e w' h2 => ?_)⟩
      · obtain ⟨h3, h4 | h4⟩ := h2
        · exact ⟨h3, none, 0, h4.2, .inl ⟨rfl, fun _ => rfl⟩⟩
        · rw [hE] at h4; cases h4.1
      · obtain ⟨h3, h4 | h4⟩ := h2
        · exact ⟨h3, h4.2⟩
        · rw [hE] at h4; cases h4.1
    | true =>
      refine ⟨m, 0, some ⟨x, y, none⟩, c, by omega, hb.short (by omega), fun W h => (ho W h).mono (fun e w' h2 => ?_), fun W h => (hr W h).mono (fun e w' h2 => ?_)⟩
      · obtain ⟨h3, h4 | ⟨_, hh, cur, h5, h6, h7, h8⟩⟩ := h2
        · rw [hE] at h4; cases h4.1
        · exact ⟨h3, _, _, h5, .inr ⟨hh, cur, rfl, rfl, h6, h7, h8⟩⟩
      · obtain ⟨h3, h4 | h4⟩ := h2
        · rw [hE] at h4; cases h4.1
        · exact ⟨h3, h4.2⟩
end Go.Proofs.Ythbpfgcgfhlmnaa
