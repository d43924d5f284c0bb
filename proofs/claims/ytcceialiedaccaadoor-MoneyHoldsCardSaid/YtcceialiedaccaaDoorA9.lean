/- A fee, and what is sent by it. -/
import Derived.Test.YtcceialiedaccaaDoorA5
namespace Go.Proofs.YtcceialiedaccaaDoor
open Go Go.RowKit

theorem ints_at2 {w : World} {g : Nat} {x y : Int} {fr : Nat × Nat} (h : w.heap[g]? = some (.cells #[.int .i64 x, .int .i64 y] 2 fr)) : IntsAt w (some ⟨g, 0, none⟩) 2 (two x y) :=
  .inl ⟨g, 0, rfl, (Array.getElem?_eq_some_iff.1 h).1, fun j hj => by
    match j, hj with
    | 0, _ => exact cell_of_heap h 0
    | 1, _ => exact cell_of_heap h 1⟩
theorem ints_at3 {w : World} {g : Nat} {x y u : Int} {fr : Nat × Nat} (h : w.heap[g]? = some (.cells #[.int .i64 x, .int .i64 y, .int .i64 u] 2 fr)) : IntsAt w (some ⟨g, 0, none⟩) 3 (three x y u) :=
  .inl ⟨g, 0, rfl, (Array.getElem?_eq_some_iff.1 h).1, fun j hj => by
    match j, hj with
    | 0, _ => exact cell_of_heap h 0
    | 1, _ => exact cell_of_heap h 1
    | 2, _ => exact cell_of_heap h 2⟩
def takeE (b r am : Int) : Int := if tollOk b r am then addE (two b (shareF am r)) 2 else 2
def takeV (b r am : Int) : Int := if tollOk b r am then addV (two b (shareF am r)) 2 else 0
def sendE (b r am : Int) : Int := if tollOk b r am then addE (three am b (shareF am r)) 3 else 2
def sendV (b r am : Int) : Int := if tollOk b r am then addV (three am b (shareF am r)) 3 else 0
theorem toll_of {b r am : Int} (h : tollOk b r am = true) : (0 ≤ b ∧ b ≤ 1125899906842624) ∧ (0 ≤ r ∧ r ≤ 1000000) ∧ 0 ≤ am ∧ am ≤ 1125899906842624 := by
  unfold tollOk at h
  simp only [Bool.and_eq_true] at h
  exact ⟨right_true h.1.1, rate_true h.2, right_true h.1.2⟩

set_option maxRecDepth 100000 in
set_option maxHeartbeats 2000000 in
theorem take_any (b r am : Int) (w : World) : Calls Tryd.prog 24 #[.agg #[.int .i64 b, .int .i64 r], .int .i64 am] w fun e w' => e = .returned (.tuple #[.int .i64 (takeV b r am), .int .i64 (takeE b r am)]) ∧ Ch (fun _ => False) w w' := by
  have HB := Go.Lib.hid (fun W => tollBad_any b r am W)
  have HS := Go.Lib.hid (fun W (h : tollOk b r am = true) => tollShare_any b r am W (toll_of h).2.2.1 (toll_of h).2.2.2 (toll_of h).2.1.1 (toll_of h).2.1.2)
  have HE := Go.Lib.hid (show takeE b r am = if tollOk b r am then addE (two b (shareF am r)) 2 else 2 from rfl)
  have HVV := Go.Lib.hid (show takeV b r am = if tollOk b r am then addV (two b (shareF am r)) 2 else 0 from rfl)
  have hc0 : Ch (fun _ => False) w ((w.alloc (.cells #[.int .i64 b, .int .i64 r] 40)).alloc (.cells #[.int .i64 b, .int .i64 r, .int .i64 am] 66)) := ((Ch.refl _ w).alloc _).alloc _
  have hrow := World.alloc_heap_new (w.alloc (.cells #[.int .i64 b, .int .i64 r] 40)) (.cells #[.int .i64 b, .int .i64 r, .int .i64 am] 66)
  rw [World.size_alloc] at hrow
  have HROW := Go.Lib.hid hrow; have HC0 := Go.Lib.hid hc0
  clear hrow hc0
  cases hr : tollOk b r am <;> rw [hr] at HB HS HE HVV
  case false =>
    clear hr
    go_enter Tryd.func24, Tryd.ntmps24
    go_wp2_with fail
    refine (HB.out _).mono ?_
    rintro e w1 ⟨rfl, hc1⟩
    have HC1 := Go.Lib.hid (HC0.out.trans hc1)
    clear hc1
    go_wp2_with fail
    refine bodyPost_ret (v := .tuple #[.int .i64 0, .int .i64 2]) (by simp [results, Tryd.results24, go_sem]) rfl ⟨by rw [HE.out, HVV.out]; rfl, HC1.out⟩
  case true =>
    clear hr
    go_enter Tryd.func24, Tryd.ntmps24
    go_wp2_with fail
    refine (HB.out _).mono ?_
    rintro e w1 ⟨rfl, hc1⟩
    have hrow1 := hc1.heap HROW.out id
    have HC1 := Go.Lib.hid (HC0.out.trans hc1)
    have H0 := Go.Lib.hid (show w1.cell? ⟨w.heap.size + 1, 0, none⟩ = some (.int .i64 b) from cell_of_heap hrow1 0)
    have H1 := Go.Lib.hid (show w1.cell? ⟨w.heap.size + 1, 1, none⟩ = some (.int .i64 r) from cell_of_heap hrow1 1)
    have H2 := Go.Lib.hid (show w1.cell? ⟨w.heap.size + 1, 2, none⟩ = some (.int .i64 am) from cell_of_heap hrow1 2)
    clear hc1 hrow1 HROW HC0 HB
    go_upto_region 4 with (fail)
    generalize w.heap.size + 1 = B at *
    generalize shareF am r = S at *
    have HAV := Go.Lib.hid (show addV (two b S) 2 = addV (two b S) 2 from rfl)
    generalize hax : Act.mk _ _ = ax
    have HSZ := Go.Lib.hid (show ax.tmps.size = 21 by rw [← hax]; rfl)
    have F6 := Go.Lib.hid (show gt ax 6 = .pointer (some ⟨B, 0, none⟩) by rw [← hax]; rfl)
    have HAX := Go.Lib.hid hax
    clear hax
    have HND := Go.Lib.hid (show ([12, 13, 14, 15, 16, 17, 18, 19, 20] : List Nat).Nodup by decide)
    have HLS : Hid (Lasts [(12, fun x _ => x = .pointer (some ⟨B, 0, none⟩)), (13, fun x _ => x = .pointer (some ⟨B, 0, none⟩)), (14, fun x _ => x = .int .i64 b), (15, fun x _ => x = .agg #[.int .i64 b, .int .i64 r, .int .i64 am]), (16, fun x _ => x = .int .i64 S), (17, fun x v => ∃ g, x = .slice (some ⟨g, 0, none⟩) 2 2 ∧ v.heap[g]? = some (.cells #[.int .i64 b, .int .i64 S] 2)), (18, fun x _ => x = .tuple #[.int .i64 (addV (two b S) 2), .int .i64 (addE (two b S) 2)]), (19, fun x _ => x = .int .i64 (addV (two b S) 2)), (20, fun x _ => x = .int .i64 (addE (two b S) 2))]) := Go.Lib.hid (by
      intro p hp v w1 w2 hc h
      simp only [List.mem_cons, List.not_mem_nil, or_false] at hp
      rcases hp with rfl | rfl | rfl | rfl | rfl | rfl | rfl | rfl | rfl
      all_goals first | exact h | (obtain ⟨g, h1, h2⟩ := h; exact ⟨g, h1, hc.heap h2 id⟩) | (obtain ⟨g, c, h1, h2⟩ := h; exact ⟨g, c, h1, h2.ch hc (fun _ _ h => h)⟩))
    refine wp_region_open_tail 9 (InvQ 21 [(12, fun x _ => x = .pointer (some ⟨B, 0, none⟩)), (13, fun x _ => x = .pointer (some ⟨B, 0, none⟩)), (14, fun x _ => x = .int .i64 b), (15, fun x _ => x = .agg #[.int .i64 b, .int .i64 r, .int .i64 am]), (16, fun x _ => x = .int .i64 S), (17, fun x v => ∃ g, x = .slice (some ⟨g, 0, none⟩) 2 2 ∧ v.heap[g]? = some (.cells #[.int .i64 b, .int .i64 S] 2)), (18, fun x _ => x = .tuple #[.int .i64 (addV (two b S) 2), .int .i64 (addE (two b S) 2)]), (19, fun x _ => x = .int .i64 (addV (two b S) 2)), (20, fun x _ => x = .int .i64 (addE (two b S) 2))] (fun _ w' => Ch (fun _ => False) w1 w') ax) (by kernel_rfl) (by kernel_rfl) (InvQ.start (by simp) HSZ.out (Ch.refl _ _).drew) ?_ ?_
    · intro L a w' i hI hr hlt
      obtain ⟨h1, o, ho, hall⟩ := mem_ready.1 hr
      have hsplit : i = 0 ∨ i = 1 ∨ i = 2 ∨ i = 3 ∨ i = 4 ∨ i = 5 ∨ i = 6 ∨ i = 7 ∨ i = 8 := by omega
      clear hlt h1 hr
      rcases hsplit with rfl | rfl | rfl | rfl | rfl | rfl | rfl | rfl | rfl
      · have q6 := (hI.fixed 6 (by simp)).trans F6.out
        unfold gt at q6
        clear hall
        refine wpOp_step (o := _) rfl (fun K' hK' => ?_)
        go_simp
        exact hK' _ _ (hI.put 0 rfl (by decide) HND.out HLS.out  (Ch.refl _ _) rfl hI.wld)
      · simp at ho
        have e0 : lg L 0 = true := by unfold lg; simpa using hall ⟨0, .data⟩ (by rw [← ho]; simp) rfl
        have f0 : gt a 12 = .pointer (some ⟨B, 0, none⟩) := hI.val 0 _ rfl e0
        unfold gt at f0
        clear hall
        clear ho
        refine wpOp_step (o := _) rfl (fun K' hK' => ?_)
        go_simp
        exact hK' _ _ (hI.put 1 rfl (by decide) HND.out HLS.out  (Ch.refl _ _) rfl hI.wld)
      · simp at ho
        have e1 : lg L 1 = true := by unfold lg; simpa using hall ⟨1, .data⟩ (by rw [← ho]; simp) rfl
        have f1 : gt a 13 = .pointer (some ⟨B, 0, none⟩) := hI.val 1 _ rfl e1
        have d0 := hI.wld.get H0.out id
        unfold gt at f1
        clear hall
        clear ho
        refine wpOp_step (o := _) rfl (fun K' hK' => ?_)
        go_simp
        exact hK' _ _ (hI.put 2 rfl (by decide) HND.out HLS.out  (Ch.refl _ _) rfl hI.wld)
      · have q6 := (hI.fixed 6 (by simp)).trans F6.out
        have d0 := hI.wld.get H0.out id
        have d1 := hI.wld.get H1.out id
        have d2 := hI.wld.get H2.out id
        unfold gt at q6
        clear hall
        refine wpOp_step (o := _) rfl (fun K' hK' => ?_)
        go_simp
        exact hK' _ _ (hI.put 3 rfl (by decide) HND.out HLS.out  (Ch.refl _ _) rfl hI.wld)
      · simp at ho
        have e3 : lg L 3 = true := by unfold lg; simpa using hall ⟨3, .data⟩ (by rw [← ho]; simp) rfl
        have f3 : gt a 15 = .agg #[.int .i64 b, .int .i64 r, .int .i64 am] := hI.val 3 _ rfl e3
        unfold gt at f3
        clear hall
        clear ho
        have HCT := Go.Lib.hid (HS.out w' trivial)
        refine wpOp_step (o := _) rfl (fun K' hK' => ?_)
        go_simp
        refine HCT.out.mono ?_
        rintro e w3 ⟨rfl, hc⟩
        exact hK' _ _ (hI.put 4 rfl (by decide) HND.out HLS.out  hc rfl (hI.wld.trans hc))
      · simp at ho
        have e2 : lg L 2 = true := by unfold lg; simpa using hall ⟨2, .data⟩ (by rw [← ho]; simp) rfl
        have f2 : gt a 14 = .int .i64 b := hI.val 2 _ rfl e2
        have e4 : lg L 4 = true := by unfold lg; simpa using hall ⟨4, .data⟩ (by rw [← ho]; simp) rfl
        have f4 : gt a 16 = .int .i64 S := hI.val 4 _ rfl e4
        unfold gt at f2 f4
        clear hall
        clear ho
        refine wpOp_step (o := _) rfl (fun K' hK' => ?_)
        go_simp
        exact hK' _ _ (hI.put 5 rfl (by decide) HND.out HLS.out  ((Ch.refl _ _).alloc _) ⟨_, rfl, World.alloc_heap_new w' _⟩ (hI.wld.alloc _))
      · simp at ho
        have e5 : lg L 5 = true := by unfold lg; simpa using hall ⟨5, .data⟩ (by rw [← ho]; simp) rfl
        obtain ⟨g5, f5, hh5⟩ : ∃ g, gt a 17 = .slice (some ⟨g, 0, none⟩) 2 2 ∧ w'.heap[g]? = some (.cells #[.int .i64 b, .int .i64 S] 2) := hI.val 5 _ rfl e5
        unfold gt at f5
        clear hall
        clear ho
        have HCT := Go.Lib.hid (add_any (some ⟨g5, 0, none⟩) 2 2 (two b S) w' (ints_at2 hh5) (by omega))
        refine wpOp_step (o := _) rfl (fun K' hK' => ?_)
        go_simp
        refine HCT.out.mono ?_
        rintro e w3 ⟨rfl, rfl⟩
        exact hK' _ _ (hI.put 6 rfl (by decide) HND.out HLS.out (Ch.refl _ _) rfl hI.wld)
      · simp at ho
        have e6 : lg L 6 = true := by unfold lg; simpa using hall ⟨6, .data⟩ (by rw [← ho]; simp) rfl
        have f6 : gt a 18 = .tuple #[.int .i64 (addV (two b S) 2), .int .i64 (addE (two b S) 2)] := hI.val 6 _ rfl e6
        unfold gt at f6
        clear hall
        clear ho
        refine wpOp_step (o := _) rfl (fun K' hK' => ?_)
        go_simp
        exact hK' _ _ (hI.put 7 rfl (by decide) HND.out HLS.out  (Ch.refl _ _) rfl hI.wld)
      · simp at ho
        have e6 : lg L 6 = true := by unfold lg; simpa using hall ⟨6, .data⟩ (by rw [← ho]; simp) rfl
        have f6 : gt a 18 = .tuple #[.int .i64 (addV (two b S) 2), .int .i64 (addE (two b S) 2)] := hI.val 6 _ rfl e6
        unfold gt at f6
        clear hall
        clear ho
        refine wpOp_step (o := _) rfl (fun K' hK' => ?_)
        go_simp
        exact hK' _ _ (hI.put 8 rfl (by decide) HND.out HLS.out  (Ch.refl _ _) rfl hI.wld)
    · intro L a w' hI hal
      have hfr := hI.frame HSZ.out (by simp) (fun i hi => hal i hi)
      have k0 : gt a 12 = .pointer (some ⟨B, 0, none⟩) := hI.val 0 _ rfl (hal 0 (by decide))
      have k1 : gt a 13 = .pointer (some ⟨B, 0, none⟩) := hI.val 1 _ rfl (hal 1 (by decide))
      have k2 : gt a 14 = .int .i64 b := hI.val 2 _ rfl (hal 2 (by decide))
      have k3 : gt a 15 = .agg #[.int .i64 b, .int .i64 r, .int .i64 am] := hI.val 3 _ rfl (hal 3 (by decide))
      have k4 : gt a 16 = .int .i64 S := hI.val 4 _ rfl (hal 4 (by decide))
      obtain ⟨g5, k5, hh5⟩ : ∃ g, gt a 17 = .slice (some ⟨g, 0, none⟩) 2 2 ∧ w'.heap[g]? = some (.cells #[.int .i64 b, .int .i64 S] 2) := hI.val 5 _ rfl (hal 5 (by decide))
      have H5 := Go.Lib.hid hh5
      have k6 : gt a 18 = .tuple #[.int .i64 (addV (two b S) 2), .int .i64 (addE (two b S) 2)] := hI.val 6 _ rfl (hal 6 (by decide))
      have k7 : gt a 19 = .int .i64 (addV (two b S) 2) := hI.val 7 _ rfl (hal 7 (by decide))
      have k8 : gt a 20 = .int .i64 (addE (two b S) 2) := hI.val 8 _ rfl (hal 8 (by decide))
      rw [hfr, ← HAX.out]
      have HCR := Go.Lib.hid hI.wld
      simp only [List.map_cons, List.map_nil, List.foldl_cons, List.foldl_nil, k0, k1, k2, k3, k4, k5, k6, k7, k8, List.setIfInBounds_toArray, List.set_cons_succ, List.set_cons_zero]
      clear hfr hI hal k0 k1 k2 k3 k4 k5 k6 k7 k8 hh5 HSZ HND HLS HAX F6
      simp only [List.drop_succ_cons, List.drop_zero]
      go_wp2_with fail
      refine bodyPost_ret (v := .tuple #[.int .i64 (addV (two b S) 2), .int .i64 (addE (two b S) 2)]) (by simp [results, Tryd.results24, go_sem]) rfl ⟨by rw [HE.out, HVV.out]; rfl, HC1.out.trans HCR.out⟩

set_option maxRecDepth 100000 in
set_option maxHeartbeats 2000000 in
theorem send_any (b r am : Int) (w : World) : Calls Tryd.prog 25 #[.agg #[.int .i64 b, .int .i64 r], .int .i64 am] w fun e w' => e = .returned (.tuple #[.int .i64 (sendV b r am), .int .i64 (sendE b r am)]) ∧ Ch (fun _ => False) w w' := by
  have HB := Go.Lib.hid (fun W => tollBad_any b r am W)
  have HS := Go.Lib.hid (fun W (h : tollOk b r am = true) => tollShare_any b r am W (toll_of h).2.2.1 (toll_of h).2.2.2 (toll_of h).2.1.1 (toll_of h).2.1.2)
  have HE := Go.Lib.hid (show sendE b r am = if tollOk b r am then addE (three am b (shareF am r)) 3 else 2 from rfl)
  have HVV := Go.Lib.hid (show sendV b r am = if tollOk b r am then addV (three am b (shareF am r)) 3 else 0 from rfl)
  have hc0 : Ch (fun _ => False) w ((w.alloc (.cells #[.int .i64 b, .int .i64 r] 40)).alloc (.cells #[.int .i64 b, .int .i64 r, .int .i64 am] 66)) := ((Ch.refl _ w).alloc _).alloc _
  have hrow := World.alloc_heap_new (w.alloc (.cells #[.int .i64 b, .int .i64 r] 40)) (.cells #[.int .i64 b, .int .i64 r, .int .i64 am] 66)
  rw [World.size_alloc] at hrow
  have HROW := Go.Lib.hid hrow; have HC0 := Go.Lib.hid hc0
  clear hrow hc0
  cases hr : tollOk b r am <;> rw [hr] at HB HS HE HVV
  case false =>
    clear hr
    go_enter Tryd.func25, Tryd.ntmps25
    go_wp2_with fail
    refine (HB.out _).mono ?_
    rintro e w1 ⟨rfl, hc1⟩
    have HC1 := Go.Lib.hid (HC0.out.trans hc1)
    clear hc1
    go_wp2_with fail
    refine bodyPost_ret (v := .tuple #[.int .i64 0, .int .i64 2]) (by simp [results, Tryd.results25, go_sem]) rfl ⟨by rw [HE.out, HVV.out]; rfl, HC1.out⟩
  case true =>
    clear hr
    go_enter Tryd.func25, Tryd.ntmps25
    go_wp2_with fail
    refine (HB.out _).mono ?_
    rintro e w1 ⟨rfl, hc1⟩
    have hrow1 := hc1.heap HROW.out id
    have HC1 := Go.Lib.hid (HC0.out.trans hc1)
    have H0 := Go.Lib.hid (show w1.cell? ⟨w.heap.size + 1, 0, none⟩ = some (.int .i64 b) from cell_of_heap hrow1 0)
    have H1 := Go.Lib.hid (show w1.cell? ⟨w.heap.size + 1, 1, none⟩ = some (.int .i64 r) from cell_of_heap hrow1 1)
    have H2 := Go.Lib.hid (show w1.cell? ⟨w.heap.size + 1, 2, none⟩ = some (.int .i64 am) from cell_of_heap hrow1 2)
    clear hc1 hrow1 HROW HC0 HB
    go_upto_region 4 with (fail)
    generalize w.heap.size + 1 = B at *
    generalize shareF am r = S at *
    have HAV := Go.Lib.hid (show addV (three am b S) 3 = addV (three am b S) 3 from rfl)
    generalize hax : Act.mk _ _ = ax
    have HSZ := Go.Lib.hid (show ax.tmps.size = 23 by rw [← hax]; rfl)
    have F6 := Go.Lib.hid (show gt ax 6 = .pointer (some ⟨B, 0, none⟩) by rw [← hax]; rfl)
    have HAX := Go.Lib.hid hax
    clear hax
    have HND := Go.Lib.hid (show ([12, 13, 14, 15, 16, 17, 18, 19, 20, 21, 22] : List Nat).Nodup by decide)
    have HLS : Hid (Lasts [(12, fun x _ => x = .pointer (some ⟨B, 2, none⟩)), (13, fun x _ => x = .int .i64 am), (14, fun x _ => x = .pointer (some ⟨B, 0, none⟩)), (15, fun x _ => x = .pointer (some ⟨B, 0, none⟩)), (16, fun x _ => x = .int .i64 b), (17, fun x _ => x = .agg #[.int .i64 b, .int .i64 r, .int .i64 am]), (18, fun x _ => x = .int .i64 S), (19, fun x v => ∃ g, x = .slice (some ⟨g, 0, none⟩) 3 3 ∧ v.heap[g]? = some (.cells #[.int .i64 am, .int .i64 b, .int .i64 S] 2)), (20, fun x _ => x = .tuple #[.int .i64 (addV (three am b S) 3), .int .i64 (addE (three am b S) 3)]), (21, fun x _ => x = .int .i64 (addV (three am b S) 3)), (22, fun x _ => x = .int .i64 (addE (three am b S) 3))]) := Go.Lib.hid (by
      intro p hp v w1 w2 hc h
      simp only [List.mem_cons, List.not_mem_nil, or_false] at hp
      rcases hp with rfl | rfl | rfl | rfl | rfl | rfl | rfl | rfl | rfl | rfl | rfl
      all_goals first | exact h | (obtain ⟨g, h1, h2⟩ := h; exact ⟨g, h1, hc.heap h2 id⟩) | (obtain ⟨g, c, h1, h2⟩ := h; exact ⟨g, c, h1, h2.ch hc (fun _ _ h => h)⟩))
    refine wp_region_open_tail 11 (InvQ 23 [(12, fun x _ => x = .pointer (some ⟨B, 2, none⟩)), (13, fun x _ => x = .int .i64 am), (14, fun x _ => x = .pointer (some ⟨B, 0, none⟩)), (15, fun x _ => x = .pointer (some ⟨B, 0, none⟩)), (16, fun x _ => x = .int .i64 b), (17, fun x _ => x = .agg #[.int .i64 b, .int .i64 r, .int .i64 am]), (18, fun x _ => x = .int .i64 S), (19, fun x v => ∃ g, x = .slice (some ⟨g, 0, none⟩) 3 3 ∧ v.heap[g]? = some (.cells #[.int .i64 am, .int .i64 b, .int .i64 S] 2)), (20, fun x _ => x = .tuple #[.int .i64 (addV (three am b S) 3), .int .i64 (addE (three am b S) 3)]), (21, fun x _ => x = .int .i64 (addV (three am b S) 3)), (22, fun x _ => x = .int .i64 (addE (three am b S) 3))] (fun _ w' => Ch (fun _ => False) w1 w') ax) (by kernel_rfl) (by kernel_rfl) (InvQ.start (by simp) HSZ.out (Ch.refl _ _).drew) ?_ ?_
    · intro L a w' i hI hr hlt
      obtain ⟨h1, o, ho, hall⟩ := mem_ready.1 hr
      have hsplit : i = 0 ∨ i = 1 ∨ i = 2 ∨ i = 3 ∨ i = 4 ∨ i = 5 ∨ i = 6 ∨ i = 7 ∨ i = 8 ∨ i = 9 ∨ i = 10 := by omega
      clear hlt h1 hr
      rcases hsplit with rfl | rfl | rfl | rfl | rfl | rfl | rfl | rfl | rfl | rfl | rfl
      · have q6 := (hI.fixed 6 (by simp)).trans F6.out
        unfold gt at q6
        clear hall
        refine wpOp_step (o := _) rfl (fun K' hK' => ?_)
        go_simp
        exact hK' _ _ (hI.put 0 rfl (by decide) HND.out HLS.out  (Ch.refl _ _) rfl hI.wld)
      · simp at ho
        have e0 : lg L 0 = true := by unfold lg; simpa using hall ⟨0, .data⟩ (by rw [← ho]; simp) rfl
        have f0 : gt a 12 = .pointer (some ⟨B, 2, none⟩) := hI.val 0 _ rfl e0
        have d2 := hI.wld.get H2.out id
        unfold gt at f0
        clear hall
        clear ho
        refine wpOp_step (o := _) rfl (fun K' hK' => ?_)
        go_simp
        exact hK' _ _ (hI.put 1 rfl (by decide) HND.out HLS.out  (Ch.refl _ _) rfl hI.wld)
      · have q6 := (hI.fixed 6 (by simp)).trans F6.out
        unfold gt at q6
        clear hall
        refine wpOp_step (o := _) rfl (fun K' hK' => ?_)
        go_simp
        exact hK' _ _ (hI.put 2 rfl (by decide) HND.out HLS.out  (Ch.refl _ _) rfl hI.wld)
      · simp at ho
        have e2 : lg L 2 = true := by unfold lg; simpa using hall ⟨2, .data⟩ (by rw [← ho]; simp) rfl
        have f2 : gt a 14 = .pointer (some ⟨B, 0, none⟩) := hI.val 2 _ rfl e2
        unfold gt at f2
        clear hall
        clear ho
        refine wpOp_step (o := _) rfl (fun K' hK' => ?_)
        go_simp
        exact hK' _ _ (hI.put 3 rfl (by decide) HND.out HLS.out  (Ch.refl _ _) rfl hI.wld)
      · simp at ho
        have e3 : lg L 3 = true := by unfold lg; simpa using hall ⟨3, .data⟩ (by rw [← ho]; simp) rfl
        have f3 : gt a 15 = .pointer (some ⟨B, 0, none⟩) := hI.val 3 _ rfl e3
        have d0 := hI.wld.get H0.out id
        unfold gt at f3
        clear hall
        clear ho
        refine wpOp_step (o := _) rfl (fun K' hK' => ?_)
        go_simp
        exact hK' _ _ (hI.put 4 rfl (by decide) HND.out HLS.out  (Ch.refl _ _) rfl hI.wld)
      · have q6 := (hI.fixed 6 (by simp)).trans F6.out
        have d0 := hI.wld.get H0.out id
        have d1 := hI.wld.get H1.out id
        have d2 := hI.wld.get H2.out id
        unfold gt at q6
        clear hall
        refine wpOp_step (o := _) rfl (fun K' hK' => ?_)
        go_simp
        exact hK' _ _ (hI.put 5 rfl (by decide) HND.out HLS.out  (Ch.refl _ _) rfl hI.wld)
      · simp at ho
        have e5 : lg L 5 = true := by unfold lg; simpa using hall ⟨5, .data⟩ (by rw [← ho]; simp) rfl
        have f5 : gt a 17 = .agg #[.int .i64 b, .int .i64 r, .int .i64 am] := hI.val 5 _ rfl e5
        unfold gt at f5
        clear hall
        clear ho
        have HCT := Go.Lib.hid (HS.out w' trivial)
        refine wpOp_step (o := _) rfl (fun K' hK' => ?_)
        go_simp
        refine HCT.out.mono ?_
        rintro e w3 ⟨rfl, hc⟩
        exact hK' _ _ (hI.put 6 rfl (by decide) HND.out HLS.out  hc rfl (hI.wld.trans hc))
      · simp at ho
        have e1 : lg L 1 = true := by unfold lg; simpa using hall ⟨1, .data⟩ (by rw [← ho]; simp) rfl
        have f1 : gt a 13 = .int .i64 am := hI.val 1 _ rfl e1
        have e4 : lg L 4 = true := by unfold lg; simpa using hall ⟨4, .data⟩ (by rw [← ho]; simp) rfl
        have f4 : gt a 16 = .int .i64 b := hI.val 4 _ rfl e4
        have e6 : lg L 6 = true := by unfold lg; simpa using hall ⟨6, .data⟩ (by rw [← ho]; simp) rfl
        have f6 : gt a 18 = .int .i64 S := hI.val 6 _ rfl e6
        unfold gt at f1 f4 f6
        clear hall
        clear ho
        refine wpOp_step (o := _) rfl (fun K' hK' => ?_)
        go_simp
        exact hK' _ _ (hI.put 7 rfl (by decide) HND.out HLS.out  ((Ch.refl _ _).alloc _) ⟨_, rfl, World.alloc_heap_new w' _⟩ (hI.wld.alloc _))
      · simp at ho
        have e7 : lg L 7 = true := by unfold lg; simpa using hall ⟨7, .data⟩ (by rw [← ho]; simp) rfl
        obtain ⟨g7, f7, hh7⟩ : ∃ g, gt a 19 = .slice (some ⟨g, 0, none⟩) 3 3 ∧ w'.heap[g]? = some (.cells #[.int .i64 am, .int .i64 b, .int .i64 S] 2) := hI.val 7 _ rfl e7
        unfold gt at f7
        clear hall
        clear ho
        have HCT := Go.Lib.hid (add_any (some ⟨g7, 0, none⟩) 3 3 (three am b S) w' (ints_at3 hh7) (by omega))
        refine wpOp_step (o := _) rfl (fun K' hK' => ?_)
        go_simp
        refine HCT.out.mono ?_
        rintro e w3 ⟨rfl, rfl⟩
        exact hK' _ _ (hI.put 8 rfl (by decide) HND.out HLS.out (Ch.refl _ _) rfl hI.wld)
      · simp at ho
        have e8 : lg L 8 = true := by unfold lg; simpa using hall ⟨8, .data⟩ (by rw [← ho]; simp) rfl
        have f8 : gt a 20 = .tuple #[.int .i64 (addV (three am b S) 3), .int .i64 (addE (three am b S) 3)] := hI.val 8 _ rfl e8
        unfold gt at f8
        clear hall
        clear ho
        refine wpOp_step (o := _) rfl (fun K' hK' => ?_)
        go_simp
        exact hK' _ _ (hI.put 9 rfl (by decide) HND.out HLS.out  (Ch.refl _ _) rfl hI.wld)
      · simp at ho
        have e8 : lg L 8 = true := by unfold lg; simpa using hall ⟨8, .data⟩ (by rw [← ho]; simp) rfl
        have f8 : gt a 20 = .tuple #[.int .i64 (addV (three am b S) 3), .int .i64 (addE (three am b S) 3)] := hI.val 8 _ rfl e8
        unfold gt at f8
        clear hall
        clear ho
        refine wpOp_step (o := _) rfl (fun K' hK' => ?_)
        go_simp
        exact hK' _ _ (hI.put 10 rfl (by decide) HND.out HLS.out  (Ch.refl _ _) rfl hI.wld)
    · intro L a w' hI hal
      have hfr := hI.frame HSZ.out (by simp) (fun i hi => hal i hi)
      have k0 : gt a 12 = .pointer (some ⟨B, 2, none⟩) := hI.val 0 _ rfl (hal 0 (by decide))
      have k1 : gt a 13 = .int .i64 am := hI.val 1 _ rfl (hal 1 (by decide))
      have k2 : gt a 14 = .pointer (some ⟨B, 0, none⟩) := hI.val 2 _ rfl (hal 2 (by decide))
      have k3 : gt a 15 = .pointer (some ⟨B, 0, none⟩) := hI.val 3 _ rfl (hal 3 (by decide))
      have k4 : gt a 16 = .int .i64 b := hI.val 4 _ rfl (hal 4 (by decide))
      have k5 : gt a 17 = .agg #[.int .i64 b, .int .i64 r, .int .i64 am] := hI.val 5 _ rfl (hal 5 (by decide))
      have k6 : gt a 18 = .int .i64 S := hI.val 6 _ rfl (hal 6 (by decide))
      obtain ⟨g7, k7, hh7⟩ : ∃ g, gt a 19 = .slice (some ⟨g, 0, none⟩) 3 3 ∧ w'.heap[g]? = some (.cells #[.int .i64 am, .int .i64 b, .int .i64 S] 2) := hI.val 7 _ rfl (hal 7 (by decide))
      have H7 := Go.Lib.hid hh7
      have k8 : gt a 20 = .tuple #[.int .i64 (addV (three am b S) 3), .int .i64 (addE (three am b S) 3)] := hI.val 8 _ rfl (hal 8 (by decide))
      have k9 : gt a 21 = .int .i64 (addV (three am b S) 3) := hI.val 9 _ rfl (hal 9 (by decide))
      have k10 : gt a 22 = .int .i64 (addE (three am b S) 3) := hI.val 10 _ rfl (hal 10 (by decide))
      rw [hfr, ← HAX.out]
      have HCR := Go.Lib.hid hI.wld
      simp only [List.map_cons, List.map_nil, List.foldl_cons, List.foldl_nil, k0, k1, k2, k3, k4, k5, k6, k7, k8, k9, k10, List.setIfInBounds_toArray, List.set_cons_succ, List.set_cons_zero]
      clear hfr hI hal k0 k1 k2 k3 k4 k5 k6 k7 k8 k9 k10 hh7 HSZ HND HLS HAX F6
      simp only [List.drop_succ_cons, List.drop_zero]
      go_wp2_with fail
      refine bodyPost_ret (v := .tuple #[.int .i64 (addV (three am b S) 3), .int .i64 (addE (three am b S) 3)]) (by simp [results, Tryd.results25, go_sem]) rfl ⟨by rw [HE.out, HVV.out]; rfl, HC1.out.trans HCR.out⟩
end Go.Proofs.YtcceialiedaccaaDoor
