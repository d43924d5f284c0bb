/- A toll: whether it may be, its share; Share. -/
import Derived.Test.YtcceialiedaccaaDoorA4
import Derived.Test.YtcceialiedaccaaDoorRegT
namespace Go.Proofs.YtcceialiedaccaaDoor
open Go Go.RowKit

structure CellIs (v : World) (b o : Nat) (x : Value) : Prop where
  c : v.cell? ⟨b, o, none⟩ = some x
theorem CellIs.ch {v v' : World} {b o : Nat} {x : Value} {S : Nat → Prop} (h : CellIs v b o x) (hc : Ch S v v') (hs : ∀ i, i < v.heap.size → ¬ S i) : CellIs v' b o x := ⟨hc.get h.c (hs _ (cell_lt h.c))⟩
def tollV (b r a : Int) : Value := .agg #[.int .i64 b, .int .i64 r, .int .i64 a]
def tollOk (b r a : Int) : Bool := rightB b && rightB a && rateB r

set_option maxRecDepth 100000 in
set_option maxHeartbeats 1000000 in
theorem tollShare_any (b r am : Int) (w : World) (ha : 0 ≤ am) (ha2 : am ≤ 1125899906842624) (hr : 0 ≤ r) (hr2 : r ≤ 1000000) :
    Calls Tryd.prog 39 #[.agg #[.int .i64 b, .int .i64 r, .int .i64 am]] w fun e w' => e = .returned (.int .i64 (shareF am r)) ∧ Ch (fun _ => False) w w' := by
  go_enter Tryd.func39, Tryd.ntmps39
  go_upto_region 1 with (fail)
  generalize hW : World.alloc w _ = W
  have hc0 : Ch (fun _ => False) w W := by rw [← hW]; exact (Ch.refl _ w).alloc _
  have hrow : W.heap[w.heap.size]? = some (.cells #[.int .i64 b, .int .i64 r, .int .i64 am] 66) := by rw [← hW]; exact World.alloc_heap_new w _
  have HC0 := Go.Lib.hid hc0
  have H1 := Go.Lib.hid (show W.cell? ⟨w.heap.size, 1, none⟩ = some (.int .i64 r) from cell_of_heap hrow 1)
  have H2 := Go.Lib.hid (show W.cell? ⟨w.heap.size, 2, none⟩ = some (.int .i64 am) from cell_of_heap hrow 2)
  clear hW hc0 hrow
  generalize w.heap.size = B at *
  generalize hax : Act.mk _ _ = ax
  have HSZ := Go.Lib.hid (show ax.tmps.size = 10 by rw [← hax]; rfl)
  have F1 := Go.Lib.hid (show gt ax 1 = .pointer (some ⟨B, 0, none⟩) by rw [← hax]; rfl)
  have HAX := Go.Lib.hid hax
  clear hax
  have HND := Go.Lib.hid (show ([3, 4, 5, 6, 7, 8] : List Nat).Nodup by decide)
  have HLS : Hid (Lasts [(3, fun x _ => x = .pointer (some ⟨B, 0, none⟩)), (4, fun x _ => x = .pointer (some ⟨B, 1, none⟩)), (5, fun x _ => x = .int .i64 r), (6, fun x v => ∃ g c : Nat, x = .func (.func 59) #[] #[.pointer (some ⟨g, c, none⟩)] ∧ CellIs v g c (.int .i64 r)), (7, fun x _ => x = .pointer (some ⟨B, 2, none⟩)), (8, fun x _ => x = .int .i64 am)]) := Go.Lib.hid (by
    intro p hp v w1 w2 hc h
    simp only [List.mem_cons, List.not_mem_nil, or_false] at hp
    rcases hp with rfl | rfl | rfl | rfl | rfl | rfl
    all_goals first | exact h | (obtain ⟨g, h1, h2⟩ := h; exact ⟨g, h1, hc.heap h2 id⟩) | (obtain ⟨g, c, h1, h2⟩ := h; exact ⟨g, c, h1, h2.ch hc (fun _ _ h => h)⟩))
  refine wp_region_open_tail 6 (InvQ 10 [(3, fun x _ => x = .pointer (some ⟨B, 0, none⟩)), (4, fun x _ => x = .pointer (some ⟨B, 1, none⟩)), (5, fun x _ => x = .int .i64 r), (6, fun x v => ∃ g c : Nat, x = .func (.func 59) #[] #[.pointer (some ⟨g, c, none⟩)] ∧ CellIs v g c (.int .i64 r)), (7, fun x _ => x = .pointer (some ⟨B, 2, none⟩)), (8, fun x _ => x = .int .i64 am)] (fun _ w' => Ch (fun _ => False) W w') ax) (by kernel_rfl) (by kernel_rfl) (InvQ.start (by simp) HSZ.out (Ch.refl _ _).drew) ?_ ?_
  · intro L a w' i hI hr hlt
    obtain ⟨h1, o, ho, hall⟩ := mem_ready.1 hr
    have hsplit : i = 0 ∨ i = 1 ∨ i = 2 ∨ i = 3 ∨ i = 4 ∨ i = 5 := by omega
    clear hlt h1 hr
    rcases hsplit with rfl | rfl | rfl | rfl | rfl | rfl
    · have q1 := (hI.fixed 1 (by simp)).trans F1.out
      unfold gt at q1
      clear hall
      refine wpOp_step (o := _) rfl (fun K' hK' => ?_)
      go_simp
      exact hK' _ _ (hI.put 0 rfl (by decide) HND.out HLS.out  (Ch.refl _ _) rfl hI.wld)
    · simp at ho
      have e0 : lg L 0 = true := by unfold lg; simpa using hall ⟨0, .data⟩ (by rw [← ho]; simp) rfl
      have f0 : gt a 3 = .pointer (some ⟨B, 0, none⟩) := hI.val 0 _ rfl e0
      unfold gt at f0
      clear hall
      clear ho
      refine wpOp_step (o := _) rfl (fun K' hK' => ?_)
      go_simp
      exact hK' _ _ (hI.put 1 rfl (by decide) HND.out HLS.out  (Ch.refl _ _) rfl hI.wld)
    · simp at ho
      have e1 : lg L 1 = true := by unfold lg; simpa using hall ⟨1, .data⟩ (by rw [← ho]; simp) rfl
      have f1 : gt a 4 = .pointer (some ⟨B, 1, none⟩) := hI.val 1 _ rfl e1
      have hce := hI.wld.get H1.out id
      unfold gt at f1
      clear hall
      clear ho
      refine wpOp_step (o := _) rfl (fun K' hK' => ?_)
      go_simp
      exact hK' _ _ (hI.put 2 rfl (by decide) HND.out HLS.out  (Ch.refl _ _) rfl hI.wld)
    · simp at ho
      have e2 : lg L 2 = true := by unfold lg; simpa using hall ⟨2, .data⟩ (by rw [← ho]; simp) rfl
      have f2 : gt a 5 = .int .i64 r := hI.val 2 _ rfl e2
      unfold gt at f2
      clear hall
      clear ho
      have HCT := Go.Lib.hid (sharesBy_any r w')
      refine wpOp_step (o := _) rfl (fun K' hK' => ?_)
      go_simp
      refine HCT.out.mono ?_
      rintro e w3 ⟨b3, rfl, hcell, hc⟩
      exact hK' _ _ (hI.put 3 rfl (by decide) HND.out HLS.out hc ⟨b3, 0, rfl, ⟨hcell⟩⟩ (hI.wld.trans hc))
    · have q1 := (hI.fixed 1 (by simp)).trans F1.out
      unfold gt at q1
      clear hall
      refine wpOp_step (o := _) rfl (fun K' hK' => ?_)
      go_simp
      exact hK' _ _ (hI.put 4 rfl (by decide) HND.out HLS.out  (Ch.refl _ _) rfl hI.wld)
    · simp at ho
      have e4 : lg L 4 = true := by unfold lg; simpa using hall ⟨4, .data⟩ (by rw [← ho]; simp) rfl
      have f4 : gt a 7 = .pointer (some ⟨B, 2, none⟩) := hI.val 4 _ rfl e4
      have hce := hI.wld.get H2.out id
      unfold gt at f4
      clear hall
      clear ho
      refine wpOp_step (o := _) rfl (fun K' hK' => ?_)
      go_simp
      exact hK' _ _ (hI.put 5 rfl (by decide) HND.out HLS.out  (Ch.refl _ _) rfl hI.wld)
  · intro L a w' hI hal
    have hfr := hI.frame HSZ.out (by simp) (fun i hi => hal i hi)
    have k0 : gt a 3 = .pointer (some ⟨B, 0, none⟩) := hI.val 0 _ rfl (hal 0 (by decide))
    have k1 : gt a 4 = .pointer (some ⟨B, 1, none⟩) := hI.val 1 _ rfl (hal 1 (by decide))
    have k2 : gt a 5 = .int .i64 r := hI.val 2 _ rfl (hal 2 (by decide))
    obtain ⟨g3, c3, k3, hh3⟩ : (fun x v => ∃ g c : Nat, x = .func (.func 59) #[] #[.pointer (some ⟨g, c, none⟩)] ∧ CellIs v g c (.int .i64 r)) (gt a 6) w' := hI.val 3 _ rfl (hal 3 (by decide))
    have H3 := Go.Lib.hid hh3
    have k4 : gt a 7 = .pointer (some ⟨B, 2, none⟩) := hI.val 4 _ rfl (hal 4 (by decide))
    have k5 : gt a 8 = .int .i64 am := hI.val 5 _ rfl (hal 5 (by decide))
    rw [hfr, ← HAX.out]
    have HCR := Go.Lib.hid hI.wld
    simp only [List.map_cons, List.map_nil, List.foldl_cons, List.foldl_nil, k0, k1, k2, k3, k4, k5, List.setIfInBounds_toArray, List.set_cons_succ, List.set_cons_zero]
    clear hfr hI hal k0 k1 k2 k3 k4 k5 hh3 HSZ HND HLS HAX F1
    simp only [List.drop_succ_cons, List.drop_zero]
    go_wp2_with fail
    refine (by_any am r _ _ _ ha ha2 hr hr2 H3.out.c).mono ?_
    rintro e w4 ⟨rfl, hc4⟩
    have HC4 := Go.Lib.hid (HC0.out.trans (HCR.out.trans hc4))
    clear hc4
    go_wp2_with fail
    go_ret
    exact ⟨rfl, HC4.out⟩

theorem ints_next2 (w : World) (o : Obj) (x y : Int) : IntsAt ((w.alloc o).alloc (.cells #[.int .i64 x, .int .i64 y] 2)) (some ⟨w.heap.size + 1, 0, none⟩) 2 (two x y) := by
  have := ints_new2 (w.alloc o) x y
  rwa [World.size_alloc] at this
theorem bad_rate (x : Int) : outs 0 1000000 (fun _ => x) 1 = !rateB x := by
  simp only [outs, rateB, Bool.false_or, Bool.not_and]
  rw [show (!decide (0 ≤ x)) = decide (x < 0) by by_cases h : x < 0 <;> simp [h]; omega, show (!decide (x ≤ 1000000)) = decide (1000000 < x) by by_cases h : 1000000 < x <;> simp [h]; omega]
set_option maxRecDepth 100000 in
set_option maxHeartbeats 1000000 in
theorem tollBad_any (b r am : Int) (w : World) :
    Calls Tryd.prog 38 #[.agg #[.int .i64 b, .int .i64 r, .int .i64 am]] w fun e w' => e = .returned (.bool (!tollOk b r am)) ∧ Ch (fun _ => False) w w' := by
  have H1 := outside_any 0 1125899906842624 _ 2 2 (two b am) _ (ints_next2 w (.cells #[.int .i64 b, .int .i64 r, .int .i64 am] 66) b am) (by omega)
  rw [show outs 0 1125899906842624 (two b am) 2 = bad (two b am) 2 from rfl, bad_two] at H1
  have hc1 : Ch (fun _ => False) w ((w.alloc (.cells #[.int .i64 b, .int .i64 r, .int .i64 am] 66)).alloc (.cells #[.int .i64 b, .int .i64 am] 2)) := ((Ch.refl _ w).alloc _).alloc _
  have hrow : ((w.alloc (.cells #[.int .i64 b, .int .i64 r, .int .i64 am] 66)).alloc (.cells #[.int .i64 b, .int .i64 am] 2)).heap[w.heap.size]? = some (.cells #[.int .i64 b, .int .i64 r, .int .i64 am] 66) :=
    ((Ch.refl (fun _ => False) _).alloc _).heap (World.alloc_heap_new w _) id
  unfold tollOk
  have HH1 := Go.Lib.hid H1
  have HC1 := Go.Lib.hid hc1
  clear H1 hc1
  cases hb : rightB b && rightB am <;> rw [hb] at HH1
  case false =>
    clear hb hrow
    go_enter Tryd.func38, Tryd.ntmps38
    go_wp2_with (go_at_call 37; refine HH1.out.mono ?_; rintro e w' ⟨rfl, rfl⟩)
    go_ret
    exact ⟨rfl, HC1.out⟩
  case true =>
    have HH2 := Go.Lib.hid (fun (W : World) => show Calls Tryd.prog 37 #[.int .i64 0, .int .i64 1000000, .slice (some ⟨W.heap.size, 0, none⟩) 1 1] (W.alloc (.cells #[.int .i64 r] 2)) (fun e w' => e = .returned (.bool (!rateB r)) ∧ W.alloc (.cells #[.int .i64 r] 2) = w') from by
      have h := outside_any 0 1000000 _ 1 1 (fun _ => r) _ (ints_new1 W r) (by omega)
      rw [bad_rate] at h
      exact h)
    clear hb
    cases hr : rateB r <;> rw [hr] at HH2
    all_goals
      clear hr
      go_enter Tryd.func38, Tryd.ntmps38
      go_wp2_with fail
      refine HH1.out.mono ?_
      rintro e w' ⟨rfl, rfl⟩
      generalize hW : World.alloc (World.alloc w _) _ = W at *
      have hcell : W.cell? ⟨w.heap.size, 1, none⟩ = some (.int .i64 r) := cell_of_heap hrow 1
      have HC2 := Go.Lib.hid (HC1.out.trans ((Ch.refl (fun _ => False) W).alloc (.cells #[.int .i64 r] 2)))
      clear hW hrow HH1
      go_wp2_with (go_at_call 37; refine (HH2.out W).mono ?_; rintro e w' ⟨rfl, rfl⟩)
      go_ret
      exact ⟨rfl, HC2.out⟩

def shareE (a r : Int) : Int := if rightB a && rateB r then 0 else 2
def shareV (a r : Int) : Int := if rightB a && rateB r then shareF a r else 0
theorem rate_true {x : Int} (h : rateB x = true) : 0 ≤ x ∧ x ≤ 1000000 := by
  unfold rateB at h; simpa using h
theorem right_zero : rightB 0 = true := by decide
set_option maxRecDepth 100000 in
set_option maxHeartbeats 1000000 in
theorem share_any (am r : Int) (w : World) : Calls Tryd.prog 22 #[.int .i64 am, .int .i64 r] w fun e w' => e = .returned (.tuple #[.int .i64 (shareV am r), .int .i64 (shareE am r)]) ∧ Ch (fun _ => False) w w' := by
  have HB := Go.Lib.hid (fun W => tollBad_any 0 r am W)
  unfold shareV shareE
  have e0 : tollOk 0 r am = (rightB am && rateB r) := by unfold tollOk; rw [right_zero]; simp
  rw [e0] at HB
  have HI := Go.Lib.hid (fun W (h : (rightB am && rateB r) = true) => by
    simp only [Bool.and_eq_true] at h
    have h1 := right_true h.1; have h2 := rate_true h.2
    exact tollShare_any 0 r am W h1.1 h1.2 h2.1 h2.2)
  have hrow := World.alloc_heap_new w (.cells #[.int .i64 0, .int .i64 r, .int .i64 am] 66)
  have hc0 : Ch (fun _ => False) w (w.alloc (.cells #[.int .i64 0, .int .i64 r, .int .i64 am] 66)) := (Ch.refl _ w).alloc _
  have HROW := Go.Lib.hid hrow; have HC0 := Go.Lib.hid hc0
  clear hrow hc0
  cases hr : rightB am && rateB r <;> rw [hr] at HB HI
  case false =>
    clear hr e0
    go_enter Tryd.func22, Tryd.ntmps22
    go_wp2_with fail
    refine (HB.out _).mono ?_
    rintro e w1 ⟨rfl, hc1⟩
    have HC1 := Go.Lib.hid (HC0.out.trans hc1)
    clear hc1
    go_wp2_with fail
    refine bodyPost_ret (v := .tuple #[.int .i64 0, .int .i64 2]) (by simp [results, Tryd.results22, go_sem]) rfl ⟨rfl, HC1.out⟩
  case true =>
    clear hr e0
    go_enter Tryd.func22, Tryd.ntmps22
    go_wp2_with fail
    refine (HB.out _).mono ?_
    rintro e w1 ⟨rfl, hc1⟩
    have hrow1 := hc1.heap HROW.out id
    have d0 : w1.cell? ⟨w.heap.size, 0, none⟩ = some (.int .i64 0) := cell_of_heap hrow1 0
    have d1 : w1.cell? ⟨w.heap.size, 1, none⟩ = some (.int .i64 r) := cell_of_heap hrow1 1
    have d2 : w1.cell? ⟨w.heap.size, 2, none⟩ = some (.int .i64 am) := cell_of_heap hrow1 2
    have HC1 := Go.Lib.hid (HC0.out.trans hc1)
    clear hc1 hrow1
    go_wp2_with fail
    refine (HI.out w1 trivial).mono ?_
    rintro e w2 ⟨rfl, hc2⟩
    have HC2 := Go.Lib.hid (HC1.out.trans hc2)
    clear hc2 d0 d1 d2
    go_wp2_with fail
    refine bodyPost_ret (v := .tuple #[.int .i64 (shareF am r), .int .i64 0]) (by simp [results, Tryd.results22, go_sem]) rfl ⟨rfl, HC2.out⟩
set_option maxRecDepth 100000 in
set_option maxHeartbeats 1000000 in
theorem rshare_any (am r : Int) (w : World) : Calls Tryd.prog 23 #[.int .i64 am, .int .i64 r] w fun e w' => e = .returned (.tuple #[.int .i64 (shareV am r), .int .i64 (shareE am r)]) ∧ w = w' := by
  have HA := Go.Lib.hid (right_any am w)
  have HB := Go.Lib.hid (rate_any r w)
  unfold shareV shareE
  cases hr : rightB am <;> rw [hr] at HA
  case false =>
    clear hr
    go_enter Tryd.func23, Tryd.ntmps23
    go_wp2_with (go_at_call 16; refine HA.out.mono ?_; rintro e w' ⟨rfl, rfl⟩)
    refine bodyPost_ret (v := .tuple #[.int .i64 0, .int .i64 2]) (by simp [results, Tryd.results23, go_sem]) rfl ⟨rfl, rfl⟩
  case true =>
  cases hs : rateB r <;> rw [hs] at HB
  case false =>
    clear hr hs
    go_enter Tryd.func23, Tryd.ntmps23
    go_wp2_with (first | (go_at_call 16; refine HA.out.mono ?_; rintro e w' ⟨rfl, rfl⟩) | (go_at_call 40; refine HB.out.mono ?_; rintro e w' ⟨rfl, rfl⟩))
    refine bodyPost_ret (v := .tuple #[.int .i64 0, .int .i64 2]) (by simp [results, Tryd.results23, go_sem]) rfl ⟨rfl, rfl⟩
  case true =>
    obtain ⟨h0, h1⟩ := right_true hr
    obtain ⟨h2, h3⟩ := rate_true hs
    have hq : am.tdiv 1000000 = am / 1000000 := Int.tdiv_eq_ediv_of_nonneg h0
    have hm : am.tmod 1000000 = am % 1000000 := Int.tmod_eq_emod_of_nonneg h0
    have hp0 : 0 ≤ am / 1000000 * r := Int.mul_nonneg (by omega) h2
    have hp1 : am / 1000000 * r ≤ am / 1000000 * 1000000 := Int.mul_le_mul_of_nonneg_left h3 (by omega)
    have hk0 : 0 ≤ am % 1000000 * r := Int.mul_nonneg (by omega) h2
    have hk1 : am % 1000000 * r ≤ 999999 * r := Int.mul_le_mul_of_nonneg_right (by omega) h2
    have hF : am / 1000000 * r + am % 1000000 * r / 1000000 = shareF am r := by
      unfold shareF
      have e : am * r = am / 1000000 * r * 1000000 + am % 1000000 * r := by
        have e1 : am = am / 1000000 * 1000000 + am % 1000000 := by omega
        calc am * r = (am / 1000000 * 1000000 + am % 1000000) * r := by rw [← e1]
          _ = am / 1000000 * 1000000 * r + am % 1000000 * r := Int.add_mul _ _ _
          _ = am / 1000000 * r * 1000000 + am % 1000000 * r := by rw [Int.mul_right_comm]
      rw [e]
      omega
    have hw1 : wrap64 (am / 1000000) = am / 1000000 := by unfold wrap64; omega
    have hw2 : wrap64 (am % 1000000) = am % 1000000 := by unfold wrap64; omega
    have hw3 : wrap64 (am / 1000000 * r) = am / 1000000 * r := by unfold wrap64; omega
    have hw4 : wrap64 (am % 1000000 * r) = am % 1000000 * r := by unfold wrap64; omega
    have hd : (am % 1000000 * r).tdiv 1000000 = am % 1000000 * r / 1000000 := Int.tdiv_eq_ediv_of_nonneg hk0
    have hw5 : wrap64 (am % 1000000 * r / 1000000) = am % 1000000 * r / 1000000 := by unfold wrap64; omega
    have hw6 : wrap64 (am / 1000000 * r + am % 1000000 * r / 1000000) = shareF am r := by rw [hF]; rw [← hF]; unfold wrap64; omega
    clear hr hs hp0 hp1 hk0 hk1 hF
    go_enter Tryd.func23, Tryd.ntmps23
    go_wp2_with (first | (go_at_call 16; refine HA.out.mono ?_; rintro e w' ⟨rfl, rfl⟩) | (go_at_call 40; refine HB.out.mono ?_; rintro e w' ⟨rfl, rfl⟩))
    refine bodyPost_ret (v := .tuple #[.int .i64 (shareF am r), .int .i64 0]) (by simp [results, Tryd.results23, go_sem]) rfl ⟨rfl, rfl⟩
end Go.Proofs.YtcceialiedaccaaDoor
