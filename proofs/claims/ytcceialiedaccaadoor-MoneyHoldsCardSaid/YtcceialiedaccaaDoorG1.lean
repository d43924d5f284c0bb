/- The two heaps that an amount is divided into, as an iterator. -/
import Derived.Test.YtcceialiedaccaaDoorG0
import Derived.Test.YtcceialiedaccaaDoorA3
import Derived.Test.YtcceialiedaccaaDoorRegD
namespace Go.Proofs.YtcceialiedaccaaDoor
open Go Go.RowKit
attribute [local go_sem] Oper.semAt_some

def okP (x m : Int) : Bool := rightB x && (decide (1 ≤ m) && decide (m ≤ 1000))
def RdP (A B : Nat) (x m : Int) (W : World) : Prop := W.cell? ⟨A, 0, none⟩ = some (.int .i64 x) ∧ W.cell? ⟨B, 0, none⟩ = some (.int .i64 m)
def ptrs (A B : Nat) : Array Value := #[.pointer (some ⟨A, 0, none⟩), .pointer (some ⟨B, 0, none⟩)]
def heapV (q r m : Int) (t : Nat) : Array Value := if t = 0 then #[.int .i64 r, .int .i64 (q + 1)] else #[.int .i64 (m - r), .int .i64 q]
def partsB (m : Int) : Bool := decide (1 ≤ m) && decide (m ≤ 1000)
theorem outs_m (m : Int) : outs 1 1000 (fun _ => m) 1 = !partsB m := by
  simp only [outs, partsB, Bool.false_or, Bool.not_and]
  rw [show (!decide (1 ≤ m)) = decide (m < 1) by by_cases h : m < 1 <;> simp [h]; omega, show (!decide (m ≤ 1000)) = decide (1000 < m) by by_cases h : 1000 < m <;> simp [h]; omega]
theorem ints_new1' (w : World) (x : Int) (t : TypeId) : IntsAt (w.alloc (.cells #[.int .i64 x] t)) (some ⟨w.heap.size, 0, none⟩) 1 (fun _ => x) := .inl ⟨w.heap.size, 0, rfl, by simp, fun j hj => by
    match j, hj with
    | 0, _ => exact cell_fresh w _ t 0⟩
theorem maker43 (x m : Int) (w : World) : Calls Tryd.prog 43 #[.int .i64 x, .int .i64 m] w fun e w' => e = .returned (.func (.func 49) #[] (ptrs w.heap.size (w.heap.size + 1))) ∧ w' = (w.alloc (.cells #[.int .i64 x] 2)).alloc (.cells #[.int .i64 m] 3) := by
  go_enter Tryd.func43, Tryd.ntmps43
  go_wp2
  go_ret
  exact ⟨rfl, rfl⟩
theorem maker31 (x m : Int) (w : World) : Calls Tryd.prog 31 #[.int .i64 x, .int .i64 m] w fun e w' => e = .returned (.func (.func 42) #[] (ptrs w.heap.size (w.heap.size + 1))) ∧ w' = (w.alloc (.cells #[.int .i64 x] 2)).alloc (.cells #[.int .i64 m] 3) := by
  go_enter Tryd.func31, Tryd.ntmps31
  go_wp2
  go_ret
  exact ⟨rfl, rfl⟩

set_option maxRecDepth 100000 in
set_option maxHeartbeats 1000000 in
theorem heaps_none (x m : Int) (A B : Nat) (V : Nat → Array Value) (hok : okP x m = false) : Gives 49 (ptrs A B) V 0 (RdP A B x m) := by
  intro l W S J Jx hS hJ hJx hR h0 _
  have HOA := Go.Lib.hid (outside_any 0 1125899906842624 (some ⟨W.heap.size, 0, none⟩) 1 1 (fun _ => x) (W.alloc (.cells #[.int .i64 x] 2)) (ints_new1' W x 2) (by omega))
  have hob := outsideI_any 1 1000 (some ⟨(W.alloc (.cells #[.int .i64 x] 2)).heap.size, 0, none⟩) 1 1 (fun _ => m) ((W.alloc (.cells #[.int .i64 x] 2)).alloc (.cells #[.int .i64 m] 3)) (ints_new1' (W.alloc (.cells #[.int .i64 x] 2)) m 3) (by omega)
  rw [World.size_alloc] at hob
  have HOB := Go.Lib.hid hob
  clear hob
  rw [show outs 0 1125899906842624 (fun _ => x) 1 = !rightB x from bad_one x] at HOA
  rw [outs_m] at HOB
  obtain ⟨⟨ca, cb⟩, -⟩ := hR 0 W h0
  have hcB : (W.alloc (.cells #[.int .i64 x] 2)).cell? ⟨B, 0, none⟩ = some (.int .i64 m) := ((Ch.refl (fun _ => False) W).alloc _).get cb id
  have HJ1 := Go.Lib.hid (hJ 0 W _ h0 ((Ch.refl _ W).alloc (.cells #[.int .i64 x] 2)))
  have HJ2 := Go.Lib.hid (hJ 0 W _ h0 (((Ch.refl _ W).alloc (.cells #[.int .i64 x] 2)).alloc (.cells #[.int .i64 m] 3)))
  have hok2 : rightB x = false ∨ (rightB x = true ∧ partsB m = false) := by
    unfold okP at hok; unfold partsB
    cases h : rightB x
    · exact .inl rfl
    · rw [h] at hok; exact .inr ⟨rfl, by simpa using hok⟩
  clear hS hJ hJx hR h0 hok
  unfold ptrs
  rcases hok2 with h | ⟨h, h2⟩
  · rw [h] at HOA
    clear h
    refine callsIn_of_wp Tryd.func49 rfl trivial (wpIn_wide.2 ?_) rfl
    simp only [Tryd.ntmps49, List.size_toArray, List.length_cons, List.length_nil, Nat.reduceAdd, Nat.reduceSub, Array.replicate_succ,
       Array.replicate_zero, List.push_toArray, List.append_toArray, List.nil_append, List.cons_append]
    go_wp2_with (go_at_call 37; refine HOA.out.mono ?_; rintro e w' ⟨rfl, rfl⟩)
    refine bodyPost_ret (results_none rfl _ _ _) rfl ?_
    exact ⟨⟨_, rfl⟩, .inl HJ1.out⟩
  · rw [h] at HOA; rw [h2] at HOB
    clear h h2
    refine callsIn_of_wp Tryd.func49 rfl trivial (wpIn_wide.2 ?_) rfl
    simp only [Tryd.ntmps49, List.size_toArray, List.length_cons, List.length_nil, Nat.reduceAdd, Nat.reduceSub, Array.replicate_succ,
       Array.replicate_zero, List.push_toArray, List.append_toArray, List.nil_append, List.cons_append]
    go_wp2_with (first | (go_at_call 37; refine HOA.out.mono ?_; rintro e w' ⟨rfl, rfl⟩) | (go_at_call 50; refine HOB.out.mono ?_; rintro e w' ⟨rfl, rfl⟩))
    refine bodyPost_ret (results_none rfl _ _ _) rfl ?_
    exact ⟨⟨_, rfl⟩, .inl HJ2.out⟩

set_option maxRecDepth 100000 in
set_option maxHeartbeats 2000000 in
theorem heaps_gives (x0 m0 q0 r0 : Int) (A B : Nat) (hok : okP x0 m0 = true) (hq0 : q0 = x0 / m0) (hr0 : r0 = x0 % m0) : Gives 49 (ptrs A B) (heapV q0 r0 m0) 2 (RdP A B x0 m0) := by
  intro l W S J Jx hS hJ hJx hR h0 hY
  have HOA := Go.Lib.hid (outside_any 0 1125899906842624 (some ⟨W.heap.size, 0, none⟩) 1 1 (fun _ => x0) (W.alloc (.cells #[.int .i64 x0] 2)) (ints_new1' W x0 2) (by omega))
  have hob := outsideI_any 1 1000 (some ⟨(W.alloc (.cells #[.int .i64 x0] 2)).heap.size, 0, none⟩) 1 1 (fun _ => m0) ((W.alloc (.cells #[.int .i64 x0] 2)).alloc (.cells #[.int .i64 m0] 3)) (ints_new1' (W.alloc (.cells #[.int .i64 x0] 2)) m0 3) (by omega)
  rw [World.size_alloc] at hob
  have HOB := Go.Lib.hid hob
  clear hob
  have hx : rightB x0 = true := by unfold okP at hok; cases h : rightB x0 <;> simp_all
  have hp : partsB m0 = true := by unfold okP at hok; unfold partsB; rw [hx] at hok; simpa using hok
  obtain ⟨x1, x2⟩ := right_true hx
  obtain ⟨m1, m2⟩ : 1 ≤ m0 ∧ m0 ≤ 1000 := by unfold partsB at hp; simpa using hp
  have hX2 : x0 ≤ 1125899906842624 := x2
  clear x2
  rw [show outs 0 1125899906842624 (fun _ => x0) 1 = !rightB x0 from bad_one x0, hx] at HOA
  rw [outs_m, hp] at HOB
  have hq : x0.tdiv m0 = q0 := by rw [hq0]; exact Int.tdiv_eq_ediv_of_nonneg x1
  have hrm : x0.tmod m0 = r0 := by rw [hr0]; exact Int.tmod_eq_emod_of_nonneg x1
  have q1 : 0 ≤ q0 := by rw [hq0]; exact Int.ediv_nonneg x1 (by omega)
  have q2 : q0 ≤ x0 := by rw [hq0]; exact Int.ediv_le_self _ x1
  have r1 : 0 ≤ r0 := by rw [hr0]; exact Int.emod_nonneg _ (by omega)
  have r2 : r0 < m0 := by rw [hr0]; exact Int.emod_lt_of_pos _ (by omega)
  have HQ := Go.Lib.hid (show x0.tdiv m0 = q0 ∧ IntKind.i64.wrap q0 = q0 from ⟨hq, by rw [IntKind.wrap_i64]; omega⟩)
  have HRM := Go.Lib.hid (show x0.tmod m0 = r0 ∧ IntKind.i64.wrap r0 = r0 from ⟨hrm, by rw [IntKind.wrap_i64]; omega⟩)
  have HM := Go.Lib.hid (show (m0 == 0) = false ∧ m0 ≠ 0 from ⟨by rw [beq_eq_false_iff_ne]; omega, by omega⟩)
  have HW1 := Go.Lib.hid (show wrap64 (q0 + 1) = q0 + 1 by unfold wrap64; omega)
  have HW2 := Go.Lib.hid (show wrap64 (m0 - r0) = m0 - r0 by unfold wrap64; omega)
  clear hx hp hok hq hrm hq0 hr0
  obtain ⟨⟨ca, cb⟩, -⟩ := hR 0 W h0
  have hcB : (W.alloc (.cells #[.int .i64 x0] 2)).cell? ⟨B, 0, none⟩ = some (.int .i64 m0) := ((Ch.refl (fun _ => False) W).alloc _).get cb id
  have HJ2 := Go.Lib.hid (hJ 0 W _ h0 (((Ch.refl _ W).alloc (.cells #[.int .i64 x0] 2)).alloc (.cells #[.int .i64 m0] 3)))
  have HR := Go.Lib.hid hR; have HJ := Go.Lib.hid hJ; have HY := Go.Lib.hid hY
  clear hS hJ hJx hR h0 hY
  unfold ptrs
  refine callsIn_of_wp Tryd.func49 rfl trivial (wpIn_wide.2 ?_) rfl
  simp only [Tryd.ntmps49, List.size_toArray, List.length_cons, List.length_nil, Nat.reduceAdd, Nat.reduceSub, Array.replicate_succ,
     Array.replicate_zero, List.push_toArray, List.append_toArray, List.nil_append, List.cons_append]
  go_upto_region 1 with (first | (go_at_call 37; refine HOA.out.mono ?_; rintro e w' ⟨rfl, rfl⟩) | (go_at_call 50; refine HOB.out.mono ?_; rintro e w' ⟨rfl, rfl⟩))
  refine wp_region_any (by kernel_rfl) ?_
  generalize hwx : World.mk _ _ _ _ _ = wx
  have HJX := Go.Lib.hid (show J 0 wx from by rw [← hwx]; exact HJ.out 0 _ _ HJ2.out (Ch.refl _ _).drew)
  clear hwx
  generalize hax : Act.mk _ _ = ax
  have HSZ := Go.Lib.hid (show ax.tmps.size = 31 by rw [← hax]; rfl)
  have F1 := Go.Lib.hid (show gt ax 1 = .pointer (some ⟨A, 0, none⟩) by rw [← hax]; rfl)
  have F2 := Go.Lib.hid (show gt ax 2 = .pointer (some ⟨B, 0, none⟩) by rw [← hax]; rfl)
  have HAX := Go.Lib.hid hax
  clear hax
  have HND := Go.Lib.hid (show ([14, 15, 16, 17, 18, 19, 4, 5] : List Nat).Nodup by decide)
  refine wpAny_inv (InvD 31 [(14, .int .i64 x0), (15, .int .i64 m0), (16, .int .i64 q0), (17, .int .i64 x0), (18, .int .i64 m0), (19, .int .i64 r0), (4, .int .i64 q0), (5, .int .i64 r0)] (fun _ w' => J 0 w') ax) ?_ ?_ _ _ _ _ rfl (by decide) (InvD.start rfl HSZ.out HJX.out)
  · intro L a w' i hI hr
    obtain ⟨h1, o, ho, hall⟩ := mem_ready.1 hr
    have hlt : i < 8 := (Array.getElem?_eq_some_iff.1 ho).1
    have hsplit : i = 0 ∨ i = 1 ∨ i = 2 ∨ i = 3 ∨ i = 4 ∨ i = 5 ∨ i = 6 ∨ i = 7 := by omega
    clear hlt h1 hr
    rcases hsplit with rfl | rfl | rfl | rfl | rfl | rfl | rfl | rfl
    · have q1 := (hI.fixed 1 (by simp)).trans F1.out
      obtain ⟨⟨ca, cb⟩, -⟩ := HR.out 0 w' hI.wld
      unfold gt at q1
      clear hall
      refine wpOp_step (o := _) rfl (fun K' hK' => ?_)
      go_simp
      exact hK' _ _ (hI.put 0 rfl (by decide) HND.out  hI.wld)
    · have q2 := (hI.fixed 2 (by simp)).trans F2.out
      obtain ⟨⟨ca, cb⟩, -⟩ := HR.out 0 w' hI.wld
      unfold gt at q2
      clear hall
      refine wpOp_step (o := _) rfl (fun K' hK' => ?_)
      go_simp
      exact hK' _ _ (hI.put 1 rfl (by decide) HND.out  hI.wld)
    · simp at ho
      have e0 : lg L 0 = true := by unfold lg; simpa using hall ⟨0, .data⟩ (by rw [← ho]; simp) rfl
      have f0 : gt a 14 = .int .i64 x0 := hI.val 0 (14, .int .i64 x0) rfl e0
      have e1 : lg L 1 = true := by unfold lg; simpa using hall ⟨1, .data⟩ (by rw [← ho]; simp) rfl
      have f1 : gt a 15 = .int .i64 m0 := hI.val 1 (15, .int .i64 m0) rfl e1
      have hq := HQ.out; have hm := HM.out
      unfold gt at f0 f1
      clear hall
      clear ho
      refine wpOp_step (o := _) rfl (fun K' hK' => ?_)
      go_simp
      exact hK' _ _ (hI.put 2 rfl (by decide) HND.out  hI.wld)
    · have q1 := (hI.fixed 1 (by simp)).trans F1.out
      obtain ⟨⟨ca, cb⟩, -⟩ := HR.out 0 w' hI.wld
      unfold gt at q1
      clear hall
      refine wpOp_step (o := _) rfl (fun K' hK' => ?_)
      go_simp
      exact hK' _ _ (hI.put 3 rfl (by decide) HND.out  hI.wld)
    · have q2 := (hI.fixed 2 (by simp)).trans F2.out
      obtain ⟨⟨ca, cb⟩, -⟩ := HR.out 0 w' hI.wld
      unfold gt at q2
      clear hall
      refine wpOp_step (o := _) rfl (fun K' hK' => ?_)
      go_simp
      exact hK' _ _ (hI.put 4 rfl (by decide) HND.out  hI.wld)
    · simp at ho
      have e3 : lg L 3 = true := by unfold lg; simpa using hall ⟨3, .data⟩ (by rw [← ho]; simp) rfl
      have f3 : gt a 17 = .int .i64 x0 := hI.val 3 (17, .int .i64 x0) rfl e3
      have e4 : lg L 4 = true := by unfold lg; simpa using hall ⟨4, .data⟩ (by rw [← ho]; simp) rfl
      have f4 : gt a 18 = .int .i64 m0 := hI.val 4 (18, .int .i64 m0) rfl e4
      have hr := HRM.out; have hm := HM.out
      unfold gt at f3 f4
      clear hall
      clear ho
      refine wpOp_step (o := _) rfl (fun K' hK' => ?_)
      go_simp
      exact hK' _ _ (hI.put 5 rfl (by decide) HND.out  hI.wld)
    · simp at ho
      have e2 : lg L 2 = true := by unfold lg; simpa using hall ⟨2, .data⟩ (by rw [← ho]; simp) rfl
      have f2 : gt a 16 = .int .i64 q0 := hI.val 2 (16, .int .i64 q0) rfl e2
      unfold gt at f2
      clear hall
      clear ho
      refine wpOp_step (o := _) rfl (fun K' hK' => ?_)
      go_simp
      exact hK' _ _ (hI.put 6 rfl (by decide) HND.out  hI.wld)
    · simp at ho
      have e5 : lg L 5 = true := by unfold lg; simpa using hall ⟨5, .data⟩ (by rw [← ho]; simp) rfl
      have f5 : gt a 19 = .int .i64 r0 := hI.val 5 (19, .int .i64 r0) rfl e5
      unfold gt at f5
      clear hall
      clear ho
      refine wpOp_step (o := _) rfl (fun K' hK' => ?_)
      go_simp
      exact hK' _ _ (hI.put 7 rfl (by decide) HND.out  hI.wld)
  · intro L a w' hI hr
    have hal := all_listed' (md := .any) (by kernel_rfl) hI.lsize hr
    have hfr := hI.frame HSZ.out (by simp) (fun i hi => hal i hi)
    rw [hfr, ← HAX.out]
    have hJ0 : J 0 w' := hI.wld
    obtain ⟨⟨ca, cb⟩, -⟩ := HR.out 0 w' hJ0
    clear hfr hI hr hal
    simp only [List.foldl_cons, List.foldl_nil, List.setIfInBounds_toArray, List.set_cons_succ, List.set_cons_zero]
    obtain ⟨fn, tmps, assign, body, hy, hRR⟩ := HY.out 0 w' (by omega) hJ0
    dsimp only [heapV] at hy
    rw [if_pos rfl] at hy
    have HRR := Go.Lib.hid hRR
    have hw1 := HW1.out; have hw2 := HW2.out
    clear hRR hJ0
    rename_i Q2 K2 hgo
    refine hgo _ _ ((wpIn_wide (n := 0)).1 ?_)
    dsimp only [Q2]
    clear hgo K2 Q2
    gi_wp2
    refine ⟨rfl, HRR.out.mono ?_⟩
    rintro e w3 (⟨rfl, hJ1, -⟩ | ⟨rfl, hJ1, -⟩)
    · obtain ⟨⟨ca, cb⟩, -⟩ := HR.out 1 w3 hJ1
      obtain ⟨fn, tmps, assign, body, hy, hRR⟩ := HY.out 1 w3 (by omega) hJ1
      dsimp only [heapV] at hy
      rw [if_neg (by omega)] at hy
      have HRR := Go.Lib.hid hRR
      clear hRR hJ1
      gi_wp2
      refine ⟨rfl, HRR.out.mono ?_⟩
      rintro e w4 (⟨rfl, hJ1, -⟩ | ⟨rfl, hJ1, -⟩)
      · have HJE := Go.Lib.hid hJ1
        clear hJ1
        gi_wp2
        go_end0
        exact ⟨⟨_, rfl⟩, .inl HJE.out⟩
      · have HJE := Go.Lib.hid hJ1
        clear hJ1
        gi_wp2
        go_end0
        exact ⟨⟨_, rfl⟩, .inr HJE.out⟩
    · have HJE := Go.Lib.hid hJ1
      clear hJ1
      gi_wp2
      go_end0
      exact ⟨⟨_, rfl⟩, .inr HJE.out⟩
end Go.Proofs.YtcceialiedaccaaDoor
