/- MoneyHolds: the function. -/
import Derived.Test.YtcceialiedaccaaDoorG4
import Derived.Test.YtcceialiedaccaaDoorH0
import Derived.Test.YtcceialiedaccaaDoorL3
import Derived.Test.YtcceialiedaccaaDoorA9
import Derived.Test.YtcceialiedaccaaDoorA11
import Derived.Test.YtcceialiedaccaaDoorX2
import Derived.Test.YtcceialiedaccaaDoorRegP
import Derived.Deep.CutBlock
import Derived.Sort.CutIn
namespace Go.Proofs.YtcceialiedaccaaDoor
open Go Go.RowKit
attribute [local go_sem] Oper.semAt_some

theorem three_turn (x y u : Int) : addV (three u x y) 3 = addV (three x y u) 3 ∧ addE (three u x y) 3 = addE (three x y u) 3 := by
  have e : sumZ (three u x y) 3 = sumZ (three x y u) 3 := by simp [sumZ, three]; omega
  have f : bad (three u x y) 3 = bad (three x y u) 3 := by
    rw [bad_three, bad_three]; cases rightB u <;> cases rightB x <;> cases rightB y <;> rfl
  unfold addV addE
  rw [e, f]; exact ⟨rfl, rfl⟩

theorem back_of (v : Int) (h : rightB v = true) : textE v = 0 ∧ parV (textS v).data.toList = v ∧ parE (textS v).data.toList = 0 ∧ (textS v).size ≤ 1000000 := by
  have e : textS v = tB (textL v) := by unfold textS; rw [h]; rfl
  have e2 : (tB (textL v)).data.toList = textL v := rfl
  have k := par_of v (textL v) ((isText_iff v _).2 ⟨h, rfl⟩)
  refine ⟨by unfold textE; rw [h]; rfl, by rw [e, e2]; exact k.2, by rw [e, e2]; exact k.1, ?_⟩
  rw [e, tB_size]; have := text_len v h; omega
theorem forth_of (s : ByteArray) (h : parE s.data.toList = 0) : textE (parV s.data.toList) = 0 ∧ textS (parV s.data.toList) = s := by
  obtain ⟨h1, h2⟩ := (isText_iff _ _).1 (par_is _ h)
  refine ⟨by unfold textE; rw [h1]; rfl, ?_⟩
  unfold textS; rw [h1, h2]; cases s; simp [tB]
theorem right_three {x y u : Int} (h : bad (three x y u) 3 = false) : rightB x = true := by
  rw [bad_three] at h
  cases k : rightB x
  · rw [k] at h; simp at h
  · rfl
theorem four_new (w : World) (p q r s : Obj) : ((((w.alloc p).alloc q).alloc r).alloc s).heap[w.heap.size]? = some p ∧ ((((w.alloc p).alloc q).alloc r).alloc s).heap[w.heap.size + 1]? = some q ∧
    ((((w.alloc p).alloc q).alloc r).alloc s).heap[w.heap.size + 1 + 1]? = some r ∧ ((((w.alloc p).alloc q).alloc r).alloc s).heap[w.heap.size + 1 + 1 + 1]? = some s ∧ ((((w.alloc p).alloc q).alloc r).alloc s).heap.size = w.heap.size + 4 := by
  have h1 := World.alloc_heap_new w p
  have h2 := World.alloc_heap_new (w.alloc p) q
  have h3 := World.alloc_heap_new ((w.alloc p).alloc q) r
  have h4 := World.alloc_heap_new (((w.alloc p).alloc q).alloc r) s
  simp only [World.size_alloc] at h2 h3 h4
  refine ⟨?_, ?_, ?_, h4, by simp⟩
  · exact (Below.heap_alloc _ _ _ (by simp <;> omega)).trans ((Below.heap_alloc _ _ _ (by simp <;> omega)).trans ((Below.heap_alloc _ _ _ (by simp)).trans h1))
  · exact (Below.heap_alloc _ _ _ (by simp <;> omega)).trans ((Below.heap_alloc _ _ _ (by simp)).trans h2)
  · exact (Below.heap_alloc _ _ _ (by simp)).trans h3
/-- The law's sum, least, most and count. -/
structure SumsP (Z : Nat) (s l t : Int) (n : Nat) (W : World) : Prop where
  s : W.heap[Z]? = some (.cells #[.int .i64 s] 2)
  l : W.heap[Z + 1]? = some (.cells #[.int .i64 l] 2)
  t : W.heap[Z + 1 + 1]? = some (.cells #[.int .i64 t] 2)
  n : W.heap[Z + 1 + 1 + 1]? = some (.cells #[.int .i64 (n : Int)] 3)
theorem SumsP.keep {Z : Nat} {s l t : Int} {n : Nat} {W W' : World} {S : Nat → Prop} (h : SumsP Z s l t n W) (hc : Ch S W W') (hS : ∀ k, S k → Z + 4 ≤ k) : SumsP Z s l t n W' where
  s := hc.heap h.s (fun hs => by have := hS _ hs; omega)
  l := hc.heap h.l (fun hs => by have := hS _ hs; omega)
  t := hc.heap h.t (fun hs => by have := hS _ hs; omega)
  n := hc.heap h.n (fun hs => by have := hS _ hs; omega)
theorem SumsP.size {Z : Nat} {s l t : Int} {n : Nat} {W : World} (h : SumsP Z s l t n W) : Z + 4 ≤ W.heap.size := by
  have := (Array.getElem?_eq_some_iff.1 h.n).1; omega
theorem SumsP.setS {Z : Nat} {s l t : Int} {n : Nat} {W : World} (h : SumsP Z s l t n W) (v : Int) : SumsP Z v l t n (W.setCell ⟨Z, 0, none⟩ (.int .i64 v)) :=
  ⟨box_set h.s _, box_keep h.l (by omega) _, box_keep h.t (by omega) _, box_keep h.n (by omega) _⟩
theorem SumsP.setL {Z : Nat} {s l t : Int} {n : Nat} {W : World} (h : SumsP Z s l t n W) (v : Int) : SumsP Z s v t n (W.setCell ⟨Z + 1, 0, none⟩ (.int .i64 v)) :=
  ⟨box_keep h.s (by omega) _, box_set h.l _, box_keep h.t (by omega) _, box_keep h.n (by omega) _⟩
theorem SumsP.setT {Z : Nat} {s l t : Int} {n : Nat} {W : World} (h : SumsP Z s l t n W) (v : Int) : SumsP Z s l v n (W.setCell ⟨Z + 1 + 1, 0, none⟩ (.int .i64 v)) :=
  ⟨box_keep h.s (by omega) _, box_keep h.l (by omega) _, box_set h.t _, box_keep h.n (by omega) _⟩
theorem SumsP.setN {Z : Nat} {s l t : Int} {n : Nat} {W : World} (h : SumsP Z s l t n W) : SumsP Z s l t (n + 1) (W.setCell ⟨Z + 1 + 1 + 1, 0, none⟩ (.int .i64 ((n : Int) + 1))) :=
  ⟨box_keep h.s (by omega) _, box_keep h.l (by omega) _, box_keep h.t (by omega) _, (box_set h.n _).trans (by rw [show ((n + 1 : Nat) : Int) = (n : Int) + 1 by omega])⟩
theorem partN_pos {x m : Int} {t : Nat} (h : t < partN x m) : okP x m = true ∧ partN x m = m.toNat := by
  unfold partN at h ⊢
  cases k : okP x m <;> rw [k] at h
  · simp at h
  · exact ⟨rfl, rfl⟩
theorem less_back {x y u : Int} (h : bad (three x y u) 3 = false) (h2 : addE (three x y u) 3 = 0) : lessV (addV (three x y u) 3) (two y u) 2 = x ∧ lessE (addV (three x y u) 3) (two y u) 2 = 0 := by
  have g := h
  rw [bad_three] at g
  have g1 : rightB x = true := by cases k : rightB x <;> simp_all
  have g2 : rightB y = true := by cases k : rightB y <;> simp_all
  have g3 : rightB u = true := by cases k : rightB u <;> simp_all
  have e3 : sumZ (three x y u) 3 = x + y + u := by simp [sumZ, three]
  have e2 : sumZ (two y u) 2 = y + u := by simp [sumZ, two]
  have b2 : bad (two y u) 2 = false := by rw [bad_two, g2, g3]; rfl
  obtain ⟨x1, x2⟩ := right_true g1
  obtain ⟨y1, y2⟩ := right_true g2
  obtain ⟨u1, u2⟩ := right_true g3
  by_cases hs : 1125899906842624 < sumZ (three x y u) 3
  · have := (addE_over h hs).1; omega
  · obtain ⟨k1, k2⟩ := addE_ok h (by omega)
    rw [k2, e3]
    have hr : rightB (x + y + u) = true := right_of (by omega) (by omega)
    unfold lessV lessE
    rw [hr, b2, e2]
    simp only [if_true, Bool.false_eq_true, if_false]
    rw [if_neg (by omega), if_neg (by omega)]
    exact ⟨by omega, rfl⟩
set_option maxRecDepth 100000 in
set_option maxHeartbeats 8000000 in
theorem holds_law (a0 b0 c0 one tw m : Int) (s : ByteArray) (w : World) (hV : Vs w) : Calls Tryd.prog 10 #[.int .i64 a0, .int .i64 b0, .int .i64 c0, .int .i64 one, .int .i64 tw, .int .i64 m, .string s] w fun e w' => e = .returned (.bool true) ∧ Ch (fun _ => False) w w' := by
  have HW := Go.Lib.hid (fun W (h : Ch (fun _ => False) w W) => works_any W (hV.ch h))
  have HVS := Go.Lib.hid (fun W (h : Ch (fun _ => False) w W) => hV.ch h)
  clear hV
  obtain ⟨W0, hW0⟩ : ∃ W0, (w.alloc (.cells #[.int .i64 a0] 2)).alloc (.cells #[.bool false] 4) = W0 := ⟨_, rfl⟩
  have hc00 : Ch (fun _ => False) w W0 := by rw [← hW0]; exact ((Ch.refl _ w).alloc _).alloc _
  have hr0 : W0.heap[w.heap.size]? = some (.cells #[.int .i64 a0] 2) := by
    rw [← hW0]; exact (Below.heap_alloc _ _ _ (by simp)).trans (World.alloc_heap_new w _)
  have hr1 : W0.heap[w.heap.size + 1]? = some (.cells #[.bool false] 4) := by
    rw [← hW0]; have := World.alloc_heap_new (w.alloc (.cells #[.int .i64 a0] 2)) (.cells #[.bool false] 4); rwa [World.size_alloc] at this
  have HW0 := Go.Lib.hid hW0; have HC00 := Go.Lib.hid hc00; have HR0 := Go.Lib.hid hr0; have HR1 := Go.Lib.hid hr1
  have HC := Go.Lib.hid (Ch.refl (fun _ => False) W0)
  clear hW0 hc00 hr0 hr1
  have HBA : Hid (W0.cell? ⟨w.heap.size, 0, none⟩ = some (.int .i64 a0)) := Go.Lib.hid (cell_of_heap HR0.out 0)
  have h3 := fun (W : World) => (Ch.refl (fun _ => False) W).alloc (.cells #[.int .i64 a0, .int .i64 b0, .int .i64 c0] 2)
  have HCK := Go.Lib.hid (fun (W : World) (hC : Ch (fun _ => False) W0 W) => (check_any _ 3 3 _ _ (ints_new3 W a0 b0 c0) (by omega)).mono (R' := fun e w' => e = .returned (.int .i64 (if bad (three a0 b0 c0) 3 then 2 else 0)) ∧ w'.cell? ⟨w.heap.size, 0, none⟩ = some (.int .i64 a0) ∧ Ch (fun _ => False) W0 w') (fun e w' h => ⟨h.1, by rw [← h.2]; exact (hC.alloc _).get HBA.out id, by rw [← h.2]; exact hC.alloc _⟩))
  have HAD1 := Go.Lib.hid (fun (W : World) (hC : Ch (fun _ => False) W0 W) => (add_any _ 3 3 _ _ (ints_new3 W a0 b0 c0) (by omega)).mono (R' := fun e w' => e = .returned (.tuple #[.int .i64 (addV (three a0 b0 c0) 3), .int .i64 (addE (three a0 b0 c0) 3)]) ∧ w'.cell? ⟨w.heap.size, 0, none⟩ = some (.int .i64 a0) ∧ Ch (fun _ => False) W0 w') (fun e w' h => ⟨h.1, by rw [← h.2]; exact (hC.alloc _).get HBA.out id, by rw [← h.2]; exact hC.alloc _⟩))
  have HAD2 := Go.Lib.hid (fun (W : World) (hC : Ch (fun _ => False) W0 W) => (add_any _ 3 3 _ _ (ints_new3 W c0 a0 b0) (by omega)).mono (R' := fun e w' => e = .returned (.tuple #[.int .i64 (addV (three a0 b0 c0) 3), .int .i64 (addE (three a0 b0 c0) 3)]) ∧ w'.cell? ⟨w.heap.size, 0, none⟩ = some (.int .i64 a0) ∧ Ch (fun _ => False) W0 w') (fun e w' h => ⟨by rw [h.1, (three_turn a0 b0 c0).1, (three_turn a0 b0 c0).2], by rw [← h.2]; exact (hC.alloc _).get HBA.out id, by rw [← h.2]; exact hC.alloc _⟩))
  have HLS := Go.Lib.hid (fun (v : Int) (W : World) (hC : Ch (fun _ => False) W0 W) => (less_any v _ 2 2 _ _ (ints_new2 W b0 c0) (by omega)).mono (R' := fun e w' => e = .returned (.tuple #[.int .i64 (lessV v (two b0 c0) 2), .int .i64 (lessE v (two b0 c0) 2)]) ∧ w'.cell? ⟨w.heap.size, 0, none⟩ = some (.int .i64 a0) ∧ Ch (fun _ => False) W0 w') (fun e w' h => ⟨h.1, ((hC.alloc _).trans h.2).get HBA.out id, (hC.alloc _).trans h.2⟩))
  have HSH := Go.Lib.hid (fun (r : Int) (W : World) (hC : Ch (fun _ => False) W0 W) => (share_any a0 r W).mono (R' := fun e w' => e = .returned (.tuple #[.int .i64 (shareV a0 r), .int .i64 (shareE a0 r)]) ∧ w'.cell? ⟨w.heap.size, 0, none⟩ = some (.int .i64 a0) ∧ Ch (fun _ => False) W0 w') (fun e w' h => ⟨h.1, (hC.trans h.2).get HBA.out id, hC.trans h.2⟩))
  have HMK := Go.Lib.hid (fun (W : World) => (maker31' a0 m W).mono (R' := fun e w' => ∃ X, e = .returned (.func (.func 42) #[] (ptrs X (X + 1))) ∧ Ch (fun _ => False) W w' ∧ W.heap.size ≤ X ∧ w'.heap.size = X + 2 ∧ w'.heap[X]? = some (.cells #[.int .i64 a0] 2) ∧ w'.heap[X + 1]? = some (.cells #[.int .i64 m] 3)) (fun e w' h => ⟨_, h.1, h.2.1, Nat.le_refl _, h.2.2.1, h.2.2.2.1, h.2.2.2.2⟩))
  have ca := HBA.out
  clear h3
  by_cases hs : 60 < s.size
  · have hs2 : 60 < (s.size : Int) := by omega
    refine (callsIn_wide (n := 0)).1 (callsIn_of_wp_marks Tryd.func10 rfl trivial (wpIn_wide.2 ?_))
    simp only [Tryd.ntmps10, List.size_toArray, List.length_cons, List.length_nil, Nat.reduceAdd, Nat.reduceSub, Array.replicate_succ,
       Array.replicate_zero, List.push_toArray, List.append_toArray, List.nil_append, List.cons_append]
    go_upto_region 1 with (fail)
    rw [HW0.out]
    clear HW0
    generalize hA : w.heap.size = A at *
    have HAA := Go.Lib.hid hA
    clear hA
    go_wp2_with (first | (go_at_call 17; refine (num_any _ _).mono ?_; rintro e w' ⟨rfl, rfl⟩) | (go_at_call 18; refine (HCK.out _ HC.out).mono ?_; rintro e w' ⟨rfl, ca', hc'⟩; clear HC; have HC := Go.Lib.hid hc'; clear hc') | (go_at_call 12; first | (refine (HAD1.out _ HC.out).mono ?_; clear HAD1; rintro e w' ⟨rfl, ca', hc'⟩; clear HC; have HC := Go.Lib.hid hc'; clear hc') | (refine (HAD2.out _ HC.out).mono ?_; clear HAD2; rintro e w' ⟨rfl, ca', hc'⟩; clear HC; have HC := Go.Lib.hid hc'; clear hc')) | (go_at_call 11; refine (HW.out _ (HC00.out.trans HC.out)).mono ?_; rintro e w8 ⟨rfl, hc8⟩; have hr8 := (HC.out.trans hc8).heap HR1.out id; have c8 : w8.cell? ⟨A + 1, 0, none⟩ = some (.bool false) := cell_of_heap hr8 0; have f8 : w8.frozen? ⟨A + 1, 0, none⟩ = false := frozen_of_heap hr8 0; have HR8 := Go.Lib.hid hr8; have HC8 := Go.Lib.hid hc8; clear hr8 hc8))
    have haa := HAA.out
    have er := box_set HR8.out (.bool true)
    have hcw := ((HC00.out.trans HC.out).trans HC8.out).setCell (p := ⟨A + 1, 0, none⟩) (fun h => by have h' : A + 1 < w.heap.size := h; omega) (.bool true)
    generalize w8.setCell ⟨A + 1, 0, none⟩ (.bool true) = w9 at *
    have cr := cell_of_heap er 0
    exact ⟨.bool true, by simp [results, Tryd.results10, go_sem, cr], rfl, hcw⟩
  cases hb : bad (three a0 b0 c0) 3
  case true =>
    rw [hb] at HCK
    clear hb
    refine (callsIn_wide (n := 0)).1 (callsIn_of_wp_marks Tryd.func10 rfl trivial (wpIn_wide.2 ?_))
    simp only [Tryd.ntmps10, List.size_toArray, List.length_cons, List.length_nil, Nat.reduceAdd, Nat.reduceSub, Array.replicate_succ,
       Array.replicate_zero, List.push_toArray, List.append_toArray, List.nil_append, List.cons_append]
    go_upto_region 1 with (fail)
    rw [HW0.out]
    clear HW0
    generalize hA : w.heap.size = A at *
    have HAA := Go.Lib.hid hA
    clear hA
    go_wp2_with (first | (go_at_call 17; refine (num_any _ _).mono ?_; rintro e w' ⟨rfl, rfl⟩) | (go_at_call 18; refine (HCK.out _ HC.out).mono ?_; rintro e w' ⟨rfl, ca', hc'⟩; clear HC; have HC := Go.Lib.hid hc'; clear hc') | (go_at_call 12; first | (refine (HAD1.out _ HC.out).mono ?_; clear HAD1; rintro e w' ⟨rfl, ca', hc'⟩; clear HC; have HC := Go.Lib.hid hc'; clear hc') | (refine (HAD2.out _ HC.out).mono ?_; clear HAD2; rintro e w' ⟨rfl, ca', hc'⟩; clear HC; have HC := Go.Lib.hid hc'; clear hc')) | (go_at_call 11; refine (HW.out _ (HC00.out.trans HC.out)).mono ?_; rintro e w8 ⟨rfl, hc8⟩; have hr8 := (HC.out.trans hc8).heap HR1.out id; have c8 : w8.cell? ⟨A + 1, 0, none⟩ = some (.bool false) := cell_of_heap hr8 0; have f8 : w8.frozen? ⟨A + 1, 0, none⟩ = false := frozen_of_heap hr8 0; have HR8 := Go.Lib.hid hr8; have HC8 := Go.Lib.hid hc8; clear hr8 hc8))
    have haa := HAA.out
    have er := box_set HR8.out (.bool true)
    have hcw := ((HC00.out.trans HC.out).trans HC8.out).setCell (p := ⟨A + 1, 0, none⟩) (fun h => by have h' : A + 1 < w.heap.size := h; omega) (.bool true)
    generalize w8.setCell ⟨A + 1, 0, none⟩ (.bool true) = w9 at *
    have cr := cell_of_heap er 0
    exact ⟨.bool true, by simp [results, Tryd.results10, go_sem, cr], rfl, hcw⟩
  case false =>
    rw [hb] at HCK
    have HBAD := Go.Lib.hid hb
    clear hb
    refine (callsIn_wide (n := 0)).1 (callsIn_of_wp_marks Tryd.func10 rfl trivial (wpIn_wide.2 ?_))
    simp only [Tryd.ntmps10, List.size_toArray, List.length_cons, List.length_nil, Nat.reduceAdd, Nat.reduceSub, Array.replicate_succ,
         Array.replicate_zero, List.push_toArray, List.append_toArray, List.nil_append, List.cons_append]
    go_upto_region 1 with (fail)
    rw [HW0.out]
    clear HW0
    generalize hA : w.heap.size = A at *
    have HAA := Go.Lib.hid hA
    clear hA
    have HLB := Go.Lib.hid (less_back HBAD.out)
    generalize addV (three a0 b0 c0) 3 = SV at *
    generalize addE (three a0 b0 c0) 3 = SE at *
    have HLS1 := Go.Lib.hid (fun W hC => HLS.out SV W hC)
    clear HLS
    generalize lessV SV (two b0 c0) 2 = LV at *
    generalize lessE SV (two b0 c0) 2 = LE at *
    obtain ⟨oB, hoB⟩ : ∃ oB : Bool, oB = (((decide (0 ≤ one) && decide (0 ≤ tw)) && decide (one ≤ 1000000)) && decide (tw ≤ 1000000 - one)) := ⟨_, rfl⟩
    have HOB := Go.Lib.hid hoB
    clear hoB
    go_upto_if 82 with (first | (go_at_call 17; refine (num_any _ _).mono ?_; rintro e w' ⟨rfl, rfl⟩) | (go_at_call 18; refine (HCK.out _ HC.out).mono ?_; rintro e w' ⟨rfl, ca', hc'⟩; clear HC; have HC := Go.Lib.hid hc'; clear hc') | (go_at_call 12; first | (refine (HAD1.out _ HC.out).mono ?_; clear HAD1; rintro e w' ⟨rfl, ca', hc'⟩; clear HC; have HC := Go.Lib.hid hc'; clear hc') | (refine (HAD2.out _ HC.out).mono ?_; clear HAD2; rintro e w' ⟨rfl, ca', hc'⟩; clear HC; have HC := Go.Lib.hid hc'; clear hc')))
    go_cut [] from 41 (fun wr => Ch (fun _ => False) W0 wr)
    case first =>
      as_aux_lemma =>
      by_cases hE : SE = 0
      · subst hE
        obtain ⟨rfl, rfl⟩ := HLB.out rfl
        go_wp2_with (first | (go_at_call 17; refine (num_any _ _).mono ?_; rintro e w' ⟨rfl, rfl⟩) | (go_at_call 13; refine (HLS1.out _ HC.out).mono ?_; rintro e w' ⟨rfl, ca', hc'⟩; clear HC; have HC := Go.Lib.hid hc'; clear hc'))
        go_meet
        case rel => exact HC.out
      · have hne : (SE == 0) = false := by rw [beq_eq_false_iff_ne]; exact hE
        have HE := Go.Lib.hid hE
        clear hE
        go_wp2_with fail
        go_meet
        case rel => exact HC.out
    case rest =>
    as_aux_lemma =>
    clear HC HLS1 HLB HCK
    try clear ca'
    try clear ca
    have HC := Go.Lib.hid hcut
    have ca := HC.out.get HBA.out id
    clear hcut
    go_upto_region 11 with (fail)
    go_cut [114] from 41 (fun s114 wr => s114 = .bool oB ∧ wr = wc)
    case first =>
      as_aux_lemma =>
      by_cases h1 : 0 ≤ one
      · by_cases h2 : 0 ≤ tw
        · by_cases h3 : one ≤ 1000000
          · by_cases h4 : tw ≤ 1000000 - one
            · have hw := (show wrap64 (1000000 - one) = 1000000 - one by unfold wrap64; omega)
              go_wp2_with fail
              go_meet
              case rel => exact ⟨by rw [HOB.out]; simp [h1, h2, h3, h4] <;> omega, rfl⟩
            · have hw := (show wrap64 (1000000 - one) = 1000000 - one by unfold wrap64; omega)
              go_wp2_with fail
              go_meet
              case rel => exact ⟨by rw [HOB.out]; simp [h1, h2, h3, h4] <;> omega, rfl⟩
          · go_wp2_with fail
            go_meet
            case rel => exact ⟨by rw [HOB.out]; simp [h1, h2, h3] <;> omega, rfl⟩
        · go_wp2_with fail
          go_meet
          case rel => exact ⟨by rw [HOB.out]; simp [h1, h2] <;> omega, rfl⟩
      · go_wp2_with fail
        go_meet
        case rel => exact ⟨by rw [HOB.out]; simp [h1] <;> omega, rfl⟩
    case rest =>
    as_aux_lemma =>
    obtain ⟨rfl, rfl⟩ := hcut
    go_upto_if 114 with (fail)
    go_cut [] from 41 (fun wr => Ch (fun _ => False) W0 wr)
    case first =>
      as_aux_lemma =>
      cases hob : oB
      · go_wp2_with fail
        go_meet
        case rel => exact HC.out
      · rw [hob] at HOB
        have hob2 := HOB.out
        simp only [Bool.true_eq, Bool.and_eq_true, decide_eq_true_eq] at hob2
        obtain ⟨⟨⟨o1, o2⟩, o3⟩, o4⟩ := hob2
        have hra : rightB a0 = true := right_three HBAD.out
        obtain ⟨x1, x2⟩ := right_true hra
        have hx2 : a0 ≤ 1125899906842624 := x2
        obtain ⟨y1, y2, y3, y4, y5⟩ := share_sum x1 o1 o2 (by omega)
        have r1 : rateB one = true := by unfold rateB; simp; omega
        have r2 : rateB tw = true := by unfold rateB; simp; omega
        have r3 : rateB (one + tw) = true := by unfold rateB; simp; omega
        have HS1 := Go.Lib.hid (fun W hC => HSH.out one W hC)
        have HS2 := Go.Lib.hid (fun W hC => HSH.out tw W hC)
        have HS3 := Go.Lib.hid (fun W hC => HSH.out (one + tw) W hC)
        rw [show shareV a0 one = shareF a0 one by unfold shareV; rw [hra, r1]; rfl, show shareE a0 one = 0 by unfold shareE; rw [hra, r1]; rfl] at HS1
        rw [show shareV a0 tw = shareF a0 tw by unfold shareV; rw [hra, r2]; rfl, show shareE a0 tw = 0 by unfold shareE; rw [hra, r2]; rfl] at HS2
        rw [show shareV a0 (one + tw) = shareF a0 (one + tw) by unfold shareV; rw [hra, r3]; rfl, show shareE a0 (one + tw) = 0 by unfold shareE; rw [hra, r3]; rfl] at HS3
        generalize shareF a0 one = V1 at *
        generalize shareF a0 tw = V2 at *
        generalize shareF a0 (one + tw) = V3 at *
        have hw1 : wrap64 (one + tw) = one + tw := by unfold wrap64; omega
        have hw2 : wrap64 (V1 + V2) = V1 + V2 := by unfold wrap64; omega
        have hw3 : wrap64 (V3 - 1) = V3 - 1 := by unfold wrap64; omega
        clear hra x2 r1 r2 r3 HSH hob
        go_wp2_with (first | (go_at_call 17; refine (num_any _ _).mono ?_; rintro e w' ⟨rfl, rfl⟩) | (go_at_call 22; first | (refine (HS1.out _ HC.out).mono ?_; clear HS1; rintro e w' ⟨rfl, ca', hc'⟩; clear HC; have HC := Go.Lib.hid hc'; clear hc') | (refine (HS2.out _ HC.out).mono ?_; clear HS2; rintro e w' ⟨rfl, ca', hc'⟩; clear HC; have HC := Go.Lib.hid hc'; clear hc') | (refine (HS3.out _ HC.out).mono ?_; clear HS3; rintro e w' ⟨rfl, ca', hc'⟩; clear HC; have HC := Go.Lib.hid hc'; clear hc')))
        go_meet
        case rel => exact HC.out
    case rest =>
    as_aux_lemma =>
    clear HC HSH HOB
    try clear ca
    have HC := Go.Lib.hid hcut
    have ca := HC.out.get HBA.out id
    clear hcut
    go_upto_region 18 with (fail)
    obtain ⟨W5, hW5⟩ : ∃ W5, (((wc.alloc (.cells #[.int .i64 0] 2)).alloc (.cells #[.int .i64 (-1)] 2)).alloc (.cells #[.int .i64 0] 2)).alloc (.cells #[.int .i64 0] 3) = W5 := ⟨_, rfl⟩
    rw [hW5]
    have h5c : Ch (fun _ => False) wc W5 := by rw [← hW5]; exact ((((Ch.refl _ wc).alloc _).alloc _).alloc _).alloc _
    obtain ⟨n0, n1, n2, n3, n4⟩ := four_new wc (.cells #[.int .i64 0] 2) (.cells #[.int .i64 (-1)] 2) (.cells #[.int .i64 0] 2) (.cells #[.int .i64 0] 3)
    rw [hW5] at n0 n1 n2 n3 n4
    have HN := Go.Lib.hid (show SumsP wc.heap.size 0 (-1) 0 0 W5 from ⟨n0, n1, n2, n3⟩)
    have HC5 := Go.Lib.hid (HC.out.trans h5c)
    have HZ := Go.Lib.hid (show A ≤ wc.heap.size ∧ W0.heap.size ≤ wc.heap.size ∧ W5.heap.size = wc.heap.size + 4 from ⟨by have := HC.out.size; have := (Array.getElem?_eq_some_iff.1 HR0.out).1; omega, HC.out.size, n4⟩)
    clear hW5 n0 n1 n2 n3 n4 h5c HC ca
    have HC := Go.Lib.hid HC5.out
    clear HC5
    have ca := HC.out.get HBA.out id
    generalize wc.heap.size = Z at *
    clear wc
    go_upto_block 0 with (first | (go_at_call 31; refine (HMK.out _).mono ?_; rintro e w' ⟨X, rfl, hk1, hk5, hk2, hk3, hk4⟩; have HK := Go.Lib.hid (⟨Nat.le_trans HN.out.size hk5, hk2, hk3, hk4⟩ : Z + 4 ≤ X ∧ _ ∧ _ ∧ _); have HN := Go.Lib.hid (HN.out.keep hk1 (fun _ h => h.elim)); have HC := Go.Lib.hid (HC.out.trans hk1); have ca := hk1.get ca id; clear hk1 hk2 hk3 hk4 hk5) | (refine wpList_eqnil rfl (.tmp 166) rfl rfl ?_))
    generalize haa : Act.mk _ _ = aa
    have Haa := Go.Lib.hid haa
    clear haa
    refine Code.wp_mono (Q := fun e a' W' => e = .normal ∧ ∃ (D : Nat), a' = { tmps := aa.tmps, defers := { target := .collected D, args := #[] } :: aa.defers } ∧ X + 2 ≤ D ∧ W'.heap[D]? = some (.deferred (some [])) ∧
      SumsP Z (sumP a0 m (partN a0 m)) (leastP a0 m (partN a0 m)) (mostP a0 m (partN a0 m)) (partN a0 m) W' ∧ Ch (fun _ => False) W0 W') ?post ?blk
    case blk =>
      have hg : aa.eval (.tmp 170) = .func (.func 42) #[] (ptrs X (X + 1)) := by rw [← Haa.out]; rfl
      refine wp_block ?_
      have hk := HK.out
      refine range_gives (parts_gives a0 m X (X + 1)) (enters_of Tryd.func42 (by kernel_rfl) rfl) hg (fun t => rfl) (fun q => Z ≤ q ∧ q < Z + 4) ?hSw
        (fun t W' => SumsP Z (sumP a0 m t) (leastP a0 m t) (mostP a0 m t) t W' ∧ W'.heap[X]? = some (.cells #[.int .i64 a0] 2) ∧ W'.heap[X + 1]? = some (.cells #[.int .i64 m] 3) ∧ Ch (fun _ => False) W0 W')
        (fun _ _ => False) ?hI ?hIx ?hRd ?h0
        (fun t => { tmps := ((aa.tmps.setIfInBounds 171 (.int .i64 (t : Int))).setIfInBounds 172 (.int .i64 (partF a0 m t))).setIfInBounds 32 (.int .i64 (partF a0 m t)), defers := [] }) ?has ?hbody ?hdone ?hstop
      case hSw => intro q hq; omega
      case hI =>
        rintro t P R ⟨h1, h2, h3, h4⟩ hr
        exact ⟨h1.keep hr (fun q hq => by omega), hr.heap h2 (by omega), hr.heap h3 (by omega), h4.then hr (fun i hi h => by have := HZ.out; omega)⟩
      case hIx => exact fun _ _ _ h _ => h
      case hRd =>
        rintro t P ⟨_, h2, h3, _⟩
        exact ⟨cell_of_heap h2 0, cell_of_heap h3 0⟩
      case h0 => exact ⟨HN.out, hk.2.2.1, hk.2.2.2, HC.out⟩
      case has =>
        intro l0 t W3 K hK
        rw [← Haa.out]
        rw [← Haa.out] at hK
        simp only [List.setIfInBounds_toArray, List.set_cons_succ, List.set_cons_zero] at hK
        gi_wp2
        exact hK
      case hbody =>
        as_aux_lemma =>
        have HKX := Go.Lib.hid hk.1
        clear hg hk
        rintro l0 t W3 ht ⟨hs, hb, hd, hc⟩
        obtain ⟨hok, hNm⟩ := partN_pos ht
        obtain ⟨⟨x1, x2⟩, -, -⟩ := ok_of hok
        have hx2 : a0 ≤ 1125899906842624 := x2
        clear x2
        have hN1 := partN_le a0 m
        have b1 := partF_nat hok t
        have b2 := (sumP_bounds hok).1 (t + 1) (by omega)
        have b4 := (sumP_bounds hok).1 t (by omega)
        have hlp := leastP_step hok t
        have hmp := mostP_step hok t
        have HE1 := Go.Lib.hid (show sumP a0 m (t + 1) = sumP a0 m t + partF a0 m t from rfl)
        have HE2 := Go.Lib.hid (show leastP a0 m (t + 1) = partF a0 m t from rfl)
        have HE3 := Go.Lib.hid (show mostP a0 m (t + 1) = max (mostP a0 m t) (partF a0 m t) from by rw [hmp]; rfl)
        have ht1 : (t : Int) < 1000 := by omega
        rw [HE1.out] at b2
        clear hmp hok hNm hN1
        rw [← Haa.out]
        simp only [List.setIfInBounds_toArray, List.set_cons_succ, List.set_cons_zero]
        generalize sumP a0 m (t + 1) = s1 at *
        generalize leastP a0 m (t + 1) = l1 at *
        generalize mostP a0 m (t + 1) = t1 at *
        generalize sumP a0 m t = ss at *
        generalize leastP a0 m t = ll at *
        generalize mostP a0 m t = tt at *
        generalize partF a0 m t = pp at *
        have HSW3 := Go.Lib.hid hs; have HXW3 := Go.Lib.hid (Ch.refl (fun q => Z ≤ q ∧ q < Z + 4) W3); have HCW3 := Go.Lib.hid hc
        have HLP := Go.Lib.hid hlp; have HB3 := Go.Lib.hid hb; have HD3 := Go.Lib.hid hd
        clear hs hb hd hc hlp
        have ca := HCW3.out.get HBA.out id
        have hw1 : wrap64 (ss + pp) = ss + pp := by unfold wrap64; omega
        have hw2 : wrap64 ((t : Int) + 1) = (t : Int) + 1 := by unfold wrap64; omega
        have cs := cell_of_heap HSW3.out.s 0; have fs : W3.frozen? ⟨Z, 0, none⟩ = false := frozen_of_heap HSW3.out.s 0
        have cl := cell_of_heap HSW3.out.l 0; have fl : W3.frozen? ⟨Z + 1, 0, none⟩ = false := frozen_of_heap HSW3.out.l 0
        have ct := cell_of_heap HSW3.out.t 0; have ft : W3.frozen? ⟨Z + 1 + 1, 0, none⟩ = false := frozen_of_heap HSW3.out.t 0
        have cn := cell_of_heap HSW3.out.n 0; have fn : W3.frozen? ⟨Z + 1 + 1 + 1, 0, none⟩ = false := frozen_of_heap HSW3.out.n 0
        gi_upto_region 23 with (fail)
        obtain ⟨V1, hV1⟩ : ∃ V, W3.setCell ⟨Z, 0, none⟩ (.int .i64 (ss + pp)) = V := ⟨_, rfl⟩
        rw [hV1]
        have HSV1 := Go.Lib.hid (show SumsP Z (ss + pp) ll tt t V1 from by rw [← hV1]; exact HSW3.out.setS _)
        have HXV1 := Go.Lib.hid (show Ch (fun q => Z ≤ q ∧ q < Z + 4) W3 V1 from by rw [← hV1]; exact HXW3.out.setCell (p := ⟨Z, 0, none⟩) (fun _ => by constructor <;> (show _; simp <;> omega)) _)
        have HCV1 := Go.Lib.hid (show Ch (fun _ => False) W0 V1 from by rw [← hV1]; exact HCW3.out.setCell (p := ⟨Z, 0, none⟩) (fun h => by have h' : Z < W0.heap.size := h; have := HZ.out; omega) _)
        clear hV1 cs fs cl fl ct ft cn fn ca
        have ca := HCV1.out.get HBA.out id
        have cs := cell_of_heap HSV1.out.s 0; have fs : V1.frozen? ⟨Z, 0, none⟩ = false := frozen_of_heap HSV1.out.s 0
        have cl := cell_of_heap HSV1.out.l 0; have fl : V1.frozen? ⟨Z + 1, 0, none⟩ = false := frozen_of_heap HSV1.out.l 0
        have ct := cell_of_heap HSV1.out.t 0; have ft : V1.frozen? ⟨Z + 1 + 1, 0, none⟩ = false := frozen_of_heap HSV1.out.t 0
        have cn := cell_of_heap HSV1.out.n 0; have fn : V1.frozen? ⟨Z + 1 + 1 + 1, 0, none⟩ = false := frozen_of_heap HSV1.out.n 0
        gi_upto_region 25 with (fail)
        by_cases hl1 : ll < 0
        · gi_upto_region 27 with (fail)
          obtain ⟨V2, hV2⟩ : ∃ V, V1.setCell ⟨Z + 1, 0, none⟩ (.int .i64 (pp)) = V := ⟨_, rfl⟩
          rw [hV2]
          have HSV2 := Go.Lib.hid (show SumsP Z (ss + pp) pp tt t V2 from by rw [← hV2]; exact HSV1.out.setL _)
          have HXV2 := Go.Lib.hid (show Ch (fun q => Z ≤ q ∧ q < Z + 4) W3 V2 from by rw [← hV2]; exact HXV1.out.setCell (p := ⟨Z + 1, 0, none⟩) (fun _ => by constructor <;> (show _; simp <;> omega)) _)
          have HCV2 := Go.Lib.hid (show Ch (fun _ => False) W0 V2 from by rw [← hV2]; exact HCV1.out.setCell (p := ⟨Z + 1, 0, none⟩) (fun h => by have h' : Z + 1 < W0.heap.size := h; have := HZ.out; omega) _)
          clear hV2 cs fs cl fl ct ft cn fn ca
          have ca := HCV2.out.get HBA.out id
          have cs := cell_of_heap HSV2.out.s 0; have fs : V2.frozen? ⟨Z, 0, none⟩ = false := frozen_of_heap HSV2.out.s 0
          have cl := cell_of_heap HSV2.out.l 0; have fl : V2.frozen? ⟨Z + 1, 0, none⟩ = false := frozen_of_heap HSV2.out.l 0
          have ct := cell_of_heap HSV2.out.t 0; have ft : V2.frozen? ⟨Z + 1 + 1, 0, none⟩ = false := frozen_of_heap HSV2.out.t 0
          have cn := cell_of_heap HSV2.out.n 0; have fn : V2.frozen? ⟨Z + 1 + 1 + 1, 0, none⟩ = false := frozen_of_heap HSV2.out.n 0
          gi_upto_region 28 with (fail)
          obtain ⟨V3, hV3⟩ : ∃ V, V2.setCell ⟨Z + 1 + 1, 0, none⟩ (.int .i64 (max tt pp)) = V := ⟨_, rfl⟩
          rw [hV3]
          have HSV3 := Go.Lib.hid (show SumsP Z (ss + pp) pp (max tt pp) t V3 from by rw [← hV3]; exact HSV2.out.setT _)
          have HXV3 := Go.Lib.hid (show Ch (fun q => Z ≤ q ∧ q < Z + 4) W3 V3 from by rw [← hV3]; exact HXV2.out.setCell (p := ⟨Z + 1 + 1, 0, none⟩) (fun _ => by constructor <;> (show _; simp <;> omega)) _)
          have HCV3 := Go.Lib.hid (show Ch (fun _ => False) W0 V3 from by rw [← hV3]; exact HCV2.out.setCell (p := ⟨Z + 1 + 1, 0, none⟩) (fun h => by have h' : Z + 1 + 1 < W0.heap.size := h; have := HZ.out; omega) _)
          clear hV3 cs fs cl fl ct ft cn fn ca
          have ca := HCV3.out.get HBA.out id
          have cs := cell_of_heap HSV3.out.s 0; have fs : V3.frozen? ⟨Z, 0, none⟩ = false := frozen_of_heap HSV3.out.s 0
          have cl := cell_of_heap HSV3.out.l 0; have fl : V3.frozen? ⟨Z + 1, 0, none⟩ = false := frozen_of_heap HSV3.out.l 0
          have ct := cell_of_heap HSV3.out.t 0; have ft : V3.frozen? ⟨Z + 1 + 1, 0, none⟩ = false := frozen_of_heap HSV3.out.t 0
          have cn := cell_of_heap HSV3.out.n 0; have fn : V3.frozen? ⟨Z + 1 + 1 + 1, 0, none⟩ = false := frozen_of_heap HSV3.out.n 0
          gi_wp2
          exact ⟨⟨by rw [HE1.out, HE2.out, HE3.out]; exact HSV3.out.setN, (HXV3.out.setCell (p := ⟨Z + 1 + 1 + 1, 0, none⟩) (fun _ => by constructor <;> (show _; simp <;> omega)) _).heap HB3.out (by have := HKX.out; omega), (HXV3.out.setCell (p := ⟨Z + 1 + 1 + 1, 0, none⟩) (fun _ => by constructor <;> (show _; simp <;> omega)) _).heap HD3.out (by have := HKX.out; omega), HCV3.out.setCell (p := ⟨Z + 1 + 1 + 1, 0, none⟩) (fun h => by have h' : Z + 1 + 1 + 1 < W0.heap.size := h; have := HZ.out; omega) _⟩, HXV3.out.setCell (p := ⟨Z + 1 + 1 + 1, 0, none⟩) (fun _ => by constructor <;> (show _; simp <;> omega)) _⟩
        · by_cases hl2 : pp < ll
          · gi_upto_region 27 with (fail)
            obtain ⟨V2, hV2⟩ : ∃ V, V1.setCell ⟨Z + 1, 0, none⟩ (.int .i64 (pp)) = V := ⟨_, rfl⟩
            rw [hV2]
            have HSV2 := Go.Lib.hid (show SumsP Z (ss + pp) pp tt t V2 from by rw [← hV2]; exact HSV1.out.setL _)
            have HXV2 := Go.Lib.hid (show Ch (fun q => Z ≤ q ∧ q < Z + 4) W3 V2 from by rw [← hV2]; exact HXV1.out.setCell (p := ⟨Z + 1, 0, none⟩) (fun _ => by constructor <;> (show _; simp <;> omega)) _)
            have HCV2 := Go.Lib.hid (show Ch (fun _ => False) W0 V2 from by rw [← hV2]; exact HCV1.out.setCell (p := ⟨Z + 1, 0, none⟩) (fun h => by have h' : Z + 1 < W0.heap.size := h; have := HZ.out; omega) _)
            clear hV2 cs fs cl fl ct ft cn fn ca
            have ca := HCV2.out.get HBA.out id
            have cs := cell_of_heap HSV2.out.s 0; have fs : V2.frozen? ⟨Z, 0, none⟩ = false := frozen_of_heap HSV2.out.s 0
            have cl := cell_of_heap HSV2.out.l 0; have fl : V2.frozen? ⟨Z + 1, 0, none⟩ = false := frozen_of_heap HSV2.out.l 0
            have ct := cell_of_heap HSV2.out.t 0; have ft : V2.frozen? ⟨Z + 1 + 1, 0, none⟩ = false := frozen_of_heap HSV2.out.t 0
            have cn := cell_of_heap HSV2.out.n 0; have fn : V2.frozen? ⟨Z + 1 + 1 + 1, 0, none⟩ = false := frozen_of_heap HSV2.out.n 0
            gi_upto_region 28 with (fail)
            obtain ⟨V3, hV3⟩ : ∃ V, V2.setCell ⟨Z + 1 + 1, 0, none⟩ (.int .i64 (max tt pp)) = V := ⟨_, rfl⟩
            rw [hV3]
            have HSV3 := Go.Lib.hid (show SumsP Z (ss + pp) pp (max tt pp) t V3 from by rw [← hV3]; exact HSV2.out.setT _)
            have HXV3 := Go.Lib.hid (show Ch (fun q => Z ≤ q ∧ q < Z + 4) W3 V3 from by rw [← hV3]; exact HXV2.out.setCell (p := ⟨Z + 1 + 1, 0, none⟩) (fun _ => by constructor <;> (show _; simp <;> omega)) _)
            have HCV3 := Go.Lib.hid (show Ch (fun _ => False) W0 V3 from by rw [← hV3]; exact HCV2.out.setCell (p := ⟨Z + 1 + 1, 0, none⟩) (fun h => by have h' : Z + 1 + 1 < W0.heap.size := h; have := HZ.out; omega) _)
            clear hV3 cs fs cl fl ct ft cn fn ca
            have ca := HCV3.out.get HBA.out id
            have cs := cell_of_heap HSV3.out.s 0; have fs : V3.frozen? ⟨Z, 0, none⟩ = false := frozen_of_heap HSV3.out.s 0
            have cl := cell_of_heap HSV3.out.l 0; have fl : V3.frozen? ⟨Z + 1, 0, none⟩ = false := frozen_of_heap HSV3.out.l 0
            have ct := cell_of_heap HSV3.out.t 0; have ft : V3.frozen? ⟨Z + 1 + 1, 0, none⟩ = false := frozen_of_heap HSV3.out.t 0
            have cn := cell_of_heap HSV3.out.n 0; have fn : V3.frozen? ⟨Z + 1 + 1 + 1, 0, none⟩ = false := frozen_of_heap HSV3.out.n 0
            gi_wp2
            exact ⟨⟨by rw [HE1.out, HE2.out, HE3.out]; exact HSV3.out.setN, (HXV3.out.setCell (p := ⟨Z + 1 + 1 + 1, 0, none⟩) (fun _ => by constructor <;> (show _; simp <;> omega)) _).heap HB3.out (by have := HKX.out; omega), (HXV3.out.setCell (p := ⟨Z + 1 + 1 + 1, 0, none⟩) (fun _ => by constructor <;> (show _; simp <;> omega)) _).heap HD3.out (by have := HKX.out; omega), HCV3.out.setCell (p := ⟨Z + 1 + 1 + 1, 0, none⟩) (fun h => by have h' : Z + 1 + 1 + 1 < W0.heap.size := h; have := HZ.out; omega) _⟩, HXV3.out.setCell (p := ⟨Z + 1 + 1 + 1, 0, none⟩) (fun _ => by constructor <;> (show _; simp <;> omega)) _⟩
          · have hl3 : ll = pp := by
              have h := HLP.out
              rw [if_neg (by omega)] at h
              exact h
            subst hl3
            gi_upto_region 27 with (fail)
            clear cs fs cl fl ct ft cn fn
            have cs := cell_of_heap HSV1.out.s 0; have fs : V1.frozen? ⟨Z, 0, none⟩ = false := frozen_of_heap HSV1.out.s 0
            have cl := cell_of_heap HSV1.out.l 0; have fl : V1.frozen? ⟨Z + 1, 0, none⟩ = false := frozen_of_heap HSV1.out.l 0
            have ct := cell_of_heap HSV1.out.t 0; have ft : V1.frozen? ⟨Z + 1 + 1, 0, none⟩ = false := frozen_of_heap HSV1.out.t 0
            have cn := cell_of_heap HSV1.out.n 0; have fn : V1.frozen? ⟨Z + 1 + 1 + 1, 0, none⟩ = false := frozen_of_heap HSV1.out.n 0
            gi_upto_region 28 with (fail)
            obtain ⟨V3, hV3⟩ : ∃ V, V1.setCell ⟨Z + 1 + 1, 0, none⟩ (.int .i64 (max tt ll)) = V := ⟨_, rfl⟩
            rw [hV3]
            have HSV3 := Go.Lib.hid (show SumsP Z (ss + ll) ll (max tt ll) t V3 from by rw [← hV3]; exact HSV1.out.setT _)
            have HXV3 := Go.Lib.hid (show Ch (fun q => Z ≤ q ∧ q < Z + 4) W3 V3 from by rw [← hV3]; exact HXV1.out.setCell (p := ⟨Z + 1 + 1, 0, none⟩) (fun _ => by constructor <;> (show _; simp <;> omega)) _)
            have HCV3 := Go.Lib.hid (show Ch (fun _ => False) W0 V3 from by rw [← hV3]; exact HCV1.out.setCell (p := ⟨Z + 1 + 1, 0, none⟩) (fun h => by have h' : Z + 1 + 1 < W0.heap.size := h; have := HZ.out; omega) _)
            clear hV3 cs fs cl fl ct ft cn fn ca
            have ca := HCV3.out.get HBA.out id
            have cs := cell_of_heap HSV3.out.s 0; have fs : V3.frozen? ⟨Z, 0, none⟩ = false := frozen_of_heap HSV3.out.s 0
            have cl := cell_of_heap HSV3.out.l 0; have fl : V3.frozen? ⟨Z + 1, 0, none⟩ = false := frozen_of_heap HSV3.out.l 0
            have ct := cell_of_heap HSV3.out.t 0; have ft : V3.frozen? ⟨Z + 1 + 1, 0, none⟩ = false := frozen_of_heap HSV3.out.t 0
            have cn := cell_of_heap HSV3.out.n 0; have fn : V3.frozen? ⟨Z + 1 + 1 + 1, 0, none⟩ = false := frozen_of_heap HSV3.out.n 0
            gi_wp2
            exact ⟨⟨by rw [HE1.out, HE2.out, HE3.out]; exact HSV3.out.setN, (HXV3.out.setCell (p := ⟨Z + 1 + 1 + 1, 0, none⟩) (fun _ => by constructor <;> (show _; simp <;> omega)) _).heap HB3.out (by have := HKX.out; omega), (HXV3.out.setCell (p := ⟨Z + 1 + 1 + 1, 0, none⟩) (fun _ => by constructor <;> (show _; simp <;> omega)) _).heap HD3.out (by have := HKX.out; omega), HCV3.out.setCell (p := ⟨Z + 1 + 1 + 1, 0, none⟩) (fun h => by have h' : Z + 1 + 1 + 1 < W0.heap.size := h; have := HZ.out; omega) _⟩, HXV3.out.setCell (p := ⟨Z + 1 + 1 + 1, 0, none⟩) (fun _ => by constructor <;> (show _; simp <;> omega)) _⟩
      case hdone =>
        rintro D W3 ⟨h1, _, _, h4⟩ hD hdef
        exact ⟨rfl, D, rfl, by omega, hdef, h1, h4⟩
      case hstop => exact fun _ _ _ h => h.elim
    case post =>
    as_aux_lemma =>
    rintro e a' W' ⟨rfl, D, rfl, hD, hdef, hs4, hc4⟩
    have hra : rightB a0 = true := right_three HBAD.out
    have HD := Go.Lib.hid hdef; have HCW := Go.Lib.hid hc4; have HS4 := Go.Lib.hid hs4
    have HTX := Go.Lib.hid (fun (v : Int) (W : World) (hC : Ch (fun _ => False) W' W) => (text_any v W (HVS.out W (HC00.out.trans (HCW.out.trans hC)))).mono (R' := fun e w' => e = .returned (.tuple #[.string (textS v), .int .i64 (textE v)]) ∧ w'.cell? ⟨A, 0, none⟩ = some (.int .i64 a0) ∧ Ch (fun _ => False) W' w') (fun e w' h => ⟨h.1, (HCW.out.trans (hC.trans h.2)).get HBA.out id, hC.trans h.2⟩))
    have HPA := Go.Lib.hid (fun (q : ByteArray) (hq : q.size ≤ 1000000) (W : World) (hC : Ch (fun _ => False) W' W) => (parse_any q W (HVS.out W (HC00.out.trans (HCW.out.trans hC))) hq).mono (R' := fun e w' => e = .returned (.tuple #[.int .i64 (parV q.data.toList), .int .i64 (parE q.data.toList)]) ∧ w'.cell? ⟨A, 0, none⟩ = some (.int .i64 a0) ∧ Ch (fun _ => False) W' w') (fun e w' h => ⟨h.1, (HCW.out.trans (hC.trans h.2)).get HBA.out id, hC.trans h.2⟩))
    have HDA := Go.Lib.hid (show A + 1 < D ∧ W0.heap.size ≤ D from by have := HK.out.1; have := HZ.out; have := (Array.getElem?_eq_some_iff.1 HR1.out).1; omega)
    have HP1 := Go.Lib.hid (show ∀ (h1 : 1 ≤ m) (h2 : m ≤ 1000), ((partN a0 m : Nat) : Int) = m ∧ sumP a0 m (partN a0 m) = a0 ∧ mostP a0 m (partN a0 m) - leastP a0 m (partN a0 m) ≤ 1 ∧ 0 ≤ leastP a0 m (partN a0 m) ∧ leastP a0 m (partN a0 m) ≤ mostP a0 m (partN a0 m) ∧ mostP a0 m (partN a0 m) ≤ 1125899906842625 from by
      intro h1 h2
      have hok : okP a0 m = true := by unfold okP; rw [hra]; simp; omega
      have hN : partN a0 m = m.toNat := by unfold partN; rw [hok]; rfl
      obtain ⟨M, hM⟩ : ∃ M, m.toNat = M + 1 := ⟨m.toNat - 1, by omega⟩
      have k := (sumP_bounds hok).2
      rw [hN]
      refine ⟨by omega, k, ?_⟩
      rw [hM]
      have f := partF_first (x := a0) (m := m) M
      have g := partF_nat hok M
      have g0 := partF_nat hok 0
      show partF a0 m 0 - partF a0 m M ≤ 1 ∧ 0 ≤ partF a0 m M ∧ partF a0 m M ≤ partF a0 m 0 ∧ partF a0 m 0 ≤ 1125899906842625
      omega)
    have HTA := Go.Lib.hid (fun W hC => HTX.out a0 W hC)
    have HPB := Go.Lib.hid (fun W hC => HPA.out (textS a0) (back_of a0 hra).2.2.2 W hC)
    rw [(back_of a0 hra).1] at HTA
    rw [(back_of a0 hra).2.1, (back_of a0 hra).2.2.1] at HPB
    have HPS := Go.Lib.hid (fun W hC => HPA.out s (by omega) W hC)
    have HTS := Go.Lib.hid (fun W hC => HTX.out (parV s.data.toList) W hC)
    have HFO := Go.Lib.hid (fun (h : parE s.data.toList = 0) => forth_of s h)
    have ca := HCW.out.get HBA.out id
    clear hs4 hc4 hdef HTX HPA hra hD HK HN HZ
    generalize sumP a0 m (partN a0 m) = s1 at *
    generalize leastP a0 m (partN a0 m) = l1 at *
    generalize mostP a0 m (partN a0 m) = t1 at *
    generalize partN a0 m = n1 at *
    generalize textS a0 = ts at *
    generalize textS (parV s.data.toList) = ts2 at *
    generalize textE (parV s.data.toList) = te2 at *
    generalize parV s.data.toList = pv at *
    generalize parE s.data.toList = pe at *
    have cs := cell_of_heap HS4.out.s 0; have fs : W'.frozen? ⟨Z, 0, none⟩ = false := frozen_of_heap HS4.out.s 0
    have cl := cell_of_heap HS4.out.l 0; have fl : W'.frozen? ⟨Z + 1, 0, none⟩ = false := frozen_of_heap HS4.out.l 0
    have ct := cell_of_heap HS4.out.t 0; have ft : W'.frozen? ⟨Z + 1 + 1, 0, none⟩ = false := frozen_of_heap HS4.out.t 0
    have cn := cell_of_heap HS4.out.n 0; have fn : W'.frozen? ⟨Z + 1 + 1 + 1, 0, none⟩ = false := frozen_of_heap HS4.out.n 0
    rw [← Haa.out]
    clear Haa
    go_upto_region 29 with (fail)
    go_cut [221] from 41 (fun s221 wr => s221 = .bool false ∧ Ch (fun _ => False) W' wr)
    case first =>
      as_aux_lemma =>
      by_cases h1 : 1 ≤ m
      · by_cases h2 : m ≤ 1000
        · obtain ⟨q1, q2, q3, q4, q5, q6⟩ := HP1.out h1 h2
          have hw : wrap64 (t1 - l1) = t1 - l1 := by unfold wrap64; omega
          have HM := Go.Lib.hid q1
          subst q2
          clear q1
          have hn1 : (n1 : Int) ≠ m → False := fun h => h HM.out
          go_wp2_with fail
          all_goals (go_meet; case rel => exact ⟨by (try simp); (try (have := HM.out; omega)), Ch.refl _ _⟩)
        · go_wp2_with fail
          go_meet
          case rel => exact ⟨rfl, Ch.refl _ _⟩
      · go_wp2_with fail
        go_meet
        case rel => exact ⟨rfl, Ch.refl _ _⟩
    case rest =>
    as_aux_lemma =>
    obtain ⟨rfl, hcc⟩ := hcut
    have HC := Go.Lib.hid hcc
    clear HP1 HS4 cs cl ct cn fs fl ft fn ca hcc
    have ca := (HCW.out.trans HC.out).get HBA.out id
    go_upto_if 250 with (first | (go_at_call 17; refine (num_any _ _).mono ?_; rintro e w' ⟨rfl, rfl⟩) | (go_at_call 32; first | (refine (HTA.out _ HC.out).mono ?_; clear HTA; rintro e w' ⟨rfl, ca', hc'⟩; clear HC; have HC := Go.Lib.hid hc'; clear hc') | (refine (HTS.out _ HC.out).mono ?_; clear HTS; rintro e w' ⟨rfl, ca', hc'⟩; clear HC; have HC := Go.Lib.hid hc'; clear hc')) | (go_at_call 34; first | (refine (HPB.out _ HC.out).mono ?_; clear HPB; rintro e w' ⟨rfl, ca', hc'⟩; clear HC; have HC := Go.Lib.hid hc'; clear hc') | (refine (HPS.out _ HC.out).mono ?_; clear HPS; rintro e w' ⟨rfl, ca', hc'⟩; clear HC; have HC := Go.Lib.hid hc'; clear hc')))
    go_cut [] from 41 (fun wr => Ch (fun _ => False) W' wr)
    case first =>
      as_aux_lemma =>
      by_cases hE : pe = 0
      · subst hE
        obtain ⟨rfl, rfl⟩ := HFO.out rfl
        have hss : (ts2.toList == ts2.toList) = true := by simp
        go_wp2_with (first | (go_at_call 17; refine (num_any _ _).mono ?_; rintro e w' ⟨rfl, rfl⟩) | (go_at_call 32; first | (refine (HTA.out _ HC.out).mono ?_; clear HTA; rintro e w' ⟨rfl, ca', hc'⟩; clear HC; have HC := Go.Lib.hid hc'; clear hc') | (refine (HTS.out _ HC.out).mono ?_; clear HTS; rintro e w' ⟨rfl, ca', hc'⟩; clear HC; have HC := Go.Lib.hid hc'; clear hc')) | (go_at_call 34; first | (refine (HPB.out _ HC.out).mono ?_; clear HPB; rintro e w' ⟨rfl, ca', hc'⟩; clear HC; have HC := Go.Lib.hid hc'; clear hc') | (refine (HPS.out _ HC.out).mono ?_; clear HPS; rintro e w' ⟨rfl, ca', hc'⟩; clear HC; have HC := Go.Lib.hid hc'; clear hc')))
        go_meet
        case rel => exact HC.out
      · have hne : (pe == 0) = false := by rw [beq_eq_false_iff_ne]; exact hE
        have HE := Go.Lib.hid hE
        clear hE
        go_wp2_with fail
        go_meet
        case rel => exact HC.out
    case rest =>
    as_aux_lemma =>
    have HCC := Go.Lib.hid (HCW.out.trans hcut)
    have HDD := Go.Lib.hid (hcut.heap HD.out id)
    clear hcut HC
    have HWK := Go.Lib.hid (HW.out _ (HC00.out.trans HCC.out))
    go_wp2_with (go_at_call 11; refine HWK.out.mono ?_; rintro e w8 ⟨rfl, hc8⟩; have hr8 := (HCC.out.trans hc8).heap HR1.out id; have c8 : w8.cell? ⟨A + 1, 0, none⟩ = some (.bool false) := cell_of_heap hr8 0; have f8 : w8.frozen? ⟨A + 1, 0, none⟩ = false := frozen_of_heap hr8 0; have HR8 := Go.Lib.hid hr8; have HC8 := Go.Lib.hid hc8; clear hr8 hc8)
    have hcs := Ch.setCell (S := fun q => q = A + 1) (Ch.refl _ w8) (p := ⟨A + 1, 0, none⟩) (fun _ => rfl) (.bool true)
    have hda := HDA.out
    have haa := HAA.out
    have e1 := hcs.heap (HC8.out.heap HDD.out id) (fun h => by have h' : D = A + 1 := h; omega)
    have er := box_set HR8.out (.bool true)
    have hcw := ((HC00.out.trans HCC.out).trans HC8.out).setCell (p := ⟨A + 1, 0, none⟩) (fun h => by have h' : A + 1 < w.heap.size := h; omega) (.bool true)
    have hsz := HC00.out.size
    generalize w8.setCell ⟨A + 1, 0, none⟩ (.bool true) = w9 at *
    have run1 := run_takeDeferred (P := Tryd.prog) e1
    refine ⟨by simp, .inl ⟨_, _, rfl, run1, ?_⟩⟩
    have er' : (w9.putObj D (.deferred none)).heap[A + 1]? = some (.cells #[.bool true] 4) := (World.putObj_heap_other (by omega)).trans er
    have cr := cell_of_heap er' 0
    exact ⟨.bool true, by simp [results, Tryd.results10, go_sem, cr], rfl, hcw.putObj (fun h => by omega) _⟩
end Go.Proofs.YtcceialiedaccaaDoor
