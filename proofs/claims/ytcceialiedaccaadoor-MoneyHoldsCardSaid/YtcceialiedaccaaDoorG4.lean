/- MoneyParts: the function. -/
import Derived.Test.YtcceialiedaccaaDoorG3
import Derived.Test.YtcceialiedaccaaDoorA11
import Derived.Deep.CutBlock
namespace Go.Proofs.YtcceialiedaccaaDoor
open Go Go.RowKit
attribute [local go_sem] Oper.semAt_some

theorem maker31' (x m : Int) (w : World) : Calls Tryd.prog 31 #[.int .i64 x, .int .i64 m] w fun e w' => e = .returned (.func (.func 42) #[] (ptrs w.heap.size (w.heap.size + 1))) ∧ Ch (fun _ => False) w w' ∧ w'.heap.size = w.heap.size + 2 ∧ w'.heap[w.heap.size]? = some (.cells #[.int .i64 x] 2) ∧ w'.heap[w.heap.size + 1]? = some (.cells #[.int .i64 m] 3) := by
  refine (maker31 x m w).mono ?_
  rintro e w' ⟨rfl, rfl⟩
  refine ⟨rfl, ((Ch.refl _ w).alloc _).alloc _, by simp, ?_, ?_⟩
  · exact (Below.heap_alloc _ _ _ (by simp)).trans (World.alloc_heap_new w _)
  · have := World.alloc_heap_new (w.alloc (.cells #[.int .i64 x] 2)) (.cells #[.int .i64 m] 3); rwa [World.size_alloc] at this

theorem isfunc52 : (match Tryd.prog.underlying 52 with | some (.func _ _ _) => true | _ => false) = true := by kernel_rfl
/-- An iterator is not nil. -/
theorem wpList_eqnil {w : World} {ops : Array Oper} {rest : List Oper} {o : Oper} {a : Act} {Q : Exit → Act → World → Prop} (hgd : o.guard = none) (x : Operand)
    (ho : o.op = .binOp .eql 52 x (.const .nilFunc) 52) {f : Fn} {b c : Array Value} (hx : a.eval x = .func f b c) (h : wpList Tryd.prog ops Q rest (a.put o.dst (.bool false)) w) : wpList Tryd.prog ops Q (o :: rest) a w := by
  obtain ⟨p1, p2, p3, hu⟩ : ∃ p1 p2 p3, Tryd.prog.underlying 52 = some (.func p1 p2 p3) := by
    have h := isfunc52
    split at h
    · rename_i p1 p2 p3 hu; exact ⟨p1, p2, p3, hu⟩
    · cases h
  have he : (Op.equalIn 10000 52 (.func f b c) .nilFunc).run Tryd.prog w = .ok false w := by
    show (Op.equalIn (9999 + 1) 52 (.func f b c) .nilFunc).run Tryd.prog w = .ok false w
    rw [Op.equalIn]
    simp only [Sem.run_bind, run_underlying hu, Result.andThen]
    rfl
  refine wpList_plain hgd fun K hK => ?_
  have hy : a.eval (.const .nilFunc) = .nilFunc := rfl
  have h1 : (eqGuard .eql 52 x (.const .nilFunc) (.func f b c) .nilFunc).run Tryd.prog w = .ok () w := by
    simp [eqGuard]
  have h2 : (binOp .eql 52 (.func f b c) .nilFunc).run Tryd.prog w = .ok (.bool false) w := by
    simp only [binOp, Op.equal, Sem.run_bind]
    rw [show (Op.equalIn Op.maxDepth 52 (.func f b c) .nilFunc).run Tryd.prog w = .ok false w from he]
    rfl
  unfold Oper.wp execOp
  simp only [ho, hx, hy, Sem.run_bind, h1, h2, Result.andThen]
  exact hK _ _ h

/-- What lies in the law's cells between two turns. -/
structure RowsP (am m lf : Int) (A X T : Nat) (tn : Int) (p : Option Addr) (N c : Nat) (F : Nat → Int) (Lim : Nat) (W : World) : Prop where
  a : W.heap[A]? = some (.cells #[.int .i64 lf] 3)
  r : W.heap[A + 1]? = some (.cells #[.bool false] 4)
  x : W.heap[X]? = some (.cells #[.slice p N c] 22)
  b : W.heap[X + 1]? = some (.cells #[.int .i64 am] 2)
  d : W.heap[X + 1 + 1]? = some (.cells #[.int .i64 m] 3)
  t : W.heap[T]? = some (.cells #[.int .i64 tn] 3)
  z : N = 0 ∨ ∃ gx gy, p = some ⟨gx, gy, none⟩ ∧ gx < Lim ∧ ∀ j, j < N → W.cell? ⟨gx, gy + j, none⟩ = some (.int .i64 (F j))
  l : A + 1 < Lim ∧ X + 1 + 1 < Lim ∧ T < Lim
theorem RowsP.keep {x m lf : Int} {A X T : Nat} {tn : Int} {p : Option Addr} {N c : Nat} {F : Nat → Int} {Lim Lim2 : Nat} {W W' : World} {S : Nat → Prop} (h : RowsP x m lf A X T tn p N c F Lim W) (hc : Ch S W W') (hS : ∀ k, S k → Lim ≤ k) (hL : Lim ≤ Lim2) : RowsP x m lf A X T tn p N c F Lim2 W' where
  a := hc.heap h.a (fun hs => by have := hS _ hs; have := h.l; omega)
  r := hc.heap h.r (fun hs => by have := hS _ hs; have := h.l; omega)
  x := hc.heap h.x (fun hs => by have := hS _ hs; have := h.l; omega)
  b := hc.heap h.b (fun hs => by have := hS _ hs; have := h.l; omega)
  d := hc.heap h.d (fun hs => by have := hS _ hs; have := h.l; omega)
  t := hc.heap h.t (fun hs => by have := hS _ hs; have := h.l; omega)
  z := by
    rcases h.z with h | ⟨gx, gy, h1, h2, h3⟩
    · exact .inl h
    · exact .inr ⟨gx, gy, h1, by omega, fun j hj => hc.get (h3 j hj) (fun hs => by have := hS _ hs; simp at this; omega)⟩
  l := by have := h.l; omega
theorem RowsP.turn {x m lf : Int} {A X T T' : Nat} {tn tn' : Int} {p : Option Addr} {N c : Nat} {F : Nat → Int} {Lim Lim2 : Nat} {W : World} (h : RowsP x m lf A X T tn p N c F Lim W) (ht : W.heap[T']? = some (.cells #[.int .i64 tn'] 3)) (hL : Lim ≤ Lim2) (hT : T' < Lim2) : RowsP x m lf A X T' tn' p N c F Lim2 W where
  a := h.a
  r := h.r
  x := h.x
  b := h.b
  d := h.d
  t := ht
  z := by
    rcases h.z with h | ⟨gx, gy, h1, h2, h3⟩
    · exact .inl h
    · exact .inr ⟨gx, gy, h1, by omega, h3⟩
  l := by have := h.l; omega

set_option maxRecDepth 100000 in
set_option maxHeartbeats 4000000 in
theorem parts_law (x m lf : Int) (w : World) (hV : Vs w) : Calls Tryd.prog 8 #[.int .i64 x, .int .i64 m, .int .i64 lf] w fun e w' => e = .returned (.bool true) ∧ Ch (fun _ => False) w w' := by
  have HRP := Go.Lib.hid (fun W => rparts_any x m W)
  have HMK := Go.Lib.hid (fun W => maker31' x m W)
  have HW := Go.Lib.hid (fun W (h : Ch (fun _ => False) w W) => works_any W (hV.ch h))
  have HPG := Go.Lib.hid (fun A B => parts_gives x m A B)
  have hN := partN_le x m
  generalize partN x m = N at *
  generalize partF x m = F at *
  clear hV
  have i0 := World.alloc_heap_new w (.cells #[.int .i64 lf] 3)
  have i1 := World.alloc_heap_new (w.alloc (.cells #[.int .i64 lf] 3)) (.cells #[.bool false] 4)
  rw [World.size_alloc] at i1
  have i0' : ((w.alloc (.cells #[.int .i64 lf] 3)).alloc (.cells #[.bool false] 4)).heap[w.heap.size]? = some (.cells #[.int .i64 lf] 3) := (Below.heap_alloc _ _ _ (by simp)).trans i0
  have HI0 := Go.Lib.hid i0'; have HI1 := Go.Lib.hid i1
  clear i0 i1 i0'
  refine (callsIn_wide (n := 0)).1 (callsIn_of_wp_marks Tryd.func8 rfl trivial (wpIn_wide.2 ?_))
  simp only [Tryd.ntmps8, List.size_toArray, List.length_cons, List.length_nil, Nat.reduceAdd, Nat.reduceSub, Array.replicate_succ,
     Array.replicate_zero, List.push_toArray, List.append_toArray, List.nil_append, List.cons_append]
  go_wp2_with (first | (go_at_call 30; refine (HRP.out _).mono ?_; rintro e w1 ⟨p, c, rfl, hi1, hc1⟩; have HII := Go.Lib.hid hi1; have HC1 := Go.Lib.hid hc1; clear hi1 hc1) | (go_at_call 31; refine (HMK.out _).mono ?_; rintro e w3 ⟨rfl, hc3, hz3, hb3, hb4⟩; have HC3 := Go.Lib.hid hc3; have HZ3 := Go.Lib.hid hz3; have HB3 := Go.Lib.hid hb3; have HB4 := Go.Lib.hid hb4; clear hc3 hz3 hb3 hb4))
  obtain ⟨W0, hW0⟩ : ∃ W0, w3.alloc (.cells #[.int .i64 0] 3) = W0 := ⟨_, rfl⟩
  rw [hW0]
  have hs1 := HC1.out.size
  have hz3 := HZ3.out; have hb3 := HB3.out; have hb4 := HB4.out
  rw [World.size_alloc] at hz3 hb3 hb4
  have hx3 := HC3.out.heap (World.alloc_heap_new w1 (.cells #[.slice p N c] 22)) id
  have hc13 : Ch (fun _ => False) w1 w3 := ((Ch.refl _ w1).alloc _).trans HC3.out
  have hc30 : Ch (fun _ => False) w3 W0 := by rw [← hW0]; exact (Ch.refl _ w3).alloc _
  have hn0 : W0.heap[w3.heap.size]? = some (.cells #[.int .i64 0] 3) := by rw [← hW0]; exact World.alloc_heap_new w3 _
  have hs0 : W0.heap.size = w3.heap.size + 1 := by rw [← hW0]; simp
  rw [World.size_alloc, World.size_alloc] at hs1
  have HROWS := Go.Lib.hid (show RowsP x m lf w.heap.size w1.heap.size w3.heap.size 0 p N c F W0.heap.size W0 from
    { a := (hc13.trans hc30).heap (HC1.out.heap HI0.out id) id
      r := (hc13.trans hc30).heap (HC1.out.heap HI1.out id) id
      x := hc30.heap hx3 id
      b := hc30.heap hb3 id
      d := hc30.heap hb4 id
      t := hn0
      z := by
        rcases HII.out with ⟨gx, gy, h1, h2, h3⟩ | h
        · exact .inr ⟨gx, gy, h1, by omega, fun j hj => (hc13.trans hc30).get (h3 j hj) id⟩
        · exact .inl h
      l := by omega })
  have HC0 := Go.Lib.hid (show Ch (fun _ => False) w W0 from ((((Ch.refl _ w).alloc _).alloc _).trans HC1.out).trans (hc13.trans hc30))
  clear hW0 hs1 hz3 hb3 hb4 hx3 hc13 hc30 hn0 hs0 HI0 HI1 HII HC1 HC3 HZ3 HB3 HB4 HRP HMK
  have hA : w.heap.size ≤ W0.heap.size := HC0.out.size
  have HL0 := Go.Lib.hid HROWS.out.l
  generalize hAA : w.heap.size = A at *
  generalize w1.heap.size = X at *
  generalize w3.heap.size = T at *
  clear w1 w3
  refine wp_loop_rounds 3 ?_
  rw [rounds_succ]

  have hcv : Ch (fun _ => False) W0 (W0.alloc (.cells #[.int .i64 0] 3)) := (Ch.refl _ _).alloc _
  have HNY := Go.Lib.hid (World.alloc_heap_new W0 (.cells #[.int .i64 0] 3))
  have HRV := Go.Lib.hid (HROWS.out.keep hcv (fun _ h => h.elim) (Nat.le_refl _))
  have HCV := Go.Lib.hid (HC0.out.trans hcv)
  have cT : W0.cell? ⟨T, 0, none⟩ = some (.int .i64 0) := cell_of_heap HROWS.out.t 0
  clear hcv
  go_upto_block 2 with (refine wpList_eqnil rfl (.tmp 23) rfl rfl ?_)
  have HSV := Go.Lib.hid (show (W0.alloc (.cells #[.int .i64 0] 3)).heap.size = W0.heap.size + 1 by simp)
  generalize hVV : W0.alloc (.cells #[.int .i64 0] 3) = V0 at *
  clear hVV
  generalize hYY : W0.heap.size = Y0 at *
  generalize haa : Act.mk _ _ = aa
  have Haa0 := Go.Lib.hid haa
  clear haa
  refine Code.wp_mono (Q := fun e a' W' => e = .normal ∧ ∃ (D n : Nat), a' = { tmps := aa.tmps, defers := { target := .collected D, args := #[] } :: aa.defers } ∧ V0.heap.size ≤ D ∧ W'.heap[D]? = some (.deferred (some [])) ∧
    RowsP x m lf A X T 0 p N c F Y0 W' ∧ W'.heap[Y0]? = some (.cells #[.int .i64 (n : Int)] 3) ∧ (n : Int) = min (N : Int) (max 1 lf) ∧ Ch (fun _ => False) w W') ?post ?blk
  case blk =>
    have hg : aa.eval (.tmp 25) = .func (.func 42) #[] (ptrs (X + 1) (X + 1 + 1)) := by rw [← Haa0.out]; rfl
    refine wp_block ?_
    have hsv := HSV.out
    refine range_gives (HPG.out (X + 1) (X + 1 + 1)) (enters_of Tryd.func42 (by kernel_rfl) rfl) hg (fun t => rfl) (fun q => q = Y0) ?hSw
      (fun t W' => RowsP x m lf A X T 0 p N c F Y0 W' ∧ W'.heap[Y0]? = some (.cells #[.int .i64 (t : Int)] 3) ∧ (t = 0 ∨ (t : Int) < lf) ∧ Ch (fun _ => False) w W')
      (fun c' W' => c' = .exit 2 ∧ RowsP x m lf A X T 0 p N c F Y0 W' ∧ (∃ n : Nat, W'.heap[Y0]? = some (.cells #[.int .i64 (n : Int)] 3) ∧ (n : Int) = min (N : Int) (max 1 lf)) ∧ Ch (fun _ => False) w W') ?hI ?hIx ?hRd ?h0
      (fun t => { tmps := (((aa.tmps.setIfInBounds 26 (.int .i64 (t : Int))).setIfInBounds 27 (.int .i64 (F t))).setIfInBounds 11 (.int .i64 (t : Int))).setIfInBounds 12 (.int .i64 (F t)), defers := [] }) ?has ?hbody ?hdone ?hstop
    case hSw => rintro q rfl; omega
    case hI =>
      rintro t P R ⟨h1, h2, h3, h4⟩ hr
      exact ⟨h1.keep hr (fun q hq => by omega) (Nat.le_refl _), hr.heap h2 (by omega), h3, h4.then hr (fun i hi h => by omega)⟩
    case hIx =>
      rintro c' P R ⟨h0, h1, ⟨n, h2, h3⟩, h4⟩ hr
      exact ⟨h0, h1.keep hr (fun q hq => by omega) (Nat.le_refl _), ⟨n, hr.heap h2 (by omega), h3⟩, h4.then hr (fun i hi h => by omega)⟩
    case hRd =>
      rintro t P ⟨h1, -⟩
      exact ⟨cell_of_heap h1.b 0, cell_of_heap h1.d 0⟩
    case h0 => exact ⟨HRV.out, HNY.out, .inl rfl, HCV.out⟩
    case has =>
      intro l0 t W3 K hK
      rw [← Haa0.out]
      rw [← Haa0.out] at hK
      simp only [List.setIfInBounds_toArray, List.set_cons_succ, List.set_cons_zero] at hK
      gi_wp2
      exact hK
    case hbody =>
      rintro l0 t W3 ht ⟨hr, hy, hlt, hc⟩
      have hl := hr.l
      obtain ⟨gx, gy, rfl, hgx, hz⟩ := hr.z.resolve_left (by omega)
      have c1 : W3.cell? ⟨T, 0, none⟩ = some (.int .i64 0) := cell_of_heap hr.t 0
      have c2 : W3.cell? ⟨A, 0, none⟩ = some (.int .i64 lf) := cell_of_heap hr.a 0
      have c3 : W3.cell? ⟨X, 0, none⟩ = some (.slice (some ⟨gx, gy, none⟩) N c) := cell_of_heap hr.x 0
      have c4 : W3.cell? ⟨Y0, 0, none⟩ = some (.int .i64 (t : Int)) := cell_of_heap hy 0
      have c5 : W3.frozen? ⟨Y0, 0, none⟩ = false := frozen_of_heap hy 0
      have c6 := hz t ht
      have htN : (t : Int) < (N : Int) := by omega
      have HR3 := Go.Lib.hid hr; have HY3 := Go.Lib.hid hy; have HLT := Go.Lib.hid hlt; have HC3 := Go.Lib.hid hc
      have HCS := Go.Lib.hid (fun (v : Value) => (Ch.setCell (S := fun q => q = Y0) (Ch.refl _ W3) (p := ⟨Y0, 0, none⟩) (fun _ => rfl) v))
      have HCW := Go.Lib.hid (fun (v : Value) => (Ch.setCell (S := fun _ => False) hc (p := ⟨Y0, 0, none⟩) (fun h => by have h' : Y0 < w.heap.size := h; omega) v))
      clear hr hy hlt hc hz hl
      have HNE : Hid (Y0 ≠ A ∧ Y0 ≠ X ∧ Y0 ≠ T) := Go.Lib.hid (by have := HR3.out.l; omega)
      have c7 : ∀ v, (W3.setCell ⟨Y0, 0, none⟩ v).cell? ⟨T, 0, none⟩ = some (.int .i64 0) := fun v => (World.cell?_setCell_other _ _ _ _ (fun h => by cases h; have := HNE.out; omega)).trans c1
      have c8 : ∀ v, (W3.setCell ⟨Y0, 0, none⟩ v).cell? ⟨A, 0, none⟩ = some (.int .i64 lf) := fun v => (World.cell?_setCell_other _ _ _ _ (fun h => by cases h; have := HNE.out; omega)).trans c2
      have hNt : ¬ (N ≤ t) := by omega
      have hNt2 : decide (N ≤ t) = false := decide_eq_false hNt
      clear hg hsv hYY
      have hw1 : wrap64 ((t : Int) + 1) = (t : Int) + 1 := by unfold wrap64; omega
      rw [← Haa0.out]
      simp only [List.setIfInBounds_toArray, List.set_cons_succ, List.set_cons_zero]
      generalize F t = ft at *
      by_cases hle : lf ≤ (t : Int) + 1
      · gi_wp2
        exact .inr (.inl ⟨_, rfl, ⟨rfl, HR3.out.keep (HCS.out _) (fun q hq => Nat.le_of_eq hq.symm) (Nat.le_refl _), ⟨t + 1, (box_set HY3.out _).trans (by go_num), by have := HLT.out; omega⟩, HCW.out _⟩, HCS.out _⟩)
      · gi_wp2
        exact ⟨⟨HR3.out.keep (HCS.out _) (fun q hq => Nat.le_of_eq hq.symm) (Nat.le_refl _), (box_set HY3.out _).trans (by go_num), HCW.out _⟩, HCS.out _⟩
    case hdone =>
      rintro D W3 ⟨h1, h2, h3, h4⟩ hD hdef
      exact ⟨rfl, D, N, rfl, hD, hdef, h1, h2, by omega, h4⟩
    case hstop =>
      rintro c' D W3 ⟨rfl, h1, ⟨n, h2, h3⟩, h4⟩ hD hdef
      refine wp_exit ?_
      simp only [Exit.inBlock, if_true]
      exact ⟨trivial, D, n, rfl, hD, hdef, h1, h2, h3, h4⟩
  case post =>
    rintro e a' W' ⟨rfl, D0, n, rfl, hD, hdef, hr, hy, hn, hc⟩
    have c1 : W'.cell? ⟨T, 0, none⟩ = some (.int .i64 0) := cell_of_heap hr.t 0
    have c2 : W'.cell? ⟨A, 0, none⟩ = some (.int .i64 lf) := cell_of_heap hr.a 0
    have c3 : W'.cell? ⟨X, 0, none⟩ = some (.slice p N c) := cell_of_heap hr.x 0
    have c4 : W'.cell? ⟨Y0, 0, none⟩ = some (.int .i64 (n : Int)) := cell_of_heap hy 0
    have HR4 := Go.Lib.hid hr; have HY4 := Go.Lib.hid hy; have HN4 := Go.Lib.hid hn; have HC4 := Go.Lib.hid hc; have HDF := Go.Lib.hid hdef
    clear hr hy hn hc hdef
    rw [← Haa0.out]
    go_wp2_with fail
    rename_i hmin
    clear hmin
    rw [rounds_succ]
    have HD0A : Hid (A + 1 < D0) := Go.Lib.hid (by have := HL0.out; have := HSV.out; omega)
    have hD0 : D0 < W'.heap.size := (Array.getElem?_eq_some_iff.1 HDF.out).1
    have hY0s : Y0 < W'.heap.size := (Array.getElem?_eq_some_iff.1 HY4.out).1
    obtain ⟨W1, hW1⟩ : ∃ W1, W'.alloc (.cells #[.int .i64 1] 3) = W1 := ⟨_, rfl⟩
    have hc1 : Ch (fun _ => False) W' W1 := by rw [← hW1]; exact (Ch.refl _ _).alloc _
    have hn1 : W1.heap[W'.heap.size]? = some (.cells #[.int .i64 1] 3) := by rw [← hW1]; exact World.alloc_heap_new _ _
    have hs1 : W1.heap.size = W'.heap.size + 1 := by rw [← hW1]; simp
    have HD1 := Go.Lib.hid (hc1.heap HDF.out id)
    have HROWS := Go.Lib.hid ((HR4.out.keep hc1 (fun _ h => h.elim) (Nat.le_refl _)).turn (tn' := 1) hn1 (show Y0 ≤ W1.heap.size by omega) (by omega))
    have HC0 := Go.Lib.hid (HC4.out.trans hc1)
    rw [hW1]
    have hA : A ≤ W1.heap.size := by omega
    have hD0 : D0 < W1.heap.size := by omega
    clear hW1 hn1 hs1 hc1 HDF HR4 HC4 HY4 HN4 c1 c2 c3 c4 Haa0 HL0 HNY HRV HSV HCV cT hY0s hD
    generalize W'.heap.size = T1 at *
    clear W' hYY

    have hcv : Ch (fun _ => False) W1 (W1.alloc (.cells #[.int .i64 0] 3)) := (Ch.refl _ _).alloc _
    have HNY := Go.Lib.hid (World.alloc_heap_new W1 (.cells #[.int .i64 0] 3))
    have HRV := Go.Lib.hid (HROWS.out.keep hcv (fun _ h => h.elim) (Nat.le_refl _))
    have HCV := Go.Lib.hid (HC0.out.trans hcv)
    have cT : W1.cell? ⟨T1, 0, none⟩ = some (.int .i64 1) := cell_of_heap HROWS.out.t 0
    have HDV := Go.Lib.hid (hcv.heap HD1.out id)
    clear hcv
    go_upto_block 2 with (refine wpList_eqnil rfl (.tmp 23) rfl rfl ?_)
    have HSV := Go.Lib.hid (show (W1.alloc (.cells #[.int .i64 0] 3)).heap.size = W1.heap.size + 1 by simp)
    generalize hVV : W1.alloc (.cells #[.int .i64 0] 3) = V1 at *
    clear hVV
    generalize hYY : W1.heap.size = Y1 at *
    generalize haa : Act.mk _ _ = aa
    have Haa1 := Go.Lib.hid haa
    clear haa
    refine Code.wp_mono (Q := fun e a' W' => e = .normal ∧ ∃ (D n : Nat), a' = { tmps := aa.tmps, defers := { target := .collected D, args := #[] } :: aa.defers } ∧ V1.heap.size ≤ D ∧ W'.heap[D]? = some (.deferred (some [])) ∧
      RowsP x m lf A X T1 1 p N c F Y1 W' ∧ W'.heap[Y1]? = some (.cells #[.int .i64 (n : Int)] 3) ∧ n = N ∧ Ch (fun _ => False) w W' ∧ W'.heap[D0]? = some (.deferred (some []))) ?post ?blk
    case blk =>
      have hg : aa.eval (.tmp 25) = .func (.func 42) #[] (ptrs (X + 1) (X + 1 + 1)) := by rw [← Haa1.out]; rfl
      refine wp_block ?_
      have hsv := HSV.out
      refine range_gives (HPG.out (X + 1) (X + 1 + 1)) (enters_of Tryd.func42 (by kernel_rfl) rfl) hg (fun t => rfl) (fun q => q = Y1) ?hSw
        (fun t W' => RowsP x m lf A X T1 1 p N c F Y1 W' ∧ W'.heap[Y1]? = some (.cells #[.int .i64 (t : Int)] 3) ∧ True ∧ Ch (fun _ => False) w W' ∧ W'.heap[D0]? = some (.deferred (some [])))
        (fun c' W' => c' = .exit 2 ∧ RowsP x m lf A X T1 1 p N c F Y1 W' ∧ (∃ n : Nat, W'.heap[Y1]? = some (.cells #[.int .i64 (n : Int)] 3) ∧ n = N) ∧ Ch (fun _ => False) w W' ∧ W'.heap[D0]? = some (.deferred (some []))) ?hI ?hIx ?hRd ?h0
        (fun t => { tmps := (((aa.tmps.setIfInBounds 26 (.int .i64 (t : Int))).setIfInBounds 27 (.int .i64 (F t))).setIfInBounds 11 (.int .i64 (t : Int))).setIfInBounds 12 (.int .i64 (F t)), defers := [] }) ?has ?hbody ?hdone ?hstop
      case hSw => rintro q rfl; omega
      case hI =>
        rintro t P R ⟨h1, h2, h3, h4, h5⟩ hr
        exact ⟨h1.keep hr (fun q hq => by omega) (Nat.le_refl _), hr.heap h2 (by omega), h3, h4.then hr (fun i hi h => by omega), hr.heap h5 (by omega)⟩
      case hIx =>
        rintro c' P R ⟨h0, h1, ⟨n, h2, h3⟩, h4, h5⟩ hr
        exact ⟨h0, h1.keep hr (fun q hq => by omega) (Nat.le_refl _), ⟨n, hr.heap h2 (by omega), h3⟩, h4.then hr (fun i hi h => by omega), hr.heap h5 (by omega)⟩
      case hRd =>
        rintro t P ⟨h1, -⟩
        exact ⟨cell_of_heap h1.b 0, cell_of_heap h1.d 0⟩
      case h0 => exact ⟨HRV.out, HNY.out, trivial, HCV.out, HDV.out⟩
      case has =>
        intro l0 t W3 K hK
        rw [← Haa1.out]
        rw [← Haa1.out] at hK
        simp only [List.setIfInBounds_toArray, List.set_cons_succ, List.set_cons_zero] at hK
        gi_wp2
        exact hK
      case hbody =>
        rintro l0 t W3 ht ⟨hr, hy, hlt, hc, h5⟩
        have hl := hr.l
        obtain ⟨gx, gy, rfl, hgx, hz⟩ := hr.z.resolve_left (by omega)
        have c1 : W3.cell? ⟨T1, 0, none⟩ = some (.int .i64 1) := cell_of_heap hr.t 0
        have c2 : W3.cell? ⟨A, 0, none⟩ = some (.int .i64 lf) := cell_of_heap hr.a 0
        have c3 : W3.cell? ⟨X, 0, none⟩ = some (.slice (some ⟨gx, gy, none⟩) N c) := cell_of_heap hr.x 0
        have c4 : W3.cell? ⟨Y1, 0, none⟩ = some (.int .i64 (t : Int)) := cell_of_heap hy 0
        have c5 : W3.frozen? ⟨Y1, 0, none⟩ = false := frozen_of_heap hy 0
        have c6 := hz t ht
        have htN : (t : Int) < (N : Int) := by omega
        have HR3 := Go.Lib.hid hr; have HY3 := Go.Lib.hid hy; have HLT := Go.Lib.hid hlt; have HC3 := Go.Lib.hid hc
        have HCS := Go.Lib.hid (fun (v : Value) => (Ch.setCell (S := fun q => q = Y1) (Ch.refl _ W3) (p := ⟨Y1, 0, none⟩) (fun _ => rfl) v))
        have HCW := Go.Lib.hid (fun (v : Value) => (Ch.setCell (S := fun _ => False) hc (p := ⟨Y1, 0, none⟩) (fun h => by have h' : Y1 < w.heap.size := h; omega) v))
        have HD3 := Go.Lib.hid (fun (v : Value) => (HCS.out v).heap h5 (fun h => by have h' : D0 = Y1 := h; omega))
        clear hr hy hlt hc hz hl h5
        have HNE : Hid (Y1 ≠ A ∧ Y1 ≠ X ∧ Y1 ≠ T1) := Go.Lib.hid (by have := HR3.out.l; omega)
        have c7 : ∀ v, (W3.setCell ⟨Y1, 0, none⟩ v).cell? ⟨T1, 0, none⟩ = some (.int .i64 1) := fun v => (World.cell?_setCell_other _ _ _ _ (fun h => by cases h; have := HNE.out; omega)).trans c1
        have c8 : ∀ v, (W3.setCell ⟨Y1, 0, none⟩ v).cell? ⟨A, 0, none⟩ = some (.int .i64 lf) := fun v => (World.cell?_setCell_other _ _ _ _ (fun h => by cases h; have := HNE.out; omega)).trans c2
        have hNt : ¬ (N ≤ t) := by omega
        have hNt2 : decide (N ≤ t) = false := decide_eq_false hNt
        clear hg hsv hYY
        have hw1 : wrap64 ((t : Int) + 1) = (t : Int) + 1 := by unfold wrap64; omega
        rw [← Haa1.out]
        simp only [List.setIfInBounds_toArray, List.set_cons_succ, List.set_cons_zero]
        generalize F t = ft at *
        gi_wp2
        exact ⟨⟨HR3.out.keep (HCS.out _) (fun q hq => Nat.le_of_eq hq.symm) (Nat.le_refl _), (box_set HY3.out _).trans (by go_num), HCW.out _, HD3.out _⟩, HCS.out _⟩
      case hdone =>
        rintro D W3 ⟨h1, h2, h3, h4, h5⟩ hD hdef
        exact ⟨rfl, D, N, rfl, hD, hdef, h1, h2, by rfl, h4, h5⟩
      case hstop =>
        rintro c' D W3 ⟨rfl, h1, ⟨n, h2, h3⟩, h4, h5⟩ hD hdef
        refine wp_exit ?_
        simp only [Exit.inBlock, if_true]
        exact ⟨trivial, D, n, rfl, hD, hdef, h1, h2, h3, h4, h5⟩
    case post =>
      rintro e a' W' ⟨rfl, D1, n, rfl, hD, hdef, hr, hy, hn, hc, h5⟩
      have c1 : W'.cell? ⟨T1, 0, none⟩ = some (.int .i64 1) := cell_of_heap hr.t 0
      have c2 : W'.cell? ⟨A, 0, none⟩ = some (.int .i64 lf) := cell_of_heap hr.a 0
      have c3 : W'.cell? ⟨X, 0, none⟩ = some (.slice p N c) := cell_of_heap hr.x 0
      have c4 : W'.cell? ⟨Y1, 0, none⟩ = some (.int .i64 (n : Int)) := cell_of_heap hy 0
      have HR4 := Go.Lib.hid hr; have HY4 := Go.Lib.hid hy; have HN4 := Go.Lib.hid hn; have HC4 := Go.Lib.hid hc; have HDF := Go.Lib.hid hdef
      clear hr hy hn hc hdef
      rw [← Haa1.out]
      have hnN := HN4.out
      subst hnN
      have hY1s : Y1 < W'.heap.size := (Array.getElem?_eq_some_iff.1 HY4.out).1
      have hsv := HSV.out
      have HDL := Go.Lib.hid (show A + 1 < Y1 ∧ Y1 < D1 ∧ D0 < Y1 from ⟨HR4.out.l.1, by omega, hD0⟩)
      have HD5 := Go.Lib.hid h5
      have hc5 : Ch (fun _ => False) W' (W'.alloc (.cells #[.int .i64 2] 3)) := (Ch.refl _ _).alloc _
      have HC5 := Go.Lib.hid (HC4.out.trans hc5)
      have HRR := Go.Lib.hid (HR4.out.r)
      have HWK := Go.Lib.hid (HW.out _ HC5.out)
      clear hsv h5 hc5 hYY
      go_wp2_with fail
      rw [rounds_succ]
      go_wp2_with (go_at_call 11; refine HWK.out.mono ?_; rintro e w8 ⟨rfl, hc8⟩; have hr8 := hc8.heap (((Ch.refl (fun _ => False) W').alloc (.cells #[.int .i64 2] 3)).heap HRR.out id) id; have c8 : w8.cell? ⟨A + 1, 0, none⟩ = some (.bool false) := cell_of_heap hr8 0; have f8 : w8.frozen? ⟨A + 1, 0, none⟩ = false := frozen_of_heap hr8 0; have HR8 := Go.Lib.hid hr8; have HC8 := Go.Lib.hid hc8; clear hr8 hc8)
      have hcs := Ch.setCell (S := fun q => q = A + 1) (Ch.refl _ w8) (p := ⟨A + 1, 0, none⟩) (fun _ => rfl) (.bool true)
      have hca : Ch (fun _ => False) W' w8 := ((Ch.refl _ W').alloc _).trans HC8.out
      have hdl := HDL.out
      have e1 := hcs.heap (hca.heap HDF.out id) (fun h => by have h' : D1 = A + 1 := h; omega)
      have e0 := hcs.heap (hca.heap HD5.out id) (fun h => by have h' : D0 = A + 1 := h; have := HD0A.out; omega)
      have er := box_set HR8.out (.bool true)
      have hcw := (HC5.out.trans HC8.out).setCell (p := ⟨A + 1, 0, none⟩) (fun h => by have h' : A + 1 < w.heap.size := h; omega) (.bool true)
      generalize w8.setCell ⟨A + 1, 0, none⟩ (.bool true) = w9 at *
      have run1 := run_takeDeferred (P := Tryd.prog) e1
      have e0' : (w9.putObj D1 (.deferred none)).heap[D0]? = some (.deferred (some [])) := (World.putObj_heap_other (by omega)).trans e0
      have run0 := run_takeDeferred (P := Tryd.prog) e0'
      refine ⟨by simp, .inl ⟨_, _, rfl, run1, ?_⟩⟩
      refine ⟨by simp, .inl ⟨_, _, rfl, run0, ?_⟩⟩
      have er' : ((w9.putObj D1 (.deferred none)).putObj D0 (.deferred none)).heap[A + 1]? = some (.cells #[.bool true] 4) := (World.putObj_heap_other (by have := HD0A.out; omega)).trans ((World.putObj_heap_other (by omega)).trans er)
      have cr := cell_of_heap er' 0
      exact ⟨.bool true, by simp [results, Tryd.results8, go_sem, cr], rfl, (hcw.putObj (fun h => by omega) _).putObj (fun h => by have := HD0A.out; omega) _⟩
end Go.Proofs.YtcceialiedaccaaDoor
