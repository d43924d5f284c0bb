/- The parts of an amount, as an iterator: a range over a function whose rounds hand on. -/
import Derived.Test.YtcceialiedaccaaDoorG1
import Derived.WalkMore
namespace Go.Proofs.YtcceialiedaccaaDoor
open Go Go.RowKit
attribute [local go_sem] Oper.semAt_some

theorem maker43' (x m : Int) (w : World) : Calls Tryd.prog 43 #[.int .i64 x, .int .i64 m] w fun e w' => e = .returned (.func (.func 49) #[] (ptrs w.heap.size (w.heap.size + 1))) ∧ Ch (fun _ => False) w w' ∧ w'.heap.size = w.heap.size + 2 ∧ w'.heap[w.heap.size]? = some (.cells #[.int .i64 x] 2) ∧ w'.heap[w.heap.size + 1]? = some (.cells #[.int .i64 m] 3) := by
  refine (maker43 x m w).mono ?_
  rintro e w' ⟨rfl, rfl⟩
  refine ⟨rfl, ((Ch.refl _ w).alloc _).alloc _, by simp, ?_, ?_⟩
  · exact (Below.heap_alloc _ _ _ (by simp)).trans (World.alloc_heap_new w _)
  · have := World.alloc_heap_new (w.alloc (.cells #[.int .i64 x] 2)) (.cells #[.int .i64 m] 3); rwa [World.size_alloc] at this

set_option maxRecDepth 100000 in
set_option maxHeartbeats 2000000 in
theorem parts_of (x m : Int) (nn : Nat → Nat) (pp : Nat → Int) (st : Nat → Nat) (F : Nat → Int) (N2 N : Nat)
    (hG : ∀ A B, Gives 49 (ptrs A B) (fun t => #[.int .i64 (nn t : Int), .int .i64 (pp t)]) N2 (RdP A B x m))
    (hs0 : st 0 = 0) (hsN : st N2 = N) (hs : ∀ t, t < N2 → st (t + 1) = st t + nn t) (hF : ∀ t k, t < N2 → k < nn t → F (st t + k) = pp t ∧ st t + k < N) (hN1 : N ≤ 1000) (A B : Nat) :
    Gives 42 (ptrs A B) (fun i => #[.int .i64 (i : Int), .int .i64 (F i)]) N (RdP A B x m) := by
  intro l W S J Jx hS hJ hJx hR h0J hY
  obtain ⟨⟨ca, cb⟩, -⟩ := hR 0 W h0J
  have hA := cell_lt ca; have hB := cell_lt cb
  obtain ⟨W2, hW2⟩ : ∃ W2, (W.alloc (.cells #[.func (.yield l) #[] #[]] 69)).alloc (.cells #[.int .i64 0] 3) = W2 := ⟨_, rfl⟩
  have hc2 : Ch (fun _ => False) W W2 := by rw [← hW2]; exact ((Ch.refl _ W).alloc _).alloc _
  have hz2 : W2.heap.size = W.heap.size + 2 := by rw [← hW2]; simp
  have r0 : W2.heap[W.heap.size]? = some (.cells #[.func (.yield l) #[] #[]] 69) := by
    rw [← hW2]; exact (Below.heap_alloc _ _ _ (by simp)).trans (World.alloc_heap_new W _)
  have r1 : W2.heap[W.heap.size + 1]? = some (.cells #[.int .i64 0] 3) := by
    rw [← hW2]
    have := World.alloc_heap_new (W.alloc (.cells #[.func (.yield l) #[] #[]] 69)) (.cells #[.int .i64 0] 3); rwa [World.size_alloc] at this
  have ca2 : W2.cell? ⟨A, 0, none⟩ = some (.int .i64 x) := hc2.get ca id
  have cb2 : W2.cell? ⟨B, 0, none⟩ = some (.int .i64 m) := hc2.get cb id
  have HW2 := Go.Lib.hid hW2
  have HR := Go.Lib.hid hR; have HJ := Go.Lib.hid hJ; have HY := Go.Lib.hid hY; have HJX := Go.Lib.hid hJx; have HS := Go.Lib.hid hS
  have HJ2 := Go.Lib.hid (hJ 0 W W2 h0J (hc2.mono (fun _ _ h => h.elim)))
  have HC2 := Go.Lib.hid hc2; have HR0 := Go.Lib.hid r0; have HR1 := Go.Lib.hid r1; have HG := Go.Lib.hid hG; have HF := Go.Lib.hid hF; have HST := Go.Lib.hid hs; have HS0 := Go.Lib.hid hs0; have HSN := Go.Lib.hid hsN; have HZ2 := Go.Lib.hid hz2
  clear hW2 hR hJ hY hJx hS hc2 r0 r1 h0J ca cb hG hF hs hs0 hsN hz2
  have HM := Go.Lib.hid (maker43' x m W2)
  unfold ptrs
  refine callsIn_of_wp_marks Tryd.func42 rfl trivial (wpIn_wide.2 ?_)
  simp only [Tryd.ntmps42, List.size_toArray, List.length_cons, List.length_nil, Nat.reduceAdd, Nat.reduceSub, Array.replicate_succ,
     Array.replicate_zero, List.push_toArray, List.append_toArray, List.nil_append, List.cons_append]
  go_wp2_with fail
  try go_step3
  go_wp2_with fail
  go_step3
  rw [HW2.out]
  clear HW2
  go_wp2_with (go_at_call 43; refine HM.out.mono ?_; rintro e w5 ⟨rfl, hc, hz, h2, h3⟩)
  have hz5 : w5.heap.size = W.heap.size + 4 := by have := HZ2.out; omega
  have q0 := hc.heap HR0.out id
  have q1 := hc.heap HR1.out id
  have hj5 := HJ.out 0 W2 w5 HJ2.out (hc.mono (fun _ _ h => h.elim))
  rw [HZ2.out] at h2 h3 ⊢
  clear HM HR0 HR1 HC2 HJ2 ca2 cb2 hz hc HZ2
  generalize hD : W.heap.size = D at *
  generalize haa : Act.mk _ _ = aa
  have Haa := Go.Lib.hid haa
  have hg : aa.eval (.tmp 9) = .func (.func 49) #[] (ptrs (D + 2) (D + 2 + 1)) := by rw [← haa]; rfl
  clear haa
  refine range_gives (HG.out (D + 2) (D + 2 + 1)) (enters_of Tryd.func49 (by kernel_rfl) rfl) hg (fun t => rfl) (fun k => S k ∨ k = D + 1) ?hSw
    (fun t W' => J (st t) W' ∧ W'.heap[D]? = some (.cells #[.func (.yield l) #[] #[]] 69) ∧ W'.heap[D + 1]? = some (.cells #[.int .i64 (st t : Int)] 3) ∧ W'.heap[D + 2]? = some (.cells #[.int .i64 x] 2) ∧ W'.heap[D + 2 + 1]? = some (.cells #[.int .i64 m] 3))
    (fun c W' => c = .exit 0 ∧ Jx W') ?hI ?hIx ?hRd ?h0
    (fun t => { tmps := (((aa.tmps.setIfInBounds 10 (.int .i64 (nn t : Int))).setIfInBounds 11 (.int .i64 (pp t))).setIfInBounds 5 (.int .i64 (nn t : Int))).setIfInBounds 6 (.int .i64 (pp t)), defers := [] }) ?has ?hbody ?hdone ?hstop
  case hSw =>
    rintro k (hk | rfl)
    · have := HS.out k hk; omega
    · omega
  case hI =>
    rintro t X Y ⟨e0, e1, e2, e3, e4⟩ hr
    exact ⟨HJ.out _ _ _ e0 (hr.mono (fun i _ h => by omega)), hr.heap e1 (by omega), hr.heap e2 (by omega), hr.heap e3 (by omega), hr.heap e4 (by omega)⟩
  case hIx =>
    rintro c X Y ⟨e0, e1⟩ hr
    exact ⟨e0, HJX.out _ _ e1 (hr.mono (fun i _ h => by omega))⟩
  case hRd =>
    rintro t X ⟨e0, e1, e2, e3, e4⟩
    exact ⟨cell_of_heap e3 0, cell_of_heap e4 0⟩
  case h0 => exact ⟨by rw [HS0.out]; exact hj5, q0, by rw [HS0.out]; exact q1, h2, h3⟩
  case has =>
    intro l0 t W3 K hK
    rw [← Haa.out]
    rw [← Haa.out] at hK
    simp only [List.setIfInBounds_toArray, List.set_cons_succ, List.set_cons_zero] at hK
    gi_wp2
    exact hK
  case hbody =>
    rintro l0 t W3 ht ⟨j, e0, e1, e2, e3⟩
    have HN1 := Go.Lib.hid (HST.out t ht)
    have HYK := Go.Lib.hid (fun (k c : Nat) (W' : World) (hk : k < nn t) (hc : c = st t + k) (hj : J c W') => (show c < N ∧ YieldAt Fence.wide 0 Tryd.prog l #[.int .i64 (c : Int), .int .i64 (pp t)] W' fun e W'' => (e = .returned (.bool true) ∧ J (c + 1) W'' ∧ Ch S W' W'') ∨ (e = .returned (.bool false) ∧ Jx W'' ∧ Ch S W' W'') from by
      have hf := HF.out t k ht hk
      rw [← hc] at hf
      rw [← hf.1]
      exact ⟨hf.2, HY.out c W' hf.2 hj⟩))
    have HNN := Go.Lib.hid (show nn t ≤ 1000 from by
      cases hn : nn t with
      | zero => omega
      | succ n' => have := (HF.out t n' ht (by omega)).2; omega)
    clear HF HST HY HSN HS0
    have HE0 := Go.Lib.hid e0; have HE1 := Go.Lib.hid e1; have HE2 := Go.Lib.hid e2; have HE3 := Go.Lib.hid e3; have HJ3 := Go.Lib.hid j
    clear e0 e1 e2 e3 j
    rw [← Haa.out]
    simp only [List.setIfInBounds_toArray, List.set_cons_succ, List.set_cons_zero]
    rw [HN1.out]
    clear HN1 Haa
    generalize st t = s at *
    generalize nn t = n at *
    generalize pp t = p at *
    have hn := HNN.out
    gi_wp2
    gi_loopw [13] (fun i wr => ∃ k c : Nat, k ≤ n ∧ c = s + k ∧ i = .int .i64 (k : Int) ∧ J c wr ∧ wr.heap[D]? = some (.cells #[.func (.yield l) #[] #[]] 69) ∧ wr.heap[D + 1]? = some (.cells #[.int .i64 (c : Int)] 3) ∧ wr.heap[D + 2]? = some (.cells #[.int .i64 x] 2) ∧ wr.heap[D + 2 + 1]? = some (.cells #[.int .i64 m] 3) ∧ Ch (fun k => S k ∨ k = D + 1) W3 wr) (fun i _ => n - (intOf i).toNat)
    case atStart => exact ⟨0, s, by omega, by omega, by rfl, HJ3.out, HE0.out, HE1.out, HE2.out, HE3.out, Ch.refl _ _⟩
    case round =>
      obtain ⟨k, c, hk, hcs, rfl, hj, d0, d1, d2, d3, hch⟩ := hrel
      by_cases hkn : k < n
      · obtain ⟨hcN, fn, tmps, assign, body, hy, hRR⟩ := HYK.out k c wr hkn hcs hj
        have cw0 : wr.cell? ⟨D, 0, none⟩ = some (.func (.yield l) #[] #[]) := cell_of_heap d0 0
        have cn0 : wr.cell? ⟨D + 1, 0, none⟩ = some (.int .i64 (c : Int)) := cell_of_heap d1 0
        have HRR := Go.Lib.hid hRR; have HD0 := Go.Lib.hid d0; have HD1 := Go.Lib.hid d1; have HD2 := Go.Lib.hid d2; have HD3 := Go.Lib.hid d3; have HCH := Go.Lib.hid hch
        have HCS := Go.Lib.hid hcs
        clear hRR d0 d1 d2 d3 hch hj hcs
        gi_wp2
        refine ⟨rfl, RoundIn.mono (F := Fence.wide.inRound l0) HRR.out ?_⟩
        have hkk := hk
        rintro e w7 (⟨rfl, hj7, hc7⟩ | ⟨rfl, hj7, hc7⟩)
        · have d0 := hc7.heap HD0.out (fun h => by have := HS.out _ h; omega)
          have d1 := hc7.heap HD1.out (fun h => by have := HS.out _ h; omega)
          have d2 := hc7.heap HD2.out (fun h => by have := HS.out _ h; omega)
          have d3 := hc7.heap HD3.out (fun h => by have := HS.out _ h; omega)
          have cn0 : w7.cell? ⟨D + 1, 0, none⟩ = some (.int .i64 (c : Int)) := cell_of_heap d1 0
          have fn0 : w7.frozen? ⟨D + 1, 0, none⟩ = false := frozen_of_heap d1 0
          have HJ7 := Go.Lib.hid hj7
          have HC7 := Go.Lib.hid (HCH.out.trans (hc7.mono (fun i _ h => .inl h)))
          have HE0 := Go.Lib.hid d0; have HE1 := Go.Lib.hid d1; have HE2 := Go.Lib.hid d2; have HE3 := Go.Lib.hid d3
          clear d0 d1 d2 d3 hj7 hc7 HD0 HD1 HD2 HD3 HCH
          gi_wp2
          case roundEnd => exact ⟨⟨k + 1, c + 1, by omega, by have := HCS.out; omega, by go_num, HJ.out _ _ _ HJ7.out ((Ch.refl _ w7).setCell (p := ⟨D + 1, 0, none⟩) (fun _ => by show D ≤ D + 1; omega) _), box_keep HE0.out (by omega) _, (box_set HE1.out _).trans (by go_num), box_keep HE2.out (by omega) _, box_keep HE3.out (by omega) _, Ch.setCell HC7.out (p := ⟨D + 1, 0, none⟩) (fun _ => .inr rfl) _⟩, by simp [intOf]; omega⟩
        · have HJ7 := Go.Lib.hid hj7
          have HC7 := Go.Lib.hid (HCH.out.trans (hc7.mono (fun i _ h => .inl h)))
          clear hj7 hc7
          gi_wp2
          exact .inr (.inl ⟨_, rfl, ⟨rfl, HJ7.out⟩, HC7.out⟩)
      · obtain rfl : k = n := by omega
        have HK := Go.Lib.hid (⟨hj, d0, d1, d2, d3, hch⟩ : _ ∧ _ ∧ _ ∧ _ ∧ _ ∧ _)
        clear hj d0 d1 d2 d3 hch
        gi_wp2
        subst hcs
        exact ⟨⟨HK.out.1, HK.out.2.1, by rw [show ((s : Int) + (k : Int)) = ((s + k : Nat) : Int) by omega]; exact HK.out.2.2.1, HK.out.2.2.2.1, HK.out.2.2.2.2.1⟩, HK.out.2.2.2.2.2⟩
  case hdone =>
    rintro D1 W3 ⟨e0, -⟩ hD1 hdef
    have HD := Go.Lib.hid hdef
    have HJE := Go.Lib.hid (HJ.out N W3 (W3.putObj D1 (.deferred none)) (by rw [← HSN.out]; exact e0) ((Ch.refl _ W3).putObj (fun _ => by omega) _))
    clear e0 hdef
    rw [← Haa.out]
    go_wp2
    have hrun := run_takeDeferred (P := Tryd.prog) HD.out
    refine ⟨by simp, .inl ⟨_, _, rfl, hrun, ?_⟩⟩
    exact ⟨_, results_none rfl _ _ _, ⟨_, rfl⟩, .inl HJE.out⟩
  case hstop =>
    rintro c D1 W3 ⟨rfl, e0⟩ hD1 hdef
    have HD := Go.Lib.hid hdef
    have HJE := Go.Lib.hid (HJX.out W3 (W3.putObj D1 (.deferred none)) e0 ((Ch.refl _ W3).putObj (fun _ => by omega) _))
    clear e0 hdef
    rw [← Haa.out]
    go_wp2
    have hrun := run_takeDeferred (P := Tryd.prog) HD.out
    refine ⟨by simp, .inl ⟨_, _, rfl, hrun, ?_⟩⟩
    exact ⟨_, results_none rfl _ _ _, ⟨_, rfl⟩, .inr HJE.out⟩

/-! ### What the parts are -/
def partF (x m : Int) (i : Nat) : Int := if (i : Int) < x % m then x / m + 1 else x / m
def partN (x m : Int) : Nat := if okP x m then m.toNat else 0
theorem ok_of {x m : Int} (h : okP x m = true) : (0 ≤ x ∧ x ≤ 1125899906842624) ∧ 1 ≤ m ∧ m ≤ 1000 := by
  unfold okP at h
  simp only [Bool.and_eq_true, decide_eq_true_eq] at h
  exact ⟨right_true h.1, h.2.1, h.2.2⟩
theorem partN_le (x m : Int) : partN x m ≤ 1000 := by
  unfold partN
  cases h : okP x m
  · simp
  · have := ok_of h; simp; omega
/-- The iterator of 'Parts' hands over the numbers and the parts. -/
theorem parts_gives (x m : Int) (A B : Nat) : Gives 42 (ptrs A B) (fun i => #[.int .i64 (i : Int), .int .i64 (partF x m i)]) (partN x m) (RdP A B x m) := by
  cases h : okP x m
  · have hn : partN x m = 0 := by unfold partN; rw [h]; rfl
    rw [hn]
    exact parts_of x m (fun _ => 0) (fun _ => 0) (fun _ => 0) _ 0 0 (fun A B => heaps_none x m A B _ h) rfl rfl (fun t ht => by omega) (fun t k ht => by omega) (by omega) A B
  · obtain ⟨⟨x1, x2⟩, m1, m2⟩ := ok_of h
    have hn : partN x m = m.toNat := by unfold partN; rw [h]; rfl
    have r1 : 0 ≤ x % m := Int.emod_nonneg _ (by omega)
    have r2 : x % m < m := Int.emod_lt_of_pos _ (by omega)
    rw [hn]
    have hV : heapV (x / m) (x % m) m = fun t => #[.int .i64 (((if t = 0 then (x % m).toNat else (m - x % m).toNat) : Nat) : Int), .int .i64 (if t = 0 then x / m + 1 else x / m)] := by
      funext t
      unfold heapV
      by_cases e : t = 0
      · simp only [e, if_true]
        rw [show (((x % m).toNat : Nat) : Int) = x % m by omega]
      · simp only [e, if_false]
        rw [show (((m - x % m).toNat : Nat) : Int) = m - x % m by omega]
    refine parts_of x m (fun t => if t = 0 then (x % m).toNat else (m - x % m).toNat) (fun t => if t = 0 then x / m + 1 else x / m) (fun t => if t = 0 then 0 else if t = 1 then (x % m).toNat else m.toNat) _ 2 m.toNat (fun A B => by rw [← hV]; exact heaps_gives x m _ _ A B h rfl rfl) rfl rfl ?_ ?_ (by omega) A B
    · intro t ht
      match t, ht with
      | 0, _ => simp
      | 1, _ => simp; omega
    · intro t k ht hk
      match t, ht with
      | 0, _ => simp at hk ⊢; refine ⟨?_, by omega⟩; unfold partF; rw [if_pos (by omega)]
      | 1, _ => simp at hk ⊢; refine ⟨?_, by omega⟩; unfold partF; rw [if_neg (by omega)]
end Go.Proofs.YtcceialiedaccaaDoor
