/- Frames: the iterator over a stream's frames. -/
import Derived.Test.YtljllfdigfojdaaW2
import Derived.WalkMore
import Derived.Test.YtljllfdigfojdaaV10
namespace Go.Proofs.Ytljllfdigfojdaa
open Go Go.RowKit
attribute [local go_sem] Oper.semAt_some

set_option maxRecDepth 100000 in
theorem splits_at (p : Option Addr) (n c : Nat) (w : World) : Calls Try.prog 77 #[.slice p n c] w fun e w' => e = .returned (.func (.func 94) #[] #[.pointer (some ⟨w.heap.size, 0, none⟩)]) ∧ w' = w.alloc (.cells #[.slice p n c] 27) := by
  go_enter Try.func77, Try.ntmps77
  go_wp2_with fail
  go_ret
  exact ⟨rfl, rfl⟩
/-- What is handed over: where the t-th frame ends, and its body. -/
def VPg (F : Nat → UInt8) (T : Nat) (off kk mm : Nat → Nat) (base t : Nat) (vt : Array Value) (W : World) : Prop :=
  t < T ∧ ∃ h cur, vt = #[.int .i64 (off (t + 1) : Nat), .slice (some ⟨h, 0, none⟩) (mm t) (mm t)] ∧ base ≤ h ∧ W.heap[h]? = some (.cells cur 5) ∧ ∀ j, j < mm t → cur[j]? = some (.int .u8 ((F (off t + (kk t + j))).toNat : Int))
theorem hands_g (F : Nat → UInt8) (T : Nat) (off kk mm : Nat → Nat) : Hands (VPg F T off kk mm) OwnB := by
  refine ⟨fun base t vt A B h hc => ?_, fun base t vt A k h ho => ?_⟩
  · obtain ⟨ht, h, cur, e, hb, hrow, hcur⟩ := h
    exact ⟨ht, h, cur, e, hb, hc.heap hrow (by omega), hcur⟩
  · obtain ⟨m, c, e⟩ := ho
    obtain ⟨ht, h, cur, rfl, hb, _⟩ := h
    cases e; exact hb
set_option maxRecDepth 100000 in
set_option maxHeartbeats 4000000 in
theorem frames_gives (B x0 : Nat) (F : Nat → UInt8) (n T : Nat) (off kk mm : Nat → Nat) (hq : FrSeq F n T off kk mm) (hn : n ≤ 1000000000) :
    GivesP 76 #[.pointer (some ⟨B, 0, none⟩)] (VPg F T off kk mm) OwnB T False (fun k => k = B ∨ k = x0) (fun _ => False)
      (fun W => ∃ p c, W.heap[B]? = some (.cells #[.slice p n c] 27) ∧ BytesAt W p n c F ∧ (∀ ad, p = some ad → ad.block = x0) ∧ x0 ≠ B) := by
  intro l W S J Jx hS hKC hfin hJ hJx hsz hRd hJ0 hY
  obtain ⟨p, c, hrow, hb, hblk, hxB⟩ := hRd
  obtain ⟨W2, hW2⟩ : ∃ W2, (W.alloc (.cells #[.func (.yield l) #[] #[]] 133)).alloc (.cells #[.int .i64 0] 3) = W2 := ⟨_, rfl⟩
  have hc2 : Ch (fun _ => False) W W2 := by rw [← hW2]; exact ((Ch.refl _ W).alloc _).alloc _
  have hz2 : W2.heap.size = W.heap.size + 2 := by rw [← hW2]; simp
  have r0 : W2.heap[W.heap.size]? = some (.cells #[.func (.yield l) #[] #[]] 133) := by
    rw [← hW2]; exact (Below.heap_alloc _ _ _ (by simp)).trans (World.alloc_heap_new W _)
  have r1 : W2.heap[W.heap.size + 1]? = some (.cells #[.int .i64 0] 3) := by
    rw [← hW2]
    have := World.alloc_heap_new (W.alloc (.cells #[.func (.yield l) #[] #[]] 133)) (.cells #[.int .i64 0] 3); rwa [World.size_alloc] at this
  have hcl : W2.cell? ⟨B, 0, none⟩ = some (.slice p n c) := hc2.get ((cell_of_heap hrow 0).trans rfl) id
  have HW2 := Go.Lib.hid hW2
  have HQ := Go.Lib.hid hq; have HS := Go.Lib.hid hS; have HX := Go.Lib.hid (hKC x0 (.inl (.inr rfl))); have HBB := Go.Lib.hid (hKC B (.inl (.inl rfl)))
  have HJ := Go.Lib.hid hJ; have HJX := Go.Lib.hid hJx; have HSZ := Go.Lib.hid hsz; have HY := Go.Lib.hid hY
  have HJ2 := Go.Lib.hid (hJ 0 W W2 hJ0 (hc2.mono (fun _ _ h => h.elim)))
  have HC2 := Go.Lib.hid hc2; have HR0 := Go.Lib.hid r0; have HR1 := Go.Lib.hid r1; have HZ2 := Go.Lib.hid hz2
  have HB2 := Go.Lib.hid (hb.ch hc2 (fun _ _ => id)); have HBL := Go.Lib.hid hblk; have HXB := Go.Lib.hid hxB
  clear hW2 hq hS hKC hfin hJ hJx hsz hJ0 hY hrow hb hblk hxB hc2 hz2 r0 r1
  have HM := Go.Lib.hid (splits_at p n c W2)
  refine callsIn_of_wp_marks Try.func76 rfl trivial (wpIn_wide.2 ?_)
  simp only [Try.ntmps76, List.size_toArray, List.length_cons, List.length_nil, Nat.reduceAdd, Nat.reduceSub, Array.replicate_succ,
     Array.replicate_zero, List.push_toArray, List.append_toArray, List.nil_append, List.cons_append]
  go_wp2_with fail
  try go_step3
  go_wp2_with fail
  go_step3
  rw [HW2.out]
  clear HW2
  go_wp2_with (go_at_call 77; refine HM.out.mono ?_; rintro e w5' ⟨rfl, rfl⟩)
  generalize hw5e : W2.alloc (.cells #[.slice p n c] 27) = w5 at *
  have hw5 := hw5e.symm
  clear hw5e
  have hc5 : Ch (fun _ => False) W2 w5 := by rw [hw5]; exact (Ch.refl _ W2).alloc _
  have hA5 : w5.heap[W2.heap.size]? = some (.cells #[.slice p n c] 27) := by rw [hw5]; exact World.alloc_heap_new _ _
  have hz5 : w5.heap.size = W.heap.size + 3 := by rw [hw5, World.size_alloc]; have := HZ2.out; omega
  have q0 := hc5.heap HR0.out id
  have q1 := hc5.heap HR1.out id
  have hj5 := HJ.out 0 W2 w5 HJ2.out (hc5.mono (fun _ _ h => h.elim))
  have hb5 := HB2.out.ch hc5 (fun _ _ => id)
  rw [HZ2.out] at hA5 ⊢
  clear HM HR0 HR1 HC2 HJ2 HB2 hcl HZ2 hw5
  have hbb := HBB.out; have hxx := HX.out
  generalize hD : W.heap.size = D at *
  generalize haa : Act.mk _ _ = aa
  have Haa := Go.Lib.hid haa
  have hg : aa.eval (.tmp 7) = .func (.func 94) #[] #[.pointer (some ⟨D + 2, 0, none⟩)] := by rw [← haa]; rfl
  clear haa
  refine range_gives (splits_gives (D + 2) x0 F n T off kk mm HQ.out hn) (hands_f F T off kk mm) (enters_of Try.func94 (by kernel_rfl) rfl) hg ?hps (fun k => S k ∨ k = D + 1) ?hSw ?hKC
    (fun t W' => t ≤ T ∧ J t W' ∧ W'.heap[D]? = some (.cells #[.func (.yield l) #[] #[]] 133) ∧ W'.heap[D + 1]? = some (.cells #[.int .i64 (off t : Nat)] 3))
    (fun c W' => c = .exit 0 ∧ (J T W' ∨ Jx W')) ?hfin ?hI ?hIx ?hRd ?h0
    (fun vt => { tmps := (((aa.tmps.setIfInBounds 8 (vt.getD 0 undef)).setIfInBounds 9 (vt.getD 1 undef)).setIfInBounds 4 (vt.getD 0 undef)).setIfInBounds 5 (vt.getD 1 undef), defers := [] }) ?has ?hbody ?hdone ?hstop
  case hps =>
    rintro base t vt A (⟨_, h, cur, rfl, _⟩ | ⟨_, rfl⟩) <;> rfl
  case hSw =>
    rintro k (hk | rfl)
    · have := HS.out k hk; exact ⟨by omega, fun e => this.2.1 (.inr e), by omega⟩
    · exact ⟨by omega, by omega, by omega⟩
  case hKC =>
    rintro k (rfl | rfl) <;> omega
  case hfin => rintro - A ⟨h, _⟩; omega
  case hI =>
    rintro t X Y ⟨e0, e1, e2, e3⟩ hr
    exact ⟨e0, HJ.out _ _ _ e1 (hr.mono (fun i _ h => .inl (by omega))), hr.heap e2 (by omega), hr.heap e3 (by omega)⟩
  case hIx =>
    rintro c X Y ⟨e0, e1⟩ hr
    exact ⟨e0, e1.imp (fun h => HJ.out _ _ _ h (hr.mono (fun i _ h => .inl (by omega)))) (fun h => HJX.out _ _ h (hr.mono (fun i _ h => .inl (by omega))))⟩
  case hRd =>
    intro X hx
    exact ⟨p, c, hx.heap hA5 id, hb5.ch hx (fun _ _ => id), HBL.out, by omega⟩
  case h0 => exact ⟨Nat.zero_le _, hj5, q0, by rw [HQ.out.zero]; exact q1⟩
  case has =>
    intro l0 base t vt W3 K hvp hK
    rw [← Haa.out]
    rw [← Haa.out] at hK
    rcases hvp with ⟨_, h, cur, rfl, _⟩ | ⟨_, rfl⟩
    all_goals
      simp only [List.setIfInBounds_toArray, List.set_cons_succ, List.set_cons_zero] at hK
      gi_wp2
      exact hK
  case hbody =>
    rintro l0 base t vt W3 htT hbase hvp ⟨ht, hj, e1, e2⟩
    rcases hvp with ⟨htt, h, cur, rfl, hbh, hrw, hcur⟩ | ⟨rfl, rfl⟩
    · obtain ⟨_, hoff, hle, hk1⟩ := HQ.out.step t htt
      have cn0 : W3.cell? ⟨D + 1, 0, none⟩ = some (.int .i64 (off t : Nat)) := cell_of_heap e2 0
      have fn0 : W3.frozen? ⟨D + 1, 0, none⟩ = false := frozen_of_heap e2 0
      have hwr : IntKind.i64.wrap ((off t : Int) + ((kk t + (mm t + 4) : Nat) : Int)) = (off (t + 1) : Int) := by
        rw [hoff]
        simp [IntKind.wrap, IntKind.bits, IntKind.signed]; omega
      have hL0 : (((kk t + (mm t + 4) : Nat) : Int) == 0) = false := by simp; omega
      have hsc : Ch (fun k => k = D + 1) W3 (W3.setCell ⟨D + 1, 0, none⟩ (.int .i64 (off (t + 1) : Nat))) := Ch.setCell (S := fun k => k = D + 1) (Ch.refl _ W3) (p := ⟨D + 1, 0, none⟩) (fun _ => rfl) _
      have hj4 : J t (W3.setCell ⟨D + 1, 0, none⟩ (.int .i64 (off (t + 1) : Nat))) := HJ.out _ _ _ hj (hsc.mono (fun i _ e => .inl (by omega)))
      have hrw4 := hsc.heap hrw (show ¬ h = D + 1 by omega)
      have hd4 := hsc.heap e1 (show ¬ D = D + 1 by omega)
      have he4 : (W3.setCell ⟨D + 1, 0, none⟩ (.int .i64 (off (t + 1) : Nat))).heap[D + 1]? = some (.cells #[.int .i64 (off (t + 1) : Nat)] 3) := (row_setM e2 0 _).trans rfl
      have cw4 : (W3.setCell ⟨D + 1, 0, none⟩ (.int .i64 (off (t + 1) : Nat))).cell? ⟨D, 0, none⟩ = some (.func (.yield l) #[] #[]) := cell_of_heap hd4 0
      have ce4 : (W3.setCell ⟨D + 1, 0, none⟩ (.int .i64 (off (t + 1) : Nat))).cell? ⟨D + 1, 0, none⟩ = some (.int .i64 (off (t + 1) : Nat)) := cell_of_heap he4 0
      obtain ⟨fn, tmps, assign, body, hy, hR⟩ := HY.out t _ _ htt ⟨htt, h, cur, rfl, by omega, hrw4, hcur⟩ hj4
      have HRR := Go.Lib.hid hR; have HSC := Go.Lib.hid hsc; have HD4 := Go.Lib.hid hd4; have HE4 := Go.Lib.hid he4; have HTT := Go.Lib.hid htt
      have HOW := Go.Lib.hid (show ∀ q, OwnB #[.int .i64 (off (t + 1) : Nat), .slice (some ⟨h, 0, none⟩) (mm t) (mm t)] q → D + 1 < q ∧ OwnB #[.int .i64 ((kk t + (mm t + 4) : Nat) : Int), .slice (some ⟨h, 0, none⟩) (mm t) (mm t)] q from fun q ⟨m', c', e⟩ => ⟨by cases e; omega, m', c', e⟩)
      clear hR hsc hd4 he4 hj4 hrw4 hrw hcur e1 e2 hoff hle hk1 hj htT ht htt hbh
      rw [← Haa.out]
      simp only [List.setIfInBounds_toArray, List.set_cons_succ, List.set_cons_zero]
      generalize hL : kk t + (mm t + 4) = L at *
      have HL := Go.Lib.hid hL
      clear hL Haa
      generalize off (t + 1) = o2 at *
      gi_wp2
      refine ⟨rfl, RoundIn.mono (F := Fence.wide.inRound l0) HRR.out ?_⟩
      rintro e w7 (⟨rfl, hj7, hc7⟩ | ⟨rfl, hj7, hc7⟩)
      · have hD7 := hc7.heap HD4.out (fun e => e.elim (fun e => by have := HS.out D e; omega) (fun e => by have := (HOW.out D e).1; omega))
        have hE7 := hc7.heap HE4.out (fun e => e.elim (fun e => by have := HS.out (D + 1) e; omega) (fun e => by have := (HOW.out (D + 1) e).1; omega))
        have HJ7 := Go.Lib.hid (⟨hj7, hD7, hE7⟩ : _ ∧ _ ∧ _)
        have HC7 := Go.Lib.hid ((HSC.out.mono (T := fun k => (S k ∨ k = D + 1) ∨ OwnB #[.int .i64 (L : Int), .slice (some ⟨h, 0, none⟩) (mm t) (mm t)] k) (fun i _ e => .inl (.inr e))).trans (hc7.mono (fun i _ e => e.elim (fun e => .inl (.inl e)) (fun e => .inr (HOW.out i e).2))))
        clear hj7 hD7 hE7 hc7
        gi_wp2
        exact ⟨⟨HTT.out, HJ7.out.1, HJ7.out.2.1, HJ7.out.2.2⟩, HC7.out⟩
      · have HJ7 := Go.Lib.hid hj7
        have HC7 := Go.Lib.hid ((HSC.out.mono (T := fun k => (S k ∨ k = D + 1) ∨ OwnB #[.int .i64 (L : Int), .slice (some ⟨h, 0, none⟩) (mm t) (mm t)] k) (fun i _ e => .inl (.inr e))).trans (hc7.mono (fun i _ e => e.elim (fun e => .inl (.inl e)) (fun e => .inr (HOW.out i e).2))))
        clear hj7 hc7
        gi_wp2
        exact .inr (.inl ⟨_, rfl, ⟨rfl, .inr HJ7.out⟩, HC7.out⟩)
    · have hle := HQ.out.le t ht
      have cn0 : W3.cell? ⟨D + 1, 0, none⟩ = some (.int .i64 (off t : Nat)) := cell_of_heap e2 0
      have fn0 : W3.frozen? ⟨D + 1, 0, none⟩ = false := frozen_of_heap e2 0
      have hwr : IntKind.i64.wrap (off t : Int) = (off t : Int) := by simp [IntKind.wrap, IntKind.bits, IntKind.signed]; omega
      have hsc : ∀ v, Ch (fun k => k = D + 1) W3 (W3.setCell ⟨D + 1, 0, none⟩ v) := fun v => Ch.setCell (S := fun k => k = D + 1) (Ch.refl _ W3) (p := ⟨D + 1, 0, none⟩) (fun _ => rfl) v
      have HJ4 := Go.Lib.hid (fun v => HJ.out _ _ _ hj ((hsc v).mono (fun i _ e => .inl (by omega))))
      have HSC := Go.Lib.hid hsc
      clear hsc e1 e2 hj hle
      rw [← Haa.out]
      simp only [List.setIfInBounds_toArray, List.set_cons_succ, List.set_cons_zero]
      gi_wp2
      refine ⟨fun f e => (by cases e), ?_⟩
      gi_wp2
      exact .inr (.inl ⟨_, rfl, ⟨rfl, .inl (HJ4.out _)⟩, (HSC.out _).mono (fun i _ e => .inl (.inr e))⟩)
  case hdone => rintro D1 W3 ⟨h, _⟩; omega
  case hstop =>
    rintro c D1 W3 ⟨rfl, e0⟩ hD1 hdef
    have HD := Go.Lib.hid hdef
    have HJE := Go.Lib.hid (show J T (W3.putObj D1 (.deferred none)) ∨ Jx (W3.putObj D1 (.deferred none)) from e0.imp (fun h => HJ.out _ _ _ h ((Ch.refl _ W3).putObj (fun _ => .inl (by omega)) _)) (fun h => HJX.out _ _ h ((Ch.refl _ W3).putObj (fun _ => .inl (by omega)) _)))
    clear e0 hdef
    rw [← Haa.out]
    go_wp2
    have hrun := run_takeDeferred (P := Try.prog) HD.out
    refine ⟨by simp, .inl ⟨_, _, rfl, hrun, ?_⟩⟩
    exact ⟨_, results_none rfl _ _ _, ⟨_, rfl⟩, HJE.out⟩
end Go.Proofs.Ytljllfdigfojdaa
/- Frames. -/
namespace Go.Proofs.Ytljllfdigfojdaa
open Go Go.RowKit

set_option maxRecDepth 100000 in
theorem frames_at (p : Option Addr) (n c : Nat) (F : Nat → UInt8) (w : World) (hb : BytesAt w p n c F) (hn : n ≤ 10000000000000) (h0 : 0 < w.heap.size) :
    Calls Try.prog 33 #[.slice p n c] w fun e w' => ∃ B x0 p' c', e = .returned (.func (.func 76) #[] #[.pointer (some ⟨B, 0, none⟩)]) ∧ w'.heap[B]? = some (.cells #[.slice p' n c'] 27) ∧ BytesAt w' p' n c' F ∧ (∀ ad, p' = some ad → ad.block = x0) ∧ x0 < B ∧ w.heap.size ≤ B ∧ (w.heap.size ≤ x0 ∨ x0 = 0) ∧ Ch (fun _ => False) w w' := by
  have HC := Go.Lib.hid (clone_any p n c F w hb hn)
  clear hb
  go_enter Try.func33, Try.ntmps33
  go_wp2_with fail
  refine HC.out.mono ?_
  rintro e w1 ⟨v, rfl, ho, hc⟩
  have HC1 := Go.Lib.hid hc
  obtain ⟨p1, c1, rfl, hb1⟩ := own_bytes ho
  have HB1 := Go.Lib.hid hb1
  have hz := hc.size
  have HX := Go.Lib.hid (show ∃ x0, (∀ ad, p1 = some ad → ad.block = x0) ∧ x0 < w1.heap.size ∧ (w.heap.size ≤ x0 ∨ x0 = 0) by
    cases p1 with
    | none => exact ⟨0, (fun ad e => nomatch e), by omega, .inr rfl⟩
    | some ad =>
      rcases ho.2 with ⟨h, _⟩ | ⟨g, cap, cur, h, hbg, hg, _⟩
      · cases h
      · cases h
        exact ⟨g, fun ad e => by cases e; rfl, row_lt hg, .inl hbg⟩)
  clear ho hc hb1 HC
  go_wp2_with fail
  go_ret
  obtain ⟨x0, h1, h2, h3⟩ := HX.out
  exact ⟨w1.heap.size, x0, p1, c1, rfl, World.alloc_heap_new w1 _, HB1.out.but ((Ch.refl (fun _ => False) w1).alloc _) h1 id, h1, h2, hz, h3, HC1.out.alloc _⟩
end Go.Proofs.Ytljllfdigfojdaa
