import Derived.Test.YtikdpiedjkailaaDoorSpec
import Derived.Test.YtikdpiedjkailaaDoorT1
import Derived.Laws.EntriesVeiled
import Derived.Test.YtikdpiedjkailaaDoorTail
import Derived.RangeFuncNested
import Derived.RangeFuncBound
import Derived.RangeFuncCalls
import Derived.RangeFuncLeaves
import Derived.OwnWalkIn
import Derived.TacticsInMore
import Derived.LoopNIn
import Derived.LoopIn
import Derived.Sort.QuietTacIn
namespace Go.Proofs.YtikdpiedjkailaaDoor
open Go.RowKit
attribute [local go_sem high] b_add b_xor b_and b_or b_shr b_shl not32 wrap_un beq32

set_option maxHeartbeats 400000 in
theorem shifted_any (n : Int) (p : Option Addr) (l c : Nat) (w : World) : Calls Tryd.prog 68 #[.int .i64 n, .slice p l c] w fun e w' =>
    e = .returned (.func (.func 69) #[] #[.pointer (some ⟨w.heap.size + 2, 0, none⟩), .pointer (some ⟨w.heap.size, 0, none⟩)]) ∧
    w' = ((w.alloc (.cells #[.int .i64 n] 3)).alloc (.cells #[.slice p l c] 116)).alloc (.cells #[.func (.func 66) #[] #[.pointer (some ⟨w.heap.size + 1, 0, none⟩)]] 111) := by
  go_enter Tryd.func68, Tryd.ntmps68
  go_wp2_with (go_at_call 64; refine (turned_any _ _ _ _).mono ?_; rintro e w' ⟨rfl, rfl⟩)
  go_ret
  exact ⟨by simp, by simp⟩

theorem shifted_post (n : Int) (ns : List Int) (a : Nat) (w : World) (h1 : 1 ≤ n) (h2 : n ≤ 31) (hl : ns.length ≤ 10) (hr : ∀ i, i < ns.length → w.cell? ⟨a, i, none⟩ = some (.int .i64 (ns.getD i 0)))
    (hb : ∀ i, i < ns.length → 1 ≤ ns.getD i 0 ∧ ns.getD i 0 ≤ 31) (h0 : 0 < ns.length) : Calls Tryd.prog 68 #[.int .i64 n, .slice (some ⟨a, 0, none⟩) ns.length ns.length] w fun e w' =>
    ∃ bt bn bp, e = .returned (.func (.func 69) #[] #[.pointer (some ⟨bt, 0, none⟩), .pointer (some ⟨bn, 0, none⟩)]) ∧
      IsShift w' (.func (.func 69) #[] #[.pointer (some ⟨bt, 0, none⟩), .pointer (some ⟨bn, 0, none⟩)]) n ns bt bn bp a ∧ w.heap.size ≤ bt ∧ w.heap.size ≤ bn ∧ w.heap.size ≤ bp ∧ w.heap.size < w'.heap.size ∧ Ch (fun _ => False) w w' := by
  refine (shifted_any n _ _ _ w).mono ?_
  rintro e w' ⟨rfl, rfl⟩
  have ha : a < w.heap.size := cell_lt (hr 0 h0)
  have hc : Ch (fun _ => False) w (((w.alloc (.cells #[.int .i64 n] 3)).alloc (.cells #[.slice (some ⟨a, 0, none⟩) ns.length ns.length] 116)).alloc (.cells #[.func (.func 66) #[] #[.pointer (some ⟨w.heap.size + 1, 0, none⟩)]] 111)) :=
    (((Ch.refl _ w).alloc _).alloc _).alloc _
  refine ⟨_, _, w.heap.size + 1, rfl, ⟨rfl, ⟨.func (.func 66) #[] #[.pointer (some ⟨w.heap.size + 1, 0, none⟩)], by go_simp, ⟨rfl, hl, by go_simp, fun i hi => hc.get (hr i hi) id, hb⟩⟩, by go_simp, h1, h2⟩, by omega, by omega, by omega, by simp; omega, hc⟩

/-- The ring at block b. -/
def Ring (w : World) (b : Nat) (m : Nat → BitVec 32) : Prop := ∀ j, j < 16 → w.cell? ⟨b, j, none⟩ = some (wv (m j)) ∧ w.frozen? ⟨b, j, none⟩ = false

theorem IsTurn.ch {S : Nat → Prop} {w w' : World} {v : Value} {ns : List Int} {bp a : Nat} (h : IsTurn w v ns bp a) (hc : Ch S w w') (h1 : ¬ S bp) (h2 : ¬ S a) : IsTurn w' v ns bp a :=
  ⟨h.val, h.len, hc.get h.box h1, fun i hi => hc.get (h.row i hi) h2, h.bnd⟩
theorem IsShift.ch {S : Nat → Prop} {w w' : World} {v : Value} {n : Int} {ns : List Int} {bt bn bp a : Nat} (h : IsShift w v n ns bt bn bp a) (hc : Ch S w w') (h1 : ¬ S bt) (h2 : ¬ S bn) (h3 : ¬ S bp) (h4 : ¬ S a) : IsShift w' v n ns bt bn bp a := by
  obtain ⟨hv, ⟨tv, ht, hT⟩, hn, hl, hh⟩ := h
  exact ⟨hv, ⟨tv, hc.get ht h1, hT.ch hc h3 h4⟩, hc.get hn h2, hl, hh⟩
theorem IsShift.drewN {w : World} {v : Value} {n : Int} {ns : List Int} {bt bn bp a : Nat} (h : IsShift w v n ns bt bn bp a) (k : Nat) : IsShift (w.drewN k) v n ns bt bn bp a := by
  obtain ⟨hv, ⟨tv, ht, hT⟩, hn, hl, hh⟩ := h
  exact ⟨hv, ⟨tv, ht, hT.drewN k⟩, hn, hl, hh⟩

theorem ring_step (m : Nat → BitVec 32) (t j : Nat) (h : t < 16) : ringAt m (t + 1) j = ringAt m t j := by simp [ringAt, h]
theorem ring_new (m : Nat → BitVec 32) (t j : Nat) (h : 16 ≤ t) : ringAt m (t + 1) j = if j = t % 16 then made (ringAt m t) t else ringAt m t j := by
  simp [ringAt, Nat.not_lt.2 h]

set_option maxHeartbeats 4000000 in
theorem words1 (n l : Nat) (W : World) (bx b : Nat) (m : Nat → BitVec 32) (S : Nat → Prop) (J : Nat → World → Prop) (Jx : World → Prop)
    (hbox : W.cell? ⟨bx, 0, none⟩ = some (.pointer (some ⟨b, 0, none⟩))) (hring : Ring W b m) (hne : bx ≠ b) (hSb : ¬ S b) (hSx : ¬ S bx) (hSW : ∀ k, S k → k < W.heap.size)
    (hJ0 : J 0 W) (hJk : ∀ t A B, J t A → Rch (fun k => W.heap.size ≤ k) b A B → J t B)
    (hY : ∀ t W1, t < 64 → J t W1 → YieldAt Fence.wide (n - 1) Tryd.prog l #[.int .i64 (t : Int), wv (word m t)] W1 fun e W' => e = .returned (.bool true) ∧ J (t + 1) W' ∧ Ch S W1 W')
    (hY64 : ∀ W1, J 64 W1 → YieldAt Fence.wide (n - 1) Tryd.prog l #[.int .i64 64, wv (word m 64)] W1 fun e W' => e = .returned (.bool false) ∧ Jx W' ∧ Ch S W1 W') :
    CallsIn Fence.wide n Tryd.prog 67 #[.func (.yield l) #[] #[], .pointer (some ⟨bx, 0, none⟩)] W fun e W' => (∃ v, e = .returned v) ∧ Jx W' ∧ ∃ m', Ring W' b m' := by
  have Hring := Go.Lib.hid hring; clear hring
  have HJk := Go.Lib.hid hJk; clear hJk
  have HY := Go.Lib.hid hY; clear hY
  have HY64 := Go.Lib.hid hY64; clear hY64
  have HSW := Go.Lib.hid hSW; clear hSW
  have HJ0 := Go.Lib.hid hJ0; clear hJ0
  have HSb := Go.Lib.hid hSb; clear hSb
  have HSx := Go.Lib.hid hSx; clear hSx
  refine callsIn_of_wp Tryd.func67 rfl trivial (wpIn_wide.2 ?_) rfl
  simp only [Tryd.ntmps67, List.size_toArray, List.length_cons, List.length_nil, Nat.reduceAdd, Nat.reduceSub, Array.replicate_succ,
     Array.replicate_zero, List.push_toArray, List.append_toArray, List.nil_append, List.cons_append]
  go_wp2_with fail
  refine (shifted_post 10 [17, 19] W.heap.size _ (by decide) (by decide) (by decide) ?_ (by decide) (by decide)).mono ?_
  · intro i hi; match i, hi with | 0, _ => go_simp | 1, _ => go_simp
  rintro e w1 ⟨t1, n1, p1, rfl, hN, b1, b2, b3, b4, hC1⟩
  have HN := Go.Lib.hid hN; clear hN
  go_wp2_with fail
  refine (shifted_post 3 [7, 18] w1.heap.size _ (by decide) (by decide) (by decide) ?_ (by decide) (by decide)).mono ?_
  · intro i hi; match i, hi with | 0, _ => go_simp | 1, _ => go_simp
  rintro e w2 ⟨t2, n2, p2, rfl, hF, c1, c2, c3, c4, hC2⟩
  have HF := Go.Lib.hid hF; clear hF
  go_wp2_with fail
  have hC : Ch (fun _ => False) W w2 := ((((Ch.refl _ W).alloc _).then hC1 (fun _ _ h => h)).alloc _).then hC2 (fun _ _ h => h)
  have hs1 : w1.heap.size < w2.heap.size := by simp at c4; omega
  have hWs : W.heap.size < w1.heap.size := by simp at b4; omega
  simp only [World.size_alloc] at b1 b2 b3 c1 c2 c3
  have hbx := cell_lt hbox
  have hbl : b < W.heap.size := cell_lt (Hring.out 0 (by decide)).1
  simp only at hbx
  have HC := Go.Lib.hid hC
  have HC12 := Go.Lib.hid (((Ch.refl (fun _ => False) w1).alloc _).then hC2 (fun _ _ h => h))
  clear hC hC1 hC2
  go_loopw [5] (fun i wr => ∃ t : Nat, t ≤ 64 ∧ i = .int .i64 t ∧ J t wr ∧ Ring wr b (ringAt m t) ∧ wr.cell? ⟨bx, 0, none⟩ = some (.pointer (some ⟨b, 0, none⟩)) ∧
      IsShift wr (.func (.func 69) #[] #[.pointer (some ⟨t1, 0, none⟩), .pointer (some ⟨n1, 0, none⟩)]) 10 [17, 19] t1 n1 p1 W.heap.size ∧
      IsShift wr (.func (.func 69) #[] #[.pointer (some ⟨t2, 0, none⟩), .pointer (some ⟨n2, 0, none⟩)]) 3 [7, 18] t2 n2 p2 w1.heap.size) (fun i _ => 65 - (intOf i).toNat)
  case atStart =>
    refine ⟨0, by omega, rfl, HJk.out 0 _ _ HJ0.out (Rch.of_ch (HC.out.mono (fun _ _ h => h.elim)) hbl (by omega)), fun j hj => ?_, HC.out.get hbox id, ?_, HF.out⟩
    · obtain ⟨h1, h2⟩ := Hring.out j hj
      exact ⟨HC.out.get h1 id, (HC.out.frozen (cell_lt h1) id).trans h2⟩
    · exact HN.out.ch HC12.out id id id id
  case round =>
    obtain ⟨t, ht, rfl, hJ, hR, hx, hn, hf⟩ := hrel
    have HJ := Go.Lib.hid hJ; clear hJ
    have HR := Go.Lib.hid hR; clear hR
    have HN' := Go.Lib.hid hn; clear hn
    have HF' := Go.Lib.hid hf; clear hf
    obtain ⟨q1, q2⟩ := HR.out (t % 16) (by omega)
    by_cases h16 : t < 16
    · have HY1 := HY.out t wr (by omega) HJ.out
      have hwd : word m t = ringAt m t (t % 16) := ring_step m t _ h16
      rw [hwd] at HY1
      clear hwd
      obtain ⟨fn, tmps, assign, body, hy, hR⟩ := HY1
      have HRR := Go.Lib.hid hR; clear hR
      go_upto_region 6 with (fail)
      refine (wpIn_wide (n := n)).1 ?_
      gi_wp2
      refine ⟨fun h => by simp [Fence.wide] at h, HRR.out.mono ?_⟩
      rintro e W' ⟨rfl, hJ', hCh⟩
      have HJ' := Go.Lib.hid hJ'; clear hJ'
      have HCh := Go.Lib.hid hCh; clear hCh
      gi_wp2
      go_wp2
      go_roundw
      case rel =>
        have hSn := HSb.out
        have hSnx := HSx.out
        have hsw := HSW.out
        refine ⟨t + 1, by omega, by go_num, HJ'.out, fun j hj => ?_, HCh.out.get hx hSnx, HN'.out.ch HCh.out (fun h => by have := hsw _ h; omega) (fun h => by have := hsw _ h; omega) (fun h => by have := hsw _ h; omega) (fun h => by have := hsw _ h; omega),
          HF'.out.ch HCh.out (fun h => by have := hsw _ h; omega) (fun h => by have := hsw _ h; omega) (fun h => by have := hsw _ h; omega) (fun h => by have := hsw _ h; omega)⟩
        obtain ⟨g1, g2⟩ := HR.out j hj
        rw [ring_step m t j h16]
        exact ⟨HCh.out.get g1 hSn, (HCh.out.frozen (cell_lt g1) hSn).trans g2⟩
      case measure => simp [intOf]; omega
    · have h16' : 16 ≤ t := by omega
      obtain ⟨q14, _⟩ := HR.out ((t + 14) % 16) (by omega)
      obtain ⟨q9, _⟩ := HR.out ((t + 9) % 16) (by omega)
      obtain ⟨q1', _⟩ := HR.out ((t + 1) % 16) (by omega)
      have HQN : Hid (∀ (k : Nat) (x : BitVec 32), Calls Tryd.prog 69 #[wv x, .pointer (some ⟨t1, 0, none⟩), .pointer (some ⟨n1, 0, none⟩)] (wr.drewN k) fun e w'' => e = .returned (wv (near x)) ∧ ∃ m, w'' = wr.drewN m) :=
        fun k x => Calls.quiet_of (shifted1 (HN'.out.drewN k) x)
      have HQF : Hid (∀ (k : Nat) (x : BitVec 32), Calls Tryd.prog 69 #[wv x, .pointer (some ⟨t2, 0, none⟩), .pointer (some ⟨n2, 0, none⟩)] (wr.drewN k) fun e w'' => e = .returned (wv (far x)) ∧ ∃ m, w'' = wr.drewN m) :=
        fun k x => Calls.quiet_of (shifted1 (HF'.out.drewN k) x)
      go_upto_region 5 with (fail)
      refine wp_region_quiet_tail 32 (by kernel_rfl) (by kernel_rfl) ?_
      simp only [List.take_succ_cons, List.take_zero, List.drop_succ_cons, List.drop_zero]
      have s14 : IntKind.i64.wrap ((t : Int) + 14) = (t : Int) + 14 := IntWalk.i64_in _ (by omega)
      have m14 : ((t : Int) + 14).tmod 16 = ((t : Int) + 14) % 16 := Int.tmod_eq_emod_of_nonneg (by omega)
      have k14 : (((t : Int) + 14) % 16).toNat = (t + 14) % 16 := by omega
      have l14 : 0 ≤ ((t : Int) + 14) % 16 := by omega
      have g14 : ((t : Int) + 14) % 16 < 16 := by omega
      have s9 : IntKind.i64.wrap ((t : Int) + 9) = (t : Int) + 9 := IntWalk.i64_in _ (by omega)
      have m9 : ((t : Int) + 9).tmod 16 = ((t : Int) + 9) % 16 := Int.tmod_eq_emod_of_nonneg (by omega)
      have k9 : (((t : Int) + 9) % 16).toNat = (t + 9) % 16 := by omega
      have l9 : 0 ≤ ((t : Int) + 9) % 16 := by omega
      have g9 : ((t : Int) + 9) % 16 < 16 := by omega
      have s1 : IntKind.i64.wrap ((t : Int) + 1) = (t : Int) + 1 := IntWalk.i64_in _ (by omega)
      have m1 : ((t : Int) + 1).tmod 16 = ((t : Int) + 1) % 16 := Int.tmod_eq_emod_of_nonneg (by omega)
      have k1 : (((t : Int) + 1) % 16).toNat = (t + 1) % 16 := by omega
      have l1 : 0 ≤ ((t : Int) + 1) % 16 := by omega
      have g1 : ((t : Int) + 1) % 16 < 16 := by omega
      repeat (quiet_step ((go_at_call 69; (first | (with_reducible exact HQN.out _ _) | (with_reducible exact HQF.out _ _)))))
      refine wpQuiet_nil ?_
      intro _ hw'
      obtain ⟨nq, hw''⟩ := hw'
      subst hw''
      clear s14 m14 k14 l14 g14 s9 m9 k9 l9 g9 s1 m1 k1 l1 g1 q14 q9 q1'
      go_upto_region 6 with (fail)
      have hX : ringAt m t (t % 16) + (near (ringAt m t ((t + 14) % 16)) + ringAt m t ((t + 9) % 16) + far (ringAt m t ((t + 1) % 16))) = word m t := by
        unfold word; rw [ring_new m t _ h16', if_pos rfl]; rfl
      rw [hX]
      clear hX
      obtain ⟨W2, hW2⟩ : ∃ W2, (wr.drewN nq).setCell ⟨b, t % 16, none⟩ (.int .u32 (un (word m t))) = W2 := ⟨_, rfl⟩
      rw [hW2]
      have hC2 : Ch (fun k => k = b) wr W2 := by rw [← hW2]; exact Ch.setCell (S := fun k => k = b) ((Ch.refl _ wr).drewN nq) (p := ⟨b, t % 16, none⟩) (fun _ => rfl) _
      have hcell2 : W2.cell? ⟨b, t % 16, none⟩ = some (wv (word m t)) := by rw [← hW2]; exact World.cell?_setCell_same _ _ _ q1
      have hring2 : Ring W2 b (ringAt m (t + 1)) := by
        intro j hj
        obtain ⟨g1, g2⟩ := HR.out j hj
        rw [ring_new m t j h16']
        by_cases hjt : j = t % 16
        · subst hjt
          rw [if_pos rfl]
          refine ⟨?_, ?_⟩
          · have hX : made (ringAt m t) t = word m t := by unfold word; rw [ring_new m t _ h16', if_pos rfl]
            rw [hX]; exact hcell2
          · rw [← hW2, World.frozen?_setCell]; exact g2
        · rw [if_neg hjt]
          rw [← hW2]
          refine ⟨?_, by rw [World.frozen?_setCell]; exact g2⟩
          rw [World.cell?_setCell_other _ _ _ _ (fun h => hjt (by cases h; rfl))]
          exact g1
      have hJ2 : Hid (J t W2) := HJk.out t wr W2 HJ.out (by rw [← hW2]; exact Rch.ring wr nq _ (by omega) _)
      have hx2 : W2.cell? ⟨bx, 0, none⟩ = some (.pointer (some ⟨b, 0, none⟩)) := hC2.get hx (fun h => hne h)
      have HN2 := Go.Lib.hid (HN'.out.ch hC2 (by omega) (by omega) (by omega) (by omega))
      have HF2 := Go.Lib.hid (HF'.out.ch hC2 (by omega) (by omega) (by omega) (by omega))
      have HR2 := Go.Lib.hid hring2
      clear hring2 hC2 hW2
      by_cases h64 : t < 64
      · obtain ⟨fn, tmps, assign, body, hy, hR⟩ := HY.out t W2 h64 hJ2.out
        have HRR := Go.Lib.hid hR; clear hR
        refine (wpIn_wide (n := n)).1 ?_
        gi_wp2
        refine ⟨fun h => by simp [Fence.wide] at h, HRR.out.mono ?_⟩
        rintro e W' ⟨rfl, hJ', hCh⟩
        have HJ' := Go.Lib.hid hJ'; clear hJ'
        have HCh := Go.Lib.hid hCh; clear hCh
        gi_wp2
        go_wp2
        go_roundw
        case rel =>
          have hSn := HSb.out
          have hSnx := HSx.out
          have hsw := HSW.out
          refine ⟨t + 1, by omega, by go_num, HJ'.out, fun j hj => ?_, HCh.out.get hx2 hSnx, HN2.out.ch HCh.out (fun h => by have := hsw _ h; omega) (fun h => by have := hsw _ h; omega) (fun h => by have := hsw _ h; omega) (fun h => by have := hsw _ h; omega),
            HF2.out.ch HCh.out (fun h => by have := hsw _ h; omega) (fun h => by have := hsw _ h; omega) (fun h => by have := hsw _ h; omega) (fun h => by have := hsw _ h; omega)⟩
          obtain ⟨g1, g2⟩ := HR2.out j hj
          exact ⟨HCh.out.get g1 hSn, (HCh.out.frozen (cell_lt g1) hSn).trans g2⟩
        case measure => simp [intOf]; omega
      · obtain rfl : t = 64 := by omega
        obtain ⟨fn, tmps, assign, body, hy, hR⟩ := HY64.out W2 hJ2.out
        have HRR := Go.Lib.hid hR; clear hR
        refine (wpIn_wide (n := n)).1 ?_
        gi_wp2
        refine ⟨fun h => by simp [Fence.wide] at h, HRR.out.mono ?_⟩
        rintro e W' ⟨rfl, hJ', hCh⟩
        have HJ' := Go.Lib.hid hJ'; clear hJ'
        have HCh := Go.Lib.hid hCh; clear hCh
        gi_wp2
        go_wp2
        refine bodyPost_ret (results_none rfl _ _ _) rfl ?_
        refine ⟨⟨_, rfl⟩, HJ'.out, ringAt m (64 + 1), fun j hj => ?_⟩
        have hSn := HSb.out
        obtain ⟨g1, g2⟩ := HR2.out j hj
        exact ⟨HCh.out.get g1 hSn, (HCh.out.frozen (cell_lt g1) hSn).trans g2⟩
end Go.Proofs.YtikdpiedjkailaaDoor
