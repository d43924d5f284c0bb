/- What is split off a stream, one frame behind the other. -/
import Derived.Test.YtljllfdigfojdaaU5
import Derived.Test.YtljllfdigfojdaaG0
import Derived.Deep.LoopGhost
namespace Go.Proofs.Ytljllfdigfojdaa
open Go Go.RowKit

/-- Is the sum right of what is sealed from place k on, m bytes and a sum? -/
def sumOK (F : Nat → UInt8) (k m : Nat) : Bool := bL (sealF (fun j => F (k + j)) m) (m + 4) == bL (fun j => F (k + j)) (m + 4)
/-- The first frame: where its body begins, how long it is; or the error that is told. -/
def splitR (F : Nat → UInt8) (n : Nat) : (Nat × Nat) ⊕ Int := match outS F n with
  | .lack => .inr 0
  | .wrong => .inr 141
  | .got L k => if sumOK F k (L - 4) then .inl (k, L - 4) else .inr 130
theorem outS_got {F : Nat → UInt8} {n L k : Nat} (h : outS F n = .got L k) : 4 ≤ L ∧ L ≤ 8196 ∧ k + L ≤ n ∧ 1 ≤ k := by
  unfold outS at h
  cases hr : rdN F n with
  | lack => rw [hr] at h; cases h
  | wrong => rw [hr] at h; cases h
  | got v q =>
    rw [hr] at h
    simp only at h
    split at h
    · cases h
    · split at h
      · cases h
      · cases h
        refine ⟨by omega, by omega, by omega, ?_⟩
        unfold rdN at hr
        split at hr
        · cases hr
        · split at hr
          · cases hr; exact Nat.le_refl _
          · split at hr
            · cases hr
            · split at hr
              · cases hr
              · cases hr; omega
/-- Split, of whatever bytes. -/
theorem split_any (p : Option Addr) (n c x0 : Nat) (f : Nat → UInt8) (w : World) (hb : BytesAt w p n c f) (hx0 : x0 < w.heap.size) (hblk : ∀ ad, p = some ad → ad.block = x0) (hn : n ≤ 1000000000) :
    Calls Try.prog 30 #[.slice p n c] w fun e w' => Ch (fun _ => False) w w' ∧
      ((∃ no, splitR f n = .inr no ∧ e = .returned (.tuple #[.slice none 0 0, .int .i64 0, .int .i64 no])) ∨
       (∃ k m h cur, splitR f n = .inl (k, m) ∧ 1 ≤ k ∧ k + (m + 4) ≤ n ∧ e = .returned (.tuple #[.slice (some ⟨h, 0, none⟩) m m, .int .i64 ((k + (m + 4) : Nat) : Int), .int .i64 0]) ∧ w.heap.size ≤ h ∧ w'.heap[h]? = some (.cells cur 5) ∧ ∀ j, j < m → cur[j]? = some (.int .u8 ((f (k + j)).toNat : Int)))) := by
  cases ho : outS f n with
  | lack =>
    refine (split_no p n c x0 f w hb hx0 hblk 0 (.inl ⟨ho, rfl⟩)).mono ?_
    rintro e w' ⟨rfl, hc⟩
    exact ⟨hc, .inl ⟨0, by unfold splitR; rw [ho], rfl⟩⟩
  | wrong =>
    refine (split_no p n c x0 f w hb hx0 hblk 141 (.inr ⟨ho, rfl⟩)).mono ?_
    rintro e w' ⟨rfl, hc⟩
    exact ⟨hc, .inl ⟨141, by unfold splitR; rw [ho], rfl⟩⟩
  | got L k =>
    obtain ⟨h4, h8, hkn, hk1⟩ := outS_got ho
    obtain ⟨m, rfl⟩ : ∃ m, L = m + 4 := ⟨L - 4, by omega⟩
    refine (split_got p n c x0 f w hb hx0 hblk m k ho hn).mono ?_
    rintro e w' ⟨hc, hkm, ⟨hf, rfl⟩ | ⟨ht, h, cur, rfl, hh, hrow, hcur⟩⟩
    · refine ⟨hc, .inl ⟨130, ?_, rfl⟩⟩
      unfold splitR sumOK; rw [ho]; simp only [Nat.add_sub_cancel]; rw [hf]; rfl
    · refine ⟨hc, .inr ⟨k, m, h, cur, ?_, hk1, hkm, rfl, hh, hrow, hcur⟩⟩
      unfold splitR sumOK; rw [ho]; simp only [Nat.add_sub_cancel]; rw [ht]; rfl
def shiftF (F : Nat → UInt8) (o : Nat) : Nat → UInt8 := fun j => F (o + j)
theorem shiftF_zero (F : Nat → UInt8) : shiftF F 0 = F := funext fun j => by unfold shiftF; rw [Nat.zero_add]
theorem shiftF_add (F : Nat → UInt8) (a b : Nat) : shiftF (shiftF F a) b = shiftF F (a + b) := funext fun j => by unfold shiftF; rw [Nat.add_assoc]
/-- The frames of a stream of n bytes: T of them; where each begins, where its body begins behind that, how long the body is. -/
structure FrSeq (F : Nat → UInt8) (n T : Nat) (off kk mm : Nat → Nat) : Prop where
  zero : off 0 = 0
  step : ∀ t, t < T → splitR (shiftF F (off t)) (n - off t) = .inl (kk t, mm t) ∧ off (t + 1) = off t + (kk t + (mm t + 4)) ∧ off (t + 1) ≤ n ∧ 1 ≤ kk t
  done : ∃ no, splitR (shiftF F (off T)) (n - off T) = .inr no
theorem FrSeq.some (F : Nat → UInt8) : ∀ n o r, n - o ≤ r → o ≤ n → ∃ (T : Nat) (off kk mm : Nat → Nat), off 0 = o ∧ (∀ t, t < T → splitR (shiftF F (off t)) (n - off t) = .inl (kk t, mm t) ∧ off (t + 1) = off t + (kk t + (mm t + 4)) ∧ off (t + 1) ≤ n ∧ 1 ≤ kk t) ∧ ∃ no, splitR (shiftF F (off T)) (n - off T) = .inr no := by
  intro n o r
  induction r generalizing o with
  | zero =>
    intro h1 h2
    cases hs : splitR (shiftF F o) (n - o) with
    | inr no => exact ⟨0, fun _ => o, fun _ => 0, fun _ => 0, rfl, fun t ht => by omega, no, hs⟩
    | inl x =>
      exfalso
      unfold splitR at hs
      cases ho : outS (shiftF F o) (n - o) with
      | lack => rw [ho] at hs; cases hs
      | wrong => rw [ho] at hs; cases hs
      | got L k => have := outS_got ho; omega
  | succ r ih =>
    intro h1 h2
    cases hs : splitR (shiftF F o) (n - o) with
    | inr no => exact ⟨0, fun _ => o, fun _ => 0, fun _ => 0, rfl, fun t ht => by omega, no, hs⟩
    | inl x =>
      obtain ⟨k, m⟩ := x
      have hb : 1 ≤ k ∧ k + (m + 4) ≤ n - o := by
        unfold splitR at hs
        cases ho : outS (shiftF F o) (n - o) with
        | lack => rw [ho] at hs; cases hs
        | wrong => rw [ho] at hs; cases hs
        | got L q =>
          rw [ho] at hs
          simp only at hs
          have := outS_got ho
          split at hs
          · cases hs; omega
          · cases hs
      obtain ⟨T, off, kk, mm, e0, e1, e2⟩ := ih (o + (k + (m + 4))) (by omega) (by omega)
      refine ⟨T + 1, fun t => if t = 0 then o else off (t - 1), fun t => if t = 0 then k else kk (t - 1), fun t => if t = 0 then m else mm (t - 1), rfl, fun t ht => ?_, ?_⟩
      · cases t with
        | zero =>
          simp only [if_true]
          refine ⟨hs, ?_, ?_, hb.1⟩
          · show off 0 = _; rw [e0]
          · show off 0 ≤ n; rw [e0]; omega
        | succ t => exact e1 t (by omega)
      · exact e2
theorem FrSeq.exists (F : Nat → UInt8) (n : Nat) : ∃ (T : Nat) (off kk mm : Nat → Nat), FrSeq F n T off kk mm := by
  obtain ⟨T, off, kk, mm, a, b, c⟩ := FrSeq.some F n 0 n (by omega) (by omega)
  exact ⟨T, off, kk, mm, a, b, c⟩
theorem FrSeq.le {F : Nat → UInt8} {n T : Nat} {off kk mm : Nat → Nat} (h : FrSeq F n T off kk mm) : ∀ t, t ≤ T → off t ≤ n ∧ t ≤ off t
  | 0, _ => by rw [h.zero]; omega
  | t + 1, ht => by
    have h1 := h.le t (by omega)
    obtain ⟨_, h3, h4, _⟩ := h.step t (by omega)
    omega
end Go.Proofs.Ytljllfdigfojdaa
/- The iterator over what is split off a stream. -/
namespace Go.Proofs.Ytljllfdigfojdaa
open Go Go.RowKit

/-- What is handed over: how many bytes the t-th frame has, and its body; behind the last one nothing. -/
def VPf (F : Nat → UInt8) (T : Nat) (off kk mm : Nat → Nat) (base t : Nat) (vt : Array Value) (W : World) : Prop :=
  (t < T ∧ ∃ h cur, vt = #[.int .i64 ((kk t + (mm t + 4) : Nat) : Int), .slice (some ⟨h, 0, none⟩) (mm t) (mm t)] ∧ base ≤ h ∧ W.heap[h]? = some (.cells cur 5) ∧ ∀ j, j < mm t → cur[j]? = some (.int .u8 ((F (off t + (kk t + j))).toNat : Int))) ∨
  (t = T ∧ vt = #[.int .i64 0, .slice none 0 0])
/-- The block of the body that is handed over. -/
def OwnB (vt : Array Value) (k : Nat) : Prop := ∃ m c, vt[1]? = some (.slice (some ⟨k, 0, none⟩) m c)
theorem hands_f (F : Nat → UInt8) (T : Nat) (off kk mm : Nat → Nat) : Hands (VPf F T off kk mm) OwnB := by
  refine ⟨fun base t vt A B h hc => ?_, fun base t vt A k h ho => ?_⟩
  · rcases h with ⟨ht, h, cur, e, hb, hrow, hcur⟩ | h
    · exact .inl ⟨ht, h, cur, e, hb, hc.heap hrow (by omega), hcur⟩
    · exact .inr h
  · obtain ⟨m, c, e⟩ := ho
    rcases h with ⟨ht, h, cur, rfl, hb, _⟩ | ⟨_, rfl⟩
    · cases e; exact hb
    · cases e
theorem BytesAt.from {w : World} {p : Option Addr} {n c L : Nat} {f : Nat → UInt8} (h : BytesAt w p n c f) (hL : L ≤ n) (hc : c ≠ L) : BytesAt w (p.map fun x => x.add L) (n - L) (c - L) (shiftF f L) := by
  rcases h with ⟨x, y, rfl, h1, h2, h3⟩ | ⟨h1, h2⟩
  · refine .inl ⟨x, y + L, by simp [Addr.add], by omega, h2, fun j hj => ?_⟩
    rw [show y + L + j = y + (L + j) by omega]
    exact h3 (L + j) (by omega)
  · exact .inr ⟨by omega, fun e => by cases p with | none => have := h2 rfl; omega | some a => cases e⟩
attribute [local go_sem] Oper.semAt_some
set_option maxRecDepth 100000 in
set_option maxHeartbeats 4000000 in
theorem splits_gives (A x0 : Nat) (F : Nat → UInt8) (n T : Nat) (off kk mm : Nat → Nat) (hq : FrSeq F n T off kk mm) (hn : n ≤ 1000000000) :
    GivesP 94 #[.pointer (some ⟨A, 0, none⟩)] (VPf F T off kk mm) OwnB (T + 1) True (fun k => k = x0) (fun k => k = A)
      (fun W => ∃ p c, W.heap[A]? = some (.cells #[.slice p n c] 27) ∧ BytesAt W p n c F ∧ (∀ ad, p = some ad → ad.block = x0) ∧ x0 ≠ A) := by
  intro l W S J Jx hS hKC hfin hJ hJx hsz hRd hJ0 hY
  obtain ⟨p, c, hrow, hb, hblk, hxA⟩ := hRd
  have HQ := Go.Lib.hid hq; have HS := Go.Lib.hid hS; have HX := Go.Lib.hid (hKC x0 (.inl rfl)); have HA := Go.Lib.hid (hKC A (.inr rfl)); have HF := Go.Lib.hid (hfin trivial)
  have HJ := Go.Lib.hid hJ; have HSZ := Go.Lib.hid hsz; have HJ0 := Go.Lib.hid hJ0; have HY := Go.Lib.hid hY; have HR0 := Go.Lib.hid hrow; have HB0 := Go.Lib.hid hb; have HBL := Go.Lib.hid hblk; have HXA := Go.Lib.hid hxA
  clear hq hS hKC hfin hJ hJx hsz hJ0 hY hrow hb hblk hxA
  refine callsIn_of_wp Try.func94 rfl trivial (wpIn_wide.2 ?_) rfl
  simp only [Try.ntmps94, List.size_toArray, List.length_cons, List.length_nil, Nat.reduceAdd, Nat.reduceSub, Array.replicate_succ,
     Array.replicate_zero, List.push_toArray, List.append_toArray, List.nil_append, List.cons_append]
  go_wp2_with fail
  go_loopg [3] T (fun gk u wr => ∃ t : Nat, t ≤ T ∧ gk = T - t ∧ J t wr ∧ ∃ p c, wr.heap[A]? = some (.cells #[.slice p (n - off t) c] 27) ∧ BytesAt wr p (n - off t) c (shiftF F (off t)) ∧ (∀ ad, p = some ad → ad.block = x0))
  case atStart => exact ⟨0, by omega, rfl, HJ0.out, p, c, by rw [HQ.out.zero]; exact HR0.out, by rw [HQ.out.zero, shiftF_zero]; exact HB0.out, HBL.out⟩
  case round =>
    obtain ⟨t, ht, hg, hj, p2, c2, hrow, hb, hbl⟩ := hrel
    have HGK := Go.Lib.hid hg; have HJT := Go.Lib.hid hj; have HROW := Go.Lib.hid hrow; have HB := Go.Lib.hid hb; have HBL2 := Go.Lib.hid hbl
    have hz := HSZ.out t wr hj
    have HSP := Go.Lib.hid (split_any p2 (n - off t) c2 x0 (shiftF F (off t)) wr hb (by have := HX.out; omega) hbl (by omega))
    have HZ := Go.Lib.hid hz
    have hcl : wr.cell? ⟨A, 0, none⟩ = some (.slice p2 (n - off t) c2) := (cell_of_heap hrow 0).trans rfl
    clear hg hj hrow hb hbl hz HR0 HB0 HJ0 HBL
    refine (wpIn_wide (n := 0)).1 ?_
    gi_wp2
    refine ⟨trivial, rfl, callsIn_wide.2 (HSP.out.mono ?_)⟩
    rintro e w2 ⟨hc, ⟨no, hs, rfl⟩ | ⟨k, m, h, cur, hs, hk1, hkn, rfl, hh, hrw, hcur⟩⟩
    · obtain rfl : t = T := by
        rcases Nat.lt_or_ge t T with h1 | h1
        · rw [(HQ.out.step t h1).1] at hs; cases hs
        · omega
      have hj2 := HJ.out t wr w2 HJT.out (hc.mono (fun _ _ e => e.elim))
      obtain ⟨fn, tmps, assign, body, hy, hR⟩ := HY.out t _ w2 (by omega) (.inr ⟨rfl, rfl⟩) hj2
      have HRR := Go.Lib.hid hR
      clear hR hs hj2 hc
      gi_wp2
      refine ⟨rfl, HRR.out.mono ?_⟩
      rintro e W' (⟨rfl, hJ', _⟩ | ⟨rfl, hJx, _⟩)
      · exact absurd hJ' (HF.out W')
      · have HJ' := Go.Lib.hid hJx; clear hJx
        gi_wp2
        go_wp2
        refine bodyPost_ret (results_none rfl _ _ _) rfl ?_
        exact ⟨⟨_, rfl⟩, .inr HJ'.out⟩
    · have htT : t < T := by
        rcases Nat.lt_or_ge t T with h1 | h1
        · exact h1
        · obtain rfl : t = T := by omega
          obtain ⟨no, h2⟩ := HQ.out.done
          rw [h2] at hs; cases hs
      obtain ⟨hst, hoff, hle, _⟩ := HQ.out.step t htT
      rw [hst] at hs
      obtain ⟨rfl, rfl⟩ : kk t = k ∧ mm t = m := by cases hs; exact ⟨rfl, rfl⟩
      have hj2 := HJ.out t wr w2 HJT.out (hc.mono (fun _ _ e => e.elim))
      obtain ⟨fn, tmps, assign, body, hy, hR⟩ := HY.out t _ w2 (by omega) (.inl ⟨htT, h, cur, rfl, Nat.le_trans HZ.out hh, hrw, hcur⟩) hj2
      have hh2 : W.heap.size ≤ h := Nat.le_trans HZ.out hh
      have HOW := Go.Lib.hid (show ∀ q, OwnB #[.int .i64 ((kk t + (mm t + 4) : Nat) : Int), .slice (some ⟨h, 0, none⟩) (mm t) (mm t)] q → W.heap.size ≤ q from fun q ⟨m', c', e⟩ => by cases e; exact hh2)
      have HRR := Go.Lib.hid hR; have HRW := Go.Lib.hid (hc.heap HROW.out id); have HB2 := Go.Lib.hid (HB.out.ch hc (fun _ _ => id)); have HOFF := Go.Lib.hid hoff; have HLE := Go.Lib.hid hle; have HKN := Go.Lib.hid hkn
      clear hR hs hj2 hc hrw hcur hst hoff hle hkn hk1 hh hh2 HSP HROW HB
      generalize hL : kk t + (mm t + 4) = L at *
      have HL := Go.Lib.hid hL
      clear hL
      gi_wp2
      refine ⟨rfl, HRR.out.mono ?_⟩
      rintro e W' (⟨rfl, hJ', hch⟩ | ⟨rfl, hJx, _⟩)
      · have ha := HA.out; have hx := HX.out
        have hna : ¬ (S A ∨ OwnB #[.int .i64 (L : Int), .slice (some ⟨h, 0, none⟩) (mm t) (mm t)] A) := fun e => e.elim (fun e => (HS.out A e).2.2 rfl) (fun e => by have := HOW.out A e; omega)
        have hnx : ¬ (S x0 ∨ OwnB #[.int .i64 (L : Int), .slice (some ⟨h, 0, none⟩) (mm t) (mm t)] x0) := fun e => e.elim (fun e => (HS.out x0 e).2.1 rfl) (fun e => by have := HOW.out x0 e; omega)
        have HJ' := Go.Lib.hid hJ'
        have HRW' := Go.Lib.hid (hch.heap HRW.out hna)
        have HZ' := Go.Lib.hid (HSZ.out _ _ hJ')
        have HB' := Go.Lib.hid (HB2.out.but hch HBL2.out hnx)
        have hcl' : W'.cell? ⟨A, 0, none⟩ = some (.slice p2 (n - off t) c2) := (cell_of_heap HRW'.out 0).trans rfl
        have hfz' : W'.frozen? ⟨A, 0, none⟩ = false := frozen_of_heap HRW'.out 0
        have hin : (L : Int) ≤ ((n - off t : Nat) : Int) := by have := HKN.out; omega
        have hin0 : (0 : Int) ≤ (L : Int) := by omega
        clear hJ' hch hna hnx ha hx HRW HB2
        have HNL := Go.Lib.hid (show n - off (t + 1) = n - off t - L ∧ off t + L = off (t + 1) from by have := HOFF.out; omega)
        have hsc : ∀ v, Ch (fun k => k = A) W' (W'.setCell ⟨A, 0, none⟩ v) := fun v => Ch.setCell (S := fun k => k = A) (Ch.refl _ W') (p := ⟨A, 0, none⟩) (fun _ => rfl) v
        have HSC := Go.Lib.hid hsc
        clear hsc
        gi_wp2
        all_goals
          go_wp2
          go_roundg (T - (t + 1))
          case measure => have := HGK.out; omega
          case rel =>
            refine ⟨t + 1, by omega, rfl, HJ.out _ _ _ HJ'.out ((HSC.out _).mono (fun _ _ e => .inr e)), _, _, (row_setM HRW'.out 0 _).trans (by rw [HNL.out.1]; rfl), ?_, ?_⟩
            · rw [HNL.out.1, ← HNL.out.2, ← shiftF_add]
              first
                | exact (HB'.out.but (HSC.out _) HBL2.out (show ¬ x0 = A from HXA.out)).from (by have := HKN.out; omega) (by omega)
                | exact .inr ⟨by rcases HB'.out with ⟨_, _, _, h1, _⟩ | ⟨h1, _⟩ <;> omega, fun _ => rfl⟩
            · first
                | exact HBL2.out
                | (intro ad e; cases p2 with | none => cases e | some a0 => cases e; exact (show (a0.add L).block = a0.block by unfold Addr.add; split <;> rfl).trans (HBL2.out a0 rfl))
      · have HJ' := Go.Lib.hid hJx; clear hJx
        gi_wp2
        go_wp2
        refine bodyPost_ret (results_none rfl _ _ _) rfl ?_
        exact ⟨⟨_, rfl⟩, .inr HJ'.out⟩
end Go.Proofs.Ytljllfdigfojdaa
