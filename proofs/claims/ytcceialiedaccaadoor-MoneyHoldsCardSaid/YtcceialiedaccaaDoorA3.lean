/- Less, Mid, same, and the reference's Less and Mid. -/
import Derived.Test.YtcceialiedaccaaDoorA2
namespace Go.Proofs.YtcceialiedaccaaDoor
open Go Go.RowKit

def lessE (a : Int) (z : Nat → Int) (n : Nat) : Int := if rightB a then (if bad z n then 2 else if a < sumZ z n then 151 else 0) else 2
def lessV (a : Int) (z : Nat → Int) (n : Nat) : Int := if rightB a then (if bad z n then 0 else if a < sumZ z n then 0 else a - sumZ z n) else 0
theorem lessE_left {a : Int} {z : Nat → Int} {n : Nat} (h : rightB a = false) : lessE a z n = 2 ∧ lessV a z n = 0 := by simp [lessE, lessV, h]
theorem lessE_bad {a : Int} {z : Nat → Int} {n : Nat} (h : bad z n = true) : lessE a z n = 2 ∧ lessV a z n = 0 := by simp [lessE, lessV, h]
theorem lessE_under {a : Int} {z : Nat → Int} {n : Nat} (h0 : rightB a = true) (h : bad z n = false) (h2 : a < sumZ z n) : lessE a z n = 151 ∧ lessV a z n = 0 := by
  unfold lessE lessV; rw [h0, h]; simp [h2]
theorem lessE_ok {a : Int} {z : Nat → Int} {n : Nat} (h0 : rightB a = true) (h : bad z n = false) (h2 : sumZ z n ≤ a) : lessE a z n = 0 ∧ lessV a z n = a - sumZ z n := by
  have h3 : ¬ a < sumZ z n := by omega
  unfold lessE lessV; rw [h0, h]; simp [h3]
theorem ints_one {w : World} {b : Nat} {x : Int} (h : w.cell? ⟨b, 0, none⟩ = some (.int .i64 x)) : IntsAt w (some ⟨b, 0, none⟩) 1 (fun _ => x) :=
  .inl ⟨b, 0, rfl, cell_lt h, fun j hj => by obtain rfl : j = 0 := by omega
                                             exact h⟩
theorem ints_new1 (w : World) (x : Int) : IntsAt (w.alloc (.cells #[.int .i64 x] 2)) (some ⟨w.heap.size, 0, none⟩) 1 (fun _ => x) := ints_one (cell_fresh w _ 2 0)
def two (x y : Int) : Nat → Int := fun j => if j = 0 then x else y
theorem ints_new2 (w : World) (x y : Int) : IntsAt (w.alloc (.cells #[.int .i64 x, .int .i64 y] 2)) (some ⟨w.heap.size, 0, none⟩) 2 (two x y) :=
  .inl ⟨w.heap.size, 0, rfl, by simp, fun j hj => by
    match j, hj with
    | 0, _ => exact cell_fresh w _ 2 0
    | 1, _ => exact cell_fresh w _ 2 1⟩
def three (x y u : Int) : Nat → Int := fun j => if j = 0 then x else if j = 1 then y else u
theorem ints_new3 (w : World) (x y u : Int) : IntsAt (w.alloc (.cells #[.int .i64 x, .int .i64 y, .int .i64 u] 2)) (some ⟨w.heap.size, 0, none⟩) 3 (three x y u) :=
  .inl ⟨w.heap.size, 0, rfl, by simp, fun j hj => by
    match j, hj with
    | 0, _ => exact cell_fresh w _ 2 0
    | 1, _ => exact cell_fresh w _ 2 1
    | 2, _ => exact cell_fresh w _ 2 2⟩
theorem bad_one (x : Int) : bad (fun _ => x) 1 = !rightB x := by
  simp only [bad, outs, rightB, Bool.false_or, Bool.not_and]
  rw [show (!decide (0 ≤ x)) = decide (x < 0) by by_cases h : x < 0 <;> simp [h]; omega, show (!decide (x ≤ 1125899906842624)) = decide (1125899906842624 < x) by by_cases h : 1125899906842624 < x <;> simp [h]; omega]
theorem bad_two (x y : Int) : bad (two x y) 2 = !(rightB x && rightB y) := by
  have h1 := bad_one x; have h2 := bad_one y
  simp only [bad, outs, Bool.false_or] at h1 h2
  simp only [bad, outs, Bool.false_or, two]
  simp [h1, h2]

set_option maxRecDepth 100000 in
set_option maxHeartbeats 1000000 in
theorem less_any (a : Int) (p : Option Addr) (n c : Nat) (z : Nat → Int) (w : World) (h : IntsAt w p n z) (hn : n ≤ 1000000) :
    Calls Tryd.prog 13 #[.int .i64 a, .slice p n c] w fun e w' => e = .returned (.tuple #[.int .i64 (lessV a z n), .int .i64 (lessE a z n)]) ∧ Ch (fun _ => False) w w' := by
  have hal : Ch (fun _ => False) w (w.alloc (.cells #[.int .i64 a] 2)) := (Ch.refl _ w).alloc _
  have HA := Go.Lib.hid (check_any (some ⟨w.heap.size, 0, none⟩) 1 1 (fun _ => a) _ (ints_new1 w a) (by omega))
  have HC := Go.Lib.hid (check_any p n c z _ (h.ch hal) hn)
  have H := Go.Lib.hid (h.ch hal)
  have HAL := Go.Lib.hid hal
  clear h hal
  rw [bad_one] at HA
  cases hr : rightB a <;> rw [hr] at HA
  case false =>
    have HR := Go.Lib.hid hr
    clear hr
    go_enter Tryd.func13, Tryd.ntmps13
    go_wp2_with fail
    refine wp_scope_fwd 0 rfl ?_
    go_wp2_with (go_at_call 18; refine HA.out.mono ?_; rintro e w' ⟨rfl, rfl⟩)
    go_step3
    refine ⟨rfl, ?_⟩
    go_wp2_with fail
    rw [Exit.noGoto_ret]
    refine bodyPost_ret (v := .tuple #[.int .i64 0, .int .i64 2]) (by simp [results, Tryd.results13, go_sem]) rfl ⟨by rw [(lessE_left HR.out).1, (lessE_left HR.out).2], HAL.out⟩
  case true =>
  cases hb : bad z n <;> rw [hb] at HC
  case true =>
    have HB := Go.Lib.hid hb
    clear hb
    go_enter Tryd.func13, Tryd.ntmps13
    go_wp2_with fail
    refine wp_scope_fwd 0 rfl ?_
    go_wp2_with fail
    refine HA.out.mono ?_
    rintro e w' ⟨rfl, rfl⟩
    go_wp2_with (go_at_call 18; refine HC.out.mono ?_; rintro e w' ⟨rfl, rfl⟩)
    go_step3
    refine ⟨rfl, ?_⟩
    go_wp2_with fail
    rw [Exit.noGoto_ret]
    refine bodyPost_ret (v := .tuple #[.int .i64 0, .int .i64 2]) (by simp [results, Tryd.results13, go_sem]) rfl ⟨by rw [(lessE_bad HB.out).1, (lessE_bad HB.out).2], HAL.out⟩
  case false =>
    have HB := Go.Lib.hid hb
    obtain ⟨hr0, hr1⟩ := right_true hr
    have HR := Go.Lib.hid hr
    clear hb hr
    go_enter Tryd.func13, Tryd.ntmps13
    go_wp2_with fail
    refine wp_scope_fwd 0 rfl ?_
    go_wp2_with fail
    refine HA.out.mono ?_
    rintro e w' ⟨rfl, rfl⟩
    go_wp2_with (go_at_call 18; refine HC.out.mono ?_; rintro e w' ⟨rfl, rfl⟩)
    generalize hW : World.alloc w _ = W at *
    clear hW
    go_loopw [0, 6, 8, 20] (fun s e _ i wr => ∃ k : Nat, k ≤ n ∧ i = .int .i64 k ∧ s = .int .i64 (a - sumZ z k) ∧ e = .int .i64 0 ∧ sumZ z k ≤ a ∧ wr = W) (fun _ _ _ i _ => n - (intOf i).toNat)
    case atStart => exact ⟨0, by omega, rfl, by simp [sumZ], rfl, by simpa [sumZ] using hr0, rfl⟩
    case round =>
      obtain ⟨k, hk, rfl, rfl, rfl, ho, rfl⟩ := hrel
      by_cases hkn : k < n
      · obtain ⟨x, y, rfl, hc⟩ := H.out.at hkn
        have hz := (good_iff z n).1 HB.out k hkn
        have h0 := (sum_mono HB.out hk).1
        have hw : wrap64 (a - sumZ z k - z k) = a - sumZ z k - z k := by unfold wrap64; omega
        have HS := Go.Lib.hid (show sumZ z (k + 1) = sumZ z k + z k from rfl)
        have HM := Go.Lib.hid (sum_mono HB.out (show k + 1 ≤ n by omega)).2
        generalize sumZ z k = s at *
        generalize z k = zk at *
        go_wp2_with fail
        case roundEnd => exact ⟨⟨k + 1, by omega, by go_num, by rw [HS.out]; congr 1; omega, rfl, by rw [HS.out]; omega, trivial⟩, by simp [intOf]; omega⟩
        all_goals
          go_step3
          refine ⟨rfl, ?_⟩
          go_wp2_with fail
          rw [Exit.noGoto_ret]
          have hov : a < sumZ z n := by have := HS.out; have := HM.out; omega
          refine bodyPost_ret (v := .tuple #[.int .i64 0, .int .i64 151]) (by simp [results, Tryd.results13, go_sem]) rfl ⟨by rw [(lessE_under HR.out HB.out hov).1, (lessE_under HR.out HB.out hov).2], HAL.out⟩
      · obtain rfl : k = n := by omega
        go_wp2_with fail
        rw [Exit.jump_ret]
        refine bodyPost_ret (v := .tuple #[.int .i64 (a - sumZ z k), .int .i64 0]) (by simp [results, Tryd.results13, go_sem]) rfl ⟨by rw [(lessE_ok HR.out HB.out ho).1, (lessE_ok HR.out HB.out ho).2], HAL.out⟩

set_option maxRecDepth 100000 in
set_option maxHeartbeats 1000000 in
theorem rless_any (a : Int) (p : Option Addr) (n c : Nat) (z : Nat → Int) (w : World) (h : IntsAt w p n z) (hn : n ≤ 1000000) :
    Calls Tryd.prog 15 #[.int .i64 a, .slice p n c] w fun e w' => e = .returned (.tuple #[.int .i64 (lessV a z n), .int .i64 (lessE a z n)]) ∧ w = w' := by
  have HA := Go.Lib.hid (right_any a w)
  have HC := Go.Lib.hid (all_any p n c z w h hn)
  have H := Go.Lib.hid h
  clear h
  cases hr : rightB a <;> rw [hr] at HA
  case false =>
    have HR := Go.Lib.hid hr
    clear hr
    go_enter Tryd.func15, Tryd.ntmps15
    go_wp2_with (go_at_call 16; refine HA.out.mono ?_; rintro e w' ⟨rfl, rfl⟩)
    refine bodyPost_ret (v := .tuple #[.int .i64 0, .int .i64 2]) (by simp [results, Tryd.results15, go_sem]) rfl ⟨by rw [(lessE_left HR.out).1, (lessE_left HR.out).2], rfl⟩
  case true =>
  cases hb : bad z n <;> rw [hb] at HC
  case true =>
    have HB := Go.Lib.hid hb
    clear hb
    go_enter Tryd.func15, Tryd.ntmps15
    go_wp2_with (first | (go_at_call 16; refine HA.out.mono ?_; rintro e w' ⟨rfl, rfl⟩) | (go_at_call 36; refine HC.out.mono ?_; rintro e w' ⟨rfl, rfl⟩))
    refine bodyPost_ret (v := .tuple #[.int .i64 0, .int .i64 2]) (by simp [results, Tryd.results15, go_sem]) rfl ⟨by rw [(lessE_bad HB.out).1, (lessE_bad HB.out).2], rfl⟩
  case false =>
    have HB := Go.Lib.hid hb
    obtain ⟨hr0, hr1⟩ := right_true hr
    have HR := Go.Lib.hid hr
    clear hb hr
    go_enter Tryd.func15, Tryd.ntmps15
    go_wp2_with (first | (go_at_call 16; refine HA.out.mono ?_; rintro e w' ⟨rfl, rfl⟩) | (go_at_call 36; refine HC.out.mono ?_; rintro e w' ⟨rfl, rfl⟩))
    go_loopw [0, 6] (fun s i wr => ∃ k : Nat, k ≤ n ∧ i = .int .i64 k ∧ s = .int .i64 (a - sumZ z k) ∧ sumZ z k ≤ a ∧ wr = w) (fun _ i _ => n - (intOf i).toNat)
    case atStart => exact ⟨0, by omega, rfl, by simp [sumZ], by simpa [sumZ] using hr0, rfl⟩
    case round =>
      obtain ⟨k, hk, rfl, rfl, ho, rfl⟩ := hrel
      by_cases hkn : k < n
      · obtain ⟨x, y, rfl, hc⟩ := H.out.at hkn
        have hz := (good_iff z n).1 HB.out k hkn
        have h0 := (sum_mono HB.out hk).1
        have hw : wrap64 (a - sumZ z k - z k) = a - sumZ z k - z k := by unfold wrap64; omega
        have HS := Go.Lib.hid (show sumZ z (k + 1) = sumZ z k + z k from rfl)
        have HM := Go.Lib.hid (sum_mono HB.out (show k + 1 ≤ n by omega)).2
        generalize sumZ z k = s at *
        generalize z k = zk at *
        go_wp2_with fail
        case roundEnd => exact ⟨⟨k + 1, by omega, by go_num, by rw [HS.out]; congr 1; omega, by rw [HS.out]; omega, trivial⟩, by simp [intOf]; omega⟩
        all_goals
          have hov : a < sumZ z n := by have := HS.out; have := HM.out; omega
          refine bodyPost_ret (v := .tuple #[.int .i64 0, .int .i64 151]) (by simp [results, Tryd.results15, go_sem]) rfl ⟨by rw [(lessE_under HR.out HB.out hov).1, (lessE_under HR.out HB.out hov).2], rfl⟩
      · obtain rfl : k = n := by omega
        go_wp2_with fail
        refine bodyPost_ret (v := .tuple #[.int .i64 (a - sumZ z k), .int .i64 0]) (by simp [results, Tryd.results15, go_sem]) rfl ⟨by rw [(lessE_ok HR.out HB.out ho).1, (lessE_ok HR.out HB.out ho).2], rfl⟩

def midE (a b : Int) : Int := if rightB a && rightB b then 0 else 2
def midV (a b : Int) : Int := if rightB a && rightB b then (a + b) / 2 else 0
set_option maxRecDepth 100000 in
set_option maxHeartbeats 1000000 in
theorem mid_any (a b : Int) (w : World) : Calls Tryd.prog 20 #[.int .i64 a, .int .i64 b] w fun e w' => e = .returned (.tuple #[.int .i64 (midV a b), .int .i64 (midE a b)]) ∧ Ch (fun _ => False) w w' := by
  have HAL := Go.Lib.hid (show Ch (fun _ => False) w (w.alloc (.cells #[.int .i64 a, .int .i64 b] 2)) from (Ch.refl _ w).alloc _)
  have HC := Go.Lib.hid (check_any (some ⟨w.heap.size, 0, none⟩) 2 2 (two a b) _ (ints_new2 w a b) (by omega))
  rw [bad_two] at HC
  unfold midV midE
  cases hr : rightB a && rightB b <;> rw [hr] at HC
  case false =>
    clear hr
    go_enter Tryd.func20, Tryd.ntmps20
    go_wp2_with (go_at_call 18; refine HC.out.mono ?_; rintro e w' ⟨rfl, rfl⟩)
    refine bodyPost_ret (v := .tuple #[.int .i64 0, .int .i64 2]) (by simp [results, Tryd.results20, go_sem]) rfl ⟨rfl, HAL.out⟩
  case true =>
    simp only [Bool.and_eq_true] at hr
    obtain ⟨h0, h1⟩ := right_true hr.1
    obtain ⟨h2, h3⟩ := right_true hr.2
    have hw : wrap64 (a + b) = a + b := by unfold wrap64; omega
    have hd : (a + b).tdiv 2 = (a + b) / 2 := Int.tdiv_eq_ediv_of_nonneg (by omega)
    have hw2 : wrap64 ((a + b) / 2) = (a + b) / 2 := by unfold wrap64; omega
    clear hr
    go_enter Tryd.func20, Tryd.ntmps20
    go_wp2_with (go_at_call 18; refine HC.out.mono ?_; rintro e w' ⟨rfl, rfl⟩)
    refine bodyPost_ret (v := .tuple #[.int .i64 ((a + b) / 2), .int .i64 0]) (by simp [results, Tryd.results20, go_sem]) rfl ⟨rfl, HAL.out⟩
set_option maxRecDepth 100000 in
set_option maxHeartbeats 1000000 in
theorem rmid_any (a b : Int) (w : World) : Calls Tryd.prog 21 #[.int .i64 a, .int .i64 b] w fun e w' => e = .returned (.tuple #[.int .i64 (midV a b), .int .i64 (midE a b)]) ∧ w = w' := by
  have HA := Go.Lib.hid (right_any a w)
  have HB := Go.Lib.hid (right_any b w)
  unfold midV midE
  cases hr : rightB a <;> rw [hr] at HA
  case false =>
    clear hr
    go_enter Tryd.func21, Tryd.ntmps21
    go_wp2_with (go_at_call 16; refine HA.out.mono ?_; rintro e w' ⟨rfl, rfl⟩)
    refine bodyPost_ret (v := .tuple #[.int .i64 0, .int .i64 2]) (by simp [results, Tryd.results21, go_sem]) rfl ⟨rfl, rfl⟩
  case true =>
  cases hs : rightB b <;> rw [hs] at HB
  case false =>
    clear hr hs
    go_enter Tryd.func21, Tryd.ntmps21
    go_wp2_with fail
    refine HA.out.mono ?_
    rintro e w' ⟨rfl, rfl⟩
    go_wp2_with (go_at_call 16; refine HB.out.mono ?_; rintro e w' ⟨rfl, rfl⟩)
    refine bodyPost_ret (v := .tuple #[.int .i64 0, .int .i64 2]) (by simp [results, Tryd.results21, go_sem]) rfl ⟨rfl, rfl⟩
  case true =>
    obtain ⟨h0, h1⟩ := right_true hr
    obtain ⟨h2, h3⟩ := right_true hs
    have hw : wrap64 (a + b) = a + b := by unfold wrap64; omega
    have hd : (a + b).tdiv 2 = (a + b) / 2 := Int.tdiv_eq_ediv_of_nonneg (by omega)
    have hw2 : wrap64 ((a + b) / 2) = (a + b) / 2 := by unfold wrap64; omega
    clear hr hs
    go_enter Tryd.func21, Tryd.ntmps21
    go_wp2_with fail
    refine HA.out.mono ?_
    rintro e w' ⟨rfl, rfl⟩
    go_wp2_with (go_at_call 16; refine HB.out.mono ?_; rintro e w' ⟨rfl, rfl⟩)
    refine bodyPost_ret (v := .tuple #[.int .i64 ((a + b) / 2), .int .i64 0]) (by simp [results, Tryd.results21, go_sem]) rfl ⟨rfl, rfl⟩

def eqUp (z y : Nat → Int) : Nat → Bool
  | 0 => true
  | n + 1 => eqUp z y n && (z n == y n)
theorem eqUp_iff (z y : Nat → Int) (n : Nat) : eqUp z y n = true ↔ ∀ j, j < n → z j = y j := by
  induction n with
  | zero => simp [eqUp]
  | succ n ih =>
    rw [eqUp, Bool.and_eq_true, ih, beq_iff_eq]
    constructor
    · intro ⟨h1, h2⟩ j hj
      by_cases e : j = n
      · rw [e]; exact h2
      · exact h1 j (by omega)
    · intro h; exact ⟨fun j hj => h j (by omega), h n (by omega)⟩
def sameB (z : Nat → Int) (n : Nat) (y : Nat → Int) (m : Nat) : Bool := decide (n = m) && eqUp z y n
set_option maxRecDepth 100000 in
set_option maxHeartbeats 1000000 in
theorem same_any (p q : Option Addr) (n c m d : Nat) (z y : Nat → Int) (w : World) (h : IntsAt w p n z) (h' : IntsAt w q m y) (hn : n ≤ 1000000) (hm : m ≤ 1000000) :
    Calls Tryd.prog 19 #[.slice p n c, .slice q m d] w fun e w' => e = .returned (.bool (sameB z n y m)) ∧ Ch (fun _ => False) w w' := by
  have H := Go.Lib.hid h
  have H' := Go.Lib.hid h'
  clear h h'
  unfold sameB
  by_cases hnm : n = m
  · subst hnm
    rw [decide_eq_true rfl, Bool.true_and]
    go_enter Tryd.func19, Tryd.ntmps19
    go_wp2_with fail
    go_loopw [5] (fun i wr => ∃ k : Nat, k ≤ n ∧ i = .int .i64 k ∧ eqUp z y k = true ∧ Ch (fun _ => False) w wr) (fun i _ => n - (intOf i).toNat)
    case atStart => exact ⟨0, by omega, rfl, rfl, Ch.refl _ _⟩
    case round =>
      obtain ⟨k, hk, rfl, ho, hC⟩ := hrel
      have HO := Go.Lib.hid ho; have HC := Go.Lib.hid hC
      clear ho hC
      by_cases hkn : k < n
      · obtain ⟨x1, y1, rfl, hc⟩ := (H.out.ch HC.out).at hkn
        obtain ⟨x2, y2, rfl, hc2⟩ := (H'.out.ch HC.out).at hkn
        have HU := Go.Lib.hid (show eqUp z y (k + 1) = (eqUp z y k && (z k == y k)) from rfl)
        have HI := Go.Lib.hid (eqUp_iff z y n)
        by_cases he : z k = y k
        · rw [← he] at hc2
          have HU2 := Go.Lib.hid (show eqUp z y (k + 1) = true by rw [HU.out, HO.out, he]; simp)
          clear HI HU HO he
          generalize z k = zk at *
          go_upto_region 6 with (fail)
          go_quiet (fail)
          have HC2 := Go.Lib.hid (HC.out.drewN nq)
          go_wp2_with fail
          go_roundw
          case rel => exact ⟨k + 1, by omega, by go_num, HU2.out, HC2.out⟩
          case measure => simp [intOf]; omega
        · have HF := Go.Lib.hid (show eqUp z y n = false by
            cases e : eqUp z y n with
            | false => rfl
            | true => exact absurd ((eqUp_iff z y n).1 e k hkn) he)
          have hne : (z k != y k) = true := by simpa using he
          clear HI HU HO he
          generalize z k = zk at *
          generalize y k = yk at *
          go_upto_region 6 with (fail)
          go_quiet (fail)
          have HC2 := Go.Lib.hid (HC.out.drewN nq)
          go_wp2_with fail
          go_ret
          exact ⟨by rw [HF.out]; rfl, HC2.out⟩
      · obtain rfl : k = n := by omega
        go_wp2_with fail
        go_ret
        exact ⟨by rw [HO.out]; rfl, HC.out⟩
  · rw [decide_eq_false hnm, Bool.false_and]
    have hne : ((n : Int) != (m : Int)) = true := by rw [bne_iff_ne]; omega
    go_enter Tryd.func19, Tryd.ntmps19
    go_wp2_with fail
    go_ret
    exact ⟨rfl, Ch.refl _ _⟩
end Go.Proofs.YtcceialiedaccaaDoor
