/- Sums of amounts: Add and the reference's. -/
import Derived.Test.YtcceialiedaccaaDoorA1
import Derived.ScopeJumps
import Derived.WalkMore
namespace Go.Proofs.YtcceialiedaccaaDoor
open Go Go.RowKit

/-- A scope that is left forwards, by one label at most: at the jump the walk goes on behind the label. -/
theorem wp_scope_fwd {P : Program} {a : Act} {w : World} {Q : Exit → Act → World → Prop} {c rest : Code} (l : Nat) (hf : findLabel c l = some rest)
    (first : c.wp P (Exit.jump l (fun a w => rest.wp P (Exit.noGoto Q) a w) Q) a w) : (Code.scope c).wp P Q a w :=
  wp_scope_jumps l (fun a w => rest.wp P (Exit.noGoto Q) a w) (fun _ _ => 0) hf first (fun _ _ h => wp_mono h (fun e _ _ q => by cases e <;> first | exact q | exact q.elim))
@[go_sem] theorem Exit.jump_ret {l : Nat} {J : Act → World → Prop} {a : Act} {w : World} {Q : Exit → Act → World → Prop} : Exit.jump l J Q .ret a w = Q .ret a w := rfl
@[go_sem] theorem Exit.jump_goto {l m : Nat} {J : Act → World → Prop} {a : Act} {w : World} {Q : Exit → Act → World → Prop} : Exit.jump l J Q (.goto m) a w = (m = l ∧ J a w) := rfl
def sumZ (z : Nat → Int) : Nat → Int
  | 0 => 0
  | n + 1 => sumZ z n + z n
def addE (z : Nat → Int) (n : Nat) : Int := if bad z n then 2 else if 1125899906842624 < sumZ z n then 150 else 0
def addV (z : Nat → Int) (n : Nat) : Int := if bad z n then 0 else if 1125899906842624 < sumZ z n then 0 else sumZ z n
theorem good_iff (z : Nat → Int) (n : Nat) : bad z n = false ↔ ∀ j, j < n → 0 ≤ z j ∧ z j ≤ 1125899906842624 := outs_iff 0 1125899906842624 z n
theorem sum_mono {z : Nat → Int} {n : Nat} (h : bad z n = false) {k : Nat} (hk : k ≤ n) : 0 ≤ sumZ z k ∧ sumZ z k ≤ sumZ z n := by
  have h' := (good_iff z n).1 h
  have h0 : ∀ m, m ≤ n → 0 ≤ sumZ z m := fun m => by
    induction m with
    | zero => intro _; simp [sumZ]
    | succ m ih => intro hm; have := ih (by omega); have := h' m (by omega); simp only [sumZ]; omega
  refine ⟨h0 k hk, ?_⟩
  have : ∀ m, k + m ≤ n → sumZ z k ≤ sumZ z (k + m) := fun m => by
    induction m with
    | zero => intro _; exact Int.le_refl _
    | succ m ih => intro hm; have := ih (by omega); have := h' (k + m) (by omega); show sumZ z k ≤ sumZ z (k + m) + z (k + m); omega
  have := this (n - k) (by omega)
  rwa [show k + (n - k) = n by omega] at this

theorem addE_bad {z : Nat → Int} {n : Nat} (h : bad z n = true) : addE z n = 2 ∧ addV z n = 0 := by simp [addE, addV, h]
theorem addE_over {z : Nat → Int} {n : Nat} (h : bad z n = false) (h2 : 1125899906842624 < sumZ z n) : addE z n = 150 ∧ addV z n = 0 := by
  unfold addE addV; rw [h, if_neg (by simp), if_pos h2, if_neg (by simp), if_pos h2]; exact ⟨rfl, rfl⟩
theorem addE_ok {z : Nat → Int} {n : Nat} (h : bad z n = false) (h2 : sumZ z n ≤ 1125899906842624) : addE z n = 0 ∧ addV z n = sumZ z n := by
  unfold addE addV; rw [h, if_neg (by simp), if_neg (by omega), if_neg (by simp), if_neg (by omega)]; exact ⟨rfl, rfl⟩

set_option maxRecDepth 100000 in
set_option maxHeartbeats 1000000 in
theorem add_any (p : Option Addr) (n c : Nat) (z : Nat → Int) (w : World) (h : IntsAt w p n z) (hn : n ≤ 1000000) :
    Calls Tryd.prog 12 #[.slice p n c] w fun e w' => e = .returned (.tuple #[.int .i64 (addV z n), .int .i64 (addE z n)]) ∧ w = w' := by
  have HC := Go.Lib.hid (check_any p n c z w h hn)
  have H := Go.Lib.hid h
  clear h
  cases hb : bad z n <;> rw [hb] at HC
  case true =>
    have HB := Go.Lib.hid hb
    clear hb
    go_enter Tryd.func12, Tryd.ntmps12
    go_wp2_with fail
    refine wp_scope_fwd 0 rfl ?_
    go_wp2_with (go_at_call 18; refine HC.out.mono ?_; rintro e w' ⟨rfl, rfl⟩)
    go_step3
    refine ⟨rfl, ?_⟩
    go_wp2_with fail
    rw [Exit.noGoto_ret]
    refine bodyPost_ret (v := .tuple #[.int .i64 0, .int .i64 2]) (by simp [results, Tryd.results12, go_sem]) rfl ⟨by rw [(addE_bad HB.out).1, (addE_bad HB.out).2], rfl⟩
  case false =>
    have HB := Go.Lib.hid hb
    clear hb
    go_enter Tryd.func12, Tryd.ntmps12
    go_wp2_with fail
    refine wp_scope_fwd 0 rfl ?_
    go_wp2_with (go_at_call 18; refine HC.out.mono ?_; rintro e w' ⟨rfl, rfl⟩)
    go_loopw [4, 5, 7, 14] (fun s e _ i wr => ∃ k : Nat, k ≤ n ∧ i = .int .i64 k ∧ s = .int .i64 (sumZ z k) ∧ e = .int .i64 0 ∧ sumZ z k ≤ 1125899906842624 ∧ wr = w) (fun _ _ _ i _ => n - (intOf i).toNat)
    case atStart => exact ⟨0, by omega, rfl, rfl, rfl, by simp [sumZ], rfl⟩
    case round =>
      obtain ⟨k, hk, rfl, rfl, rfl, ho, rfl⟩ := hrel
      by_cases hkn : k < n
      · obtain ⟨x, y, rfl, hc⟩ := H.out.at hkn
        have hz := (good_iff z n).1 HB.out k hkn
        have h0 := (sum_mono HB.out hk).1
        have hw : wrap64 (sumZ z k + z k) = sumZ z k + z k := by unfold wrap64; omega
        have HS := Go.Lib.hid (show sumZ z (k + 1) = sumZ z k + z k from rfl)
        have HM := Go.Lib.hid (sum_mono HB.out (show k + 1 ≤ n by omega)).2
        generalize sumZ z k = s at *
        generalize z k = zk at *
        go_wp2_with fail
        case roundEnd => exact ⟨⟨k + 1, by omega, by go_num, by rw [HS.out], rfl, by rw [HS.out]; omega, trivial⟩, by simp [intOf]; omega⟩
        all_goals
          go_step3
          refine ⟨rfl, ?_⟩
          go_wp2_with fail
          rw [Exit.noGoto_ret]
          have hov : 1125899906842624 < sumZ z n := by have := HS.out; have := HM.out; omega
          refine bodyPost_ret (v := .tuple #[.int .i64 0, .int .i64 150]) (by simp [results, Tryd.results12, go_sem]) rfl ⟨by rw [(addE_over HB.out hov).1, (addE_over HB.out hov).2], rfl⟩
      · obtain rfl : k = n := by omega
        go_wp2_with fail
        rw [Exit.jump_ret]
        refine bodyPost_ret (v := .tuple #[.int .i64 (sumZ z k), .int .i64 0]) (by simp [results, Tryd.results12, go_sem]) rfl ⟨by rw [(addE_ok HB.out ho).1, (addE_ok HB.out ho).2], rfl⟩

set_option maxRecDepth 100000 in
set_option maxHeartbeats 1000000 in
theorem radd_any (p : Option Addr) (n c : Nat) (z : Nat → Int) (w : World) (h : IntsAt w p n z) (hn : n ≤ 1000000) :
    Calls Tryd.prog 14 #[.slice p n c] w fun e w' => e = .returned (.tuple #[.int .i64 (addV z n), .int .i64 (addE z n)]) ∧ w = w' := by
  have HC := Go.Lib.hid (all_any p n c z w h hn)
  have H := Go.Lib.hid h
  clear h
  cases hb : bad z n <;> rw [hb] at HC
  case true =>
    have HB := Go.Lib.hid hb
    clear hb
    go_enter Tryd.func14, Tryd.ntmps14
    go_wp2_with (go_at_call 36; refine HC.out.mono ?_; rintro e w' ⟨rfl, rfl⟩)
    refine bodyPost_ret (v := .tuple #[.int .i64 0, .int .i64 2]) (by simp [results, Tryd.results14, go_sem]) rfl ⟨by rw [(addE_bad HB.out).1, (addE_bad HB.out).2], rfl⟩
  case false =>
    have HB := Go.Lib.hid hb
    clear hb
    go_enter Tryd.func14, Tryd.ntmps14
    go_wp2_with (go_at_call 36; refine HC.out.mono ?_; rintro e w' ⟨rfl, rfl⟩)
    go_loopw [4, 5] (fun s i wr => ∃ k : Nat, k ≤ n ∧ i = .int .i64 k ∧ s = .int .i64 (sumZ z k) ∧ sumZ z k ≤ 1125899906842624 ∧ wr = w) (fun _ i _ => n - (intOf i).toNat)
    case atStart => exact ⟨0, by omega, rfl, rfl, by simp [sumZ], rfl⟩
    case round =>
      obtain ⟨k, hk, rfl, rfl, ho, rfl⟩ := hrel
      by_cases hkn : k < n
      · obtain ⟨x, y, rfl, hc⟩ := H.out.at hkn
        have hz := (good_iff z n).1 HB.out k hkn
        have h0 := (sum_mono HB.out hk).1
        have hw : wrap64 (sumZ z k + z k) = sumZ z k + z k := by unfold wrap64; omega
        have HS := Go.Lib.hid (show sumZ z (k + 1) = sumZ z k + z k from rfl)
        have HM := Go.Lib.hid (sum_mono HB.out (show k + 1 ≤ n by omega)).2
        generalize sumZ z k = s at *
        generalize z k = zk at *
        go_wp2_with fail
        case roundEnd => exact ⟨⟨k + 1, by omega, by go_num, by rw [HS.out], by rw [HS.out]; omega, trivial⟩, by simp [intOf]; omega⟩
        all_goals
          have hov : 1125899906842624 < sumZ z n := by have := HS.out; have := HM.out; omega
          refine bodyPost_ret (v := .tuple #[.int .i64 0, .int .i64 150]) (by simp [results, Tryd.results14, go_sem]) rfl ⟨by rw [(addE_over HB.out hov).1, (addE_over HB.out hov).2], rfl⟩
      · obtain rfl : k = n := by omega
        go_wp2_with fail
        refine bodyPost_ret (v := .tuple #[.int .i64 (sumZ z k), .int .i64 0]) (by simp [results, Tryd.results14, go_sem]) rfl ⟨by rw [(addE_ok HB.out ho).1, (addE_ok HB.out ho).2], rfl⟩
end Go.Proofs.YtcceialiedaccaaDoor
