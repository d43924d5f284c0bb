/- The reference's Parts. -/
import Derived.Test.YtcceialiedaccaaDoorG2
import Derived.Test.YtcceialiedaccaaDoorO1
namespace Go.Proofs.YtcceialiedaccaaDoor
open Go Go.RowKit

theorem own_base {w : World} {base k : Nat} {v : Value} {xs : List Value} (h : w.ownsRow base 2 1 v k xs) : ∀ b, v.ownBlock = some b → base ≤ b := by
  intro b hb
  rcases h.2 with ⟨h1, h2⟩ | ⟨g, cap, cur, rfl, hg, _⟩
  · subst h1; simp [Value.ownBlock] at hb
  · simp [Value.ownBlock] at hb; omega
theorem zL_succ (z : Nat → Int) (n : Nat) : zL z n ++ zL (fun _ => z n) 1 = zL z (n + 1) := by
  simp [zL, List.range_succ]

set_option maxRecDepth 100000 in
set_option maxHeartbeats 2000000 in
theorem rparts_any (x m : Int) (w : World) : Calls Tryd.prog 30 #[.int .i64 x, .int .i64 m] w fun e w' => ∃ p c, e = .returned (.slice p (partN x m) c) ∧ IntsAt w' p (partN x m) (partF x m) ∧ Ch (fun _ => False) w w' := by
  have HA := Go.Lib.hid (fun W => right_any x W)
  have HPN := Go.Lib.hid (show partN x m = if okP x m then m.toNat else 0 from rfl)
  have HOK := Go.Lib.hid (show okP x m = (rightB x && (decide (1 ≤ m) && decide (m ≤ 1000))) from rfl)
  cases hr : rightB x <;> rw [hr] at HA
  · have h0 : partN x m = 0 := by rw [HPN.out, HOK.out, hr]; rfl
    rw [h0]
    clear hr h0
    go_enter Tryd.func30, Tryd.ntmps30
    go_wp2_with (go_at_call 16; refine (HA.out _).mono ?_; rintro e w' ⟨rfl, rfl⟩)
    go_ret
    exact ⟨_, _, rfl, .inr rfl, Ch.refl _ _⟩
  · by_cases hm : 1 ≤ m ∧ m ≤ 1000
    · obtain ⟨m1, m2⟩ := hm
      have h0 : okP x m = true := by rw [HOK.out, hr]; simp; omega
      have hM : partN x m = m.toNat := by rw [HPN.out, h0]; rfl
      rw [hM]
      obtain ⟨x1, x2⟩ := right_true hr
      have HPF := Go.Lib.hid (fun i => show partF x m i = if (i : Int) < x % m then x / m + 1 else x / m from rfl)
      have hX2 : x ≤ 1125899906842624 := x2
      have hq : x.tdiv m = x / m := Int.tdiv_eq_ediv_of_nonneg x1
      have hrm : x.tmod m = x % m := Int.tmod_eq_emod_of_nonneg x1
      have q1 : 0 ≤ x / m := Int.ediv_nonneg x1 (by omega)
      have q2 : x / m ≤ x := Int.ediv_le_self _ x1
      have r1 : 0 ≤ x % m := Int.emod_nonneg _ (by omega)
      have r2 : x % m < m := Int.emod_lt_of_pos _ (by omega)
      have hwq : IntKind.i64.wrap (x / m) = x / m := by rw [IntKind.wrap_i64]; omega
      have hwr : IntKind.i64.wrap (x % m) = x % m := by rw [IntKind.wrap_i64]; omega
      generalize partF x m = F at *
      generalize x / m = q at *
      generalize x % m = r at *
      clear x2 hr h0 hM HPN HOK
      obtain ⟨M, rfl⟩ : ∃ M : Nat, m = (M : Int) := ⟨m.toNat, by omega⟩
      rw [Int.toNat_natCast]
      go_enter Tryd.func30, Tryd.ntmps30
      go_wp2_with (go_at_call 16; refine (HA.out _).mono ?_; rintro e w' ⟨rfl, rfl⟩)
      go_loopw [5, 6, 7] (fun v i _ wz => ∃ k : Nat, k ≤ M ∧ i = .int .i64 (k : Int) ∧ wz.ownsRow w.heap.size 2 1 v k (zL F k) ∧ Ch (fun _ => False) w wz) (fun _ i _ _ => M - (intOf i).toNat)
      case atStart => exact ⟨0, by omega, rfl, World.ownsRow_nil _ _ _ _, Ch.refl _ _⟩
      case round =>
        obtain ⟨k, hk, rfl, hown, hc⟩ := hrel
        have HOW := Go.Lib.hid hown; have HC := Go.Lib.hid hc
        clear hown hc
        by_cases hkM : k < M
        · have hwk : wrap64 ((k : Int) + 1) = (k : Int) + 1 := by unfold wrap64; omega
          have hw1 : wrap64 (q + 1) = q + 1 := by unfold wrap64; omega
          by_cases hlt : (k : Int) < r
          · have HFK := Go.Lib.hid (show F k = q + 1 by rw [HPF.out, if_pos hlt])
            go_wp2_with (at_builtin; refine wpList_append_ints rfl (.tmp 34) (.tmp 36) rfl w.heap.size _ _ _ rfl (HOW.out.alloc _) (some ⟨_, 0, none⟩) 1 1 _ rfl (ints_new1 _ _) (fun h => by cases h) (by omega) (Nat.le_trans HC.out.size (by simp)) ?_; intro v1 w8 hown1 hgrow1; have HO8 := Go.Lib.hid hown1; have HW8 := Go.Lib.hid hgrow1; clear hown1 hgrow1)
            exact ⟨⟨k + 1, by omega, by go_num, by have := HO8.out; rw [show (fun _ : Nat => q + 1) = fun _ => F k from funext fun _ => HFK.out.symm, zL_succ] at this; exact this, Ch.grown (HC.out.alloc _) HW8.out (fun b hb hlt => by have := own_base HOW.out b hb; omega)⟩, by simp [intOf]; omega⟩
          · have HFK := Go.Lib.hid (show F k = q by rw [HPF.out, if_neg hlt])
            go_wp2_with (at_builtin; refine wpList_append_ints rfl (.tmp 34) (.tmp 36) rfl w.heap.size _ _ _ rfl (HOW.out.alloc _) (some ⟨_, 0, none⟩) 1 1 _ rfl (ints_new1 _ _) (fun h => by cases h) (by omega) (Nat.le_trans HC.out.size (by simp)) ?_; intro v1 w8 hown1 hgrow1; have HO8 := Go.Lib.hid hown1; have HW8 := Go.Lib.hid hgrow1; clear hown1 hgrow1)
            exact ⟨⟨k + 1, by omega, by go_num, by have := HO8.out; rw [show (fun _ : Nat => q) = fun _ => F k from funext fun _ => HFK.out.symm, zL_succ] at this; exact this, Ch.grown (HC.out.alloc _) HW8.out (fun b hb hlt => by have := own_base HOW.out b hb; omega)⟩, by simp [intOf]; omega⟩
        · obtain rfl : k = M := by omega
          obtain ⟨k', rfl⟩ : ∃ k', k = k' + 1 := ⟨k - 1, by omega⟩
          obtain ⟨g, cap, cur, rfl, hg, hgr, hcap, htake⟩ := own_some HOW.out
          have HI := Go.Lib.hid (ints_of_row (n := k' + 1) (z := F) (ys := []) hgr (by rw [htake]; simp) (Nat.le_refl _))
          clear hgr htake
          go_wp2_with fail
          go_ret
          exact ⟨_, _, rfl, HI.out, HC.out⟩
    · have h0 : okP x m = false := by rw [HOK.out, hr]; simp; omega
      have hM : partN x m = 0 := by rw [HPN.out, h0]; rfl
      rw [hM]
      clear hr h0 hM
      by_cases h1 : m < 1
      · go_enter Tryd.func30, Tryd.ntmps30
        go_wp2_with (go_at_call 16; refine (HA.out _).mono ?_; rintro e w' ⟨rfl, rfl⟩)
        go_ret
        exact ⟨_, _, rfl, .inr rfl, Ch.refl _ _⟩
      · have h2 : 1000 < m := by omega
        go_enter Tryd.func30, Tryd.ntmps30
        go_wp2_with (go_at_call 16; refine (HA.out _).mono ?_; rintro e w' ⟨rfl, rfl⟩)
        go_ret
        exact ⟨_, _, rfl, .inr rfl, Ch.refl _ _⟩
end Go.Proofs.YtcceialiedaccaaDoor
