/- Numbers of a slice, and what asks whether one of them is outside: the program's generic function at both instances, Check; the reference's Right, all; num. -/
import Derived.Test.YtcceialiedaccaaDoorMath
import Derived.Test.YtcceialiedaccaaDoorProg
namespace Go.Proofs.YtcceialiedaccaaDoor
open Go Go.RowKit

/-- A slice of n integers z that came from somewhere. -/
def IntsAt (w : World) (p : Option Addr) (n : Nat) (z : Nat → Int) : Prop :=
  (∃ x y, p = some ⟨x, y, none⟩ ∧ x < w.heap.size ∧ ∀ j, j < n → w.cell? ⟨x, y + j, none⟩ = some (.int .i64 (z j))) ∨ n = 0
theorem IntsAt.ch {w w' : World} {p : Option Addr} {n : Nat} {z : Nat → Int} (h : IntsAt w p n z) (hc : Ch (fun _ => False) w w') : IntsAt w' p n z := by
  rcases h with ⟨x, y, h1, h4, h3⟩ | h
  · exact .inl ⟨x, y, h1, Nat.lt_of_lt_of_le h4 hc.size, fun j hj => hc.get (h3 j hj) id⟩
  · exact .inr h
theorem IntsAt.at {w : World} {p : Option Addr} {n : Nat} {z : Nat → Int} (h : IntsAt w p n z) {k : Nat} (hk : k < n) : ∃ x y, p = some ⟨x, y, none⟩ ∧ w.cell? ⟨x, y + k, none⟩ = some (.int .i64 (z k)) := by
  rcases h with ⟨x, y, h1, h4, h3⟩ | h
  · exact ⟨x, y, h1, h3 k hk⟩
  · omega
def outs (lo hi : Int) (z : Nat → Int) : Nat → Bool
  | 0 => false
  | n + 1 => outs lo hi z n || (decide (z n < lo) || decide (hi < z n))

theorem outs_iff (lo hi : Int) (z : Nat → Int) (n : Nat) : outs lo hi z n = false ↔ ∀ j, j < n → lo ≤ z j ∧ z j ≤ hi := by
  induction n with
  | zero => simp [outs]
  | succ n ih =>
    rw [outs, Bool.or_eq_false_iff, ih]
    simp only [Bool.or_eq_false_iff, decide_eq_false_iff_not]
    constructor
    · intro ⟨h1, h2, h3⟩ j hj
      by_cases e : j = n
      · subst e; omega
      · exact h1 j (by omega)
    · intro h
      exact ⟨fun j hj => h j (by omega), by have := h n (by omega); omega, by have := h n (by omega); omega⟩
theorem outs_one {lo hi : Int} {z : Nat → Int} {n k : Nat} (hk : k < n) (h : z k < lo ∨ hi < z k) : outs lo hi z n = true := by
  cases e : outs lo hi z n with
  | true => rfl
  | false => have := (outs_iff lo hi z n).1 e k hk; omega


set_option maxRecDepth 100000 in
set_option maxHeartbeats 1000000 in
theorem outside_any (lo hi : Int) (p : Option Addr) (n c : Nat) (z : Nat → Int) (w : World) (h : IntsAt w p n z) (hn : n ≤ 1000000) :
    Calls Tryd.prog 37 #[.int .i64 lo, .int .i64 hi, .slice p n c] w fun e w' => e = .returned (.bool (outs lo hi z n)) ∧ w = w' := by
  have H := Go.Lib.hid h
  clear h
  go_enter Tryd.func37, Tryd.ntmps37
  go_wp2
  go_loopw [8, 11] (fun _ i wr => ∃ k : Nat, k ≤ n ∧ i = .int .i64 k ∧ outs lo hi z k = false ∧ wr = w) (fun _ i _ => n - (intOf i).toNat)
  case atStart => exact ⟨0, by omega, rfl, rfl, rfl⟩
  case round =>
    obtain ⟨k, hk, rfl, ho, rfl⟩ := hrel
    have HO := Go.Lib.hid ho
    clear ho
    by_cases hkn : k < n
    · obtain ⟨x, y, rfl, hc⟩ := H.out.at hkn
      go_wp2
      case roundEnd => exact ⟨⟨k + 1, by omega, by go_num, by rw [outs, HO.out]; simp; omega, trivial⟩, by simp [intOf]; omega⟩
      all_goals (go_ret; exact ⟨by rw [outs_one hkn (by omega)]; rfl, rfl⟩)
    · obtain rfl : k = n := by omega
      go_wp2
      go_ret
      exact ⟨by rw [HO.out]; rfl, rfl⟩

set_option maxRecDepth 100000 in
set_option maxHeartbeats 1000000 in
theorem outsideI_any (lo hi : Int) (p : Option Addr) (n c : Nat) (z : Nat → Int) (w : World) (h : IntsAt w p n z) (hn : n ≤ 1000000) :
    Calls Tryd.prog 50 #[.int .i64 lo, .int .i64 hi, .slice p n c] w fun e w' => e = .returned (.bool (outs lo hi z n)) ∧ w = w' := by
  have H := Go.Lib.hid h
  clear h
  go_enter Tryd.func50, Tryd.ntmps50
  go_wp2
  go_loopw [8, 11] (fun _ i wr => ∃ k : Nat, k ≤ n ∧ i = .int .i64 k ∧ outs lo hi z k = false ∧ wr = w) (fun _ i _ => n - (intOf i).toNat)
  case atStart => exact ⟨0, by omega, rfl, rfl, rfl⟩
  case round =>
    obtain ⟨k, hk, rfl, ho, rfl⟩ := hrel
    have HO := Go.Lib.hid ho
    clear ho
    by_cases hkn : k < n
    · obtain ⟨x, y, rfl, hc⟩ := H.out.at hkn
      go_wp2
      case roundEnd => exact ⟨⟨k + 1, by omega, by go_num, by rw [outs, HO.out]; simp; omega, trivial⟩, by simp [intOf]; omega⟩
      all_goals (go_ret; exact ⟨by rw [outs_one hkn (by omega)]; rfl, rfl⟩)
    · obtain rfl : k = n := by omega
      go_wp2
      go_ret
      exact ⟨by rw [HO.out]; rfl, rfl⟩

def bad (z : Nat → Int) (n : Nat) : Bool := outs 0 1125899906842624 z n
def numOf (b : Bool) (k : Int) : Int := if b then k else 0
theorem check_any (p : Option Addr) (n c : Nat) (z : Nat → Int) (w : World) (h : IntsAt w p n z) (hn : n ≤ 1000000) :
    Calls Tryd.prog 18 #[.slice p n c] w fun e w' => e = .returned (.int .i64 (if bad z n then 2 else 0)) ∧ w = w' := by
  have H := Go.Lib.hid (outside_any 0 1125899906842624 p n c z w h hn)
  clear h
  have e0 : outs 0 1125899906842624 z n = bad z n := rfl
  rw [e0] at H
  clear e0
  cases hb : bad z n <;> rw [hb] at H
  all_goals
    clear hb
    go_enter Tryd.func18, Tryd.ntmps18
    go_wp2_with (go_at_call 37; refine H.out.mono ?_; rintro e w' ⟨rfl, rfl⟩)
    go_ret
    exact ⟨rfl, rfl⟩
theorem num_any (x : Int) (w : World) : Calls Tryd.prog 17 #[.int .i64 x] w fun e w' => e = .returned (.int .i64 x) ∧ w = w' := by
  go_enter Tryd.func17, Tryd.ntmps17
  go_wp2
  go_ret
  exact ⟨rfl, rfl⟩
def rightB (x : Int) : Bool := decide (0 ≤ x) && decide (x ≤ 1125899906842624)
theorem right_any (x : Int) (w : World) : Calls Tryd.prog 16 #[.int .i64 x] w fun e w' => e = .returned (.bool (rightB x)) ∧ w = w' := by
  go_enter Tryd.func16, Tryd.ntmps16
  go_wp2
  all_goals (go_ret; first | exact ⟨rfl, rfl⟩ | (refine ⟨?_, rfl⟩; simp [rightB]; omega) | (refine ⟨?_, rfl⟩; simp [rightB, *]))
def rateB (x : Int) : Bool := decide (0 ≤ x) && decide (x ≤ 1000000)
theorem rate_any (x : Int) (w : World) : Calls Tryd.prog 40 #[.int .i64 x] w fun e w' => e = .returned (.bool (rateB x)) ∧ w = w' := by
  go_enter Tryd.func40, Tryd.ntmps40
  go_wp2
  all_goals (go_ret; first | exact ⟨rfl, rfl⟩ | (refine ⟨?_, rfl⟩; simp [rateB]; omega) | (refine ⟨?_, rfl⟩; simp [rateB, *]))
theorem right_false {x : Int} (h : rightB x = false) : x < 0 ∨ 1125899906842624 < x := by
  unfold rightB at h
  simp only [Bool.and_eq_false_iff, decide_eq_false_iff_not] at h
  omega
theorem right_true {x : Int} (h : rightB x = true) : 0 ≤ x ∧ x ≤ 1125899906842624 := by
  unfold rightB at h
  simpa using h

set_option maxRecDepth 100000 in
set_option maxHeartbeats 1000000 in
theorem all_any (p : Option Addr) (n c : Nat) (z : Nat → Int) (w : World) (h : IntsAt w p n z) (hn : n ≤ 1000000) :
    Calls Tryd.prog 36 #[.slice p n c] w fun e w' => e = .returned (.bool (!bad z n)) ∧ w = w' := by
  have H := Go.Lib.hid h
  clear h
  go_enter Tryd.func36, Tryd.ntmps36
  go_wp2
  go_loopw [3] (fun i wr => ∃ k : Nat, k ≤ n ∧ i = .int .i64 k ∧ bad z k = false ∧ wr = w) (fun i _ => n - (intOf i).toNat)
  case atStart => exact ⟨0, by omega, rfl, rfl, rfl⟩
  case round =>
    obtain ⟨k, hk, rfl, ho, rfl⟩ := hrel
    have HO := Go.Lib.hid ho
    clear ho
    by_cases hkn : k < n
    · obtain ⟨x, y, rfl, hc⟩ := H.out.at hkn
      have HR := Go.Lib.hid (right_any (z k) wr)
      cases hb : rightB (z k) <;> rw [hb] at HR
      · have hr := right_false hb
        have HE := Go.Lib.hid (show bad z n = true from outs_one hkn hr)
        clear hb hr
        go_wp2_with (go_at_call 16; refine HR.out.mono ?_; rintro e w' ⟨rfl, rfl⟩)
        go_ret
        exact ⟨by rw [HE.out]; rfl, rfl⟩
      · have hr := right_true hb
        have HE := Go.Lib.hid (show bad z (k + 1) = false by rw [bad, outs, show outs 0 1125899906842624 z k = false from HO.out]; simp; omega)
        clear hb hr
        go_wp2_with (go_at_call 16; refine HR.out.mono ?_; rintro e w' ⟨rfl, rfl⟩)
        case roundEnd => exact ⟨⟨k + 1, by omega, by go_num, HE.out, trivial⟩, by simp [intOf]; omega⟩
    · obtain rfl : k = n := by omega
      go_wp2_with fail
      go_ret
      exact ⟨by rw [HO.out]; rfl, rfl⟩
end Go.Proofs.YtcceialiedaccaaDoor
