/- powers: a range over a function that the body leaves. -/
import Derived.Test.YthbpfgcgfhlmnaaT10
import Derived.Laws.EntriesVeiled
import Derived.RangeFuncNested
import Derived.RangeFuncBound
import Derived.RangeFuncCalls
import Derived.RangeFuncLeaves
import Derived.OwnWalkIn
import Derived.TacticsInMore
import Derived.LoopNIn
import Derived.LoopIn
import Derived.Sort.QuietTacIn
import Derived.Shelf.Abstract
namespace Go.Proofs.Ythbpfgcgfhlmnaa
open Go Go.RowKit
attribute [local go_sem high] b_add b_xor b_and b_or b_shr b_shl not32 wrap_un beq32 neg32 b_and1 b_andC

theorem pw_next (t : Nat) : times (pw (8 * 2 ^ t)) (pw (8 * 2 ^ t)) = pw (8 * 2 ^ (t + 1)) := by
  rw [pw_pw]
  congr 1
  rw [Nat.pow_succ]; omega
set_option maxHeartbeats 4000000 in
theorem powers1 (n l : Nat) (W : World) (J : Nat → World → Prop) (Jx : World → Prop) (hJ0 : J 0 W)
    (hY : ∀ t W1, t ≤ 41 → J t W1 → YieldAt Fence.wide (n - 1) Try.prog l #[wv (pw (8 * 2 ^ t))] W1 fun e W' => (e = .returned (.bool true) ∧ t < 41 ∧ J (t + 1) W') ∨ (e = .returned (.bool false) ∧ Jx W')) :
    CallsIn Fence.wide n Try.prog 42 #[.func (.yield l) #[] #[]] W fun e W' => (∃ v, e = .returned v) ∧ Jx W' := by
  have HY := Go.Lib.hid hY; clear hY
  have HJ0 := Go.Lib.hid hJ0; clear hJ0
  refine callsIn_of_wp Try.func42 rfl trivial (wpIn_wide.2 ?_) rfl
  simp only [Try.ntmps42, List.size_toArray, List.length_cons, List.length_nil, Nat.reduceAdd, Nat.reduceSub, Array.replicate_succ,
     Array.replicate_zero, List.push_toArray, List.append_toArray, List.nil_append, List.cons_append]
  go_wp2_with fail
  go_loopg [2] 41 (fun gk p wr => ∃ t : Nat, t ≤ 41 ∧ gk = 41 - t ∧ p = wv (pw (8 * 2 ^ t)) ∧ J t wr)
  case atStart => exact ⟨0, by omega, rfl, by rw [show 8 * 2 ^ 0 = 8 from rfl, pw_8]; rfl, HJ0.out⟩
  case round =>
    obtain ⟨t, ht, hg, rfl, hJ⟩ := hrel
    obtain ⟨fn, tmps, assign, body, hy, hR⟩ := HY.out t wr ht hJ
    have HRR := Go.Lib.hid hR; clear hR hJ
    have HPN := Go.Lib.hid (pw_next t)
    have HGK := Go.Lib.hid hg
    clear hg
    generalize pw (8 * 2 ^ t) = p at *
    refine (wpIn_wide (n := n)).1 ?_
    gi_wp2
    refine ⟨fun h => by simp [Fence.wide] at h, HRR.out.mono ?_⟩
    rintro e W' (⟨rfl, h41, hJ'⟩ | ⟨rfl, hJx⟩)
    · have HJ' := Go.Lib.hid hJ'; clear hJ'
      gi_wp2
      refine ⟨trivial, fun h => by simp [Fence.wide] at h, callsIn_wide.2 ((times_any _ _ _).mono ?_)⟩
      rintro e w' ⟨rfl, rfl⟩
      gi_wp2
      go_wp2
      go_roundg (41 - (t + 1))
      case measure => have := HGK.out; omega
      case rel => exact ⟨t + 1, by omega, rfl, by rw [HPN.out], HJ'.out⟩
    · have HJ' := Go.Lib.hid hJx; clear hJx
      gi_wp2
      go_wp2
      go_end0
      exact ⟨⟨_, rfl⟩, HJ'.out⟩
end Go.Proofs.Ythbpfgcgfhlmnaa
