import Derived.Test.YtikdpiedjkailaaDoorMath
import Derived.Test.YtikdpiedjkailaaDoorProg
namespace Go.Proofs.YtikdpiedjkailaaDoor
open Go.RowKit
attribute [local go_sem high] b_add b_xor b_and b_or b_shr b_shl not32 wrap_un beq32

set_option maxHeartbeats 400000 in
theorem num_any (n : Int) (w : World) :
    Calls Tryd.prog 17 #[.int .i64 n] w fun e w' => e = .returned (.int .i64 n) ∧ w = w' := by
  go_enter Tryd.func17, Tryd.ntmps17
  go_wp2
  go_ret
  exact ⟨rfl, rfl⟩

set_option maxHeartbeats 400000 in
theorem rot_any (x : BitVec 32) (k : Int) (w : World) (h1 : -31 ≤ k) (h2 : k ≤ -1) :
    Calls Tryd.prog 63 #[.int .u32 (un x), .int .i64 k] w fun e w' => e = .returned (.int .u32 (un (x.rotateRight (-k).toNat))) ∧ w = w' := by
  have hb := rot_bits k h1 h2
  have hs := rot_wrap k h1 h2
  have he := Go.Lib.hid (rot_eq x k h1 h2)
  have b1 : 0 ≤ k + 32 := by omega
  have b2 : k + 32 ≤ 31 := by omega
  have b3 : 0 ≤ -k := by omega
  have b5 : k ≤ 0 := by omega
  have b4 : -k ≤ 31 := by omega
  go_enter Tryd.func63, Tryd.ntmps63
  go_wp2
  go_ret
  refine ⟨?_, rfl⟩
  rw [← he.out]
  rfl

set_option maxHeartbeats 400000 in
theorem turned1 (x : BitVec 32) (ns : List Int) (bp a : Nat) (w : World) (hl : ns.length ≤ 10)
    (hbox : w.cell? ⟨bp, 0, none⟩ = some (.slice (some ⟨a, 0, none⟩) ns.length ns.length))
    (hc : ∀ i, i < ns.length → w.cell? ⟨a, i, none⟩ = some (.int .i64 (ns.getD i 0)))
    (hn : ∀ i, i < ns.length → 1 ≤ ns.getD i 0 ∧ ns.getD i 0 ≤ 31) :
    Calls Tryd.prog 66 #[.int .u32 (un x), .pointer (some ⟨bp, 0, none⟩)] w fun e w' => e = .returned (.int .u32 (un (sx x ns))) ∧ w = w' := by
  have Hc := Go.Lib.hid hc
  have Hn := Go.Lib.hid hn
  clear hc hn
  go_enter Tryd.func66, Tryd.ntmps66
  go_wp2
  go_loop [4, 9] (fun t i => ∃ k : Nat, k ≤ ns.length ∧ i = .int .i64 k ∧ t = .int .u32 (un (sx x (ns.take k)))) (fun _ i => ns.length - (intOf i).toNat)
  case atStart => exact ⟨0, Nat.zero_le _, rfl, by simp [sx, un]⟩
  case round =>
    obtain ⟨k, hk, rfl, rfl⟩ := hrel
    by_cases hlt : k < ns.length
    · have hcell := Hc.out k hlt
      obtain ⟨hn1, hn2⟩ := Hn.out k hlt
      have HS := Go.Lib.hid (sx_take x ns k hlt)
      generalize ns.getD k 0 = nk at *
      have hw : IntKind.i64.wrap (-nk) = -nk := by simp [IntKind.wrap, IntKind.bits, IntKind.signed]; omega
      go_wp2_with (go_at_call 63; refine (rot_any _ _ _ (by omega) (by omega)).mono ?_; rintro e w' ⟨rfl, rfl⟩)
      go_round
      case rel => exact ⟨k + 1, by omega, by go_num, by rw [HS.out]⟩
      case measure => simp [intOf]; omega
    · go_wp2
      go_ret
      rw [List.take_of_length_le (show ns.length ≤ k by omega)]
      exact ⟨rfl, rfl⟩

/-- A closure of 'turned': its box at block bp, the places' array at block a. -/
structure IsTurn (w : World) (v : Value) (ns : List Int) (bp a : Nat) : Prop where
  val : v = .func (.func 66) #[] #[.pointer (some ⟨bp, 0, none⟩)]
  len : ns.length ≤ 10
  box : w.cell? ⟨bp, 0, none⟩ = some (.slice (some ⟨a, 0, none⟩) ns.length ns.length)
  row : ∀ i, i < ns.length → w.cell? ⟨a, i, none⟩ = some (.int .i64 (ns.getD i 0))
  bnd : ∀ i, i < ns.length → 1 ≤ ns.getD i 0 ∧ ns.getD i 0 ≤ 31
theorem IsTurn.drewN {w : World} {v : Value} {ns : List Int} {bp a : Nat} (h : IsTurn w v ns bp a) (n : Nat) : IsTurn (w.drewN n) v ns bp a := ⟨h.val, h.len, h.box, h.row, h.bnd⟩
theorem IsTurn.call {w : World} {v : Value} {ns : List Int} {bp a : Nat} (h : IsTurn w v ns bp a) (x : BitVec 32) :
    Calls Tryd.prog 66 #[.int .u32 (un x), .pointer (some ⟨bp, 0, none⟩)] w fun e w' => e = .returned (.int .u32 (un (sx x ns))) ∧ w = w' :=
  turned1 x ns bp a w h.len h.box h.row h.bnd
/-- A closure of 'shifted': the box of its 'turn' at bt, that of its n at bn. -/
structure IsShift (w : World) (v : Value) (n : Int) (ns : List Int) (bt bn bp a : Nat) : Prop where
  val : v = .func (.func 69) #[] #[.pointer (some ⟨bt, 0, none⟩), .pointer (some ⟨bn, 0, none⟩)]
  turn : ∃ tv, w.cell? ⟨bt, 0, none⟩ = some tv ∧ IsTurn w tv ns bp a
  num : w.cell? ⟨bn, 0, none⟩ = some (.int .i64 n)
  lo : 1 ≤ n
  hi : n ≤ 31

set_option maxHeartbeats 400000 in
theorem turned_any (l c : Nat) (p : Option Addr) (w : World) :
    Calls Tryd.prog 64 #[.slice p l c] w fun e w' => e = .returned (.func (.func 66) #[] #[.pointer (some ⟨w.heap.size, 0, none⟩)]) ∧ w' = w.alloc (.cells #[.slice p l c] 116) := by
  go_enter Tryd.func64, Tryd.ntmps64
  go_wp2
  go_ret
  exact ⟨rfl, rfl⟩

set_option maxHeartbeats 400000 in
theorem shifted1 {w : World} {v : Value} {n : Int} {ns : List Int} {bt bn bp a : Nat} (h : IsShift w v n ns bt bn bp a) (x : BitVec 32) :
    Calls Tryd.prog 69 #[.int .u32 (un x), .pointer (some ⟨bt, 0, none⟩), .pointer (some ⟨bn, 0, none⟩)] w fun e w' => e = .returned (.int .u32 (un (sx x ns ^^^ x >>> n.toNat))) ∧ ∃ k, w' = w.drewN k := by
  obtain ⟨_, ⟨tv, ht, hT⟩, hnum, hlo, hhi⟩ := h
  have hcall := Go.Lib.hid (fun k => (hT.drewN k).call x)
  obtain ⟨rfl, _, _, _, _⟩ := hT
  have h0 : 0 ≤ n := by omega
  go_enter Tryd.func69, Tryd.ntmps69
  go_wp2
  go_quiet ((go_at_call 66; exact quiet_q (hcall.out _)))
  go_wp2
  go_ret
  exact ⟨rfl, _, rfl⟩
end Go.Proofs.YtikdpiedjkailaaDoor
