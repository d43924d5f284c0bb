/- The reference's matrix. -/
import Derived.Test.YthbpfgcgfhlmnaaT10
namespace Go.Proofs.Ythbpfgcgfhlmnaa
open Go Go.RowKit
attribute [local go_sem high] b_add b_xor b_and b_or b_shr b_shl not32 wrap_un beq32 neg32 b_and1 b_andC b_rem2 b_quo2 beq_1

def mrow (F : Nat → BitVec 32) : Array Value := arr 32 fun i => wv (F i)
theorem mrow_size (F : Nat → BitVec 32) : (mrow F).size = 32 := arr_size _ _
theorem mrow_get (F : Nat → BitVec 32) (i : Nat) (h : i < 32) : (mrow F)[i]? = some (wv (F i)) := arr_get _ _ _ h
theorem bit_beq (w : BitVec 32) (n : Nat) : ((w >>> n) &&& 1#32 == 1#32) = w.getLsbD n := by
  rw [bit_of]
  cases w.getLsbD n <;> simp
set_option maxRecDepth 100000 in
set_option maxHeartbeats 1000000 in
theorem by_any (F : Nat → BitVec 32) (x : BitVec 32) (w : World) : Calls Try.prog 41 #[.agg (mrow F), .int .u32 (un x)] w fun e w' => e = .returned (.int .u32 (un (lin F x 32))) ∧ Ch (fun _ => False) w w' := by
  have HG := Go.Lib.hid (fun i h => mrow_get F i h)
  generalize mrow F = R at *
  go_enter Try.func41, Try.ntmps41
  go_wp2
  generalize hW : w.alloc (.cells R 73) = W
  have HH := Go.Lib.hid (show W.heap[w.heap.size]? = some (.cells R 73) by rw [← hW]; exact World.alloc_heap_new w _)
  have HC := Go.Lib.hid (show Ch (fun _ => False) w W by rw [← hW]; exact (Ch.refl _ w).alloc _)
  clear hW
  go_loop [5, 6] (fun p i => ∃ k : Nat, k ≤ 32 ∧ i = .int .i64 k ∧ p = .int .u32 (un (lin F x k))) (fun _ i => 32 - (intOf i).toNat)
  case atStart => exact ⟨0, by omega, rfl, rfl⟩
  case round =>
    obtain ⟨k, hk, rfl, rfl⟩ := hrel
    by_cases hlt : k < 32
    · have HT := Go.Lib.hid (show lin F x (k + 1) = lin F x k ^^^ (if x.getLsbD k then F k else 0#32) from rfl)
      have hcell : W.cell? ⟨w.heap.size, k, none⟩ = some (wv (F k)) := (cell_of_heap HH.out k).trans (HG.out k hlt)
      have h1 : (k : Int) ≤ 31 := by omega
      have hb := bit_beq x k
      generalize lin F x k = p at *
      generalize F k = y at *
      cases hx : x.getLsbD k with
      | false =>
        rw [hx] at hb HT
        go_wp2
        go_round
        case rel => exact ⟨k + 1, by omega, by go_num, by rw [HT.out]; simp⟩
        case measure => simp [intOf]; omega
      | true =>
        rw [hx] at hb HT
        go_wp2
        go_round
        case rel => exact ⟨k + 1, by omega, by go_num, by rw [HT.out]; simp⟩
        case measure => simp [intOf]; omega
    · obtain rfl : k = 32 := by omega
      go_wp2
      go_ret
      exact ⟨rfl, HC.out⟩
end Go.Proofs.Ythbpfgcgfhlmnaa
