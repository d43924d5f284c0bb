import Derived.Test.YtdmeeghgbiffmaaDoorT15
import Derived.Test.YtdmeeghgbiffmaaDoorFloat
namespace Go.Proofs.YtdmeeghgbiffmaaDoor
open Go.RowKit

theorem wrap8 (x : Int) (h0 : 0 ≤ x) (h1 : x ≤ 255) : IntKind.u8.wrap x = x := by
  simp [IntKind.wrap, IntKind.bits, IntKind.signed]; omega
def hexP (g : Nat → UInt8) (n : Nat) : List UInt8 := (List.range n).map fun i => digit (nib g i)
theorem hexP_two (g : Nat → UInt8) (k : Nat) : ((hexP g (2 * (k + 1))).map fun b => (.int .u8 (b.toNat : Int) : Value)) = ((hexP g (2 * k)).map fun b => .int .u8 (b.toNat : Int)) ++ [.int .u8 ((digit ((g k).toNat / 16)).toNat : Int), .int .u8 ((digit ((g k).toNat % 16)).toNat : Int)] := by
  have e1 : nib g (2 * k) = (g k).toNat / 16 := by unfold nib; rw [if_pos (by omega), show 2 * k / 2 = k by omega]
  have e2 : nib g (2 * k + 1) = (g k).toNat % 16 := by unfold nib; rw [if_neg (by omega), show (2 * k + 1) / 2 = k by omega]
  unfold hexP
  rw [show 2 * (k + 1) = 2 * k + 1 + 1 by omega, List.range_succ, List.range_succ]
  simp [e1, e2]
theorem two_at (wr : World) (v u : Value) (t : TypeId) : ∀ j x, [v, u][j]? = some x → (wr.alloc (.cells #[v, u] t)).cell? ((⟨wr.heap.size, 0, none⟩ : Addr).add j) = some x := fun j x h => by
  match j, h with
  | 0, h =>
    rw [show (⟨wr.heap.size, 0, none⟩ : Addr).add 0 = ⟨wr.heap.size, 0, none⟩ by simp [Addr.add], cell_fresh]
    exact h
  | 1, h =>
    rw [show (⟨wr.heap.size, 0, none⟩ : Addr).add 1 = ⟨wr.heap.size, 1, none⟩ by simp [Addr.add], cell_fresh]
    exact h
theorem sign_at (k : Nat) (x : Int) (hx : x = (k : Int)) (hk : k < 16) (w : World) : Calls Tryd.prog 49 #[.int .u8 x] w fun e w' => e = .returned (.int .u8 ((digit k).toNat : Int)) ∧ w = w' := by
  subst hx; exact (sign_any k hk w).mono fun _ _ h => ⟨h.1, h.2.symm⟩

set_option maxRecDepth 100000 in
set_option maxHeartbeats 400000 in
theorem rtext_any (g : Nat → UInt8) (w : World) :
    Calls Tryd.prog 23 #[.agg (hv g)] w fun e w' => e = .returned (.string (hexB g)) ∧ Ch (fun _ => False) w w' := by
  obtain ⟨i0, hi, hz0, hz1, hz2⟩ := info_parts info5
  go_enter Tryd.func23, Tryd.ntmps23
  go_wp2_with fail
  generalize hW : w.alloc (.cells (hv g) 31) = W
  have hh0 : W.heap[w.heap.size]? = some (.cells (hv g) 31) := by rw [← hW]; exact World.alloc_heap_new w _
  have hC : Ch (fun _ => False) w W := by rw [← hW]; exact (Ch.refl _ _).alloc _
  have HH0 := Go.Lib.hid hh0; have HC := Go.Lib.hid hC
  clear hh0 hC hW
  generalize hB : w.heap.size = B at *
  go_loopw [3, 4] (fun v i wr => ∃ k : Nat, k ≤ 32 ∧ i = .int .i64 k ∧ wr.ownsRow W.heap.size 5 1 v (2 * k) ((hexP g (2 * k)).map fun b => .int .u8 (b.toNat : Int)) ∧ Ch (fun _ => False) W wr) (fun _ i _ => 32 - (intOf i).toNat)
  case atStart => exact ⟨0, by omega, rfl, World.ownsRow_nil _ _ _ _, Ch.refl _ _⟩
  case round =>
    obtain ⟨k, hk, rfl, hown, hC⟩ := hrel
    have HCr := Go.Lib.hid hC
    have hh := hC.heap HH0.out id
    clear hC
    by_cases hkn : k < 32
    · have hcell : wr.cell? ⟨B, k, none⟩ = some (.int .u8 ((g k).toNat : Int)) := (cell_of_heap hh _).trans (arr_get 32 _ _ (by omega))
      have hb := (g k).toNat_lt
      have HS1 := Go.Lib.hid (fun w => sign_at ((g k).toNat / 16) (IntKind.u8.wrap ((g k).toNat / 16 : Int)) (by rw [wrap8 _ (by omega) (by omega)]; omega) (by omega) w)
      have HS3 := Go.Lib.hid (fun w => sign_at ((g k).toNat % 16) (((g k).toNat : Int).tmod 16) (by rw [Int.tmod_eq_emod_of_nonneg (by omega)]; omega) (by omega) w)
      have HS2 := Go.Lib.hid (fun w => sign_at ((g k).toNat % 16) ((g k).toNat % 16 : Int) (by omega) (by omega) w)
      have HO := Go.Lib.hid hown
      clear hh hown
      go_upto_region 5 with (fail)
      refine wp_region_float_tail (v := u3) 11 (by decide) (by kernel_rfl) (by kernel_rfl) (.inl ⟨rfl, fun _ => rfl⟩) ?_
      simp only [List.take_succ_cons, List.take_zero, List.drop_succ_cons, List.drop_zero]
      repeat (quiet_step (first | (go_at_call 49; (with_reducible exact quiet_q (HS1.out _))) | (go_at_call 49; (with_reducible exact quiet_q (HS2.out _))) | (go_at_call 49; (with_reducible exact quiet_q (HS3.out _)))))
      refine wpQuiet_nil ?_
      intro _ hw'
      obtain ⟨q1, rfl⟩ := hw'
      have hsz : W.heap.size ≤ wr.heap.size := HCr.out.size
      have HOB := Go.Lib.hid (World.ownsRow.lt HO.out)
      have hod : (wr.drewN q1).ownsRow W.heap.size 5 1 u3 (2 * k) ((hexP g (2 * k)).map fun b => .int .u8 (b.toNat : Int)) := HO.out
      go_wp2_with (at_builtin; refine wpList_append_own _ rfl (.tmp 9) (.tmp 20) 34 rfl W.heap.size 5 i0 (.int .u8 0) 1 1 Tryd.underlying34 hi hz0 hz1 hz2 rfl (by decide) _ _ _ rfl (hod.alloc _) ⟨wr.heap.size, 0, none⟩ 2 2 [.int .u8 ((digit ((g k).toNat / 16)).toNat : Int), .int .u8 ((digit ((g k).toNat % 16)).toNat : Int)] rfl rfl (two_at (wr.drewN q1) _ _ _) (by simp [Value.oneCell']) (by simp [maxLen]; omega) (by omega) (by simp; omega) ?_; intro v' w1 hown' hgrow _; have HO1 := Go.Lib.hid hown'; have HG := Go.Lib.hid hgrow; clear hown' hgrow)
      go_roundw
      case rel =>
        refine ⟨k + 1, by omega, by go_num, ?_, Ch.grown ((HCr.out.drewN _).alloc _) HG.out (fun j hj hlt => absurd (HOB.out j hj).1 (by omega))⟩
        rw [hexP_two]; exact HO1.out
      case measure => simp [intOf]; omega
    · obtain rfl : k = 32 := by omega
      have hconv := conv_own (hexP g 64) hown (by omega)
      go_wp2
      go_ret
      exact ⟨rfl, HC.out.trans HCr.out⟩
end Go.Proofs.YtdmeeghgbiffmaaDoor
