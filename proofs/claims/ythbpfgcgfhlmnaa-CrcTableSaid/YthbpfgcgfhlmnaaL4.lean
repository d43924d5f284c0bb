/- CrcTable: the function. -/
import Derived.Test.YthbpfgcgfhlmnaaT9
namespace Go.Proofs.Ythbpfgcgfhlmnaa
open Go Go.RowKit
theorem eqg33 : Try.prog.eqGuardType Try.prog.depth 33 = false := by kernel_rfl
theorem eq_tab (w : World) : (Op.equalIn 10000 33 (.agg tabR) (.agg tabR)).run Try.prog w = .ok true w :=
  run_equalIn_refl (P := Try.prog) w 9998 33 23 256 .u32 Try.underlying33 Try.underlying23 (fun w => by kernel_rfl) (fun j => un (tb j))
set_option maxHeartbeats 1000000 in
theorem crcTable_any (w : World) : Calls Try.prog 4 #[] w fun e w' => e = .returned (.bool true) ∧ Ch (fun _ => False) w w' := by
  have HEQ := Go.Lib.hid (fun W => eq_tab W)
  have HT := Go.Lib.hid (fun W => table_any W); have HR := Go.Lib.hid (fun W => rtable_any W)
  generalize tabR = R at *
  go_enter Try.func4, Try.ntmps4
  go_wp2_with (first | (refine wpList_eql_wanted rfl (.tmp 1) (.tmp 2) 33 33 rfl R R rfl rfl eqg33 (HEQ.out _) ?_) | (go_at_call 16; refine (HT.out _).mono ?_; rintro e w1 ⟨rfl, hw1⟩; have HC1 := Go.Lib.hid hw1; clear hw1) | (go_at_call 17; refine (HR.out _).mono ?_; rintro e w2 ⟨rfl, hw2⟩; have HC2 := Go.Lib.hid hw2; clear hw2) | (go_at_call 11; refine (works_any _).mono ?_; rintro e w3 ⟨rfl, hw3⟩; have HC3 := Go.Lib.hid hw3; clear hw3))
  go_ret
  exact ⟨rfl, (HC1.out.trans HC2.out).trans HC3.out⟩
end Go.Proofs.Ythbpfgcgfhlmnaa
