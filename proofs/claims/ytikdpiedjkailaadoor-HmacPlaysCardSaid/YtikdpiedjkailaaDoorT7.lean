import Derived.Test.YtikdpiedjkailaaDoorT6
namespace Go.Proofs.YtikdpiedjkailaaDoor
open Go.RowKit
attribute [local go_sem high] b_add b_xor b_and b_or b_shr b_shl not32 wrap_un beq32

theorem st0_a : Value.int .u32 1779033703 = wv st0.a := by unfold wv un; rfl
theorem st0_b : Value.int .u32 3144134277 = wv st0.b := by unfold wv un; rfl
theorem st0_c : Value.int .u32 1013904242 = wv st0.c := by unfold wv un; rfl
theorem st0_d : Value.int .u32 2773480762 = wv st0.d := by unfold wv un; rfl
theorem st0_e : Value.int .u32 1359893119 = wv st0.e := by unfold wv un; rfl
theorem st0_f : Value.int .u32 2600822924 = wv st0.f := by unfold wv un; rfl
theorem st0_g : Value.int .u32 528734635 = wv st0.g := by unfold wv un; rfl
theorem st0_h : Value.int .u32 1541459225 = wv st0.h := by unfold wv un; rfl

set_option maxHeartbeats 400000 in
theorem first_any (w : World) : Calls Tryd.prog 58 #[] w fun e w' => e = .returned (.agg #[wv st0.a, wv st0.b, wv st0.c, wv st0.d, wv st0.e, wv st0.f, wv st0.g, wv st0.h]) ∧ w' = w.alloc (.cells #[wv st0.a, wv st0.b, wv st0.c, wv st0.d, wv st0.e, wv st0.f, wv st0.g, wv st0.h] 81) := by
  rw [← st0_a, ← st0_b, ← st0_c, ← st0_d, ← st0_e, ← st0_f, ← st0_g, ← st0_h]
  go_enter Tryd.func58, Tryd.ntmps58
  go_wp2
  refine bodyPost_ret (v := .agg #[.int .u32 1779033703, .int .u32 3144134277, .int .u32 1013904242, .int .u32 2773480762, .int .u32 1359893119, .int .u32 2600822924, .int .u32 528734635, .int .u32 1541459225]) (by simp [results, Tryd.results58, go_sem]) rfl ⟨rfl, rfl⟩

theorem info65 : (Tryd.prog.info? 94).map (·.size) = some 26 := by kernel_rfl
theorem info31 : (Tryd.prog.info? 28).map (·.size) = some 32 := by kernel_rfl
theorem info26 : (Tryd.prog.info? 81).map (·.size) = some 8 := by kernel_rfl
/-- A sum under way's cells at the start. -/
def runCells (s : St) : Array Value := #[.int .u32 0, .int .u32 0, .int .u32 0, .int .u32 0, .int .u32 0, .int .u32 0, .int .u32 0, .int .u32 0, .int .u32 0, .int .u32 0, .int .u32 0, .int .u32 0, .int .u32 0, .int .u32 0, .int .u32 0, .int .u32 0, wv s.a, wv s.b, wv s.c, wv s.d, wv s.e, wv s.f, wv s.g, wv s.h, .int .i64 0, .bool true]
set_option maxHeartbeats 400000 in
theorem begun_any (w : World) : Calls Tryd.prog 45 #[] w fun e w' => e = .returned (.agg (runCells st0)) ∧ Ch (fun _ => False) w w' := by
  have h := Go.Lib.hid (fun w => first_any w)
  unfold runCells
  generalize st0 = s at *
  go_enter Tryd.func45, Tryd.ntmps45
  go_wp2_with fail
  refine (h.out _).mono ?_
  rintro e w1 ⟨rfl, hw1⟩
  have hC : Ch (fun _ => False) (w.alloc (.cells #[.int .u32 0, .int .u32 0, .int .u32 0, .int .u32 0, .int .u32 0, .int .u32 0, .int .u32 0, .int .u32 0, .int .u32 0, .int .u32 0, .int .u32 0, .int .u32 0, .int .u32 0, .int .u32 0, .int .u32 0, .int .u32 0, .int .u32 0, .int .u32 0, .int .u32 0, .int .u32 0, .int .u32 0, .int .u32 0, .int .u32 0, .int .u32 0, .int .i64 0, .bool false] 94)) w1 := by rw [hw1]; exact (Ch.refl _ _).alloc _
  have hg : w1.heap[w.heap.size]? = some (.cells #[.int .u32 0, .int .u32 0, .int .u32 0, .int .u32 0, .int .u32 0, .int .u32 0, .int .u32 0, .int .u32 0, .int .u32 0, .int .u32 0, .int .u32 0, .int .u32 0, .int .u32 0, .int .u32 0, .int .u32 0, .int .u32 0, .int .u32 0, .int .u32 0, .int .u32 0, .int .u32 0, .int .u32 0, .int .u32 0, .int .u32 0, .int .u32 0, .int .i64 0, .bool false] 94) := hC.heap (World.alloc_heap_new _ _) id
  have HC := Go.Lib.hid hC; have HG := Go.Lib.hid hg
  clear hC hg hw1
  go_wp2_with (refine wpList_store_row rfl 94 (.tmp 0) (.tmp 2) rfl w.heap.size #[.int .u32 0, .int .u32 0, .int .u32 0, .int .u32 0, .int .u32 0, .int .u32 0, .int .u32 0, .int .u32 0, .int .u32 0, .int .u32 0, .int .u32 0, .int .u32 0, .int .u32 0, .int .u32 0, .int .u32 0, .int .u32 0, wv s.a, wv s.b, wv s.c, wv s.d, wv s.e, wv s.f, wv s.g, wv s.h, .int .i64 0, .bool true] rfl rfl 94 #[.int .u32 0, .int .u32 0, .int .u32 0, .int .u32 0, .int .u32 0, .int .u32 0, .int .u32 0, .int .u32 0, .int .u32 0, .int .u32 0, .int .u32 0, .int .u32 0, .int .u32 0, .int .u32 0, .int .u32 0, .int .u32 0, .int .u32 0, .int .u32 0, .int .u32 0, .int .u32 0, .int .u32 0, .int .u32 0, .int .u32 0, .int .u32 0, .int .i64 0, .bool false] HG.out info65 rfl (by simp [Value.oneCell']) ?_)
  refine bodyPost_ret (results_cell_row (h := Tryd.results45) _ _ w.heap.size 94 _ (0, 0) _ rfl (heap_setRow HG.out) Tryd.underlying94 rfl info65) rfl ⟨rfl, ?_⟩
  exact (((Ch.refl _ w).alloc _).then HC.out (fun _ _ h => h)).setRow (by simp) _

theorem zero_cells (s : St) (j : Nat) (hj : j < 16) : (#[.int .u32 0, .int .u32 0, .int .u32 0, .int .u32 0, .int .u32 0, .int .u32 0, .int .u32 0, .int .u32 0, .int .u32 0, .int .u32 0, .int .u32 0, .int .u32 0, .int .u32 0, .int .u32 0, .int .u32 0, .int .u32 0, wv s.a, wv s.b, wv s.c, wv s.d, wv s.e, wv s.f, wv s.g, wv s.h, .int .i64 0, .bool true] : Array Value)[j]? = some (wv 0#32) := by
  have e : (.int .u32 0 : Value) = wv 0#32 := by unfold wv un; rfl
  rw [e]
  generalize wv 0#32 = z
  obtain rfl | rfl | rfl | rfl | rfl | rfl | rfl | rfl | rfl | rfl | rfl | rfl | rfl | rfl | rfl | rfl : j = 0 ∨ j = 1 ∨ j = 2 ∨ j = 3 ∨ j = 4 ∨ j = 5 ∨ j = 6 ∨ j = 7 ∨ j = 8 ∨ j = 9 ∨ j = 10 ∨ j = 11 ∨ j = 12 ∨ j = 13 ∨ j = 14 ∨ j = 15 := by omega
  all_goals rfl
theorem state_cells (s : St) (j : Nat) (hj : j < 8) : (#[.int .u32 0, .int .u32 0, .int .u32 0, .int .u32 0, .int .u32 0, .int .u32 0, .int .u32 0, .int .u32 0, .int .u32 0, .int .u32 0, .int .u32 0, .int .u32 0, .int .u32 0, .int .u32 0, .int .u32 0, .int .u32 0, wv s.a, wv s.b, wv s.c, wv s.d, wv s.e, wv s.f, wv s.g, wv s.h, .int .i64 0, .bool true] : Array Value)[16 + j]? = some (wv (s.word j)) := by
  match j, hj with | 0, _ => rfl | 1, _ => rfl | 2, _ => rfl | 3, _ => rfl | 4, _ => rfl | 5, _ => rfl | 6, _ => rfl | 7, _ => rfl

theorem run_heap {w : World} {b : Nat} (h : w.heap[b]? = some (.cells (runCells st0) 94)) (f : Nat → UInt8) : RunAt w b f 0 := by
  have e : stN f (0 / 64) = st0 := rfl
  have hz := zero_cells st0
  have hs := state_cells st0
  have h24 : (runCells st0)[24]? = some (.int .i64 ((0 : Nat) : Int)) := rfl
  have h25 : (runCells st0)[25]? = some (.bool true) := rfl
  unfold runCells at h h24 h25
  have hc := cell_of_heap h
  have hf := frozen_of_heap h
  clear h
  generalize st0 = s at *
  refine ⟨⟨fun _ => 0#32, fun j hj => ⟨(hc j).trans (hz j hj), hf j⟩, Part.zero _ _ _⟩, fun j hj => ⟨?_, hf _⟩, (hc 24).trans h24, hf 24, (hc 25).trans h25⟩
  rw [e]
  exact (hc _).trans (hs j hj)
end Go.Proofs.YtikdpiedjkailaaDoor
