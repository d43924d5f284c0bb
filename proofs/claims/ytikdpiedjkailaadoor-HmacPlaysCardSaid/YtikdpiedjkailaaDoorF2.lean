/- Sums under way: New, Copy, Write, Sum, Len. -/
import Derived.Test.YtikdpiedjkailaaDoorF1
namespace Go.Proofs.YtikdpiedjkailaaDoor
open Go.RowKit

set_option maxHeartbeats 400000 in
theorem new_any (w : World) : Calls Tryd.prog 40 #[] w fun e w' => ∃ b, e = .returned (.pointer (some ⟨b, 0, none⟩)) ∧ w.heap.size ≤ b ∧ b < w'.heap.size ∧ (∀ f, RunAt w' b f 0) ∧ Ch (fun _ => False) w w' := by
  have HB := Go.Lib.hid (fun w => begun_any w)
  generalize hrc : runCells st0 = rc
  have HRC := Go.Lib.hid hrc
  rw [hrc] at HB
  have HRS := Go.Lib.hid (hrc ▸ run_size)
  have HRA := Go.Lib.hid (hrc ▸ run_all)
  have HRZ : Hid (26 = rc.size) := Go.Lib.hid (hrc ▸ rfl)
  clear hrc
  go_enter Tryd.func40, Tryd.ntmps40
  go_wp2_with (first | (go_at_call 45; refine (HB.out _).mono ?_; rintro e w1 ⟨rfl, hw1⟩; have HW1 := Go.Lib.hid hw1; clear hw1) | refine wpList_store_row rfl 94 (.tmp 1) (.tmp 2) rfl w1.heap.size rc rfl rfl 94 _ (World.alloc_heap_new w1 _) HRS.out HRZ.out HRA.out ?_)
  go_ret
  refine ⟨_, rfl, HW1.out.size, ?_, fun f => ?_, ?_⟩
  · simp
  · refine run_heap ?_ f
    rw [HRC.out]
    exact heap_setRow (World.alloc_heap_new w1 _)
  · exact (HW1.out.alloc _).setRow (fun h => absurd HW1.out.size (by omega)) _

set_option maxRecDepth 100000 in
set_option maxHeartbeats 400000 in
theorem copy_any (b n : Nat) (f : Nat → UInt8) (w : World) (h : RunAt w b f n) : Calls Tryd.prog 62 #[.pointer (some ⟨b, 0, none⟩)] w fun e w' => ∃ b', e = .returned (.pointer (some ⟨b', 0, none⟩)) ∧ w.heap.size ≤ b' ∧ b' < w'.heap.size ∧ RunAt w' b' f n ∧ Ch (fun _ => False) w w' := by
  obtain ⟨m, hp, hcs⟩ := h.cells
  have HM := Go.Lib.hid h.made
  have HL := Go.Lib.hid (run_loadVar_part (P := Tryd.prog) w ⟨b, 0, none⟩ 94 _ _ hcs Tryd.underlying94 rfl (runC_info _ _ _))
  have HI := Go.Lib.hid (runC_info m (stN f (n / 64)) n); have HA := Go.Lib.hid (runC_all m (stN f (n / 64)) n); have HS := Go.Lib.hid (runC_size m (stN f (n / 64)) n)
  generalize hR : runC m (stN f (n / 64)) n = R at *
  have HR := Go.Lib.hid hR
  clear hR hcs h
  go_enter Tryd.func62, Tryd.ntmps62
  go_wp2_with (first | (go_at_call 56; refine (there_any b _ true HM.out).mono ?_; rintro e w1 ⟨rfl, rfl⟩) | (refine wpList_load_at rfl 94 (.tmp 8) rfl ⟨b, 0, none⟩ rfl (.agg R) HL.out ?_) | refine wpList_store_row rfl 94 (.tmp 3) (.tmp 9) rfl w.heap.size R rfl rfl 94 _ (World.alloc_heap_new w _) HI.out (by rw [HS.out]; rfl) HA.out ?_)
  go_ret
  refine ⟨_, rfl, Nat.le_refl _, by simp, run_of_heap (m := m) ?_ hp, ?_⟩
  · rw [HR.out]; exact heap_setRow (World.alloc_heap_new w _)
  · exact ((Ch.refl _ w).alloc _).setRow (fun h => absurd h (Nat.lt_irrefl _)) _

set_option maxHeartbeats 400000 in
theorem write_any (b n len cap a off : Nat) (p : Option Addr) (f : Nat → UInt8) (w : World) (hp : p = some ⟨a, off, none⟩ ∨ len = 0) (hab : a ≠ b) (hb0 : b ≠ 0) (hn : n + len ≤ 1099511627776)
    (hR : RunAt w b f n) (hK : KAt w) (hg : ∀ i, i < len → w.cell? ⟨a, off + i, none⟩ = some (.int .u8 ((f (n + i)).toNat : Int))) :
    Calls Tryd.prog 41 #[.pointer (some ⟨b, 0, none⟩), .slice p len cap] w fun e w' => e = .returned (.int .i64 0) ∧ Ch (fun k => k = b) w w' ∧ RunAt w' b f (n + len) := by
  have HM := Go.Lib.hid hR.made
  have HRB := Go.Lib.hid (read_bytes b n len cap a off p f w hp hab hb0 hn hR hK hg)
  clear hp hR hK hg
  go_enter Tryd.func41, Tryd.ntmps41
  go_wp2_with fail
  refine (there_any b _ true HM.out).mono ?_; rintro e w1 ⟨rfl, rfl⟩
  go_wp2_with fail
  refine HRB.out.mono ?_; rintro e w1 ⟨rfl, h1, h2⟩
  have H1 := Go.Lib.hid h1; have H2 := Go.Lib.hid h2
  clear h1 h2
  go_wp2_with fail
  go_ret
  exact ⟨rfl, H1.out, H2.out⟩

set_option maxRecDepth 100000 in
set_option maxHeartbeats 400000 in
theorem sumr_any (b n : Nat) (f : Nat → UInt8) (w : World) (hn : n ≤ 1000000000000) (h : RunAt w b f n) (hK : KAt w) : Calls Tryd.prog 57 #[.pointer (some ⟨b, 0, none⟩)] w fun e w' => e = .returned (.agg (hv (hashB f n))) ∧ Ch (fun _ => False) w w' := by
  have hb : b < w.heap.size := cell_lt h.cnt
  have hK0 : 0 < w.heap.size := cell_lt (hK 0 (by omega))
  have HK := Go.Lib.hid hK
  have HRun := Go.Lib.hid h
  clear hK
  obtain ⟨m, hp, hcs⟩ := (h.ch ((Ch.refl (fun _ => False) w).alloc (.cells (arr 32 fun _ => .int .u8 0) 28)) id).cells
  have HL := Go.Lib.hid (run_loadVar_part (P := Tryd.prog) (w.alloc (.cells (arr 32 fun _ => .int .u8 0) 28)) ⟨b, 0, none⟩ 94 _ _ hcs Tryd.underlying94 rfl (runC_info _ _ _))
  have HI := Go.Lib.hid (runC_info m (stN f (n / 64)) n); have HA := Go.Lib.hid (runC_all m (stN f (n / 64)) n); have HS := Go.Lib.hid (runC_size m (stN f (n / 64)) n)
  have HM : Hid ((w.alloc (.cells (arr 32 fun _ => .int .u8 0) 28)).cell? ⟨b, 25, none⟩ = some (.bool true)) := Go.Lib.hid (h.ch ((Ch.refl (fun _ => False) w).alloc (.cells (arr 32 fun _ => .int .u8 0) 28)) id).made
  generalize hR : runC m (stN f (n / 64)) n = R at *
  have HR := Go.Lib.hid hR
  clear hR hcs h
  go_enter Tryd.func57, Tryd.ntmps57
  go_wp2_with (first | (go_at_call 56; refine (there_any b _ true HM.out).mono ?_; rintro e w1 ⟨rfl, rfl⟩) | (refine wpList_load_at rfl 94 (.tmp 9) rfl ⟨b, 0, none⟩ rfl (.agg R) HL.out ?_) | refine wpList_store_row rfl 94 (.tmp 3) (.tmp 10) rfl (w.alloc (.cells (arr 32 fun _ => .int .u8 0) 28)).heap.size R (by simp [Act.eval]) rfl 94 _ (World.alloc_heap_new (w.alloc (.cells (arr 32 fun _ => .int .u8 0) 28)) _) HI.out (by rw [HS.out]; rfl) HA.out ?_)
  have hh0 : (w.alloc (.cells (arr 32 fun _ => .int .u8 0) 28)).heap.size = w.heap.size + 1 := World.size_alloc _ _
  generalize hW3 : World.setRow _ (w.heap.size + 1) R = W3
  have hc3 : Ch (fun _ => False) w W3 := by
    rw [← hW3]
    exact (((Ch.refl _ w).alloc _).alloc _).setRow (fun h => absurd h (by omega)) _
  have hr3 : W3.heap[w.heap.size]? = some (.cells (arr 32 fun _ => .int .u8 0) 28) := by
    rw [← hW3]
    exact (Ch.setRow (S := fun k => k = w.heap.size + 1) ((Ch.refl _ (w.alloc (.cells (arr 32 fun _ => .int .u8 0) 28))).alloc _) (fun _ => rfl) _).heap (World.alloc_heap_new w _) (by omega)
  have hq3 : RunAt W3 (w.heap.size + 1) f n := by
    refine run_of_heap (m := m) ?_ hp
    rw [HR.out, ← hW3, ← hh0]
    exact heap_setRow (World.alloc_heap_new (w.alloc (.cells (arr 32 fun _ => .int .u8 0) 28)) _)
  have HC3 := Go.Lib.hid hc3; have HR3 := Go.Lib.hid hr3
  have HHA := Go.Lib.hid (hash_any (w.heap.size + 1) n f W3 (by omega) hn hq3 (HK.out.ch hc3 id))
  clear hW3 hc3 hr3 hq3 hh0
  refine HHA.out.mono ?_
  rintro e w5 ⟨rfl, hc5⟩
  have HR5 := Go.Lib.hid (hc5.heap HR3.out (by omega))
  have HC5 := Go.Lib.hid (HC3.out.then hc5 (fun i hi h => by omega))
  clear hc5
  go_wp2_with (refine wpList_store_row rfl 28 (.tmp 2) (.tmp 11) rfl w.heap.size (hv (hashB f n)) rfl rfl 28 (arr 32 fun _ => .int .u8 0) HR5.out (hv_info _) (by rw [arr_size]; exact (arr_size _ _).symm) (hv_all _) ?_)
  refine bodyPost_ret (results_cell_row (h := Tryd.results57) _ _ w.heap.size 28 _ (0, 0) _ rfl (heap_setRow HR5.out) Tryd.underlying28 rfl (hv_info _)) rfl ⟨rfl, ?_⟩
  exact HC5.out.setRow (fun h => absurd h (Nat.lt_irrefl _)) _

/-- No sum under way. -/
def NoRun (x : Value) (w : World) : Prop := x = .pointer none ∨ ∃ b, x = .pointer (some ⟨b, 0, none⟩) ∧ w.cell? ⟨b, 25, none⟩ = some (.bool false)
theorem NoRun.ch {x : Value} {w w' : World} (h : NoRun x w) (hc : Ch (fun _ => False) w w') : NoRun x w' := by
  rcases h with h | ⟨b, h1, h2⟩
  · exact .inl h
  · exact .inr ⟨b, h1, hc.get h2 id⟩
theorem dead_any (x : Value) (w : World) (h : NoRun x w) : Calls Tryd.prog 56 #[x] w fun e w' => e = .returned (.bool false) ∧ w = w' := by
  rcases h with rfl | ⟨b, rfl, h⟩
  · exact there_nil w
  · exact there_any b w false h
set_option maxHeartbeats 400000 in
theorem copy_no (x : Value) (w : World) (h : NoRun x w) : Calls Tryd.prog 62 #[x] w fun e w' => e = .returned (.pointer none) ∧ w = w' := by
  have HD := Go.Lib.hid (dead_any x w h)
  clear h
  go_enter Tryd.func62, Tryd.ntmps62
  go_wp2_with (go_at_call 56; refine HD.out.mono ?_; rintro e w1 ⟨rfl, rfl⟩)
  go_ret
  exact ⟨rfl, rfl⟩
set_option maxHeartbeats 400000 in
theorem write_no (x y : Value) (w : World) (h : NoRun x w) : Calls Tryd.prog 41 #[x, y] w fun e w' => e = .returned (.int .i64 1) ∧ w = w' := by
  have HD := Go.Lib.hid (dead_any x w h)
  clear h
  go_enter Tryd.func41, Tryd.ntmps41
  go_wp2_with (go_at_call 56; refine HD.out.mono ?_; rintro e w1 ⟨rfl, rfl⟩)
  go_ret
  exact ⟨rfl, rfl⟩
set_option maxRecDepth 100000 in
set_option maxHeartbeats 400000 in
theorem sumr_no (x : Value) (w : World) (h : NoRun x w) : Calls Tryd.prog 57 #[x] w fun e w' => e = .returned (.agg (hv fun _ => 0)) ∧ Ch (fun _ => False) w w' := by
  have HD := Go.Lib.hid (dead_any x (w.alloc (.cells (arr 32 fun _ => .int .u8 0) 28)) (h.ch ((Ch.refl _ w).alloc _)))
  clear h
  go_enter Tryd.func57, Tryd.ntmps57
  go_wp2_with (first | (go_at_call 56; refine HD.out.mono ?_; rintro e w1 ⟨rfl, rfl⟩) | refine wpList_store_row rfl 28 (.tmp 2) (.tmp 7) rfl w.heap.size (hv fun _ => 0) rfl rfl 28 (arr 32 fun _ => .int .u8 0) (World.alloc_heap_new w _) (hv_info _) (by rw [arr_size]; exact (arr_size _ _).symm) (hv_all _) ?_)
  trace_state
  refine bodyPost_ret (results_cell_row (h := Tryd.results57) _ _ w.heap.size 28 _ (0, 0) _ rfl (heap_setRow (World.alloc_heap_new w _)) Tryd.underlying28 rfl (hv_info _)) rfl ⟨rfl, ?_⟩
  exact ((Ch.refl _ w).alloc _).setRow (fun h => absurd h (Nat.lt_irrefl _)) _
end Go.Proofs.YtikdpiedjkailaaDoor
