/- The reference's atMost. -/
import Derived.Test.YtdmeeghgbiffmaaDoorR11
namespace Go.Proofs.YtdmeeghgbiffmaaDoor
open Go Go.RowKit

/-- Is a number of t digits at most another one? -/
def leF (a b : Nat → Nat) : Nat → Bool
  | 0 => true
  | t + 1 => if a t = b t then leF a b t else decide (a t < b t)

set_option maxRecDepth 100000 in
set_option maxHeartbeats 1000000 in
theorem atMost_any (a b : Nat → Nat) (w : World) :
    Calls Tryd.prog 53 #[.agg (n3 a), .agg (n3 b)] w fun e w' => e = .returned (.bool (leF a b 3)) ∧ Ch (fun _ => False) w w' := by
  have HG := Go.Lib.hid (fun i (h : i < 3) => n3_get a i h)
  have HG2 := Go.Lib.hid (fun i (h : i < 3) => n3_get b i h)
  generalize n3 a = B at *
  generalize n3 b = D at *
  go_enter Tryd.func53, Tryd.ntmps53
  go_wp2_with fail
  generalize hW0 : World.alloc (World.alloc w _) _ = W0
  have hg0 : W0.heap[w.heap.size]? = some (.cells B 85) := by
    rw [← hW0]; exact Ch.heap ((Ch.refl (fun _ => False) _).alloc _) (World.alloc_heap_new w _) id
  have hg1 : W0.heap[w.heap.size + 1]? = some (.cells D 85) := by
    rw [← hW0, ← World.size_alloc w]; exact World.alloc_heap_new _ _
  have hc0 : Ch (fun _ => False) w W0 := by rw [← hW0]; exact ((Ch.refl _ w).alloc _).alloc _
  clear hW0
  generalize w.heap.size = A at *
  have H0 := Go.Lib.hid hg0; have H1 := Go.Lib.hid hg1; have HC0 := Go.Lib.hid hc0
  clear hg0 hg1 hc0
  go_loopw [5] (fun i wr => ∃ t : Nat, t ≤ 3 ∧ i = .int .i64 ((t : Int) - 1) ∧ leF a b 3 = leF a b t ∧ Ch (fun _ => False) W0 wr) (fun i _ => (intOf i + 1).toNat)
  case atStart => exact ⟨3, by omega, rfl, rfl, Ch.refl _ _⟩
  case round =>
    obtain ⟨t, ht, rfl, hle, hC⟩ := hrel
    have HC := Go.Lib.hid hC; have HLE := Go.Lib.hid hle
    clear hC hle
    match t, ht with
    | 0, _ =>
      go_wp2_with fail
      go_ret
      exact ⟨by rw [HLE.out]; rfl, HC0.out.trans HC.out⟩
    | s + 1, ht =>
      have es : (((s + 1 : Nat) : Int) - 1) = (s : Int) := by omega
      rw [es]
      clear es
      have c0 : wr.cell? ⟨A, s, none⟩ = some (.int .u64 (a s : Int)) := (cell_of_heap (HC.out.heap H0.out id) s).trans (HG.out s (by omega))
      have c1 : wr.cell? ⟨A + 1, s, none⟩ = some (.int .u64 (b s : Int)) := (cell_of_heap (HC.out.heap H1.out id) s).trans (HG2.out s (by omega))
      have hs3 : (s : Int) < 3 := by omega
      have HLS := Go.Lib.hid (show leF a b (s + 1) = if a s = b s then leF a b s else decide (a s < b s) from rfl)
      by_cases hab : a s = b s
      · have hb : ((a s : Int) == (b s : Int)) = true := by rw [beq_iff_eq]; omega
        have HL2 := Go.Lib.hid (show leF a b (s + 1) = leF a b s by rw [HLS.out, if_pos hab])
        clear HLS hab
        generalize a s = x at *
        generalize b s = y at *
        go_upto_region 4 with (fail)
        go_quiet (fail)
        go_wp2_with fail
        go_roundw
        case rel => exact ⟨s, by omega, by go_num, HLE.out.trans HL2.out, HC.out.drewN _⟩
        case measure => simp [intOf]
      · have hb : ((a s : Int) == (b s : Int)) = false := by rw [beq_eq_false_iff_ne]; omega
        have HL2 := Go.Lib.hid (show leF a b (s + 1) = decide (a s < b s) by rw [HLS.out, if_neg hab])
        have hb2 : ((a s : Int) != (b s : Int)) = true := by rw [bne, hb]; rfl
        clear HLS hab hb
        go_upto_region 4 with (fail)
        go_quiet (fail)
        have d0 : (wr.drewN nq).cell? ⟨A, s, none⟩ = some (.int .u64 (a s : Int)) := c0
        have d1 : (wr.drewN nq).cell? ⟨A + 1, s, none⟩ = some (.int .u64 (b s : Int)) := c1
        have HCq := Go.Lib.hid (HC.out.drewN nq)
        clear c0 c1 HC
        generalize wr.drewN nq = wq at *
        go_upto_region 5 with (fail)
        refine wp_region_quiet_lit (by kernel_rfl) (by kernel_rfl) ?_
        repeat (quiet_step (fail))
        refine wpQuiet_nil ?_
        intro _ hw'
        obtain ⟨n2, rfl⟩ := hw'
        go_wp2_with fail
        go_ret
        refine ⟨?_, HC0.out.trans (HCq.out.drewN n2)⟩
        rw [HLE.out, HL2.out]
        congr 2
end Go.Proofs.YtdmeeghgbiffmaaDoor
