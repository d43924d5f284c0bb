/- The reference's numbers of 192 bits: Mul64, Add64, times. -/
import Derived.Test.YtdmeeghgbiffmaaDoorR2
import Derived.Test.YtdmeeghgbiffmaaDoorArr
import Derived.Shelf.Bits.Mul64
import Derived.Laws.Externs
namespace Go.Proofs.YtdmeeghgbiffmaaDoor
open Go Go.RowKit Go.Proofs

set_option maxHeartbeats 1000000 in
theorem mul64_any (x y : Nat) (hx : x < 18446744073709551616) (hy : y < 18446744073709551616) (w : World) :
    Calls Tryd.prog 59 #[.int .u64 x, .int .u64 y] w fun e w' => e = .returned (.tuple #[.int .u64 ((x * y / 18446744073709551616 : Nat) : Int), .int .u64 ((x * y % 18446744073709551616 : Nat) : Int)]) ∧ w' = w := by
  have hhi := (Lib.mul64_hi x y hx hy).2.2.2
  have p1 := Lib.half_mul_le (a := x % 4294967296) (b := y % 4294967296) (by omega) (by omega)
  have p2 := Lib.half_mul_le (a := x / 4294967296) (b := y % 4294967296) (by omega) (by omega)
  have p3 := Lib.half_mul_le (a := x % 4294967296) (b := y / 4294967296) (by omega) (by omega)
  have p4 := Lib.half_mul_le (a := x / 4294967296) (b := y / 4294967296) (by omega) (by omega)
  go_enter Tryd.func59, Tryd.ntmps59
  go_wp2
  rw [Mul64.mulN x y, Mul64.wrapM (x * y)]
  simp (disch := omega) only [Mul64.maskN, Mul64.divN, Mul64.mulN, Mul64.addN, Mul64.wrapN]
  rw [hhi]
  go_ret2
  exact ⟨rfl, rfl⟩
theorem add64_at (x y : Nat) (w : World) : (callFunc 60 #[.int .u64 x, .int .u64 y, .int .u64 0]).run Tryd.prog w =
    .ok (.value (.tuple #[.int .u64 (((x + y) % 18446744073709551616 : Nat) : Int), .int .u64 (((x + y) / 18446744073709551616 : Nat) : Int)])) w := by
  rw [run_callFunc_extern Tryd.func60 (by kernel_rfl) (by kernel_rfl) (by kernel_rfl) (e := add64Entry) (by kernel_rfl), run_add64 (x : Int) (y : Int) 0 (by omega) (by omega) (by omega) (by omega)]
  simp only [Result.andThen]
  congr 5 <;> omega

/-- What is carried behind t digits, and the digits of the product. -/
def cy (a : Nat → Nat) (n : Nat) : Nat → Nat
  | 0 => 0
  | t + 1 => (a t * n + cy a n t) / 18446744073709551616
def tm (a : Nat → Nat) (n t : Nat) : Nat := (a t * n + cy a n t) % 18446744073709551616
theorem cy_lt (a : Nat → Nat) (n : Nat) (ha : ∀ i, i < 3 → a i < 18446744073709551616) (hn : n < 18446744073709551616) (t : Nat) (ht : t ≤ 3) : cy a n t < 18446744073709551616 := by
  induction t with
  | zero => simp [cy]
  | succ t ih =>
    have h1 := ih (by omega)
    have h2 : a t * n ≤ 18446744073709551615 * 18446744073709551615 := Nat.mul_le_mul (by have := ha t (by omega); omega) (by omega)
    show (a t * n + cy a n t) / 18446744073709551616 < _
    omega
theorem tm_lt (a : Nat → Nat) (n t : Nat) : tm a n t < 18446744073709551616 := Nat.mod_lt _ (by omega)
theorem mul_step (p c : Nat) : (p % 18446744073709551616 + c) % 18446744073709551616 = (p + c) % 18446744073709551616 ∧ p / 18446744073709551616 + (p % 18446744073709551616 + c) / 18446744073709551616 = (p + c) / 18446744073709551616 := by
  omega
theorem info85 : (Tryd.prog.info? 85).map (·.size) = some 3 := by kernel_rfl
def n3 (a : Nat → Nat) : Array Value := arr 3 fun i => .int .u64 (a i : Int)
theorem n3_info (a : Nat → Nat) : (Tryd.prog.info? 85).map (·.size) = some (n3 a).size := by unfold n3; rw [arr_size]; exact info85
theorem n3_all (a : Nat → Nat) : (n3 a).all (·.oneCell') = true := arr_all _ _ (fun _ _ => rfl)
theorem n3_size (a b : Nat → Nat) : (n3 a).size = (n3 b).size := by unfold n3; rw [arr_size, arr_size]
theorem n3_get (a : Nat → Nat) (i : Nat) (h : i < 3) : (n3 a)[i]? = some (.int .u64 (a i : Int)) := arr_get _ _ _ h

set_option maxRecDepth 100000 in
set_option maxHeartbeats 1000000 in
theorem times_any (a : Nat → Nat) (n : Nat) (w : World) (ha : ∀ i, i < 3 → a i < 18446744073709551616) (hn : n < 18446744073709551616) :
    Calls Tryd.prog 52 #[.agg (n3 a), .int .u64 n] w fun e w' => e = .returned (.agg (n3 (tm a n))) ∧ Ch (fun _ => False) w w' := by
  have HG := Go.Lib.hid (fun i (h : i < 3) => n3_get a i h)
  have HI1 := Go.Lib.hid (n3_info (tm a n)); have HI2 := Go.Lib.hid (n3_all (tm a n)); have HI3 := Go.Lib.hid (show 3 = (n3 (tm a n)).size by unfold n3; rw [arr_size])
  have HA := Go.Lib.hid ha
  clear ha
  generalize hR : n3 (tm a n) = R at *
  generalize n3 a = B at *
  have HR := Go.Lib.hid hR
  clear hR
  go_enter Tryd.func52, Tryd.ntmps52
  go_wp2_with fail
  generalize hW0 : World.alloc (World.alloc (World.alloc w _) _) _ = W0
  have hg0 : W0.heap[w.heap.size]? = some (.cells B 85) := by
    rw [← hW0]; exact Ch.heap (((Ch.refl (fun _ => False) _).alloc _).alloc _) (World.alloc_heap_new w _) id
  have hg1 : W0.heap[w.heap.size + 1]? = some (.cells #[.int .u64 0, .int .u64 0, .int .u64 0] 85) := by
    rw [← hW0]; exact Ch.heap (((Ch.refl (fun _ => False) (((w.alloc _)).alloc (.cells #[.int .u64 0, .int .u64 0, .int .u64 0] 85))).alloc _)) (by rw [← World.size_alloc w]; exact World.alloc_heap_new _ _) id
  have hg2 : W0.heap[w.heap.size + 1 + 1]? = some (.cells (arr 3 fun j => if j < 0 then .int .u64 (tm a n j : Int) else .int .u64 0) 85) := by
    rw [← hW0, ← World.size_alloc w, ← World.size_alloc (w.alloc _)]; exact World.alloc_heap_new _ _
  have hc0 : Ch (fun _ => False) w W0 := by rw [← hW0]; exact (((Ch.refl _ w).alloc _).alloc _).alloc _
  clear hW0
  generalize hA : w.heap.size = A at *
  have HWA := Go.Lib.hid hA
  have HG0 := Go.Lib.hid hg0; have HG1 := Go.Lib.hid hg1; have HG2 := Go.Lib.hid hg2; have HC0 := Go.Lib.hid hc0
  clear hA hg0 hg1 hg2 hc0
  go_loopw [6, 7, 8, 9, 10, 11] (fun c i _ _ _ _ wr => ∃ t : Nat, t ≤ 3 ∧ i = .int .i64 t ∧ c = .int .u64 (cy a n t : Int) ∧ wr.heap[A + 1 + 1]? = some (.cells (arr 3 fun j => if j < t then .int .u64 (tm a n j : Int) else .int .u64 0) 85) ∧ Ch (fun k => k = A + 1 + 1) W0 wr) (fun _ i _ _ _ _ _ => 3 - (intOf i).toNat)
  case atStart => exact ⟨0, by omega, rfl, rfl, HG2.out, Ch.refl _ _⟩
  case round =>
    obtain ⟨t, ht, rfl, rfl, hh, hC⟩ := hrel
    have HH := Go.Lib.hid hh; have HC := Go.Lib.hid hC
    clear hh hC
    by_cases hlt : t < 3
    · have hti : (t : Int) < 3 := by omega
      have cA : wr.cell? ⟨A, t, none⟩ = some (.int .u64 (a t : Int)) := (cell_of_heap (HC.out.heap HG0.out (by omega)) t).trans (HG.out t hlt)
      have hm := fun W => mul64_any (a t) n (HA.out t hlt) hn W
      have hadd := fun W => add64_at (a t * n % 18446744073709551616) (cy a n t) W
      have hst := mul_step (a t * n) (cy a n t)
      have hcy := cy_lt a n HA.out hn (t + 1) (by omega)
      have hwr : IntKind.u64.wrap (((a t * n / 18446744073709551616 : Nat) : Int) + (((a t * n % 18446744073709551616 + cy a n t) / 18446744073709551616 : Nat) : Int)) = (cy a n (t + 1) : Int) := by
        have e : a t * n / 18446744073709551616 + (a t * n % 18446744073709551616 + cy a n t) / 18446744073709551616 = cy a n (t + 1) := hst.2
        rw [← e] at hcy ⊢
        rw [IntKind.wrap_u64]
        omega
      have HTM := Go.Lib.hid (show (a t * n % 18446744073709551616 + cy a n t) % 18446744073709551616 = tm a n t from hst.1)
      clear hst hcy
      generalize hSS : (a t * n % 18446744073709551616 + cy a n t) % 18446744073709551616 = S at *
      generalize (a t * n % 18446744073709551616 + cy a n t) / 18446744073709551616 = DD at *
      generalize a t * n % 18446744073709551616 = Lo at *
      have HS := Go.Lib.hid hSS
      clear hSS
      generalize a t * n / 18446744073709551616 = Hi at *
      have HM := Go.Lib.hid hm
      clear hm
      generalize a t = at_ at *
      generalize hce : cy a n (t + 1) = c1 at *
      have HCE := Go.Lib.hid hce
      clear hce
      generalize cy a n t = c0 at *
      go_upto_region 7 with (go_at_call 59; refine (HM.out _).mono ?_; rintro e w1 ⟨rfl, rfl⟩)
      clear cA
      have ct : w1.cell? ⟨A + 1 + 1, t, none⟩ = some (.int .u64 0) := (cell_of_heap HH.out t).trans (by rw [arr_get _ _ _ hlt, if_neg (by omega)])
      have ft : w1.frozen? ⟨A + 1 + 1, t, none⟩ = false := frozen_of_heap HH.out t
      have hmod : ((Lo : Int) + (c0 : Int)) % 18446744073709551616 = (S : Int) := by have := HS.out; omega
      go_wp2_with fail
      go_roundw
      case rel =>
        refine ⟨t + 1, by omega, by go_num, by first | rfl | rw [HCE.out], ?_, Ch.setCell (S := fun k => k = A + 1 + 1) HC.out (p := ⟨A + 1 + 1, t, none⟩) (fun _ => rfl) _⟩
        refine (heap_set HH.out t _).trans ?_
        congr 2
        exact arr_congr (fun j hj => by
          by_cases e : j = t
          · subst e; simp [HTM.out]
          · simp only [if_neg e]
            by_cases e2 : j < t
            · rw [if_pos e2, if_pos (by omega)]
            · rw [if_neg e2, if_neg (by omega)])
      case measure => simp [intOf]; omega
    · obtain rfl : t = 3 := by omega
      have hx : wr.heap[A + 1 + 1]? = some (.cells R 85) := by
        refine HH.out.trans ?_
        rw [← HR.out]
        unfold n3
        rw [arr_congr (fun j hj => if_pos hj)]
      have HX := Go.Lib.hid hx
      have HRR := Go.Lib.hid (HC.out.heap HG1.out (by omega))
      have HCH := Go.Lib.hid (show Ch (fun _ => False) w wr from HC0.out.then HC.out (fun i hi h => by have := HWA.out; omega))
      clear hx hlt
      go_wp2_with (first | (refine wpList_load_row rfl 85 (.tmp 5) rfl (A + 1 + 1) rfl 85 R (0, 0) _ HX.out Tryd.underlying85 rfl HI1.out ?_) | (refine wpList_store_row rfl 85 (.tmp 4) (.tmp 36) rfl (A + 1) R rfl rfl 85 #[.int .u64 0, .int .u64 0, .int .u64 0] HRR.out HI1.out HI3.out HI2.out ?_))
      refine bodyPost_ret (results_cell_row (h := Tryd.results52) _ _ (A + 1) 85 R (0, 0) _ rfl (heap_setRow HRR.out) Tryd.underlying85 rfl HI1.out) rfl ⟨rfl, ?_⟩
      exact HCH.out.setRow (fun h => by have := HWA.out; omega) _
end Go.Proofs.YtdmeeghgbiffmaaDoor
