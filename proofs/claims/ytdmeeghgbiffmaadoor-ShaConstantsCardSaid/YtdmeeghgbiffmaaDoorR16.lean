/- The reference's Rooted. -/
import Derived.Test.YtdmeeghgbiffmaaDoorR15
import Derived.Test.YtdmeeghgbiffmaaDoorR3
namespace Go.Proofs.YtdmeeghgbiffmaaDoor
open Go Go.RowKit

set_option maxRecDepth 100000 in
theorem sq_all : ((List.range 312).all fun p => (List.range 20).all fun d => !(decide (2 ≤ d) && decide (p < d * d) && (decide (d = 2) || decide ((d - 1) * (d - 1) ≤ p))) || decide (d = sq p)) = true := by decide +kernel
theorem sq_of (p d : Nat) (hp : p < 312) (hd : d < 20) (h2 : 2 ≤ d) (h3 : p < d * d) (h4 : d = 2 ∨ (d - 1) * (d - 1) ≤ p) : d = sq p := by
  have h := sq_all
  rw [List.all_eq_true] at h
  have h1 := h p (List.mem_range.2 hp)
  rw [List.all_eq_true] at h1
  have h5 := h1 d (List.mem_range.2 hd)
  simp only [Bool.or_eq_true, Bool.not_eq_true', Bool.and_eq_false_iff, decide_eq_true_eq, decide_eq_false_iff_not] at h5
  rcases h5 with h5 | h5
  · rcases h5 with h5 | h5
    · rcases h5 with h5 | h5
      · exact absurd h2 h5
      · exact absurd h3 h5
    · simp only [Bool.or_eq_false_iff, decide_eq_false_iff_not] at h5
      rcases h4 with h4 | h4
      · exact absurd h4 h5.1
      · exact absurd h4 h5.2
  · exact h5

theorem kts_small : ∀ t, t < 64 → kts.getD t 0 < 4294967296 := by decide
theorem kt_nat (t : Nat) (h : t < 64) : (kt t).toNat = kts.getD t 0 := by
  unfold kt
  rw [BitVec.toNat_ofNat, Nat.mod_eq_of_lt (kts_small t h)]
theorem st0_nat (t : Nat) (h : t < 8) : (st0.word t).toNat = st0w.getD t 0 := by
  match t, h with | 0, _ => rfl | 1, _ => rfl | 2, _ => rfl | 3, _ => rfl | 4, _ => rfl | 5, _ => rfl | 6, _ => rfl | 7, _ => rfl
theorem closed_of (q c : Nat) (h2 : 2 ≤ q) (hp : isP q = true) (hc : c = cnt q) (h : closedAt q = true) : ex (hitF (limF q 3) (kt c).toNat 3) 17 = true ∧ (c < 8 → ex (hitF (limF q 2) (st0.word c).toNat 2) 17 = true) := by
  unfold closedAt at h
  rw [← hc, hp] at h
  simp only [Bool.and_true, Bool.or_eq_true, Bool.not_eq_true', Bool.and_eq_true, decide_eq_true_eq, decide_eq_false_iff_not] at h
  rcases h with h | ⟨⟨h64, h3⟩, h4⟩
  · exact absurd h2 h
  · rw [kt_nat c h64]
    refine ⟨h3, fun h8 => ?_⟩
    rw [st0_nat c h8]
    rcases h4 with h4 | h4
    · omega
    · exact h4
set_option maxRecDepth 100000 in
set_option maxHeartbeats 2000000 in
theorem rooted_any (w : World) : Calls Tryd.prog 10 #[] w fun e w' => e = .returned (.bool true) ∧ Ch (fun _ => False) w w' := by
  have HKA := Go.Lib.hid (fun W => k_any W)
  have HFA := Go.Lib.hid (fun W => rfirst_any W)
  generalize hkk : (arr 64 fun t => wv (kt t)) = kk at *
  have hks : kk.size = 64 := by rw [← hkk, arr_size]
  have hka : kk.all (·.oneCell') = true := by rw [← hkk]; exact arr_all _ _ (fun i _ => rfl)
  have HKK := Go.Lib.hid (fun t (ht : t < 64) => (show kk[t]? = some (wv (kt t)) by rw [← hkk]; exact arr_get _ _ _ ht))
  have HKS := Go.Lib.hid (show (Tryd.prog.info? 69).map (·.size) = some kk.size by rw [hks]; exact info69); have HKL := Go.Lib.hid hka
  have HKZ := Go.Lib.hid (show (arr 64 fun _ => (.int .u32 0 : Value)).size = kk.size by rw [arr_size, hks])
  clear hkk hks hka
  have HSC := Go.Lib.hid (show (#[wv st0.a, wv st0.b, wv st0.c, wv st0.d, wv st0.e, wv st0.f, wv st0.g, wv st0.h] : Array Value) = st0.cells from rfl)
  rw [HSC.out] at HFA
  have HS1 := Go.Lib.hid (show (Tryd.prog.info? 26).map (·.size) = some st0.cells.size by rw [cells_arr, arr_size]; exact info26)
  have HS2 := Go.Lib.hid (show 8 = st0.cells.size by rw [cells_arr, arr_size]); have HS3 := Go.Lib.hid (st_cells_all st0)
  have HSG := Go.Lib.hid (fun j (hj : j < 8) => (show st0.cells[j]? = some (wv (st0.word j)) by rw [cells_arr]; exact arr_get _ _ _ hj))
  generalize st0.cells = S0 at *
  go_enter Tryd.func10, Tryd.ntmps10
  go_wp2_with fail
  refine (HKA.out _).mono ?_; rintro e w1 ⟨rfl, hw1⟩
  have HC1 := Go.Lib.hid hw1; clear hw1
  go_wp2_with fail
  refine (HFA.out _).mono ?_; rintro e w2 ⟨rfl, hw2⟩
  have HC2 := Go.Lib.hid (show Ch (fun _ => False) w w2 by rw [hw2]; exact HC1.out.alloc _); clear hw2
  go_upto_region 2 with (first | (refine wpList_store_row rfl 69 (.tmp 1) (.tmp 7) rfl w2.heap.size kk rfl rfl 69 (arr 64 fun _ => .int .u32 0) (two_first w2 _ _) HKS.out HKZ.out HKL.out ?_) | (refine wpList_store_row rfl 26 (.tmp 2) (.tmp 8) rfl (w2.heap.size + 1) S0 rfl rfl 26 #[.int .u32 0, .int .u32 0, .int .u32 0, .int .u32 0, .int .u32 0, .int .u32 0, .int .u32 0, .int .u32 0] (two_second w2 _ _ _ _) HS1.out HS2.out HS3.out ?_))
  generalize hW3 : World.setRow _ _ _ = W3
  have hk3 : W3.heap[w2.heap.size]? = some (.cells kk 69) := by
    rw [← hW3]; refine Ch.heap ((Ch.refl (fun k => k = w2.heap.size + 1) _).setRow (fun _ => rfl) _) ?_ (by omega)
    exact heap_setRow (two_first w2 _ _)
  have hs3 : W3.heap[w2.heap.size + 1]? = some (.cells S0 26) := by
    rw [← hW3]; exact heap_setRow (two_second w2 _ _ _ _)
  have hc3 : Ch (fun _ => False) w2 W3 := by
    rw [← hW3]; exact ((((Ch.refl _ w2).alloc _).alloc _).setRow (fun h => absurd h (by omega)) _).setRow (fun h => absurd h (by omega)) _
  have HK3 := Go.Lib.hid hk3; have HS4 := Go.Lib.hid hs3; have HC3 := Go.Lib.hid (HC2.out.trans hc3)
  clear hW3 hk3 hs3 hc3 HC1 HC2 HKA HFA
  generalize w2.heap.size = A at *
  go_wp2_with fail
  go_loopw [3, 4, 5, 6] (fun i p _ _ wr => ∃ q : Nat, 2 ≤ q ∧ q ≤ 312 ∧ p = .int .u64 q ∧ i = .int .i64 (cnt q : Int) ∧ Ch (fun _ => False) W3 wr) (fun _ p _ _ _ => 400 - (intOf p).toNat)
  case atStart => exact ⟨2, by omega, by omega, rfl, rfl, Ch.refl _ _⟩
  case round =>
    obtain ⟨q, hq2, hq3, rfl, rfl, hC⟩ := hrel
    have HC := Go.Lib.hid hC; clear hC
    by_cases hlt : cnt q < 64
    · have hq : q < 312 := by
        by_cases e : q = 312
        · subst e; rw [cnt_end] at hlt; omega
        · omega
      have hlti : (cnt q : Int) < 64 := by omega
      have HCN := Go.Lib.hid (show cnt (q + 1) = if 2 ≤ q && isP q then cnt q + 1 else cnt q from rfl)
      have HCL := Go.Lib.hid (show closedAt q = true by have h := closed_all; rw [List.all_eq_true] at h; exact h q (List.mem_range.2 hq))
      have HLT := Go.Lib.hid hlt
      have HEC := Go.Lib.hid (show ∃ c, c = cnt q from ⟨_, rfl⟩)
      obtain ⟨c, hc⟩ := HEC.out
      have HCQ := Go.Lib.hid hc
      rw [← hc] at hlti ⊢
      clear hc hlt HEC
      go_wp2_with fail
      go_loopw [5, 6] (fun b d wz => ∃ e : Nat, 2 ≤ e ∧ e < 20 ∧ d = .int .u64 e ∧ b = .bool (tr q e) ∧ (e = 2 ∨ (e - 1) * (e - 1) ≤ q) ∧ wz = wr) (fun _ d _ => 40 - (intOf d).toNat)
      case atStart => exact ⟨2, by omega, by omega, rfl, rfl, .inl rfl, rfl⟩
      case round =>
        obtain ⟨e, he2, he20, rfl, rfl, hee, rfl⟩ := hrel
        have hm : IntKind.u64.wrap ((e : Int) * (e : Int)) = ((e * e : Nat) : Int) := by
          have h : e * e ≤ 20 * 20 := Nat.mul_le_mul (by omega) (by omega)
          rw [← Int.natCast_mul, IntKind.wrap_u64]; omega
        by_cases hdd : e * e ≤ q
        · have he18 : e < 18 := by
            by_cases h : e < 18
            · exact h
            · have : 18 * 18 ≤ e * e := Nat.mul_le_mul (by omega) (by omega)
              omega
          have hdi : ((e * e : Nat) : Int) ≤ (q : Int) := by omega
          have HSQ := Go.Lib.hid (show (e + 1 - 1) * (e + 1 - 1) ≤ q from hdd)
          have hez : ¬ (e : Int) = 0 := by omega
          have hrm : ((q : Int)).tmod (e : Int) = ((q % e : Nat) : Int) := by rw [Int.tmod_eq_emod_of_nonneg (by omega)]; rfl
          have HTR := Go.Lib.hid (show tr q (e + 1) = (tr q e && (decide (e < 2) || q % e != 0)) from rfl)
          have HE2 := Go.Lib.hid (show decide (e < 2) = false by rw [decide_eq_false_iff_not]; omega)
          rw [HE2.out, Bool.false_or] at HTR
          clear hdd HE2
          generalize e * e = sqv at *
          generalize q % e = r at *
          generalize tr q e = b at *
          cases b with
          | false =>
            go_wp2_with fail
            go_roundw
            case rel => exact ⟨e + 1, by omega, by omega, by go_num, by rw [HTR.out]; rfl, .inr HSQ.out, trivial⟩
            case measure => simp [intOf]; omega
          | true =>
            by_cases hr0 : r = 0
            · subst hr0
              go_wp2_with fail
              go_roundw
              case rel => exact ⟨e + 1, by omega, by omega, by go_num, by rw [HTR.out]; rfl, .inr HSQ.out, trivial⟩
              case measure => simp [intOf]; omega
            · have hrb : ((r : Int) != 0) = true := by simp; omega
              have HRB := Go.Lib.hid (show (r != 0) = true by simp; omega)
              go_wp2_with fail
              go_roundw
              case rel => exact ⟨e + 1, by omega, by omega, by go_num, by rw [HTR.out, HRB.out]; rfl, .inr HSQ.out, trivial⟩
              case measure => simp [intOf]; omega
        · have hdi : ¬ ((e * e : Nat) : Int) ≤ (q : Int) := by omega
          have HSQ := Go.Lib.hid (show e = sq q from sq_of q e hq he20 he2 (by omega) hee)
          have HIP := Go.Lib.hid (show tr q e = isP q by rw [HSQ.out]; rfl)
          clear hdd
          generalize e * e = sqv at *
          generalize tr q e = b at *
          cases b with
          | false =>
            have HCC := Go.Lib.hid (show cnt (q + 1) = c by rw [HCN.out, ← HIP.out, HCQ.out]; simp)
            go_wp2_with fail
            go_roundw
            case rel => exact ⟨q + 1, by omega, by omega, by go_num, by rw [HCC.out], HC.out⟩
            case measure => simp [intOf]; omega
          | true =>
            have HCC := Go.Lib.hid (show cnt (q + 1) = c + 1 by rw [HCN.out, ← HIP.out, HCQ.out]; simp [hq2])
            obtain ⟨hk3, hk2⟩ := closed_of q c hq2 HIP.out.symm HCQ.out HCL.out
            have HB3 := Go.Lib.hid (fun W => (show Calls Tryd.prog 36 #[.int .u32 (un (kt c)), .int .u64 q, .int .i64 3] W fun e w' => e = .returned (.bool true) ∧ Ch (fun _ => False) W w' by have h := behind3 (kt c) q W (by omega); rw [hk3] at h; exact h))
            have ck : wr.cell? ⟨A, c, none⟩ = some (.int .u32 (un (kt c))) := (cell_of_heap (HC.out.heap HK3.out id) c).trans (HKK.out c (by omega))
            by_cases h8 : c < 8
            · have h8i : (c : Int) < 8 := by omega
              have HB2 := Go.Lib.hid (fun W => (show Calls Tryd.prog 36 #[.int .u32 (un (st0.word c)), .int .u64 q, .int .i64 2] W fun e w' => e = .returned (.bool true) ∧ Ch (fun _ => False) W w' by have h := behind2 (st0.word c) q W (by omega); rw [hk2 h8] at h; exact h))
              clear hk2 hk3
              go_wp2_with fail
              refine (HB3.out _).mono ?_; rintro e w9 ⟨rfl, hw9⟩
              have cs9 : w9.cell? ⟨A + 1, c, none⟩ = some (.int .u32 (un (st0.word c))) := (cell_of_heap (hw9.heap (HC.out.heap HS4.out id) id) c).trans (HSG.out c h8)
              have HC9 := Go.Lib.hid (HC.out.trans hw9); clear hw9 ck
              go_wp2_with fail
              refine (HB2.out _).mono ?_; rintro e w10 ⟨rfl, hw10⟩
              have HC10 := Go.Lib.hid (HC9.out.trans hw10); clear hw10 cs9
              go_wp2_with fail
              go_roundw
              case rel => exact ⟨q + 1, by omega, by omega, by go_num, by rw [HCC.out]; go_num, HC10.out⟩
              case measure => simp [intOf]; omega
            · have h8i : ¬ (c : Int) < 8 := by omega
              clear hk2 hk3
              go_wp2_with fail
              refine (HB3.out _).mono ?_; rintro e w9 ⟨rfl, hw9⟩
              have HC9 := Go.Lib.hid (HC.out.trans hw9); clear hw9 ck
              go_wp2_with fail
              go_roundw
              case rel => exact ⟨q + 1, by omega, by omega, by go_num, by rw [HCC.out]; go_num, HC9.out⟩
              case measure => simp [intOf]; omega
    · have hge : ¬ (cnt q : Int) < 64 := by omega
      go_wp2_with fail
      go_ret
      exact ⟨rfl, HC3.out.trans HC.out⟩
end Go.Proofs.YtdmeeghgbiffmaaDoor
