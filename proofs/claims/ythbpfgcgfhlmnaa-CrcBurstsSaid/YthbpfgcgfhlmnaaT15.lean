/- behindNoughts. -/
import Derived.Test.YthbpfgcgfhlmnaaT14
import Derived.WalkMore
namespace Go.Proofs.Ythbpfgcgfhlmnaa
open Go Go.RowKit
attribute [local go_sem high] b_add b_xor b_and b_or b_shr b_shl not32 wrap_un beq32 neg32 b_and1 b_andC
attribute [local go_sem] Oper.semAt_some

theorem halve2 (K q b : Nat) (y : BitVec 32) : sN ((K + K) * q) (sN (K * b) y) = sN (K * (2 * q + b)) y := by
  rw [← sN_add]
  congr 1
  rw [Nat.mul_add, Nat.add_mul, ← Nat.mul_assoc, Nat.mul_comm K 2]
  rw [Nat.mul_assoc 2 K q]; omega
set_option maxHeartbeats 400000 in
theorem powers_any (w : World) : Calls Try.prog 39 #[] w fun e w' => e = .returned (.func (.func 42) #[] #[]) ∧ w = w' := by
  go_enter Try.func39, Try.ntmps39
  go_wp2
  go_ret
  exact ⟨rfl, rfl⟩
theorem and_i64 (n : Nat) (h : n ≤ 1099511627776) : bits .and .i64 (n : Int) 1 = ((n % 2 : Nat) : Int) := by
  show IntKind.i64.wrap ((BitVec.ofInt 64 (n : Int) &&& BitVec.ofInt 64 1).toNat : Int) = _
  have e : (BitVec.ofInt 64 (n : Int) &&& BitVec.ofInt 64 1).toNat = n % 2 := by
    rw [BitVec.toNat_and]
    have h1 : (BitVec.ofInt 64 (n : Int)).toNat = n := by simp; omega
    have h2 : (BitVec.ofInt 64 1).toNat = 1 := by decide
    rw [h1, h2]; exact Nat.and_one_is_mod n
  rw [e, IntKind.wrap_i64]
  omega

set_option maxRecDepth 100000 in
set_option maxHeartbeats 2000000 in
theorem behind_any (x : BitVec 32) (n0 : Nat) (hn0 : n0 ≤ 1099511627776) (w : World) : Calls Try.prog 33 #[.int .u32 (un x), .int .i64 (n0 : Int)] w fun e w' => e = .returned (.int .u32 (un (sN (8 * n0) x))) ∧ Ch (fun _ => False) w w' := by
  refine (callsIn_wide (n := 0)).1 (callsIn_of_wp_marks Try.func33 rfl trivial (wpIn_wide.2 ?_))
  simp only [Try.ntmps33, List.size_toArray, List.length_cons, List.length_nil, Nat.reduceAdd, Nat.reduceSub, Array.replicate_succ,
     Array.replicate_zero, List.push_toArray, List.append_toArray, List.nil_append, List.cons_append]
  go_wp2_with fail
  try go_step3
  go_wp2_with fail
  go_step3
  go_wp2_with (go_at_call 39; refine (powers_any _).mono ?_; rintro e w' ⟨rfl, rfl⟩)
  obtain ⟨W0, hW0, h0, h1, hc⟩ := two_new w #[.int .u32 (un x)] #[.int .i64 (n0 : Int)] 54 2
  rw [hW0]
  have hs0 : W0.heap.size = w.heap.size + 2 := by rw [← hW0]; simp
  generalize hA : w.heap.size = A at *
  have HA := Go.Lib.hid hA
  have H0 := Go.Lib.hid h0; have H1 := Go.Lib.hid h1; have HC := Go.Lib.hid hc; have HS0 := Go.Lib.hid hs0
  clear hW0 h0 h1 hc hs0 hA
  generalize haa : Act.mk _ _ = aa
  have Haa := Go.Lib.hid haa
  have hg : aa.eval (.tmp 6) = .func (.func 42) #[] #[] := by rw [← haa]; rfl
  clear haa
  refine range_powers hg (fun k => k = A ∨ k = A + 1) (fun k hk => by have := HS0.out; omega)
    (fun t W => ∃ (n : Nat) (y : BitVec 32), n = n0 / 2 ^ t ∧ W.heap[A]? = some (.cells #[wv y] 54) ∧ W.heap[A + 1]? = some (.cells #[.int .i64 (n : Int)] 2) ∧ sN (8 * 2 ^ t * n) y = sN (8 * n0) x ∧ Ch (fun _ => False) w W)
    (fun W => W.heap[A]? = some (.cells #[wv (sN (8 * n0) x)] 54) ∧ Ch (fun _ => False) w W)
    ?hI ?hIx ⟨n0, x, by simp, H0.out, H1.out, by simp, HC.out⟩
    (fun t => { tmps := (aa.tmps.setIfInBounds 7 (wv (pw (8 * 2 ^ t)))).setIfInBounds 5 (wv (pw (8 * 2 ^ t))), defers := [] }) ?has ?hbody ?hstop
  case hI =>
    rintro t X Y ⟨n, y, e1, e2, e3, e4, e5⟩ hr
    exact ⟨n, y, e1, hr.heap e2 (by have := HS0.out; omega), hr.heap e3 (by have := HS0.out; omega), e4, e5.then hr (fun i hi h => by have := HS0.out; have := HA.out; omega)⟩
  case hIx =>
    rintro X Y ⟨e2, e5⟩ hr
    exact ⟨hr.heap e2 (by have := HS0.out; omega), e5.then hr (fun i hi h => by have := HS0.out; have := HA.out; omega)⟩
  case has =>
    intro l t W K hK
    rw [← Haa.out]
    rw [← Haa.out] at hK
    simp only [List.setIfInBounds_toArray, List.set_cons_succ, List.set_cons_zero] at hK
    gi_wp2
    exact hK
  case hbody =>
    rintro l t W ht ⟨n, y, e1, e2, e3, e4, e5⟩
    have cw0 : W.cell? ⟨A, 0, none⟩ = some (.int .u32 (un y)) := cell_of_heap e2 0
    have cn0 : W.cell? ⟨A + 1, 0, none⟩ = some (.int .i64 (n : Int)) := cell_of_heap e3 0
    have fw0 : W.frozen? ⟨A, 0, none⟩ = false := frozen_of_heap e2 0
    have fn0 : W.frozen? ⟨A + 1, 0, none⟩ = false := frozen_of_heap e3 0
    have hle : n ≤ 1099511627776 := by rw [e1]; exact Nat.le_trans (Nat.div_le_self _ _) hn0
    have E1 := Go.Lib.hid e1; have E2 := Go.Lib.hid e2; have E3 := Go.Lib.hid e3; have E4 := Go.Lib.hid e4; have E5 := Go.Lib.hid e5
    clear e1 e2 e3 e4 e5
    have HTP := Go.Lib.hid (fun y => times_pw y (8 * 2 ^ t))
    generalize hp : pw (8 * 2 ^ t) = pp at *
    clear hp
    rw [← Haa.out]
    simp only [List.setIfInBounds_toArray, List.set_cons_succ, List.set_cons_zero]
    by_cases hn : n = 0
    · subst hn
      have E6 := Go.Lib.hid (show y = sN (8 * n0) x from E4.out)
      gi_wp2
      exact ⟨⟨by rw [← E6.out]; exact E2.out, E5.out⟩, Ch.refl _ _⟩
    · have hand := and_i64 n hle
      have hz : ((n : Int) == 0) = false := by rw [beq_eq_false_iff_ne]; omega
      have ht40 : t < 41 := by
        by_cases h : t < 41
        · exact h
        · exfalso
          obtain rfl : t = 41 := by omega
          have := E1.out
          rw [Nat.div_eq_of_lt (by omega)] at this
          omega
      obtain ⟨q, b, hb, hnq⟩ : ∃ q b, b < 2 ∧ n = 2 * q + b := ⟨n / 2, n % 2, by omega, by omega⟩
      have HNQ := Go.Lib.hid hnq
      clear hnq
      have E7 := Go.Lib.hid (show q = n0 / 2 ^ (t + 1) by rw [Nat.pow_succ, ← Nat.div_div_eq_div_mul, ← E1.out]; have := HNQ.out; omega)
      have E8 : Hid (sN (8 * 2 ^ (t + 1) * q) (sN (8 * 2 ^ t * b) y) = sN (8 * n0) x) := Go.Lib.hid (by
        rw [show 8 * 2 ^ (t + 1) = 8 * 2 ^ t + 8 * 2 ^ t by rw [Nat.pow_succ]; omega, halve2, ← HNQ.out]; exact E4.out)
      have HQ := Go.Lib.hid (show ((n : Int)) / 2 = (q : Int) by have := HNQ.out; omega)
      have hb2 : b = 0 ∨ b = 1 := by omega
      rcases hb2 with rfl | rfl
      · have h1 : (((n % 2 : Nat) : Int) == 1) = false := by rw [beq_eq_false_iff_ne]; have := HNQ.out; omega
        have HE := Go.Lib.hid (show ((n : Int)) / 2 = ((n0 : Int) / 2 ^ (t + 1)) by have := E7.out; have := HQ.out; simp_all)
        gi_wp2
        refine ⟨⟨y, box_keep E2.out (by omega) _, (box_set E3.out _).trans (by rw [HE.out]), by rw [← E7.out]; exact E8.out, Ch.setCell (S := fun _ => False) E5.out (p := ⟨A + 1, 0, none⟩) (fun h => by have := HA.out; simp at h; omega) _⟩, Ch.setCell (S := fun k => k = A ∨ k = A + 1) (Ch.refl _ W) (p := ⟨A + 1, 0, none⟩) (fun _ => .inr rfl) _⟩
      · have h1 : (((n % 2 : Nat) : Int) == 1) = true := by rw [beq_iff_eq]; have := HNQ.out; omega
        have HE := Go.Lib.hid (show ((n : Int)) / 2 = ((n0 : Int) / 2 ^ (t + 1)) by have := E7.out; have := HQ.out; simp_all)
        have E9 : Hid (sN (8 * 2 ^ (t + 1) * q) (times y pp) = sN (8 * n0) x) := Go.Lib.hid (by rw [HTP.out, ← E8.out, Nat.mul_one])
        gi_wp2
        refine ⟨trivial, rfl, CallsIn.inRound _ (callsIn_wide.2 ((times_any _ _ _).mono ?_))⟩
        rintro e w' ⟨rfl, rfl⟩
        generalize times y pp = y2 at *
        have fn1 : (W.setCell ⟨A, 0, none⟩ (.int .u32 (un y2))).frozen? ⟨A + 1, 0, none⟩ = false := by rw [World.frozen?_setCell]; exact fn0
        have cn1 : (W.setCell ⟨A, 0, none⟩ (.int .u32 (un y2))).cell? ⟨A + 1, 0, none⟩ = some (.int .i64 (n : Int)) := (World.cell?_setCell_other _ _ _ _ (fun h => by cases h)).trans cn0
        have E10 := Go.Lib.hid (box_set E2.out (wv y2)); have E11 := Go.Lib.hid (box_keep E3.out (b := A + 1) (c := A) (by omega) (wv y2))
        have E12 := Go.Lib.hid (Ch.setCell (S := fun k => k = A ∨ k = A + 1) (Ch.refl _ W) (p := ⟨A, 0, none⟩) (fun _ => .inl rfl) (wv y2))
        have E13 := Go.Lib.hid (Ch.setCell (S := fun _ => False) E5.out (p := ⟨A, 0, none⟩) (fun h => by have := HA.out; simp at h; omega) (wv y2))
        gi_wp2
        refine ⟨⟨y2, box_keep E10.out (by omega) _, (box_set E11.out _).trans (by rw [HE.out]), by rw [← E7.out]; exact E9.out, Ch.setCell (S := fun _ => False) E13.out (p := ⟨A + 1, 0, none⟩) (fun h => by have := HA.out; simp at h; omega) _⟩, Ch.setCell (S := fun k => k = A ∨ k = A + 1) E12.out (p := ⟨A + 1, 0, none⟩) (fun _ => .inr rfl) _⟩
  case hstop =>
    rintro D W ⟨e2, e5⟩ hD hdef
    have cw0 : W.cell? ⟨A, 0, none⟩ = some (.int .u32 (un (sN (8 * n0) x))) := cell_of_heap e2 0
    have E2 := Go.Lib.hid e2; have E5 := Go.Lib.hid e5; have HD := Go.Lib.hid hdef
    clear e2 e5 hdef
    generalize hz : sN (8 * n0) x = z at *
    have HZ := Go.Lib.hid hz
    clear hz
    rw [← Haa.out]
    go_wp2
    try rw [Exit.noGoto_ret]
    have hrun := run_takeDeferred (P := Try.prog) HD.out
    refine ⟨by simp, .inl ⟨_, _, rfl, hrun, ?_⟩⟩
    refine ⟨.int .u32 (un z), by simp [results, Try.results33, go_sem], by rw [HZ.out], E5.out.putObj (fun h => by have := HA.out; have := HS0.out; omega) _⟩
end Go.Proofs.Ythbpfgcgfhlmnaa
