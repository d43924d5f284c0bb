/- Noughts and Patch of both sides. -/
import Derived.Test.YthbpfgcgfhlmnaaT12
import Derived.Test.YthbpfgcgfhlmnaaT15
namespace Go.Proofs.Ythbpfgcgfhlmnaa
open Go Go.RowKit
attribute [local go_sem high] b_add b_xor b_and b_or b_shr b_shl not32 wrap_un beq32 neg32

theorem b_turn (t : TypeId) (x : BitVec 32) : binOp .sub t (.int .u32 4294967295) (.int .u32 (un x)) = pure (.int .u32 (un (~~~x))) := by
  show pure (Value.int .u32 (IntKind.u32.wrap (4294967295 - un x))) = _
  congr 2
  rw [IntKind.wrap_u32']
  unfold un
  rw [BitVec.toNat_not]
  have := x.isLt
  omega
attribute [local go_sem high] b_turn
/-- A sum that goes on by so many noughts. -/
def far0 (x : BitVec 32) (n : Nat) : BitVec 32 := sN (8 * n) x
def inb (n : Int) : Prop := 0 ≤ n ∧ n ≤ 1099511627776
set_option maxHeartbeats 400000 in
theorem noughts_bad (x : BitVec 32) (n : Int) (h : ¬ inb n) (w : World) : Calls Try.prog 18 #[.int .u32 (un x), .int .i64 n] w fun e w' => e = .returned (.tuple #[.int .u32 0, .int .i64 2]) ∧ w = w' := by
  by_cases h0 : n < 0
  · exact noughts_neg w (un x) n h0
  · have h1 : 1099511627776 < n := by unfold inb at h; omega
    go_enter Try.func18, Try.ntmps18
    go_wp2
    refine bodyPost_ret (v := .tuple #[.int .u32 0, .int .i64 2]) (by simp [results, Try.results18, go_sem]) rfl ⟨rfl, rfl⟩
set_option maxHeartbeats 400000 in
theorem noughts_in (x : BitVec 32) (n : Nat) (h : n ≤ 1099511627776) (w : World) : Calls Try.prog 18 #[.int .u32 (un x), .int .i64 (n : Int)] w fun e w' => e = .returned (.tuple #[.int .u32 (un (~~~(far0 (~~~x) n))), .int .i64 0]) ∧ Ch (fun _ => False) w w' := by
  have HB := Go.Lib.hid (fun W => behind_any (~~~x) n h W)
  have hi : (n : Int) ≤ 1099511627776 := by omega
  have HZ := Go.Lib.hid (show sN (8 * n) (~~~x) = far0 (~~~x) n from rfl)
  rw [HZ.out] at HB
  generalize far0 (~~~x) n = z at *
  go_enter Try.func18, Try.ntmps18
  go_wp2_with (first | (go_at_call 27; refine (wordOf_any _ _).mono ?_; rintro e w' ⟨rfl, rfl⟩) | (go_at_call 33; refine (HB.out _).mono ?_; rintro e w1 ⟨rfl, hw1⟩; have HC1 := Go.Lib.hid hw1; clear hw1) | (go_at_call 29; refine (wsum_any _ _).mono ?_; rintro e w' ⟨rfl, rfl⟩))
  refine bodyPost_ret (v := .tuple #[.int .u32 (un (~~~z)), .int .i64 0]) (by simp [results, Try.results18, go_sem]) rfl ⟨rfl, HC1.out⟩
set_option maxHeartbeats 400000 in
theorem rnoughts_bad (x : BitVec 32) (n : Int) (h : ¬ inb n) (w : World) : Calls Try.prog 19 #[.int .u32 (un x), .int .i64 n] w fun e w' => e = .returned (.tuple #[.int .u32 0, .int .i64 2]) ∧ w = w' := by
  by_cases h0 : n < 0
  · go_enter Try.func19, Try.ntmps19
    go_wp2
    refine bodyPost_ret (v := .tuple #[.int .u32 0, .int .i64 2]) (by simp [results, Try.results19, go_sem]) rfl ⟨rfl, rfl⟩
  · have h1 : 1099511627776 < n := by unfold inb at h; omega
    go_enter Try.func19, Try.ntmps19
    go_wp2
    refine bodyPost_ret (v := .tuple #[.int .u32 0, .int .i64 2]) (by simp [results, Try.results19, go_sem]) rfl ⟨rfl, rfl⟩
set_option maxHeartbeats 400000 in
theorem rnoughts_in (x : BitVec 32) (n : Nat) (h : n ≤ 1099511627776) (w : World) : Calls Try.prog 19 #[.int .u32 (un x), .int .i64 (n : Int)] w fun e w' => e = .returned (.tuple #[.int .u32 (un (~~~(far0 (~~~x) n))), .int .i64 0]) ∧ Ch (fun _ => False) w w' := by
  have HB := Go.Lib.hid (fun W => far_any (~~~x) n h W)
  have hi : (n : Int) ≤ 1099511627776 := by omega
  have HZ := Go.Lib.hid (show sN (8 * n) (~~~x) = far0 (~~~x) n from rfl)
  rw [HZ.out] at HB
  generalize far0 (~~~x) n = z at *
  go_enter Try.func19, Try.ntmps19
  go_wp2_with (go_at_call 34; refine (HB.out _).mono ?_; rintro e w1 ⟨rfl, hw1⟩; have HC1 := Go.Lib.hid hw1; clear hw1)
  refine bodyPost_ret (v := .tuple #[.int .u32 (un (~~~z)), .int .i64 0]) (by simp [results, Try.results19, go_sem]) rfl ⟨rfl, HC1.out⟩
set_option maxHeartbeats 400000 in
theorem patch_bad (x y z : BitVec 32) (n : Int) (h : ¬ inb n) (w : World) : Calls Try.prog 21 #[.int .u32 (un x), .int .u32 (un y), .int .u32 (un z), .int .i64 n] w fun e w' => e = .returned (.tuple #[.int .u32 0, .int .i64 2]) ∧ w = w' := by
  by_cases h0 : n < 0
  · go_enter Try.func21, Try.ntmps21
    go_wp2
    refine bodyPost_ret (v := .tuple #[.int .u32 0, .int .i64 2]) (by simp [results, Try.results21, go_sem]) rfl ⟨rfl, rfl⟩
  · have h1 : 1099511627776 < n := by unfold inb at h; omega
    go_enter Try.func21, Try.ntmps21
    go_wp2
    refine bodyPost_ret (v := .tuple #[.int .u32 0, .int .i64 2]) (by simp [results, Try.results21, go_sem]) rfl ⟨rfl, rfl⟩
set_option maxHeartbeats 400000 in
theorem patch_in (x y z : BitVec 32) (n : Nat) (h : n ≤ 1099511627776) (w : World) : Calls Try.prog 21 #[.int .u32 (un x), .int .u32 (un y), .int .u32 (un z), .int .i64 (n : Int)] w fun e w' => e = .returned (.tuple #[.int .u32 (un (x ^^^ far0 (y ^^^ z) n)), .int .i64 0]) ∧ Ch (fun _ => False) w w' := by
  have HB := Go.Lib.hid (fun W => behind_any (y ^^^ z) n h W)
  have hi : (n : Int) ≤ 1099511627776 := by omega
  have HZ := Go.Lib.hid (show sN (8 * n) (y ^^^ z) = far0 (y ^^^ z) n from rfl)
  rw [HZ.out] at HB
  generalize far0 (y ^^^ z) n = v at *
  go_enter Try.func21, Try.ntmps21
  go_wp2_with (go_at_call 33; refine (HB.out _).mono ?_; rintro e w1 ⟨rfl, hw1⟩; have HC1 := Go.Lib.hid hw1; clear hw1)
  refine bodyPost_ret (v := .tuple #[.int .u32 (un (x ^^^ v)), .int .i64 0]) (by simp [results, Try.results21, go_sem]) rfl ⟨rfl, HC1.out⟩
set_option maxHeartbeats 400000 in
theorem rpatch_bad (x y z : BitVec 32) (n : Int) (h : ¬ inb n) (w : World) : Calls Try.prog 22 #[.int .u32 (un x), .int .u32 (un y), .int .u32 (un z), .int .i64 n] w fun e w' => e = .returned (.tuple #[.int .u32 0, .int .i64 2]) ∧ w = w' := by
  by_cases h0 : n < 0
  · go_enter Try.func22, Try.ntmps22
    go_wp2
    refine bodyPost_ret (v := .tuple #[.int .u32 0, .int .i64 2]) (by simp [results, Try.results22, go_sem]) rfl ⟨rfl, rfl⟩
  · have h1 : 1099511627776 < n := by unfold inb at h; omega
    go_enter Try.func22, Try.ntmps22
    go_wp2
    refine bodyPost_ret (v := .tuple #[.int .u32 0, .int .i64 2]) (by simp [results, Try.results22, go_sem]) rfl ⟨rfl, rfl⟩
set_option maxHeartbeats 400000 in
theorem rpatch_in (x y z : BitVec 32) (n : Nat) (h : n ≤ 1099511627776) (w : World) : Calls Try.prog 22 #[.int .u32 (un x), .int .u32 (un y), .int .u32 (un z), .int .i64 (n : Int)] w fun e w' => e = .returned (.tuple #[.int .u32 (un (x ^^^ far0 (y ^^^ z) n)), .int .i64 0]) ∧ Ch (fun _ => False) w w' := by
  have HB := Go.Lib.hid (fun W => far_any (y ^^^ z) n h W)
  have hi : (n : Int) ≤ 1099511627776 := by omega
  have HZ := Go.Lib.hid (show sN (8 * n) (y ^^^ z) = far0 (y ^^^ z) n from rfl)
  rw [HZ.out] at HB
  generalize far0 (y ^^^ z) n = v at *
  go_enter Try.func22, Try.ntmps22
  go_wp2_with (go_at_call 34; refine (HB.out _).mono ?_; rintro e w1 ⟨rfl, hw1⟩; have HC1 := Go.Lib.hid hw1; clear hw1)
  refine bodyPost_ret (v := .tuple #[.int .u32 (un (x ^^^ v)), .int .i64 0]) (by simp [results, Try.results22, go_sem]) rfl ⟨rfl, HC1.out⟩
/-- Both answers of a number are alike. -/
theorem noughts_both (x : BitVec 32) (n : Int) : ∃ s er : Int, (∀ w, Calls Try.prog 18 #[.int .u32 (un x), .int .i64 n] w fun e w' => e = .returned (.tuple #[.int .u32 s, .int .i64 er]) ∧ Ch (fun _ => False) w w') ∧
    ∀ w, Calls Try.prog 19 #[.int .u32 (un x), .int .i64 n] w fun e w' => e = .returned (.tuple #[.int .u32 s, .int .i64 er]) ∧ Ch (fun _ => False) w w' := by
  by_cases h : inb n
  · obtain ⟨m, rfl⟩ := Int.eq_ofNat_of_zero_le h.1
    have hm : m ≤ 1099511627776 := by have := h.2; omega
    exact ⟨_, _, fun w => noughts_in x m hm w, fun w => rnoughts_in x m hm w⟩
  · exact ⟨_, _, fun w => (noughts_bad x n h w).mono (fun e w' h => ⟨h.1, h.2 ▸ Ch.refl _ _⟩), fun w => (rnoughts_bad x n h w).mono (fun e w' h => ⟨h.1, h.2 ▸ Ch.refl _ _⟩)⟩
theorem patch_both (x y z : BitVec 32) (n : Int) : ∃ s er : Int, (∀ w, Calls Try.prog 21 #[.int .u32 (un x), .int .u32 (un y), .int .u32 (un z), .int .i64 n] w fun e w' => e = .returned (.tuple #[.int .u32 s, .int .i64 er]) ∧ Ch (fun _ => False) w w') ∧
    ∀ w, Calls Try.prog 22 #[.int .u32 (un x), .int .u32 (un y), .int .u32 (un z), .int .i64 n] w fun e w' => e = .returned (.tuple #[.int .u32 s, .int .i64 er]) ∧ Ch (fun _ => False) w w' := by
  by_cases h : inb n
  · obtain ⟨m, rfl⟩ := Int.eq_ofNat_of_zero_le h.1
    have hm : m ≤ 1099511627776 := by have := h.2; omega
    exact ⟨_, _, fun w => patch_in x y z m hm w, fun w => rpatch_in x y z m hm w⟩
  · exact ⟨_, _, fun w => (patch_bad x y z n h w).mono (fun e w' h => ⟨h.1, h.2 ▸ Ch.refl _ _⟩), fun w => (rpatch_bad x y z n h w).mono (fun e w' h => ⟨h.1, h.2 ▸ Ch.refl _ _⟩)⟩
set_option maxHeartbeats 1000000 in
theorem crcNoughts_any (x : BitVec 32) (n : Int) (w : World) : Calls Try.prog 5 #[.int .u32 (un x), .int .i64 n] w fun e w' => e = .returned (.bool true) ∧ Ch (fun _ => False) w w' := by
  obtain ⟨s, er, h1, h2⟩ := noughts_both x n
  have H1 := Go.Lib.hid h1; have H2 := Go.Lib.hid h2
  clear h1 h2
  go_enter Try.func5, Try.ntmps5
  go_wp2_with (first | (go_at_call 18; refine (H1.out _).mono ?_; rintro e w1 ⟨rfl, hw1⟩; have HC1 := Go.Lib.hid hw1; clear hw1) | (go_at_call 19; refine (H2.out _).mono ?_; rintro e w2 ⟨rfl, hw2⟩; have HC2 := Go.Lib.hid hw2; clear hw2) | (go_at_call 20; refine (num_any _ _).mono ?_; rintro e w' ⟨rfl, rfl⟩) | (go_at_call 11; refine (works_any _).mono ?_; rintro e w3 ⟨rfl, hw3⟩; have HC3 := Go.Lib.hid hw3; clear hw3))
  go_ret
  exact ⟨rfl, (HC1.out.trans HC2.out).trans HC3.out⟩
set_option maxHeartbeats 1000000 in
theorem crcPatches_any (x y z : BitVec 32) (n : Int) (w : World) : Calls Try.prog 6 #[.int .u32 (un x), .int .u32 (un y), .int .u32 (un z), .int .i64 n] w fun e w' => e = .returned (.bool true) ∧ Ch (fun _ => False) w w' := by
  obtain ⟨s, er, h1, h2⟩ := patch_both x y z n
  have H1 := Go.Lib.hid h1; have H2 := Go.Lib.hid h2
  clear h1 h2
  go_enter Try.func6, Try.ntmps6
  go_wp2_with (first | (go_at_call 21; refine (H1.out _).mono ?_; rintro e w1 ⟨rfl, hw1⟩; have HC1 := Go.Lib.hid hw1; clear hw1) | (go_at_call 22; refine (H2.out _).mono ?_; rintro e w2 ⟨rfl, hw2⟩; have HC2 := Go.Lib.hid hw2; clear hw2) | (go_at_call 20; refine (num_any _ _).mono ?_; rintro e w' ⟨rfl, rfl⟩) | (go_at_call 11; refine (works_any _).mono ?_; rintro e w3 ⟨rfl, hw3⟩; have HC3 := Go.Lib.hid hw3; clear hw3))
  go_ret
  exact ⟨rfl, (HC1.out.trans HC2.out).trans HC3.out⟩
end Go.Proofs.Ythbpfgcgfhlmnaa
