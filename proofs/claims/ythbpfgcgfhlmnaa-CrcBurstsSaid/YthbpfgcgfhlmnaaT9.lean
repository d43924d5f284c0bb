/- works: the chapter's rows. -/
import Derived.Test.YthbpfgcgfhlmnaaT8
namespace Go.Proofs.Ythbpfgcgfhlmnaa
open Go Go.RowKit
attribute [local go_sem high] b_add b_xor b_and b_or b_shr b_shl not32 wrap_un beq32 neg32 b_and1 b_andC b_xor8 lowB_wrap xor_u8

set_option maxHeartbeats 400000 in
theorem noughts_neg (w : World) (x n : Int) (h : n < 0) : Calls Try.prog 18 #[.int .u32 x, .int .i64 n] w fun e w' => e = .returned (.tuple #[.int .u32 0, .int .i64 2]) ∧ w = w' := by
  go_enter Try.func18, Try.ntmps18
  go_wp2
  refine bodyPost_ret (v := .tuple #[.int .u32 0, .int .i64 2]) (by simp [results, Try.results18, go_sem]) rfl ⟨rfl, rfl⟩
def hiF : Nat → UInt8 := fun i => if i = 0 then 104 else 105
def abcF : Nat → UInt8 := fun i => if i = 0 then 97 else if i = 1 then 98 else 99
def nineF : Nat → UInt8 := fun i => UInt8.ofNat (49 + i)
theorem sum_nine : sumF nineF 9 = 3808858755#32 := by kernel_rfl
theorem sum_none : sumF nineF 0 = 0#32 := by kernel_rfl
theorem not_abc : (bL (sealF abcF 0) (0 + 4) == bL abcF (0 + 4)) = false := by kernel_rfl
theorem seal_open (f g : Nat → UInt8) (n : Nat) (h : ∀ j, j < n + 4 → g j = sealF f n j) : (bL (sealF g n) (n + 4) == bL g (n + 4)) = true := by
  have e0 : ∀ k, k ≤ n → cw (~~~0#32) g k = cw (~~~0#32) f k := fun k => by
    induction k with
    | zero => intro _; rfl
    | succ k ih =>
      intro hk
      show behind _ _ = behind _ _
      rw [ih (by omega), h k (by omega)]
      congr 1
      unfold sealF; rw [if_pos (by omega)]
  have e1 : sumF g n = sumF f n := by unfold sumF; rw [e0 n (Nat.le_refl _)]
  have e2 : bL (sealF g n) (n + 4) = bL g (n + 4) := by
    unfold bL
    refine List.map_congr_left (fun j hj => ?_)
    have hj' := List.mem_range.1 hj
    rw [h j hj']
    unfold sealF
    by_cases hn : j < n
    · rw [if_pos hn, if_pos hn, h j hj']; unfold sealF; rw [if_pos hn]
    · rw [if_neg hn, if_neg hn, e1]
  rw [e2]; simp
theorem BytesAt.short {w : World} {p : Option Addr} {n c m : Nat} {f : Nat → UInt8} (h : BytesAt w p n c f) (hm : m ≤ n) : BytesAt w p m c f := by
  rcases h with ⟨x, y, h1, h2, h3, h4⟩ | ⟨h1, h2⟩
  · exact .inl ⟨x, y, h1, by omega, h3, fun j hj => h4 j (by omega)⟩
  · exact .inr ⟨by omega, h2⟩

/-- A text's bytes, laid anew, as the only part. -/
theorem const_part (w : World) (C : Array Value) (n : Nat) (f : Nat → UInt8) (fr : Nat × Nat) (hC : ∀ j, j < n → C[j]? = some (.int .u8 ((f j).toNat : Int))) :
    PartsAt ((w.alloc (.cells C 5 fr)).alloc (.cells #[.slice (some ⟨w.heap.size, 0, none⟩) n n] 24)) (w.heap.size + 1) 0 1 (fun _ => some ⟨w.heap.size, 0, none⟩) (fun _ => n) (fun _ => n) f ∧
      Ch (fun _ => False) w ((w.alloc (.cells C 5 fr)).alloc (.cells #[.slice (some ⟨w.heap.size, 0, none⟩) n n] 24)) := by
  have hb := fun j => World.cell?_alloc_mark w C 5 fr j
  have hr := cell_fresh (w.alloc (.cells C 5 fr)) #[.slice (some ⟨w.heap.size, 0, none⟩) n n] 24 0
  rw [World.size_alloc] at hr
  have hc1 : Ch (fun _ => False) w (w.alloc (.cells C 5 fr)) := (Ch.refl _ _).alloc _
  have hc : Ch (fun _ => False) (w.alloc (.cells C 5 fr)) ((w.alloc (.cells C 5 fr)).alloc (.cells #[.slice (some ⟨w.heap.size, 0, none⟩) n n] 24)) := (Ch.refl _ _).alloc _
  have hs : (w.alloc (.cells C 5 fr)).heap.size = w.heap.size + 1 := World.size_alloc _ _
  refine ⟨parts_one hr (by have := hc.size; omega) (fun j hj => hc.get (by rw [Nat.zero_add]; exact (hb j).trans (hC j hj)) id), hc1.trans hc⟩
theorem seal_hi (w : World) : Calls Try.prog 23 #[.slice (some ⟨w.heap.size + 1, 0, none⟩) 1 1] ((w.alloc (.cells #[.int .u8 104, .int .u8 105] 5 (2, 3))).alloc (.cells #[.slice (some ⟨w.heap.size, 0, none⟩) 2 2] 24)) fun e w' => Ch (fun _ => False) w w' ∧ ∃ x c, e = .returned (.slice (some ⟨x, 0, none⟩) (2 + 4) c) ∧ 2 + 4 ≤ c ∧ x < w'.heap.size ∧ ∀ j, j < 2 + 4 → w'.cell? ⟨x, 0 + j, none⟩ = some (.int .u8 ((sealF hiF 2 j).toNat : Int)) := by
  obtain ⟨h1, h2⟩ := const_part w #[.int .u8 104, .int .u8 105] 2 hiF (2, 3) (fun j hj => by match j, hj with | 0, _ => rfl | 1, _ => rfl)
  have hs := seal_any _ 0 1 1 _ _ _ _ hiF _ (.inl rfl) h1 (by omega) (by rw [upto_one]; omega)
  rw [upto_one] at hs
  refine hs.mono ?_
  rintro e w' ⟨v, rfl, ho, hc⟩
  refine ⟨h2.trans hc, ?_⟩
  obtain ⟨p, c, rfl, hb⟩ := own_bytes ho
  rcases ho.2 with ⟨_, h⟩ | ⟨g, cap, cur, hv, _, hg, hnc, _, _, htake⟩
  · omega
  · cases hv
    exact ⟨g, c, rfl, hnc, (Array.getElem?_eq_some_iff.1 hg).1, fun j hj => (cell_of_heap hg _).trans (by rw [Nat.zero_add]; exact fL_cur htake j hj)⟩
theorem sum_nine_any (w : World) : Calls Try.prog 12 #[.slice (some ⟨w.heap.size + 1, 0, none⟩) 1 1] ((w.alloc (.cells #[.int .u8 49, .int .u8 50, .int .u8 51, .int .u8 52, .int .u8 53, .int .u8 54, .int .u8 55, .int .u8 56, .int .u8 57] 5 (9, 10))).alloc (.cells #[.slice (some ⟨w.heap.size, 0, none⟩) 9 9] 24)) fun e w' => e = .returned (.int .u32 3808858755) ∧ Ch (fun _ => False) w w' := by
  obtain ⟨h1, h2⟩ := const_part w #[.int .u8 49, .int .u8 50, .int .u8 51, .int .u8 52, .int .u8 53, .int .u8 54, .int .u8 55, .int .u8 56, .int .u8 57] 9 nineF (9, 10) (fun j hj => by match j, hj with | 0, _ => rfl | 1, _ => rfl | 2, _ => rfl | 3, _ => rfl | 4, _ => rfl | 5, _ => rfl | 6, _ => rfl | 7, _ => rfl | 8, _ => rfl)
  have hs := sum_any _ 0 1 1 _ _ _ _ nineF _ (.inl rfl) h1 (by omega) (by rw [upto_one]; omega)
  rw [upto_one] at hs
  refine hs.mono ?_
  rintro e w' ⟨rfl, hc⟩
  exact ⟨by show Ending.returned (.int .u32 (un (sumF nineF 9))) = _; rw [sum_nine]; rfl, h2.trans hc⟩
theorem sum_none_any (w : World) : Calls Try.prog 12 #[.slice none 0 0] w fun e w' => e = .returned (.int .u32 0) ∧ Ch (fun _ => False) w w' := by
  have hs := sum_any 0 0 0 0 none (fun _ => none) (fun _ => 0) (fun _ => 0) nineF w (.inr rfl) ⟨fun i hi => absurd hi (by omega), fun i hi => absurd hi (by omega)⟩ (by omega) (by simp [upto])
  refine hs.mono ?_
  rintro e w' ⟨rfl, hc⟩
  exact ⟨by show Ending.returned (.int .u32 (un (sumF nineF 0))) = _; rw [sum_none]; rfl, hc⟩

set_option maxRecDepth 100000 in
set_option maxHeartbeats 1000000 in
theorem works_any (w : World) : Calls Try.prog 11 #[] w fun e w' => e = .returned (.bool true) ∧ Ch (fun _ => False) w w' := by
  have hcv := fun (w : World) (C : Array Value) (n c : Nat) => Lib.run_convert_bytes_const (P := Try.prog) w 24 5 C n c Try.underlying24 Try.underlying5
  go_enter Try.func11, Try.ntmps11
  go_wp2_with fail
  refine (seal_hi _).mono ?_
  rintro e w1 ⟨hc1, x1, c1, rfl, hn1, hx1, hb1⟩
  have HOP := Go.Lib.hid (open_long x1 0 2 c1 (sealF hiF 2) w1 (by omega) hn1 hx1 hb1)
  have HC1 := Go.Lib.hid hc1
  clear hc1 hn1 hx1 hb1
  go_wp2_with fail
  refine HOP.out.mono ?_
  rintro e w2 ⟨hc2, h2⟩
  obtain ⟨_, h, cur, rfl, _, hh, hcu⟩ := h2.resolve_left (fun h => by have := seal_open hiF (sealF hiF 2) 2 (fun _ _ => rfl); rw [this] at h; cases h.1)
  have HH := Go.Lib.hid hh; have HCU := Go.Lib.hid hcu
  have HC2 := Go.Lib.hid (HC1.out.trans hc2)
  clear hc2 h2 hh hcu HOP HC1
  go_wp2_with (first | (go_at_call 24; refine (open_short _ _ _ _ (by omega)).mono ?_; rintro e w3 ⟨rfl, rfl⟩) | (go_at_call 18; refine (noughts_neg _ _ _ (by omega)).mono ?_; rintro e w3 ⟨rfl, rfl⟩))
  generalize hw3 : w2.alloc (.cells #[.int .u8 97, .int .u8 98, .int .u8 99] 5 (3, 4)) = w3
  have hs3 : w2.heap.size + 1 = w3.heap.size := by rw [← hw3]; simp
  have hc3 : Ch (fun _ => False) w2 w3 := by rw [← hw3]; exact (Ch.refl _ _).alloc _
  rw [hs3]
  have HH3 := Go.Lib.hid (hc3.heap HH.out id)
  have HC3 := Go.Lib.hid (HC2.out.trans hc3)
  clear hw3 hs3 hc3 HH HC2
  rw [hcv]
  simp only [Result.andThen]
  rw [Oper.upon_value]
  go_wp2_with fail
  refine (sum_nine_any _).mono ?_
  rintro e w4 ⟨rfl, hc4⟩
  have HH4 := Go.Lib.hid (hc4.heap HH3.out id)
  have HC4 := Go.Lib.hid (HC3.out.trans hc4)
  clear hc4 HH3 HC3
  go_wp2_with fail
  refine (sum_none_any _).mono ?_
  rintro e w5 ⟨rfl, hc5⟩
  have hh5 := hc5.heap HH4.out id
  have hcb := conv_bytes (w := w5) (p := some ⟨h, 0, none⟩) (n := 2) (c := 2) (f := sealF hiF 2) (.inl ⟨h, 0, rfl, Nat.le_refl _, (Array.getElem?_eq_some_iff.1 hh5).1, fun j hj => (cell_of_heap hh5 _).trans (by rw [Nat.zero_add]; exact HCU.out j hj)⟩)
  rw [show bS (sealF hiF 2) 2 = ⟨#[104, 105]⟩ from by kernel_rfl] at hcb
  have HC5 := Go.Lib.hid (HC4.out.trans hc5)
  clear hc5 HH4 HC4 hh5
  go_wp2_with (go_at_call 20; refine (num_any _ _).mono ?_; rintro e w' ⟨rfl, rfl⟩)
  go_ret
  exact ⟨rfl, HC5.out⟩
end Go.Proofs.Ythbpfgcgfhlmnaa
