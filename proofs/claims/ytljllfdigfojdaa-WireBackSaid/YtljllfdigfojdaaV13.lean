/- works: the chapter's rows. -/
import Derived.Test.YtljllfdigfojdaaV12
namespace Go.Proofs.Ytljllfdigfojdaa
open Go Go.RowKit

def lf (l : List UInt8) (j : Nat) : UInt8 := l.getD j 0
theorem row_bytes (w : World) (l : List UInt8) (cs : Array Value) (h : ∀ j, j < l.length → cs[j]? = some (.int .u8 ((lf l j).toNat : Int))) : BytesAt (w.alloc (.cells cs 5)) (some ⟨w.heap.size, 0, none⟩) l.length l.length (lf l) :=
  .inl ⟨w.heap.size, 0, rfl, Nat.le_refl _, by simp, fun j hj => (cell_fresh w cs 5 (0 + j)).trans (by rw [Nat.zero_add]; exact h j hj)⟩
def numsW : Nat → Nat := fun i => if i = 0 then 252 else if i = 1 then 253 else 65536
def bytesW : List UInt8 := [252, 253, 0, 253, 254, 0, 1, 0, 0]
theorem hFW : ∀ i, i < 3 → ∀ j, j < numL (numsW i) → lf bytesW (0 + upto (lenOf numsW) i + j) = numB (numsW i) j := by decide +kernel
theorem lenW : 0 + upto (lenOf numsW) 3 = 9 := by decide +kernel
theorem strW : bS (lf bytesW) 9 = { data := #[252, 253, 0, 253, 254, 0, 1, 0, 0] } := by decide +kernel
theorem o1 : outN 999 (lf [253, 0, 252]) 3 = .wrong := by kernel_rfl
theorem o2 : outN 4 (lf [5]) 1 = .wrong := by kernel_rfl
theorem o3 : outT 9 (lf [2, 104]) 2 = .lack := by kernel_rfl
theorem o4 : outS (lf []) 0 = .lack := by kernel_rfl
theorem o5 : outS (lf [3]) 1 = .wrong := by kernel_rfl
theorem o6 : outS (lf [5]) 1 = .lack := by kernel_rfl

set_option maxRecDepth 100000 in
set_option maxHeartbeats 4000000 in
theorem wworks_any (w : World) : Calls Try.prog 10 #[] w fun e w' => e = .returned (.bool true) ∧ Ch (fun _ => False) w w' := by
  go_enter Try.func10, Try.ntmps10
  go_wp2_with fail
  refine (new_any (lf bytesW) w).mono ?_
  rintro e w1 ⟨b, rfl, hb, hw1, hc1⟩
  have HB := Go.Lib.hid hb; have HC1 := Go.Lib.hid hc1; have HW1 := Go.Lib.hid hw1
  clear hb hc1 hw1
  go_wp2_with fail
  refine (number_ok b w1.heap.size 0 3 3 0 (some ⟨w1.heap.size, 0, none⟩) (.slice none 0 0) (lf bytesW) numsW _ (.inl rfl) (HW1.out.ch ((Ch.refl (fun _ => False) w1).alloc _) id (fun _ _ => id)) (fun i hi => by
      refine (cell_fresh w1 _ 2 (0 + i)).trans ?_
      obtain rfl | rfl | rfl : i = 0 ∨ i = 1 ∨ i = 2 := by omega
      all_goals rfl) ⟨by have := row_lt HW1.out.row; omega, by simp [Value.ownBlock]⟩ (by decide +kernel) (by omega) hFW).mono ?_
  rintro e w2 ⟨rfl, v2, hw2, hg2⟩
  rw [lenW] at hw2
  have HW2 := Go.Lib.hid hw2
  have HC2 := Go.Lib.hid (show Ch (fun _ => False) w w2 from (HC1.out.alloc _).then hg2.ch (fun i hi e => by
    rcases e with rfl | e
    · have := HB.out; omega
    · simp [Value.ownBlock] at e))
  have H0 := Go.Lib.hid (show 0 < w2.heap.size from Nat.lt_of_le_of_lt (Nat.zero_le _) (row_lt hw2.row))
  clear hw2 hg2 HW1
  have HD := Go.Lib.hid (Ch.refl (fun _ => False) w2)
  have hz2 := H0.out
  have HDZ := Go.Lib.hid HD.out.size
  go_wp2_with fail
  refine (read_any (some ⟨w2.heap.size, 0, none⟩) 3 3 (lf [253, 0, 252]) _ (row_bytes w2 [253, 0, 252] _ (fun j hj => by
      have hj' : j < 3 := hj
      obtain rfl | rfl | rfl : j = 0 ∨ j = 1 ∨ j = 2 := by omega
      all_goals rfl)) (by omega) (by simp)).mono ?_
  rintro e w3 ⟨r1, x1, p1, c1, rfl, hr, h1, h2, hc⟩
  have HR1 := Go.Lib.hid hr; have HS1 := Go.Lib.hid (show w2.heap.size < r1 by have h1q := h1; simp at h1q; omega)
  have HD := Go.Lib.hid ((HD.out.alloc _).trans hc)
  clear hr h1 h2 hc
  go_wp2_with fail
  refine (rNumber_ok r1 x1 p1 3 c1 _ 999 w3 HR1.out (by omega)).mono ?_
  intro e w4 h
  unfold PartTold at h
  rw [o1] at h
  obtain ⟨hc, rfl, -⟩ := h
  have hzz := HD.out.size
  have HD := Go.Lib.hid (show Ch (fun _ => False) w2 w4 from HD.out.then hc (fun i hi e => by have := HS1.out; have := HDZ.out; omega))
  have HDZ := Go.Lib.hid HD.out.size
  clear hc hzz HR1 HS1
  have hz4 : 0 < w4.heap.size := by have := HDZ.out; omega
  go_wp2_with fail
  refine (read_any (some ⟨w4.heap.size, 0, none⟩) 1 1 (lf [5]) _ (row_bytes w4 [5] _ (fun j hj => by
      have hj' : j < 1 := hj
      obtain rfl : j = 0 := by omega
      all_goals rfl)) (by omega) (by simp)).mono ?_
  rintro e w5 ⟨r2, x2, p2, c2, rfl, hr, h1, h2, hc⟩
  have HR2 := Go.Lib.hid hr; have HS2 := Go.Lib.hid (show w4.heap.size < r2 by have h1q := h1; simp at h1q; omega)
  have HD := Go.Lib.hid ((HD.out.alloc _).trans hc)
  clear hr h1 h2 hc
  go_wp2_with fail
  refine (rNumber_ok r2 x2 p2 1 c2 _ 4 w5 HR2.out (by omega)).mono ?_
  intro e w6 h
  unfold PartTold at h
  rw [o2] at h
  obtain ⟨hc, rfl, -⟩ := h
  have hzz := HD.out.size
  have HD := Go.Lib.hid (show Ch (fun _ => False) w2 w6 from HD.out.then hc (fun i hi e => by have := HS2.out; have := HDZ.out; omega))
  have HDZ := Go.Lib.hid HD.out.size
  clear hc hzz HR2 HS2
  have hz6 : 0 < w6.heap.size := by have := HDZ.out; omega
  go_wp2_with fail
  refine (read_any (some ⟨w6.heap.size, 0, none⟩) 2 2 (lf [2, 104]) _ (row_bytes w6 [2, 104] _ (fun j hj => by
      have hj' : j < 2 := hj
      obtain rfl | rfl : j = 0 ∨ j = 1 := by omega
      all_goals rfl)) (by omega) (by simp)).mono ?_
  rintro e w7 ⟨r3, x3, p3, c3, rfl, hr, h1, h2, hc⟩
  have HR3 := Go.Lib.hid hr; have HS3 := Go.Lib.hid (show w6.heap.size < r3 by have h1q := h1; simp at h1q; omega)
  have HD := Go.Lib.hid ((HD.out.alloc _).trans hc)
  clear hr h1 h2 hc
  go_wp2_with fail
  refine (rText_ok r3 x3 p3 2 c3 _ 9 w7 HR3.out (by omega) (by omega)).mono ?_
  intro e w8 h
  unfold PartTold at h
  rw [o3] at h
  obtain ⟨hc, rfl, -⟩ := h
  have hzz := HD.out.size
  have HD := Go.Lib.hid (show Ch (fun _ => False) w2 w8 from HD.out.then hc (fun i hi e => by have := HS3.out; have := HDZ.out; omega))
  have HDZ := Go.Lib.hid HD.out.size
  clear hc hzz HR3 HS3
  have hz8 : 0 < w8.heap.size := by have := HDZ.out; omega
  go_wp2_with fail
  refine (split_no none 0 0 0 (lf []) w8 (.inr ⟨rfl, fun _ => rfl⟩) hz8 (fun ad e => nomatch e) 0 (.inl ⟨o4, rfl⟩)).mono ?_
  rintro e w9 ⟨rfl, hc⟩
  have HD := Go.Lib.hid (HD.out.trans hc)
  clear hc
  go_wp2_with fail
  refine (split_no (some ⟨w9.heap.size, 0, none⟩) 1 1 w9.heap.size (lf [3]) _ (row_bytes w9 [3] _ (fun j hj => by
      have hj' : j < 1 := hj
      obtain rfl : j = 0 := by omega
      rfl)) (by simp) (fun ad e => by cases e; rfl) 141 (.inr ⟨o5, rfl⟩)).mono ?_
  rintro e w10 ⟨rfl, hc⟩
  have HD := Go.Lib.hid ((HD.out.alloc _).trans hc)
  clear hc
  go_wp2_with fail
  refine (split_no (some ⟨w10.heap.size, 0, none⟩) 1 1 w10.heap.size (lf [5]) _ (row_bytes w10 [5] _ (fun j hj => by
      have hj' : j < 1 := hj
      obtain rfl : j = 0 := by omega
      rfl)) (by simp) (fun ad e => by cases e; rfl) 0 (.inl ⟨o6, rfl⟩)).mono ?_
  rintro e w11 ⟨rfl, hc⟩
  have HD := Go.Lib.hid ((HD.out.alloc _).trans hc)
  clear hc
  have HAL := Go.Lib.hid (all_any b 9 v2 (lf bytesW) w11 (HW2.out.ch HD.out id (fun _ _ => id)) (by omega))
  have HF := Go.Lib.hid (HC2.out.trans HD.out)
  clear HD HDZ HW2 HC2 H0 hz2 hz4 hz6 hz8 HC1
  go_wp2_with (first
    | (go_at_call 14; refine (num_any _ _).mono ?_; rintro e w' ⟨rfl, rfl⟩)
    | (go_at_call 13; refine HAL.out.mono ?_; rintro e w12 ⟨v', rfl, ho, hc⟩; obtain ⟨p', c', rfl, hb'⟩ := own_bytes ho; have hcv := conv_bytes hb'; rw [strW] at hcv; have HFF := Go.Lib.hid (HF.out.trans hc); clear ho hc hb'))
  go_ret
  exact ⟨rfl, HFF.out⟩
end Go.Proofs.Ytljllfdigfojdaa
