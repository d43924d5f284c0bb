/- The reference's Padded. -/
import Derived.Test.YtikdpiedjkailaaDoorR4
import Derived.Test.YtikdpiedjkailaaDoorOwn
import Derived.Test.YtikdpiedjkailaaDoorApp
import Derived.Laws.AppendOwnNone
namespace Go.Proofs.YtikdpiedjkailaaDoor
open Go.RowKit

/-- A slice of bytes that came from somewhere: n bytes of f. -/
def BytesAt (w : World) (p : Option Addr) (n c : Nat) (f : Nat → UInt8) : Prop :=
  (∃ x y, p = some ⟨x, y, none⟩ ∧ n ≤ c ∧ ∀ j, j < n → w.cell? ⟨x, y + j, none⟩ = some (.int .u8 ((f j).toNat : Int))) ∨ (p = none ∧ n = 0 ∧ c = 0)
theorem BytesAt.ch {w w' : World} {p : Option Addr} {n c : Nat} {f : Nat → UInt8} {S : Nat → Prop} (h : BytesAt w p n c f) (hc : Ch S w w') (hs : ∀ i, i < w.heap.size → ¬ S i) : BytesAt w' p n c f := by
  rcases h with ⟨x, y, h1, h2, h3⟩ | h
  · exact .inl ⟨x, y, h1, h2, fun j hj => hc.get (h3 j hj) (hs _ (cell_lt (h3 j hj)))⟩
  · exact .inr h
def fL (f : Nat → UInt8) (n : Nat) : List Value := (List.range n).map fun j => .int .u8 ((f j).toNat : Int)
theorem fL_len (f : Nat → UInt8) (n : Nat) : (fL f n).length = n := by simp [fL]
theorem fL_get (f : Nat → UInt8) (n j : Nat) (u : Value) (h : (fL f n)[j]? = some u) : j < n ∧ u = .int .u8 ((f j).toNat : Int) := by
  unfold fL at h
  by_cases hj : j < n
  · simp [hj] at h; exact ⟨hj, h.symm⟩
  · rw [List.getElem?_eq_none (by simp; omega)] at h; cases h
theorem fL_one (f : Nat → UInt8) (n : Nat) : ∀ u ∈ fL f n, u.oneCell' = true := by
  intro u hu
  unfold fL at hu
  obtain ⟨_, _, rfl⟩ := List.mem_map.1 hu
  rfl
theorem ownsRow_empty (w : World) (base : Nat) (h : base ≤ w.heap.size) : (w.alloc (.cells #[] 5)).ownsRow base 5 1 (.slice (some ⟨w.heap.size, 0, none⟩) 0 0) 0 [] :=
  World.ownsRow_made w #[] 0 h (by simp [maxLen]) rfl

theorem fL_succ (f : Nat → UInt8) (n : Nat) : fL f (n + 1) = fL f n ++ [.int .u8 ((f n).toNat : Int)] := by
  unfold fL
  rw [List.range_succ, List.map_append]; rfl
theorem fL_congr {f g : Nat → UInt8} (n : Nat) (h : ∀ j, j < n → f j = g j) : fL f n = fL g n := by
  unfold fL
  exact List.map_congr_left (fun j hj => by rw [h j (List.mem_range.1 hj)])
theorem pad_zeros (f : Nat → UInt8) (n Z : Nat) (h : 1 + Z ≤ gap n) : (fL f n ++ [Value.int .u8 128]) ++ List.replicate Z (Value.int .u8 0) = fL (padF f n) (n + 1 + Z) := by
  induction Z with
  | zero =>
    rw [Nat.add_zero, fL_succ, fL_congr n (f := f) (g := padF f n) (fun j hj => by unfold padF; rw [if_pos hj])]
    rw [show padF f n n = 128 by unfold padF; rw [if_neg (by omega), if_pos rfl]]
    simp
  | succ Z ih =>
    rw [List.replicate_succ', ← List.append_assoc, ih (by omega), show n + 1 + (Z + 1) = (n + 1 + Z) + 1 by omega, fL_succ]
    rw [show padF f n (n + 1 + Z) = 0 by unfold padF; rw [if_neg (by omega), if_neg (by omega), if_pos (by omega)]]
    rfl
theorem pad_len (f : Nat → UInt8) (n k : Nat) : padF f n (n + gap n + k) = lenByte n k := by
  have := gap_le n
  unfold padF
  rw [if_neg (by omega), if_neg (by omega), if_neg (by omega), show n + gap n + k - n - gap n = k by omega]

theorem lenByte_val' (n k : Nat) : (.int .u8 (((n : Int) * 8 / 2 ^ (56 - 8 * k)).tmod 256 % 256) : Value) = .int .u8 ((lenByte n k).toNat : Int) := by
  rw [Int.tmod_eq_emod_of_nonneg (Int.ediv_nonneg (by omega) (by exact_mod_cast Nat.zero_le _)), Int.emod_emod_of_dvd _ (by omega)]
  exact lenByte_val n k

set_option maxRecDepth 100000 in
set_option maxHeartbeats 1000000 in
theorem padded_some (x y n c : Nat) (f : Nat → UInt8) (w : World) (hn : n ≤ 1000000000000) (hb : ∀ j, j < n → w.cell? ⟨x, y + j, none⟩ = some (.int .u8 ((f j).toNat : Int))) :
    Calls Tryd.prog 36 #[.slice (some ⟨x, y, none⟩) n c] w fun e w' => ∃ v, e = .returned v ∧ w'.ownsRow w.heap.size 5 1 v (n + gap n + 8) (fL (padF f n) (n + gap n + 8)) ∧ Ch (fun _ => False) w w' := by
  obtain ⟨i0, hi, hz0, hz1, hz2⟩ := info_parts info5
  have HB := Go.Lib.hid hb
  clear hb
  go_enter Tryd.func36, Tryd.ntmps36
  go_upto_region 2 with (fail)
  have hz : (128 - ((n : Int) + 9) % 64) % 64 = ((gap n - 1 : Nat) : Int) := by unfold gap; omega
  rw [hz]
  have HG1 := Go.Lib.hid (gap_le n)
  have HGN := Go.Lib.hid (show n + 1 + (gap n - 1) = n + gap n by have := gap_le n; omega)
  have HG2 := Go.Lib.hid (show gap n - 1 ≤ 63 by have := gap_le n; omega)
  generalize gap n - 1 = Z at *
  clear hz
  have hnew : ∀ j u, (fL f n)[j]? = some u → (w.alloc (.cells #[] 5)).cell? ((⟨x, y, none⟩ : Addr).add j) = some u := fun j u h => by
    obtain ⟨h1, rfl⟩ := fL_get f n j u h
    rw [show (⟨x, y, none⟩ : Addr).add j = ⟨x, y + j, none⟩ by simp [Addr.add]]
    exact ((Ch.refl (fun _ => False) w).alloc _).get (HB.out j h1) id
  have HN := Go.Lib.hid hnew
  clear hnew
  go_upto_region 3 with (at_builtin; first
    | (refine wpList_append_own _ rfl (.tmp 12) (.tmp 13) 22 rfl w.heap.size 5 i0 (.int .u8 0) 1 1 Tryd.underlying22 hi hz0 hz1 hz2 rfl (by decide) _ _ _ rfl (ownsRow_empty w _ (Nat.le_refl _)) ⟨x, y, none⟩ n c (fL f n) rfl (by rw [fL_len]; omega) HN.out (fL_one f n) (by simp [maxLen]; omega) (by omega) (by simp) ?_
       intro v1 w1 hown1 hgrow1 hx1; clear hx1
       rw [Nat.zero_add, List.nil_append] at hown1
       have HO1 := Go.Lib.hid hown1; have HW1 := Go.Lib.hid hgrow1; clear hown1 hgrow1)
    | (refine wpList_append_own _ rfl (.tmp 14) (.tmp 15) 22 rfl w.heap.size 5 i0 (.int .u8 0) 1 1 Tryd.underlying22 hi hz0 hz1 hz2 rfl (by decide) _ _ _ rfl (HO1.out.alloc _) ⟨w1.heap.size, 0, none⟩ 1 1 [.int .u8 128] rfl rfl (one_at w1 _ _) (by simp [Value.oneCell']) (by simp [maxLen]; omega) (by omega) (by have := HW1.out.size; simp at this ⊢; omega) ?_
       intro v2 w2 hown2 hgrow2 hx2; clear hx2
       have HO2 := Go.Lib.hid hown2; have HW2 := Go.Lib.hid hgrow2; clear hown2 hgrow2))
  obtain ⟨v3, w3, hr3, ho3, hg3⟩ := run_append_own_zeros (P := Tryd.prog) w2 w.heap.size 22 3 22 5 i0 .i64 .i64 Tryd.underlying22 Tryd.underlying3 hi hz0 hz1 hz2 v2 (n + 1) _ HO2.out Z (by omega) (by simp [maxLen]; have := HG2.out; omega) (by have := HG2.out; omega) (by have h1 := HW1.out.size; have h2 := HW2.out.size; simp at h1 h2; omega)
  rw [pad_zeros f n Z (by have := HGN.out; omega), HGN.out] at ho3
  have HO3 := Go.Lib.hid ho3; have HR3 := Go.Lib.hid hr3
  have hc3 : Ch (fun _ => False) w w3 := by
    refine Ch.grown (Ch.grown (Ch.alloc (Ch.grown ((Ch.refl _ w).alloc _) HW1.out (fun k hk hlt => ?_)) _) HW2.out (fun k hk hlt => ?_)) hg3 (fun k hk hlt => ?_)
    · have h : some w.heap.size = some k := hk
      cases h; omega
    · have := (World.ownsRow.lt HO1.out) k hk; omega
    · have := (World.ownsRow.lt HO2.out) k hk; omega
  have HC3 := Go.Lib.hid hc3
  clear ho3 hr3 hg3 hc3
  go_upto_region 4 with (at_builtin; refine Lib.wpList_append_run _ rfl (.tmp 17) (.tmp 18) 22 3 rfl _ _ rfl rfl v3 w3 HR3.out ?_)
  clear HR3 HO1 HO2 HW1 HW2 HN HGN HG2
  go_wp2_with fail
  go_loopw [4, 5] (fun v i wr => ∃ k : Nat, k ≤ 8 ∧ i = .int .i64 k ∧ wr.ownsRow w.heap.size 5 1 v (n + gap n + k) (fL (padF f n) (n + gap n + k)) ∧ Ch (fun _ => False) w wr) (fun _ i _ => 8 - (intOf i).toNat)
  case atStart => exact ⟨0, by omega, rfl, HO3.out, HC3.out⟩
  case round =>
    obtain ⟨k, hk, rfl, hown, hC⟩ := hrel
    have HC := Go.Lib.hid hC
    clear hC
    by_cases hlt : k < 8
    · have hsz : w.heap.size ≤ wr.heap.size := HC.out.size
      have HOB := Go.Lib.hid hown.lt
      have HOW := Go.Lib.hid hown
      clear hown
      have hgl := gap_le n
      have HGL := Go.Lib.hid hgl
      clear hgl
      go_wp2_with (at_builtin; refine wpList_append_own _ rfl (.tmp 24) (.tmp 36) 22 rfl w.heap.size 5 i0 (.int .u8 0) 1 1 Tryd.underlying22 hi hz0 hz1 hz2 rfl (by decide) _ _ _ rfl (HOW.out.alloc _) ⟨wr.heap.size, 0, none⟩ 1 1 [.int .u8 (((n : Int) * 8 / 2 ^ (56 - 8 * k)).tmod 256 % 256)] rfl rfl (one_at wr _ _) (by simp [Value.oneCell']) (by have := HGL.out; simp [maxLen]; omega) (by have := HGL.out; omega) (by simp; omega) ?_; intro v' w1 hown' hgrow hx; clear hx; have HO1 := Go.Lib.hid hown'; have HG := Go.Lib.hid hgrow; clear hown' hgrow)
      go_roundw
      case rel =>
        refine ⟨k + 1, by omega, by go_num, ?_, Ch.grown (HC.out.alloc _) HG.out (fun j hj hlt => absurd (HOB.out j hj).1 (by omega))⟩
        have h := HO1.out
        rw [lenByte_val', ← pad_len f n k, ← fL_succ] at h
        exact h
      case measure => simp [intOf]; omega
    · obtain rfl : k = 8 := by omega
      have HC8 := HC
      go_wp2
      go_ret
      exact ⟨_, rfl, hown, HC.out⟩
theorem lenByte0 (k : Nat) : lenByte 0 k = 0 := by unfold lenByte; simp
set_option maxRecDepth 100000 in
set_option maxHeartbeats 1000000 in
theorem padded_none (f : Nat → UInt8) (w : World) :
    Calls Tryd.prog 36 #[.slice none 0 0] w fun e w' => ∃ v, e = .returned v ∧ w'.ownsRow w.heap.size 5 1 v (0 + gap 0 + 8) (fL (padF f 0) (0 + gap 0 + 8)) ∧ Ch (fun _ => False) w w' := by
  obtain ⟨i0, hi, hz0, hz1, hz2⟩ := info_parts info5
  go_enter Tryd.func36, Tryd.ntmps36
  go_upto_region 2 with (fail)
  go_upto_region 3 with (at_builtin; first
    | (refine wpList_append_own_none rfl (.tmp 12) (.tmp 13) 22 rfl w.heap.size 5 i0 1 Tryd.underlying22 hi _ 0 [] rfl (ownsRow_empty w _ (Nat.le_refl _)) rfl ?_
       have ho1 := ownsRow_empty w _ (Nat.le_refl _)
       have hc1 : Ch (fun _ => False) w (w.alloc (.cells #[] 5)) := (Ch.refl _ w).alloc _
       generalize w.alloc (.cells #[] 5) = w1 at *
       have HO1 := Go.Lib.hid ho1; have HC1 := Go.Lib.hid hc1; clear ho1 hc1)
    | (refine wpList_append_own _ rfl (.tmp 14) (.tmp 15) 22 rfl w.heap.size 5 i0 (.int .u8 0) 1 1 Tryd.underlying22 hi hz0 hz1 hz2 rfl (by decide) _ _ _ rfl (HO1.out.alloc _) ⟨w1.heap.size, 0, none⟩ 1 1 [.int .u8 128] rfl rfl (one_at w1 _ _) (by simp [Value.oneCell']) (by simp [maxLen]) (by omega) (by have := HC1.out.size; simp; omega) ?_
       intro v2 w2 hown2 hgrow2 hx2; clear hx2
       have HO2 := Go.Lib.hid hown2; have HW2 := Go.Lib.hid hgrow2; clear hown2 hgrow2))
  obtain ⟨v3, w3, hr3, ho3, hg3⟩ := run_append_own_zeros (P := Tryd.prog) w2 w.heap.size 22 3 22 5 i0 .i64 .i64 Tryd.underlying22 Tryd.underlying3 hi hz0 hz1 hz2 v2 (0 + 1) _ HO2.out 55 (by omega) (by simp [maxLen]) (by omega) (by have h1 := HC1.out.size; have h2 := HW2.out.size; simp at h1 h2; omega)
  rw [List.nil_append] at ho3
  have hpz := pad_zeros f 0 55 (by decide)
  rw [show fL f 0 = [] from rfl, List.nil_append] at hpz
  rw [hpz, show 0 + 1 + 55 = 0 + gap 0 by decide] at ho3
  clear hpz
  have HO3 := Go.Lib.hid ho3; have HR3 := Go.Lib.hid hr3
  have hc3 : Ch (fun _ => False) w w3 := by
    refine Ch.grown (Ch.grown (Ch.alloc HC1.out _) HW2.out (fun k hk hlt => ?_)) hg3 (fun k hk hlt => ?_)
    · have := (World.ownsRow.lt HO1.out) k hk; omega
    · have := (World.ownsRow.lt HO2.out) k hk; omega
  have HC3 := Go.Lib.hid hc3
  clear ho3 hr3 hg3 hc3
  go_upto_region 4 with (at_builtin; refine Lib.wpList_append_run _ rfl (.tmp 17) (.tmp 18) 22 3 rfl _ _ rfl rfl v3 w3 HR3.out ?_)
  clear HR3 HO1 HO2 HC1 HW2
  go_wp2_with fail
  go_loopw [4, 5] (fun v i wr => ∃ k : Nat, k ≤ 8 ∧ i = .int .i64 k ∧ wr.ownsRow w.heap.size 5 1 v (0 + gap 0 + k) (fL (padF f 0) (0 + gap 0 + k)) ∧ Ch (fun _ => False) w wr) (fun _ i _ => 8 - (intOf i).toNat)
  case atStart => exact ⟨0, by omega, rfl, HO3.out, HC3.out⟩
  case round =>
    obtain ⟨k, hk, rfl, hown, hC⟩ := hrel
    have HC := Go.Lib.hid hC
    clear hC
    by_cases hlt : k < 8
    · have hsz : w.heap.size ≤ wr.heap.size := HC.out.size
      have HOB := Go.Lib.hid hown.lt
      have HOW := Go.Lib.hid hown
      clear hown
      have hgl := gap_le 0
      have HGL := Go.Lib.hid hgl
      clear hgl
      go_wp2_with (at_builtin; refine wpList_append_own _ rfl (.tmp 24) (.tmp 36) 22 rfl w.heap.size 5 i0 (.int .u8 0) 1 1 Tryd.underlying22 hi hz0 hz1 hz2 rfl (by decide) _ _ _ rfl (HOW.out.alloc _) ⟨wr.heap.size, 0, none⟩ 1 1 [.int .u8 0] rfl rfl (one_at wr _ _) (by simp [Value.oneCell']) (by have := HGL.out; simp [maxLen]; omega) (by have := HGL.out; omega) (by simp; omega) ?_; intro v' w1 hown' hgrow hx; clear hx; have HO1 := Go.Lib.hid hown'; have HG := Go.Lib.hid hgrow; clear hown' hgrow)
      go_roundw
      case rel =>
        refine ⟨k + 1, by omega, by go_num, ?_, Ch.grown (HC.out.alloc _) HG.out (fun j hj hlt => absurd (HOB.out j hj).1 (by omega))⟩
        have h := HO1.out
        rw [show (Value.int .u8 0) = .int .u8 ((padF f (0) (0 + gap 0 + k)).toNat : Int) by rw [pad_len f 0 k, lenByte0]; rfl, ← fL_succ] at h
        exact h
      case measure => simp [intOf]; omega
    · obtain rfl : k = 8 := by omega
      have HC8 := HC
      go_wp2
      go_ret
      exact ⟨_, rfl, hown, HC.out⟩

/-- Bytes with what comes behind them, whatever slice they lie in. -/
theorem padded_any (p : Option Addr) (n c : Nat) (f : Nat → UInt8) (w : World) (hn : n ≤ 1000000000000) (hb : BytesAt w p n c f) :
    Calls Tryd.prog 36 #[.slice p n c] w fun e w' => ∃ v, e = .returned v ∧ w'.ownsRow w.heap.size 5 1 v (n + gap n + 8) (fL (padF f n) (n + gap n + 8)) ∧ Ch (fun _ => False) w w' := by
  rcases hb with ⟨x, y, rfl, _, hb⟩ | ⟨rfl, rfl, rfl⟩
  · exact padded_some x y n c f w hn hb
  · exact padded_none f w
end Go.Proofs.YtikdpiedjkailaaDoor
