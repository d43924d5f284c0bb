/- Frame; a frame is split into its bytes. -/
import Derived.Test.YtljllfdigfojdaaU3
import Derived.Test.YtljllfdigfojdaaV15
namespace Go.Proofs.Ytljllfdigfojdaa
open Go Go.RowKit

theorem parts_of_bytes {w : World} {a : Nat} {p : Option Addr} {n c : Nat} {f : Nat → UInt8} (ha : w.cell? ⟨a, 0, none⟩ = some (.slice p n c)) (hb : BytesAt w p n c f) : PartsAt w a 0 1 (fun _ => p) (fun _ => n) (fun _ => c) f := by
  refine ⟨fun i hi => ?_, fun i hi => ?_⟩
  · obtain rfl : i = 0 := by omega
    exact ha
  · obtain rfl : i = 0 := by omega
    rcases hb with ⟨x, y, rfl, _, hx, h⟩ | ⟨h1, h2⟩
    · exact ⟨x, y, .inl rfl, hx, fun j hj => by rw [show upto (fun _ => n) 0 + j = j by simp [upto]]; exact h j hj⟩
    · subst h1
      exact ⟨a, 0, .inr ⟨rfl, h2⟩, cell_lt ha, fun j hj => by omega⟩
/-- A frame's bytes. -/
def frL (n : Nat) : Nat := numL (n + 4) + (n + 4)
def frB (f : Nat → UInt8) (n j : Nat) : UInt8 := if j < numL (n + 4) then numB (n + 4) j else sealF f n (j - numL (n + 4))
theorem frB_num (f : Nat → UInt8) (n j : Nat) (h : j < numL (n + 4)) : frB f n j = numB (n + 4) j := if_pos h
theorem frB_seal (f : Nat → UInt8) (n j : Nat) : frB f n (numL (n + 4) + j) = sealF f n j := by unfold frB; rw [if_neg (by omega), Nat.add_sub_cancel_left]
theorem frame_long (p : Option Addr) (n c : Nat) (w : World) (hn : 8192 < n) :
    Calls Try.prog 29 #[.slice p n c] w fun e w' => e = .returned (.tuple #[.slice none 0 0, .int .i64 3]) ∧ w = w' := by
  have hn' : (8192 : Int) < (n : Int) := by omega
  clear hn
  go_enter Try.func29, Try.ntmps29
  go_wp2
  refine bodyPost_ret (v := .tuple #[.slice none 0 0, .int .i64 3]) (by simp [results, Try.results29, go_sem]) rfl ⟨rfl, rfl⟩
set_option maxRecDepth 100000 in
set_option maxHeartbeats 1000000 in
theorem frame_ok (p : Option Addr) (n c : Nat) (f : Nat → UInt8) (w : World) (hb : BytesAt w p n c f) (hn : n ≤ 8192) :
    Calls Try.prog 29 #[.slice p n c] w fun e w' => ∃ v', e = .returned (.tuple #[v', .int .i64 0]) ∧ w'.ownsRow w.heap.size 5 1 v' (frL n) (fL (frB f n) (frL n)) ∧ Ch (fun _ => False) w w' := by
  have hn' : ¬ (8192 : Int) < (n : Int) := by omega
  have hal : Ch (fun _ => False) w (w.alloc (.cells #[.slice p n c] 27)) := (Ch.refl _ w).alloc _
  have HS := Go.Lib.hid (show Calls Try.prog 68 #[.slice (some ⟨w.heap.size, 0, none⟩) 1 1] (w.alloc (.cells #[.slice p n c] 27)) _ from
    seal_any w.heap.size 0 1 1 _ _ _ _ f _ (.inl rfl) (parts_of_bytes (cell_new w _ 27) (hb.ch hal (fun _ _ => id))) (by omega) (by rw [upto_one]; omega))
  rw [upto_one] at HS
  have HAL := Go.Lib.hid hal
  have HNN := Go.Lib.hid (fun W (h : w.heap.size ≤ W.heap.size) => withNumber_any w.heap.size 0 (n + 4) (.slice none 0 0) (frB f n) W ⟨rfl, .inl ⟨rfl, rfl⟩⟩ h (by omega) (by omega) (fun j hj => by rw [Nat.zero_add]; exact frB_num f n j hj))
  have HSL := Go.Lib.hid (frB_seal f n)
  have HFL := Go.Lib.hid (show frL n = numL (n + 4) + (n + 4) from rfl)
  have hnl := numL_le (n + 4)
  clear hb hal hn
  rw [HFL.out]
  generalize numL (n + 4) = nl at *
  generalize frB f n = FR at *
  generalize sealF f n = SF at *
  go_enter Try.func29, Try.ntmps29
  go_wp2_with fail
  refine HS.out.mono ?_
  rintro e w2 ⟨v2, rfl, ho, hc⟩
  obtain ⟨p2, c2, rfl, hb2⟩ := own_bytes ho
  have HB2 := Go.Lib.hid hb2; have HC2 := Go.Lib.hid (HAL.out.trans hc)
  clear ho hb2 hc HS
  go_wp2_with fail
  refine (HNN.out w2 HC2.out.size).mono ?_
  rintro e w3 ⟨v3, rfl, ho, hg⟩
  have hcg : Ch (fun _ => False) w2 w3 := hg.ch.mono (fun i hi e => by simp [Value.ownBlock] at e)
  obtain ⟨p3, c3, rfl, -⟩ := own_bytes ho
  rw [Nat.zero_add] at ho
  have HO3 := Go.Lib.hid ho; have HC3 := Go.Lib.hid (HC2.out.trans hcg); have HB3 := Go.Lib.hid (HB2.out.ch hcg (fun _ _ => id))
  have hsz := HC3.out.size
  clear ho hg hcg HNN HB2
  rw [Nat.zero_add]
  go_wp2_with (at_builtin; refine wpList_append_row rfl (.tmp 13) (.tmp 14) rfl w.heap.size nl (n + 4) (.slice p3 nl c3) FR SF rfl HO3.out p2 c2 rfl HB3.out (by omega) (fun j _ => HSL.out j) (by omega) hsz ?_; intro v4 w4 ho4 hg4; have HO4 := Go.Lib.hid ho4; have HC4 := Go.Lib.hid (HC3.out.then hg4.ch (fun i hi e => absurd (HO3.out.lt i e).1 (by omega))); clear ho4 hg4)
  refine bodyPost_ret (v := .tuple #[v4, .int .i64 0]) (by simp [results, Try.results29, go_sem]) rfl ⟨v4, rfl, HO4.out, HC4.out⟩
end Go.Proofs.Ytljllfdigfojdaa
