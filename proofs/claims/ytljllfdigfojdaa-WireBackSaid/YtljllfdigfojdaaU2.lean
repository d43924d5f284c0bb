/- lay of texts and of truths; the writer's Text, Truth. -/
import Derived.Test.YtljllfdigfojdaaU1
import Derived.Test.YtljllfdigfojdaaV4
namespace Go.Proofs.Ytljllfdigfojdaa
open Go Go.RowKit

def lenS (nums : Nat → ByteArray) (i : Nat) : Nat := textL (nums i)
set_option maxRecDepth 100000 in
set_option maxHeartbeats 1000000 in
theorem layS_any (b a off N cap k : Nat) (sp : Option Addr) (v : Value) (F : Nat → UInt8) (nums : Nat → ByteArray) (w : World) (hsp : sp = some ⟨a, off, none⟩ ∨ N = 0) (hw : WrAt w b v k F)
    (hnum : ∀ i, i < N → w.cell? ⟨a, off + i, none⟩ = some (.string (nums i))) (ha : a ≠ b ∧ v.ownBlock ≠ some a) (hbig : ∀ i, i < N → (nums i).size ≤ 2000000) (hk : k + 3000000 * N ≤ 10000000000)
    (hF : ∀ i, i < N → ∀ j, j < textL (nums i) → F (k + upto (lenS nums) i + j) = textB (nums i) j) :
    Calls Try.prog 48 #[.pointer (some ⟨b, 0, none⟩), .func (.func 49) #[] #[], .slice sp N cap] w fun e w' => e = .returned (.int .i64 0) ∧ ∃ v', WrAt w' b v' (k + upto (lenS nums) N) F ∧ Gb b w w' v v' := by
  have HSP := Go.Lib.hid hsp; have HW := Go.Lib.hid hw; have HNUM := Go.Lib.hid hnum; have HA := Go.Lib.hid ha; have HBIG := Go.Lib.hid hbig; have HF := Go.Lib.hid hF
  have HBL := Go.Lib.hid (row_lt hw.row)
  have HUP := Go.Lib.hid (fun i (hi : i ≤ N) => (show upto (lenS nums) i ≤ 3000000 * i from by
    induction i with
    | zero => exact Nat.le_refl _
    | succ i ih => show upto (lenS nums) i + textL (nums i) ≤ _; have := ih (by omega); have := numL_le (nums i).size; have := hbig i (by omega); unfold textL; omega))
  clear hsp hw hnum ha hbig hF
  go_enter Try.func48, Try.ntmps48
  go_wp2_with (go_at_call 38; refine (there_any _ HW.out).mono ?_; rintro e w' ⟨rfl, rfl⟩)
  go_loopw [14] (fun ix wr => ∃ i : Nat, i ≤ N ∧ ix = .int .i64 i ∧ ∃ v', WrAt wr b v' (k + upto (lenS nums) i) F ∧ Gb b w wr v v') (fun ix _ => N - (intOf ix).toNat)
  case atStart => exact ⟨0, by omega, rfl, v, HW.out, Gb.refl _ _ _⟩
  case round =>
    obtain ⟨i, hi, rfl, v1, hw1, hg1⟩ := hrel
    have HW1 := Go.Lib.hid hw1; have HG1 := Go.Lib.hid hg1
    clear hw1 hg1
    by_cases hlt : i < N
    · obtain rfl := HSP.out.resolve_right (by omega)
      have hai := HA.out
      have hcell : wr.cell? ⟨a, off + i, none⟩ = some (.string (nums i)) := HG1.out.ch.get (HNUM.out i hlt) (by
        rintro (e | e)
        · exact hai.1 e
        · exact hai.2 e)
      have hv : wr.cell? ⟨b, 0, none⟩ = some v1 := (cell_of_heap HW1.out.row 0).trans rfl
      have hfz : wr.frozen? ⟨b, 0, none⟩ = false := frozen_of_heap HW1.out.row 0
      have HU := Go.Lib.hid (show upto (lenS nums) (i + 1) = upto (lenS nums) i + textL (nums i) from rfl)
      have hu := HUP.out i hi
      have HFI := Go.Lib.hid (HF.out i hlt)
      have hbi := HBIG.out i hlt
      have hbl := HBL.out
      have hsz := HG1.out.ch.size
      have HWN := Go.Lib.hid (withText_any (b + 1) (k + upto (lenS nums) i) (nums i) v1 F wr HW1.out.own (by omega) (by omega) (by omega) HFI.out)
      have HNL := Go.Lib.hid (show True from trivial)
      clear hai hbl hbi hu hsz
      generalize upto (lenS nums) i = u at *
      generalize textL (nums i) = l at *
      generalize nums i = n at *
      go_wp2_with fail
      refine HWN.out.mono ?_
      rintro e w2 ⟨v2, rfl, ho2, hg2⟩
      obtain ⟨p2, c2, rfl, -⟩ := own_bytes ho2
      have hr2 : w2.heap[b]? = some (.cells #[v1, .bool true] 39) := hg2.ch.heap HW1.out.row (fun e => (HW1.out.ne b e) rfl)
      have hcb : w2.cell? ⟨b, 0, none⟩ = some v1 := (cell_of_heap hr2 0).trans rfl
      have hfb : w2.frozen? ⟨b, 0, none⟩ = false := frozen_of_heap hr2 0
      have HW2 := Go.Lib.hid (show WrAt (w2.setCell ⟨b, 0, none⟩ (.slice p2 (k + u + l) c2)) b (.slice p2 (k + u + l) c2) (k + u + l) F from ⟨(row_setM hr2 0 _).trans rfl, own_ch1 ho2 (Ch.setCell (S := fun q => q = b) (Ch.refl _ w2) (p := ⟨b, 0, none⟩) (fun _ => rfl) _) (fun q e e2 => by have := (ho2.lt q e).1; omega)⟩)
      have HG2 := Go.Lib.hid (HG1.out.trans (hg2.set (b := b) (.slice p2 (k + u + l) c2)))
      clear ho2 hg2 hr2 hv hfz HWN
      go_wp2_with fail
      go_roundw
      case rel => exact ⟨i + 1, by omega, by go_num, _, by rw [HU.out, ← Nat.add_assoc]; exact HW2.out, HG2.out⟩
      case measure => simp [intOf]; omega
    · obtain rfl : i = N := by omega
      go_wp2_with fail
      go_ret
      exact ⟨rfl, v1, HW1.out, HG1.out⟩
set_option maxRecDepth 100000 in
set_option maxHeartbeats 1000000 in
theorem layB_any (b a off N cap k : Nat) (sp : Option Addr) (v : Value) (F : Nat → UInt8) (nums : Nat → Bool) (w : World) (hsp : sp = some ⟨a, off, none⟩ ∨ N = 0) (hw : WrAt w b v k F)
    (hnum : ∀ i, i < N → w.cell? ⟨a, off + i, none⟩ = some (.bool (nums i))) (ha : a ≠ b ∧ v.ownBlock ≠ some a) (hk : k + N ≤ 10000000000)
    (hF : ∀ i, i < N → F (k + i) = if nums i then 1 else 0) :
    Calls Try.prog 44 #[.pointer (some ⟨b, 0, none⟩), .func (.func 45) #[] #[], .slice sp N cap] w fun e w' => e = .returned (.int .i64 0) ∧ ∃ v', WrAt w' b v' (k + N) F ∧ Gb b w w' v v' := by
  have HSP := Go.Lib.hid hsp; have HW := Go.Lib.hid hw; have HNUM := Go.Lib.hid hnum; have HA := Go.Lib.hid ha; have HF := Go.Lib.hid hF
  have HBL := Go.Lib.hid (row_lt hw.row)
  clear hsp hw hnum ha hF
  go_enter Try.func44, Try.ntmps44
  go_wp2_with (go_at_call 38; refine (there_any _ HW.out).mono ?_; rintro e w' ⟨rfl, rfl⟩)
  go_loopw [14] (fun ix wr => ∃ i : Nat, i ≤ N ∧ ix = .int .i64 i ∧ ∃ v', WrAt wr b v' (k + i) F ∧ Gb b w wr v v') (fun ix _ => N - (intOf ix).toNat)
  case atStart => exact ⟨0, by omega, rfl, v, HW.out, Gb.refl _ _ _⟩
  case round =>
    obtain ⟨i, hi, rfl, v1, hw1, hg1⟩ := hrel
    have HW1 := Go.Lib.hid hw1; have HG1 := Go.Lib.hid hg1
    clear hw1 hg1
    by_cases hlt : i < N
    · obtain rfl := HSP.out.resolve_right (by omega)
      have hai := HA.out
      have hcell : wr.cell? ⟨a, off + i, none⟩ = some (.bool (nums i)) := HG1.out.ch.get (HNUM.out i hlt) (by
        rintro (e | e)
        · exact hai.1 e
        · exact hai.2 e)
      have hv : wr.cell? ⟨b, 0, none⟩ = some v1 := (cell_of_heap HW1.out.row 0).trans rfl
      have hfz : wr.frozen? ⟨b, 0, none⟩ = false := frozen_of_heap HW1.out.row 0
      have HFI := Go.Lib.hid (HF.out i hlt)
      have hbl := HBL.out
      have hsz := HG1.out.ch.size
      have HWN := Go.Lib.hid (withTruth_any (b + 1) (k + i) (nums i) v1 F wr HW1.out.own (by omega) (by omega) HFI.out)
      clear hai hbl hsz
      generalize nums i = n at *
      go_wp2_with fail
      refine HWN.out.mono ?_
      rintro e w2 ⟨v2, rfl, ho2, hg2⟩
      obtain ⟨p2, c2, rfl, -⟩ := own_bytes ho2
      have hr2 : w2.heap[b]? = some (.cells #[v1, .bool true] 39) := hg2.ch.heap HW1.out.row (fun e => (HW1.out.ne b e) rfl)
      have hcb : w2.cell? ⟨b, 0, none⟩ = some v1 := (cell_of_heap hr2 0).trans rfl
      have hfb : w2.frozen? ⟨b, 0, none⟩ = false := frozen_of_heap hr2 0
      have HW2 := Go.Lib.hid (show WrAt (w2.setCell ⟨b, 0, none⟩ (.slice p2 (k + i + 1) c2)) b (.slice p2 (k + i + 1) c2) (k + i + 1) F from ⟨(row_setM hr2 0 _).trans rfl, own_ch1 ho2 (Ch.setCell (S := fun q => q = b) (Ch.refl _ w2) (p := ⟨b, 0, none⟩) (fun _ => rfl) _) (fun q e e2 => by have := (ho2.lt q e).1; omega)⟩)
      have HG2 := Go.Lib.hid (HG1.out.trans (hg2.set (b := b) (.slice p2 (k + i + 1) c2)))
      clear ho2 hg2 hr2 hv hfz HWN
      go_wp2_with fail
      go_roundw
      case rel => exact ⟨i + 1, by omega, by go_num, _, by rw [← Nat.add_assoc]; exact HW2.out, HG2.out⟩
      case measure => simp [intOf]; omega
    · obtain rfl : i = N := by omega
      go_wp2_with fail
      go_ret
      exact ⟨rfl, v1, HW1.out, HG1.out⟩

theorem wText_long (b k : Nat) (v : Value) (F : Nat → UInt8) (s : ByteArray) (w : World) (hw : WrAt w b v k F) (hs : 1048576 < s.size) :
    Calls Try.prog 18 #[.pointer (some ⟨b, 0, none⟩), .string s] w fun e w' => e = .returned (.int .i64 3) ∧ w = w' := by
  have HT := Go.Lib.hid (there_any w hw)
  have hs' : (1048576 : Int) < (s.size : Int) := by omega
  clear hw hs
  go_enter Try.func18, Try.ntmps18
  go_wp2_with (go_at_call 38; refine HT.out.mono ?_; rintro e w' ⟨rfl, rfl⟩)
  go_ret
  exact ⟨rfl, rfl⟩
theorem wText_ok (b k : Nat) (v : Value) (F : Nat → UInt8) (s : ByteArray) (w : World) (hw : WrAt w b v k F) (hs : s.size ≤ 1048576) (hk : k ≤ 1000000000) (hF : ∀ j, j < textL s → F (k + j) = textB s j) :
    Calls Try.prog 18 #[.pointer (some ⟨b, 0, none⟩), .string s] w fun e w' => e = .returned (.int .i64 0) ∧ ∃ v', WrAt w' b v' (k + textL s) F ∧ Gb b w w' v v' := by
  have HT := Go.Lib.hid (there_any w hw)
  have hs' : ¬ (1048576 : Int) < (s.size : Int) := by omega
  have hal : Ch (fun _ => False) w (w.alloc (.cells #[.string s] 89)) := (Ch.refl _ w).alloc _
  have hwb := row_lt hw.row
  have HL := Go.Lib.hid (layS_any b w.heap.size 0 1 1 k (some ⟨w.heap.size, 0, none⟩) v F (fun _ => s) (w.alloc (.cells #[.string s] 9)) (.inl rfl) (hw.ch ((Ch.refl (fun _ => False) w).alloc _) id (fun _ _ => id)) (fun i hi => by
      obtain rfl : i = 0 := by omega
      exact cell_new w _ 9) ⟨by omega, fun e => by have := (hw.own.lt _ e).2; omega⟩ (fun i hi => by omega) (by omega) (fun i hi j hj => by
      obtain rfl : i = 0 := by omega
      rw [show k + upto (lenS fun _ => s) 0 + j = k + j by simp [upto]]
      exact hF j hj))
  rw [show k + upto (lenS fun _ => s) 1 = k + textL s by simp [upto, lenS]] at HL
  have HG := Go.Lib.hid (fun w' v' (h : Gb b (w.alloc (.cells #[.string s] 9)) w' v v') => (show Gb b w w' v v' from ⟨((Ch.refl _ w).alloc _).trans h.ch, fun g e => (h.own g e).imp id (fun h => by simp at h; omega)⟩))
  clear hw hF hal hwb
  go_enter Try.func18, Try.ntmps18
  go_wp2_with (first
    | (go_at_call 38; refine HT.out.mono ?_; rintro e w' ⟨rfl, rfl⟩)
    | (go_at_call 48; refine HL.out.mono ?_; rintro e w' ⟨rfl, v2, h1, h2⟩; have H1 := Go.Lib.hid h1; have H2 := Go.Lib.hid (HG.out _ _ h2); clear h1 h2))
  go_ret
  exact ⟨rfl, v2, H1.out, H2.out⟩
end Go.Proofs.Ytljllfdigfojdaa
