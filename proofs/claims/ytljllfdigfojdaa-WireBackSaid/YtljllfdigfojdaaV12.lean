/- Split, where it tells nothing. -/
import Derived.Test.YtljllfdigfojdaaV11
namespace Go.Proofs.Ytljllfdigfojdaa
open Go Go.RowKit

/-- The block in which a slice's bytes lie. -/
theorem BytesAt.home {w : World} {p : Option Addr} {n c : Nat} {f : Nat → UInt8} (h : BytesAt w p n c f) : 0 < n → ∃ x0, x0 < w.heap.size ∧ ∀ ad, p = some ad → ad.block = x0 := fun hn => by
  obtain ⟨x, y, rfl, hx, _⟩ := h.at0 hn
  exact ⟨x, hx, fun ad e => by cases e; rfl⟩
set_option maxRecDepth 100000 in
set_option maxHeartbeats 1000000 in
theorem split_no (p : Option Addr) (n c x0 : Nat) (f : Nat → UInt8) (w : World) (hb : BytesAt w p n c f) (hx0 : x0 < w.heap.size) (hblk : ∀ ad, p = some ad → ad.block = x0) (no : Int) (ho : (outS f n = .lack ∧ no = 0) ∨ (outS f n = .wrong ∧ no = 141)) :
    Calls Try.prog 30 #[.slice p n c] w fun e w' => e = .returned (.tuple #[.slice none 0 0, .int .i64 0, .int .i64 no]) ∧ Ch (fun _ => False) w w' := by
  have HB := Go.Lib.hid hb; have HBL := Go.Lib.hid hblk; have HO := Go.Lib.hid ho
  clear hb hblk ho
  go_enter Try.func30, Try.ntmps30
  go_wp2_with fail
  generalize hW3 : World.alloc (World.alloc w _) _ = W3
  have hA : W3.heap[w.heap.size]? = some (.cells #[.slice p n c] 57) := by
    rw [← hW3]
    exact ((Ch.refl (fun _ => False) (w.alloc _)).alloc _).heap (World.alloc_heap_new w _) id
  have hB : W3.heap[w.heap.size + 1]? = some (.cells #[.slice none 0 0] 27) := by
    rw [← hW3, ← World.size_alloc w (.cells #[.slice p n c] 57)]
    exact World.alloc_heap_new _ _
  have hc3 : Ch (fun _ => False) w W3 := by rw [← hW3]; exact ((Ch.refl _ w).alloc _).alloc _
  have hs3 : w.heap.size + 2 = W3.heap.size := by rw [← hW3]; simp
  clear hW3
  have hca : Ch (fun _ => False) W3 (W3.alloc (.cells #[.int .i64 0] 127)) := (Ch.refl _ W3).alloc _
  have hcw := hc3.trans hca
  have HT := Go.Lib.hid (tried70 _ _ W3 _ (split1_any w.heap.size x0 (w.heap.size + 1) p n c f (W3.alloc (.cells #[.int .i64 0] 127)) ⟨hca.heap hA id, HB.out.but hcw HBL.out id, by omega, HBL.out⟩ (hca.heap hB id) (by omega))
    (fun e w' hpc => by
      refine ⟨?_, hpc.1.heap (World.alloc_heap_new W3 _) (by omega)⟩
      have h := hpc.2
      rcases HO.out with ⟨h1, _⟩ | ⟨h1, _⟩
      · rw [h1] at h; exact .inr (.inl h)
      · rw [h1] at h; exact .inr (.inr h)))
  have HC3 := Go.Lib.hid hc3
  have HD := Go.Lib.hid hs3
  clear hA hB hca hcw
  refine HT.out.mono ?_
  rintro e w' ⟨e1, w1, v, hpc, htold, rfl, rfl⟩
  have hcD : Ch (fun q => q = W3.heap.size) w1 (w1.setCell ⟨W3.heap.size, 0, none⟩ (.int .i64 v)) := Ch.setCell (S := fun q => q = W3.heap.size) (Ch.refl _ w1) (p := ⟨W3.heap.size, 0, none⟩) (fun _ => rfl) _
  have hcx : Ch (fun _ => False) w (w1.setCell ⟨W3.heap.size, 0, none⟩ (.int .i64 v)) := ((hc3.alloc _).then hpc.1 (fun i hi e => by omega)).then hcD (fun i hi e => by omega)
  have HCX := Go.Lib.hid hcx
  have HPC := Go.Lib.hid hpc.2; have HTO := Go.Lib.hid htold
  clear hpc htold hcD hcx HT hc3 hs3
  generalize w1.setCell ⟨W3.heap.size, 0, none⟩ (.int .i64 v) = WX at *
  rcases HO.out with ⟨h1, rfl⟩ | ⟨h1, rfl⟩
  · rw [h1] at HPC
    obtain rfl : v = 1 := by
      have h := HPC.out
      rcases HTO.out with ⟨h1, h2⟩ | ⟨h1, h2⟩ | ⟨h1, h2⟩
      all_goals first | exact h2 | (rw [h] at h1; cases h1)
    clear HPC HTO HO h1
    go_wp2_with fail
    refine bodyPost_ret (v := .tuple #[.slice none 0 0, .int .i64 0, .int .i64 0]) (by simp [results, Try.results30, go_sem]) rfl ⟨rfl, HCX.out⟩
  · rw [h1] at HPC
    obtain rfl : v = 2 := by
      have h := HPC.out
      rcases HTO.out with ⟨h1, h2⟩ | ⟨h1, h2⟩ | ⟨h1, h2⟩
      all_goals first | exact h2 | (rw [h] at h1; cases h1)
    clear HPC HTO HO h1
    go_wp2_with fail
    refine bodyPost_ret (v := .tuple #[.slice none 0 0, .int .i64 0, .int .i64 141]) (by simp [results, Try.results30, go_sem]) rfl ⟨rfl, HCX.out⟩
end Go.Proofs.Ytljllfdigfojdaa
