import Derived.Test.YtdmeeghgbiffmaaDoorT10
import Derived.Laws.IdiomStrings
namespace Go.Proofs.YtdmeeghgbiffmaaDoor
open Go.RowKit

/-- The digit of a number below sixteen. -/
def digit (k : Nat) : UInt8 := (#[48, 49, 50, 51, 52, 53, 54, 55, 56, 57, 97, 98, 99, 100, 101, 102] : Array UInt8).getD k 0
def nib (g : Nat → UInt8) (i : Nat) : Nat := if i % 2 = 0 then (g (i / 2)).toNat / 16 else (g (i / 2)).toNat % 16
def hexL (g : Nat → UInt8) : List UInt8 := (List.range 64).map fun i => digit (nib g i)
def hexB (g : Nat → UInt8) : ByteArray := ⟨(hexL g).toArray⟩

theorem digit_at (k : Nat) (h : k < 16) : (#[48, 49, 50, 51, 52, 53, 54, 55, 56, 57, 97, 98, 99, 100, 101, 102] : Array UInt8)[k]? = some (digit k) := by
  have hs : k < (#[48, 49, 50, 51, 52, 53, 54, 55, 56, 57, 97, 98, 99, 100, 101, 102] : Array UInt8).size := h
  unfold digit
  rw [Array.getD_eq_getD_getElem?, Array.getElem?_eq_getElem hs]; rfl
theorem index_hv (g : Nat → UInt8) (k : Nat) (hk : k < 32) (w : World) : (Instr.index 31 (.agg (hv g)) (.int .i64 (k : Int))).run Tryd.prog w = .ok (.int .u8 ((g k).toNat : Int)) w := by
  have hg : (hv g)[k]? = some (.int .u8 ((g k).toNat : Int)) := arr_get 32 _ k hk
  have h1 : (k : Int) < 32 := by omega
  have h2 : ¬ 32 ≤ k := by omega
  simp [Instr.index, run_underlying Tryd.underlying31, asIntOf, h1, h2, hg, go_sem]
theorem index_digit (k : Nat) (x : Int) (hx : x = (k : Int)) (hk : k < 16) (w : World) : (Instr.index 9 (.string ⟨#[48, 49, 50, 51, 52, 53, 54, 55, 56, 57, 97, 98, 99, 100, 101, 102]⟩) (.int .u8 x)).run Tryd.prog w = .ok (.int .u8 ((digit k).toNat : Int)) w := by
  subst hx
  obtain rfl | rfl | rfl | rfl | rfl | rfl | rfl | rfl | rfl | rfl | rfl | rfl | rfl | rfl | rfl | rfl : k = 0 ∨ k = 1 ∨ k = 2 ∨ k = 3 ∨ k = 4 ∨ k = 5 ∨ k = 6 ∨ k = 7 ∨ k = 8 ∨ k = 9 ∨ k = 10 ∨ k = 11 ∨ k = 12 ∨ k = 13 ∨ k = 14 ∨ k = 15 := by omega
  all_goals (simp [Instr.index, run_underlying Tryd.underlying9, asIntOf, digit, go_sem]; rfl)
theorem nib_lt (g : Nat → UInt8) (i : Nat) : nib g i < 16 := by
  have := (g (i / 2)).toNat_lt
  unfold nib
  split <;> omega
def hexV (g : Nat → UInt8) (k i : Nat) : Value := if i < 2 * k then bv (digit (nib g i)) else .int .u8 0

theorem hex_step (g : Nat → UInt8) (k i : Nat) : (if i = 2 * k + 1 then (.int .u8 ((digit ((g k).toNat % 16)).toNat : Int) : Value) else if i = 2 * k then .int .u8 ((digit ((g k).toNat / 16)).toNat : Int) else hexV g k i) = hexV g (k + 1) i := by
  unfold hexV bv nib
  by_cases h1 : i = 2 * k + 1
  · subst h1
    rw [if_pos rfl, if_pos (by omega), if_neg (by omega), show (2 * k + 1) / 2 = k by omega]
  · rw [if_neg h1]
    by_cases h2 : i = 2 * k
    · subst h2
      rw [if_pos rfl, if_pos (show 2 * k < 2 * (k + 1) by omega), if_pos (by omega), show 2 * k / 2 = k by omega]
    · rw [if_neg h2]
      by_cases h3 : i < 2 * k
      · rw [if_pos h3, if_pos (show i < 2 * (k + 1) by omega)]
      · rw [if_neg h3, if_neg (show ¬ i < 2 * (k + 1) by omega)]
theorem hexL_length (g : Nat → UInt8) : (hexL g).length = 64 := by simp [hexL]
theorem hexL_get (g : Nat → UInt8) (j : Nat) (hj : j < (hexL g).length) : (hexL g)[j] = digit (nib g j) := by simp [hexL]
theorem conv_hex (g : Nat → UInt8) (b : Nat) (w : World) (h : w.heap[b + 1]? = some (.cells (arr 64 (hexV g 32)) 22)) :
    (convert 34 9 (.slice (some ⟨b + 1, 0, none⟩) 64 64)).run Tryd.prog w = .ok (.string (hexB g)) w := by
  have hc := run_convert_bytes_back (P := Tryd.prog) w 34 9 5 ⟨b + 1, 0, none⟩ 64 (hexL g) Tryd.underlying34 Tryd.underlying5 Tryd.underlying9 (fun j hj => by
    have hj' : j < 64 := by rw [hexL_length] at hj; exact hj
    rw [hexL_get]
    rw [show (⟨b + 1, 0, none⟩ : Addr).add j = ⟨b + 1, j, none⟩ by simp [Addr.add]; omega]
    refine ((cell_of_heap h j).trans (arr_get 64 _ j hj')).trans ?_
    unfold hexV
    rw [if_pos (by omega)]; rfl)
  rw [hexL_length] at hc
  exact hc

set_option maxRecDepth 100000 in
set_option maxHeartbeats 400000 in
theorem text_any (g : Nat → UInt8) (w : World) :
    Calls Tryd.prog 27 #[.agg (hv g)] w fun e w' => e = .returned (.string (hexB g)) ∧ Ch (fun _ => False) w w' := by
  go_enter Tryd.func27, Tryd.ntmps27
  go_wp2_with (refine wpList_load_row rfl 31 (.tmp 1) rfl w.heap.size rfl 31 _ (0, 0) _ ((Below.heap_alloc _ _ _ (by simp)).trans (World.alloc_heap_new w _)) Tryd.underlying31 rfl (hv_info _) ?_)
  generalize hW : (w.alloc (.cells (hv g) 31)).alloc _ = W
  have hs : W.heap.size = w.heap.size + 2 := by rw [← hW]; simp
  have hh : W.heap[w.heap.size + 1]? = some (.cells (arr 64 (hexV g 0)) 22) := by
    rw [← hW]
    have h := World.alloc_heap_new (w.alloc (.cells (hv g) 31)) (.cells (arr 64 fun _ => .int .u8 0) 22)
    rw [World.size_alloc] at h
    exact h.trans rfl
  have hC : Ch (fun _ => False) w W := by rw [← hW]; exact ((Ch.refl _ _).alloc _).alloc _
  have HH := Go.Lib.hid hh; have HC := Go.Lib.hid hC
  clear hh hC hW
  go_loopw [4, 5, 7] (fun _ _ i wr => ∃ k : Nat, k ≤ 32 ∧ i = .int .i64 k ∧ wr.heap[w.heap.size + 1]? = some (.cells (arr 64 (hexV g k)) 22) ∧ Ch (fun j => j = w.heap.size + 1) W wr) (fun _ _ i _ => 32 - (intOf i).toNat)
  case atStart => exact ⟨0, by omega, rfl, HH.out, Ch.refl _ _⟩
  case round =>
    obtain ⟨k, hk, rfl, hr, hC⟩ := hrel
    have HR := Go.Lib.hid hr; have HCr := Go.Lib.hid hC
    clear hr hC
    by_cases hkN : k < 32
    · have hg := index_hv g k hkN
      have hn0 := nib_lt g (2 * k)
      have hcA : wr.cell? ⟨w.heap.size + 1, 2 * k, none⟩ = some (hexV g k (2 * k)) := (cell_of_heap HR.out _).trans (arr_get _ _ _ (by omega))
      have hcB : wr.cell? ⟨w.heap.size + 1, 2 * k + 1, none⟩ = some (hexV g k (2 * k + 1)) := (cell_of_heap HR.out _).trans (arr_get _ _ _ (by omega))
      have hfA : wr.frozen? ⟨w.heap.size + 1, 2 * k, none⟩ = false := frozen_of_heap HR.out _
      have hfB : wr.frozen? ⟨w.heap.size + 1, 2 * k + 1, none⟩ = false := frozen_of_heap HR.out _
      go_wp2_with fail
      have hb := (g k).toNat_lt
      have hd1 := index_digit ((g k).toNat / 16) ((g k).toNat / 16 : Int) (by omega) (by omega)
      have hd2 := index_digit ((g k).toNat % 16) ((g k).toNat % 16 : Int) (by omega) (by omega)
      go_region
      go_wp2
      go_roundw
      case rel =>
        refine ⟨k + 1, by omega, by go_num, ?_, (Ch.setCell (S := fun j => j = w.heap.size + 1) (Ch.setCell (S := fun j => j = w.heap.size + 1) HCr.out (p := ⟨w.heap.size + 1, 2 * k, none⟩) (fun _ => rfl) _) (p := ⟨w.heap.size + 1, 2 * k + 1, none⟩) (fun _ => rfl) _).drew⟩
        refine (heap_set (heap_set HR.out (2 * k) _) (2 * k + 1) _).trans ?_
        rw [arr_congr (fun i _ => hex_step g k i)]
      case measure => simp [intOf]; omega
    · obtain rfl : k = 32 := by omega
      have hconv := conv_hex g w.heap.size wr HR.out
      have HCw := Go.Lib.hid (HC.out.then HCr.out (fun i hi h => by omega))
      go_wp2
      go_ret
      exact ⟨rfl, HCw.out⟩
end Go.Proofs.YtdmeeghgbiffmaaDoor
