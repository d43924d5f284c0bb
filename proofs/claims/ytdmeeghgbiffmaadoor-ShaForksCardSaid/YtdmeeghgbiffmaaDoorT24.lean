import Derived.Test.YtdmeeghgbiffmaaDoorT23
namespace Go.Proofs.YtdmeeghgbiffmaaDoor
open Go.RowKit

/-- Bytes behind a tag that is there twice. -/
def tagged (T f : Nat → UInt8) : Nat → UInt8 := fun i => if i < 32 then T i else if i < 64 then T (i - 32) else f (i - 64)

theorem row_lt {w : World} {b : Nat} {o : Obj} (h : w.heap[b]? = some o) : b < w.heap.size := by
  by_cases e : b < w.heap.size
  · exact e
  · rw [Array.getElem?_eq_none (by omega)] at h; exact nomatch h

set_option maxRecDepth 100000 in
set_option maxHeartbeats 2000000 in
theorem named_any (s : ByteArray) (a off N cap : Nat) (sp : Option Addr) (P : Nat → Option Addr) (L C : Nat → Nat) (f : Nat → UInt8) (w : World) (hsp : sp = some ⟨a, off, none⟩ ∨ N = 0) (hN : N ≤ 1000000)
    (hn : upto L N ≤ 100000000000) (hs : s.size ≤ 100000000000) (hP : PartsAt w a off N P L C f) (hK : KAt w) :
    Calls Tryd.prog 21 #[.string s, .slice sp N cap] w fun e w' => e = .returned (.agg (hv (hashB (tagged (hashB (byteAt s) s.size) f) (64 + upto L N)))) ∧ Ch (fun _ => False) w w' := by
  have HP := Go.Lib.hid hP; have HK := Go.Lib.hid hK
  have HB := Go.Lib.hid (fun w => begun_any w)
  have hK0 : 0 < w.heap.size := cell_lt (hK 0 (by omega))
  clear hK hP
  generalize hrc : runCells st0 = rc
  have HRC := Go.Lib.hid hrc
  rw [hrc] at HB
  have HRS := Go.Lib.hid (hrc ▸ run_size)
  have HRA := Go.Lib.hid (hrc ▸ run_all)
  have HRZ : Hid (26 = rc.size) := Go.Lib.hid (hrc ▸ rfl)
  clear hrc
  generalize hT : hashB (byteAt s) s.size = T
  have HT := Go.Lib.hid hT
  clear hT
  go_enter Tryd.func21, Tryd.ntmps21
  go_wp2_with fail
  refine (HB.out _).mono ?_; rintro e w1 ⟨rfl, hw1⟩; have HW1 := Go.Lib.hid hw1; clear hw1
  go_wp2_with (refine wpList_store_row rfl 65 (.tmp 5) (.tmp 10) rfl w1.heap.size rc rfl rfl 65 _ (World.alloc_heap_new w1 _) HRS.out HRZ.out HRA.out ?_)
  generalize hW2 : (w1.alloc _).setRow w1.heap.size rc = W2
  have hc2 : Ch (fun _ => False) w1 W2 := by rw [← hW2]; exact ((Ch.refl _ _).alloc _).setRow (fun h => absurd h (Nat.lt_irrefl _)) _
  have hc0 : Ch (fun _ => False) w w1 := ((Ch.refl _ w).alloc _).trans (HW1.out.mono (fun _ _ h => h))
  have hh0 : W2.heap[w.heap.size]? = some (.cells (arr 32 fun _ => .int .u8 0) 31) := hc2.heap (HW1.out.heap (World.alloc_heap_new w _) id) id
  have hr0 : RunAt W2 w1.heap.size (byteAt s) 0 := by
    refine run_heap ?_ _
    rw [HRC.out, ← hW2]
    exact heap_setRow (World.alloc_heap_new w1 _)
  have hsz : w.heap.size < w1.heap.size := by have := HW1.out.size; simp at this; omega
  have HC := Go.Lib.hid (hc0.trans hc2); have HH0 := Go.Lib.hid hh0; have HR0 := Go.Lib.hid hr0
  clear hc2 hc0 hh0 hr0 hW2 HW1
  generalize w1.heap.size = B1 at *
  have h48 := Go.Lib.hid (read_str B1 0 s (byteAt s) W2 (by omega) (by omega) HR0.out (HK.out.ch HC.out id) (fun i _ => by rw [Nat.zero_add]))
  go_at_call 48
  refine h48.out.mono ?_
  rintro e w3 ⟨rfl, hc3, hr3⟩
  rw [Nat.zero_add] at hr3
  have HC3 := Go.Lib.hid (HC.out.then hc3 (fun i hi h => by omega))
  have HH3 := Go.Lib.hid (hc3.heap HH0.out (by omega))
  have HR3 := Go.Lib.hid hr3
  clear h48 hc3 hr3 HC HH0 HR0
  go_wp2_with fail
  have h47 := Go.Lib.hid (hash_any B1 s.size (byteAt s) w3 (by omega) (by omega) HR3.out (HK.out.ch HC3.out id))
  refine h47.out.mono ?_
  rintro e w4 ⟨rfl, hc4⟩
  rw [HT.out]
  have HC4 := Go.Lib.hid (HC3.out.then hc4 (fun i hi h => by omega))
  have HH4 := Go.Lib.hid (hc4.heap HH3.out (by omega))
  clear h47 hc4 HC3 HH3 HR3
  go_wp2_with (refine wpList_store_row rfl 31 (.tmp 6) (.tmp 13) rfl w4.heap.size (hv T) rfl rfl 31 _ (World.alloc_heap_new w4 _) (hv_info _) (by rw [show (hv T).size = 32 from arr_size _ _]; rfl) (hv_all _) ?_)
  generalize hW5 : (w4.alloc _).setRow w4.heap.size (hv T) = W5
  have hc5 : Ch (fun _ => False) w4 W5 := by rw [← hW5]; exact ((Ch.refl _ _).alloc _).setRow (fun h => absurd h (Nat.lt_irrefl _)) _
  have ht5 : W5.heap[w4.heap.size]? = some (.cells (hv T) 31) := by rw [← hW5]; exact heap_setRow (World.alloc_heap_new w4 _)
  have hsz4 : w.heap.size < w4.heap.size := by have := row_lt HH4.out; omega
  have HC5 := Go.Lib.hid (HC4.out.trans hc5)
  have HH5 := Go.Lib.hid (hc5.heap HH4.out id)
  have HT5 := Go.Lib.hid ht5
  clear hc5 ht5 hW5 HC4 HH4
  generalize w4.heap.size = H at *
  refine (HB.out _).mono ?_
  rintro e w6 ⟨rfl, hc6⟩
  have HC6 := Go.Lib.hid (HC5.out.trans hc6)
  have HH6 := Go.Lib.hid (hc6.heap HH5.out id)
  have HT6 := Go.Lib.hid (hc6.heap HT5.out id)
  clear hc6 HC5 HH5 HT5
  go_wp2_with (refine wpList_store_row rfl 65 (.tmp 7) (.tmp 14) rfl w6.heap.size rc rfl rfl 65 _ (World.alloc_heap_new w6 _) HRS.out HRZ.out HRA.out ?_)
  generalize hW7 : (w6.alloc _).setRow w6.heap.size rc = W7
  have hc7 : Ch (fun _ => False) w6 W7 := by rw [← hW7]; exact ((Ch.refl _ _).alloc _).setRow (fun h => absurd h (Nat.lt_irrefl _)) _
  have hr7 : RunAt W7 w6.heap.size (tagged T f) 0 := by
    refine run_heap ?_ _
    rw [HRC.out, ← hW7]
    exact heap_setRow (World.alloc_heap_new w6 _)
  have hH6 : H < w6.heap.size := row_lt HT6.out
  have HC7 := Go.Lib.hid (HC6.out.trans hc7)
  have HH7 := Go.Lib.hid (hc7.heap HH6.out id)
  have HT7 := Go.Lib.hid (hc7.heap HT6.out id)
  have HR7 := Go.Lib.hid hr7
  clear hc7 hr7 hW7 HC6 HH6 HT6
  generalize w6.heap.size = B2 at *
  have hte : ∀ (wx : World), wx.heap[H]? = some (.cells (hv T) 31) → ∀ i, i < 32 → wx.cell? ⟨H, 0 + i, none⟩ = some (.int .u8 ((T i).toNat : Int)) := by
    intro wx h i hi
    rw [Nat.zero_add]
    exact (cell_of_heap h _).trans (arr_get 32 _ i hi)
  have HTE := Go.Lib.hid hte
  clear hte
  have h8 := Go.Lib.hid (read_bytes B2 0 32 32 H 0 (some ⟨H, 0, none⟩) (tagged T f) W7 (.inl rfl) (by omega) (by omega) (by omega) HR7.out (HK.out.ch HC7.out id) (fun i hi => by rw [HTE.out _ HT7.out i hi]; unfold tagged; rw [Nat.zero_add, if_pos hi]))
  refine h8.out.mono ?_
  rintro e w8 ⟨rfl, hc8, hr8⟩
  rw [Nat.zero_add] at hr8
  have HC8 := Go.Lib.hid (HC7.out.then hc8 (fun i hi h => by omega))
  have HH8 := Go.Lib.hid (hc8.heap HH7.out (by omega))
  have HT8 := Go.Lib.hid (hc8.heap HT7.out (by omega))
  have HR8 := Go.Lib.hid hr8
  clear h8 hc8 hr8 HC7 HH7 HT7 HR7
  go_wp2_with fail
  have h9 := Go.Lib.hid (read_bytes B2 32 32 32 H 0 (some ⟨H, 0, none⟩) (tagged T f) w8 (.inl rfl) (by omega) (by omega) (by omega) HR8.out (HK.out.ch HC8.out id) (fun i hi => by rw [HTE.out _ HT8.out i hi]; unfold tagged; rw [if_neg (by omega), if_pos (by omega), Nat.add_sub_cancel_left]))
  refine h9.out.mono ?_
  rintro e w9 ⟨rfl, hc9, hr9⟩
  have HC9 := Go.Lib.hid (HC8.out.then hc9 (fun i hi h => by omega))
  have HH9 := Go.Lib.hid (hc9.heap HH8.out (by omega))
  have HR9 := Go.Lib.hid hr9
  clear h9 hc9 hr9 HC8 HH8 HT8 HR8
  have hB2 : w.heap.size < B2 := by omega
  go_wp2_with fail
  go_loopw [9, 21] (fun _ i wr => ∃ k : Nat, k ≤ N ∧ i = .int .i64 k ∧ RunAt wr B2 (tagged T f) (64 + upto L k) ∧ Ch (fun j => j = B2) w9 wr) (fun _ i _ => N - (intOf i).toNat)
  case atStart => exact ⟨0, by omega, rfl, HR9.out, Ch.refl _ _⟩
  case round =>
    obtain ⟨k, hk, rfl, hr, hC⟩ := hrel
    have HR := Go.Lib.hid hr; have HCr := Go.Lib.hid hC
    have HCw := Go.Lib.hid (HC9.out.then hC (fun i hi h => by omega))
    clear hr hC
    by_cases hkN : k < N
    · obtain rfl : sp = some ⟨a, off, none⟩ := hsp.resolve_right (by omega)
      have hcell : wr.cell? ⟨a, off + k, none⟩ = some (.slice (P k) (L k) (C k)) := HCw.out.get (HP.out.row k hkN) id
      obtain ⟨x, y, hx, hxl, hxb⟩ := HP.out.bytes k hkN
      have hup : upto L k + L k ≤ upto L N := upto_le L (show k + 1 ≤ N by omega)
      have hrd := Go.Lib.hid (read_bytes B2 (64 + upto L k) (L k) (C k) x y (P k) (tagged T f) wr hx (by omega) (by omega) (by omega) HR.out (HK.out.ch HCw.out id) (fun j hj => by rw [HCw.out.get (hxb j hj) id]; unfold tagged; rw [if_neg (by omega), if_neg (by omega), show 64 + upto L k + j - 64 = upto L k + j by omega]))
      clear hx hxb
      go_wp2_with (go_at_call 46; refine hrd.out.mono ?_; rintro e w4 ⟨rfl, hc4, hr4⟩; have HC4 := Go.Lib.hid hc4; have HR4 := Go.Lib.hid hr4; clear hc4 hr4)
      go_roundw
      case rel => exact ⟨k + 1, by omega, by go_num, by rw [show 64 + upto L (k + 1) = 64 + upto L k + L k from (Nat.add_assoc _ _ _).symm]; exact HR4.out, HCr.out.trans HC4.out⟩
      case measure => simp [intOf]; omega
    · obtain rfl : k = N := by omega
      have hha := Go.Lib.hid (hash_any B2 (64 + upto L k) (tagged T f) wr (by omega) (by omega) HR.out (HK.out.ch HCw.out id))
      have HH1 := Go.Lib.hid (HCr.out.heap HH9.out (by omega))
      go_wp2_with (first | (go_at_call 47; refine hha.out.mono ?_; rintro e w5 ⟨rfl, hc5⟩; have HC5 := Go.Lib.hid hc5; have HH5 := Go.Lib.hid (hc5.heap HH1.out (by omega)); clear hc5) | refine wpList_store_row rfl 31 (.tmp 4) (.tmp 28) rfl w.heap.size (hv (hashB (tagged T f) (64 + upto L k))) rfl rfl 31 (arr 32 fun _ => .int .u8 0) HH5.out (hv_info _) (by rw [arr_size]; exact (arr_size _ _).symm) (hv_all _) ?_)
      refine bodyPost_ret (results_cell_row (h := Tryd.results21) _ _ w.heap.size 31 _ (0, 0) _ rfl (heap_setRow HH5.out) Tryd.underlying31 rfl (hv_info _)) rfl ⟨rfl, ?_⟩
      exact (HCw.out.then HC5.out (fun i hi h => by omega)).setRow (fun h => absurd h (Nat.lt_irrefl _)) _
end Go.Proofs.YtdmeeghgbiffmaaDoor
