/- The reference's Named. -/
import Derived.Test.YtdmeeghgbiffmaaDoorR7
import Derived.Test.YtdmeeghgbiffmaaDoorT24
namespace Go.Proofs.YtdmeeghgbiffmaaDoor
open Go.RowKit

theorem fL_append (F f g : Nat → UInt8) (n m : Nat) (h1 : ∀ j, j < n → F j = f j) (h2 : ∀ j, j < m → F (n + j) = g j) : fL f n ++ fL g m = fL F (n + m) := by
  induction m with
  | zero => rw [show fL g 0 = [] from rfl, List.append_nil]; exact (fL_congr n (fun j hj => h1 j hj)).symm
  | succ m ih =>
    rw [fL_succ, ← List.append_assoc, ih (fun j hj => h2 j (by omega)), ← Nat.add_assoc, fL_succ, h2 m (by omega)]
/-- '[]byte(s)'. -/
theorem conv_str (s : ByteArray) (w : World) : ∃ cap W2, (convert 9 34 (.string s)).run Tryd.prog w = .ok (.slice (some ⟨w.heap.size, 0, none⟩) s.size cap) W2 ∧ Ch (fun _ => False) w W2 ∧ W2.heap.size = w.heap.size + 1 ∧ s.size ≤ cap ∧
    BytesAt W2 (some ⟨w.heap.size, 0, none⟩) s.size cap (byteAt s) := by
  have h := run_bytes_of_string (P := Tryd.prog) w 9 34 5 s Tryd.underlying9 Tryd.underlying34 Tryd.underlying5
  refine ⟨_, _, h, ((Ch.refl _ w).drew).alloc _, World.size_alloc w.drew _, ?_, ?_⟩
  · exact grownCap_ge _ _ _ _
  · refine .inl ⟨_, _, rfl, grownCap_ge _ _ _ _, fun j hj => ?_⟩
    rw [Nat.zero_add]
    refine (World.cell?_alloc_mark w.drew _ 5 _ j).trans ?_
    rw [bytesRow_at _ _ _ hj]
    unfold byteAt
    rw [Array.getD_eq_getD_getElem?, Array.getElem?_eq_getElem hj]
    rfl
theorem BytesAt.news {w : World} {ad : Addr} {n c : Nat} {f : Nat → UInt8} (h : BytesAt w (some ad) n c f) : ∀ j u, (fL f n)[j]? = some u → w.cell? (ad.add j) = some u := fun j u hj => by
  obtain ⟨h1, rfl⟩ := fL_get f n j u hj
  rcases h with ⟨x, y, e, _, hb⟩ | ⟨h0, _⟩
  · cases e
    rw [show (⟨x, y, none⟩ : Addr).add j = ⟨x, y + j, none⟩ by simp [Addr.add]]
    exact hb j h1
  · cases h0
/-- 'append(s, b...)', s a row of one's own, b any bytes. -/
theorem wpList_append_bytes {w : World} {ops : Array Oper} {rest : List Oper} {o : Oper} {a : Act} {Q : Exit → Act → World → Prop} (hgd : o.guard = none) (s x : Operand)
    (ho : o.op = .call { callee := .builtin .append, args := #[s, x], argTypes := #[34, 34] }) (base : Nat) (v : Value) (k : Nat) (xs : List Value) (hs : a.eval s = v) (hown : w.ownsRow base 5 1 v k xs)
    (p : Option Addr) (n c : Nat) (f : Nat → UInt8) (hx : a.eval x = .slice p n c) (hb : BytesAt w p n c f) (hk : k + n ≤ 100000000000000) (hbase : base ≤ w.heap.size)
    (h : ∀ v' w', w'.ownsRow base 5 1 v' (k + n) (xs ++ fL f n) → w.grownBy w' v.ownBlock → wpList Tryd.prog ops Q rest (a.put o.dst v') w') : wpList Tryd.prog ops Q (o :: rest) a w := by
  obtain ⟨i0, hi, hz0, hz1, hz2⟩ := info_parts info5
  cases p with
  | some ad => exact wpList_append_own _ hgd s x 34 ho base 5 i0 (.int .u8 0) 1 1 Tryd.underlying34 hi hz0 hz1 hz2 rfl (by decide) v k xs hs hown ad n c (fL f n) hx (by rw [fL_len]; omega) hb.news (fL_one _ _) (by simp [maxLen]; omega) (by omega) hbase (fun v' w' h1 h2 _ => h v' w' h1 h2)
  | none =>
    rcases hb with ⟨x, y, e, _⟩ | ⟨_, rfl, rfl⟩
    · cases e
    · exact wpList_append_own_none hgd s x 34 ho base 5 i0 1 Tryd.underlying34 hi v k xs hs hown hx (h v w (by simpa [fL] using hown) ⟨rfl, rfl, rfl, Nat.le_refl _, fun _ _ _ => rfl⟩)
theorem own_pos {w : World} {base k : Nat} {v : Value} {F : Nat → UInt8} (h : w.ownsRow base 5 1 v k (fL F k)) (hk : 0 < k) : ∃ g cap, v = .slice (some ⟨g, 0, none⟩) k cap ∧ base ≤ g ∧ g < w.heap.size ∧ k ≤ cap ∧ BytesAt w (some ⟨g, 0, none⟩) k cap F := by
  obtain ⟨hlen, h0 | ⟨g, cap, cur, rfl, hbg, hg, hnc, hcm, hcs, htake⟩⟩ := h
  · exact absurd h0.2 (by omega)
  · exact ⟨g, cap, rfl, hbg, row_lt hg, hnc, .inl ⟨g, 0, rfl, hnc, fun j hj => by rw [Nat.zero_add]; exact (cell_of_heap hg _).trans (fL_cur htake j hj)⟩⟩

set_option maxRecDepth 100000 in
set_option maxHeartbeats 2000000 in
theorem rnamed_any (s : ByteArray) (p : Option Addr) (n c : Nat) (f : Nat → UInt8) (w : World) (hn : n ≤ 100000000000) (hs : s.size ≤ 100000000000) (hb : BytesAt w p n c f) :
    Calls Tryd.prog 22 #[.string s, .slice p n c] w fun e w' => e = .returned (.agg (hv (hashB (tagged (hashB (byteAt s) s.size) f) (64 + n)))) ∧ Ch (fun _ => False) w w' := by
  have HB := Go.Lib.hid hb
  clear hb
  generalize hT : hashB (byteAt s) s.size = T
  have HT := Go.Lib.hid hT
  clear hT
  obtain ⟨i0, hi, hz0, hz1, hz2⟩ := info_parts info5
  go_enter Tryd.func22, Tryd.ntmps22
  go_upto_region 1 with (fail)
  generalize hW1 : w.alloc _ = W1
  have hc1 : Ch (fun _ => False) w W1 := by rw [← hW1]; exact (Ch.refl _ w).alloc _
  have hh1 : W1.heap[w.heap.size]? = some (.cells (arr 32 fun _ => .int .u8 0) 31) := by rw [← hW1]; exact World.alloc_heap_new w _
  have hs1 : W1.heap.size = w.heap.size + 1 := by rw [← hW1]; exact World.size_alloc _ _
  clear hW1
  obtain ⟨cap, W2, hcv, hc2, hs2, hcap, hb2⟩ := conv_str s W1
  have HC2 := Go.Lib.hid (hc1.trans hc2)
  have HH2 := Go.Lib.hid (hc2.heap hh1 id)
  have HSU := Go.Lib.hid (rsum_any _ s.size cap (byteAt s) W2 (by omega) hb2)
  have HV := Go.Lib.hid hcv
  clear hc2 hb2 hcv hc1 hh1
  rw [HT.out, hs1] at HSU
  rw [hs1] at HV
  go_wp2_with fail
  rw [HV.out]
  simp only [Result.andThen]
  rw [Oper.upon_value]
  go_wp2_with fail
  refine HSU.out.mono ?_
  rintro e w3 ⟨rfl, hc3⟩
  have HC3 := Go.Lib.hid (HC2.out.trans hc3)
  have HH3 := Go.Lib.hid (hc3.heap HH2.out id)
  clear hc3 HC2 HH2 HSU HV
  go_upto_region 2 with (refine wpList_store_row rfl 31 (.tmp 5) (.tmp 10) rfl w3.heap.size (hv T) rfl rfl 31 _ (World.alloc_heap_new w3 _) (hv_info _) (by rw [show (hv T).size = 32 from arr_size _ _]; rfl) (hv_all _) ?_)
  generalize hW4 : (w3.alloc _).setRow w3.heap.size (hv T) = W4
  have hc4 : Ch (fun _ => False) w3 W4 := by rw [← hW4]; exact ((Ch.refl _ _).alloc _).setRow (fun h => absurd h (Nat.lt_irrefl _)) _
  have ht4 : W4.heap[w3.heap.size]? = some (.cells (hv T) 31) := by rw [← hW4]; exact heap_setRow (World.alloc_heap_new w3 _)
  have HC4 := Go.Lib.hid (HC3.out.trans hc4)
  have HH4 := Go.Lib.hid (hc4.heap HH3.out id)
  have HT4 := Go.Lib.hid ht4
  have hsG : w.heap.size < w3.heap.size := row_lt HH3.out
  clear hc4 ht4 hW4 HC3 HH3
  generalize w3.heap.size = G at *
  have HTB := Go.Lib.hid (fun (W : World) (h : W.heap[G]? = some (.cells (hv T) 31)) => (show BytesAt W (some ⟨G, 0, none⟩) 32 32 T from .inl ⟨G, 0, rfl, Nat.le_refl _, fun j hj => (cell_of_heap h _).trans (by rw [Nat.zero_add]; exact arr_get 32 _ j hj)⟩))
  go_wp2_with fail
  go_loopw [6, 7] (fun v i wr => ∃ k : Nat, k ≤ 2 ∧ i = .int .i64 k ∧ wr.ownsRow W4.heap.size 5 1 v (32 * k) (fL (tagged T f) (32 * k)) ∧ Ch (fun _ => False) W4 wr) (fun _ i _ => 2 - (intOf i).toNat)
  case atStart => exact ⟨0, by omega, rfl, World.ownsRow_nil _ _ _ _, Ch.refl _ _⟩
  case round =>
    obtain ⟨k, hk, rfl, hown, hC⟩ := hrel
    have HO := Go.Lib.hid hown; have HCr := Go.Lib.hid hC
    have HCw := Go.Lib.hid (HC4.out.trans hC)
    have hTr := hC.heap HT4.out id
    have HTr := Go.Lib.hid hTr
    have hsz := hC.size
    clear hown hC hTr
    by_cases hlt : k < 2
    · go_wp2_with (at_builtin; refine wpList_append_bytes rfl (.tmp 15) (.tmp 16) rfl W4.heap.size _ _ _ rfl HO.out (some ⟨G, 0, none⟩) 32 32 T rfl (HTB.out _ HTr.out) (by omega) (by omega) ?_; intro v1 w1 hown1 hgrow1; have HO1 := Go.Lib.hid hown1; have HW1 := Go.Lib.hid hgrow1; clear hown1 hgrow1)
      go_roundw
      case rel =>
        refine ⟨k + 1, by omega, by go_num, ?_, ?_⟩
        · have h := HO1.out
          rw [fL_append (tagged T f) (tagged T f) T (32 * k) 32 (fun _ _ => rfl) (fun j hj => by
            unfold tagged
            obtain rfl | rfl : k = 0 ∨ k = 1 := by omega
            · rw [if_pos (by omega)]; congr 1; omega
            · rw [if_neg (by omega), if_pos (by omega)]; congr 1; omega)] at h
          exact h
        · exact Ch.grown HCr.out HW1.out (fun j hj hlt => by have := (World.ownsRow.lt HO.out) j hj; omega)
      case measure => simp [intOf]; omega
    · obtain rfl : k = 2 := by omega
      have HHr := Go.Lib.hid (HCr.out.heap HH4.out id)
      go_upto_region 7 with (fail)
      have hBr := HB.out.ch HCw.out (fun _ _ h => h)
      have HBr := Go.Lib.hid hBr
      clear hBr
      have HLT := Go.Lib.hid (World.ownsRow.lt HO.out)
      go_wp2_with (at_builtin; refine wpList_append_bytes rfl (.tmp 18) (.tmp 19) rfl W4.heap.size _ _ _ rfl HO.out p n c f rfl HBr.out (by omega) (by omega) ?_; skip)
      intro v1 w1 hown1 hgrow1
      rw [fL_append (tagged T f) (tagged T f) f (32 * 2) n (fun _ _ => rfl) (fun j hj => by unfold tagged; rw [if_neg (by omega), if_neg (by omega)]; congr 1; omega)] at hown1
      have hsz4 := HC4.out.size
      have hc1 : Ch (fun _ => False) w w1 := Ch.grown HCw.out hgrow1 (fun j hj hlt => by have := HLT.out j hj; omega)
      have hh1 : w1.heap[w.heap.size]? = some (.cells (arr 32 fun _ => .int .u8 0) 31) := (Ch.grown HCr.out hgrow1 (fun j hj hlt => by have := HLT.out j hj; omega)).heap HH4.out id
      obtain ⟨g, cp, rfl, hbg, hgl, hcp, hb1⟩ := own_pos hown1 (by omega)
      have HC1 := Go.Lib.hid hc1; have HH1 := Go.Lib.hid hh1
      have HS1 := Go.Lib.hid (rsum_any _ (64 + n) cp (tagged T f) w1 (by omega) hb1)
      clear hown1 hgrow1 hc1 hh1 hb1
      go_wp2_with fail
      refine HS1.out.mono ?_
      rintro e w5 ⟨rfl, hc5⟩
      have HC5 := Go.Lib.hid (HC1.out.trans hc5)
      have HH5 := Go.Lib.hid (hc5.heap HH1.out id)
      clear hc5
      go_wp2_with (refine wpList_store_row rfl 31 (.tmp 4) (.tmp 21) rfl w.heap.size (hv (hashB (tagged T f) (64 + n))) rfl rfl 31 (arr 32 fun _ => .int .u8 0) HH5.out (hv_info _) (by rw [arr_size]; exact (arr_size _ _).symm) (hv_all _) ?_)
      refine bodyPost_ret (results_cell_row (h := Tryd.results22) _ _ w.heap.size 31 _ (0, 0) _ rfl (heap_setRow HH5.out) Tryd.underlying31 rfl (hv_info _)) rfl ⟨rfl, ?_⟩
      exact HC5.out.setRow (fun h => absurd h (Nat.lt_irrefl _)) _
end Go.Proofs.YtdmeeghgbiffmaaDoor
