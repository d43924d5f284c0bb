/- The reference's Expand. -/
import Derived.Test.YtikdpiedjkailaaDoorH16
namespace Go.Proofs.YtikdpiedjkailaaDoor
open Go Go.RowKit

set_option maxRecDepth 100000 in
set_option maxHeartbeats 400000 in
theorem join_own (p q : Option Addr) (n m c d : Nat) (f g : Nat → UInt8) (w : World) (hf : BytesAt w p n c f) (hg : BytesAt w q m d g) (hn : n ≤ 10000000000000) (hm : m ≤ 10000000000000) :
    Calls Tryd.prog 29 #[.slice p n c, .slice q m d] w fun e w' => ∃ v, e = .returned v ∧ w'.ownsRow w.heap.size 5 1 v (n + m) (fL (catB n f g) (n + m)) ∧ Ch (fun _ => False) w w' := by
  have HF := Go.Lib.hid hf; have HG := Go.Lib.hid hg
  clear hf hg
  go_enter Tryd.func29, Tryd.ntmps29
  go_wp2_with (at_builtin; first
    | (refine wpList_append_bytes rfl (.tmp 5) (.tmp 6) rfl w.heap.size _ _ _ rfl (ownsRow_empty w _ (Nat.le_refl _)) p n c f rfl (HF.out.ch ((Ch.refl (fun _ => False) w).alloc _) (fun _ _ h => h)) (by omega) (by simp) ?_
       intro v1 w1 hown1 hgrow1
       rw [Nat.zero_add, List.nil_append] at hown1
       have hc1 : Ch (fun _ => False) w w1 := Ch.grown ((Ch.refl _ w).alloc _) hgrow1 (fun k hk hlt => by
         have h : some w.heap.size = some k := hk
         cases h; omega)
       have HO1 := Go.Lib.hid hown1; have HC1 := Go.Lib.hid hc1; clear hown1 hgrow1 hc1)
    | (refine wpList_append_bytes rfl (.tmp 7) (.tmp 8) rfl w.heap.size _ _ _ rfl HO1.out q m d g rfl (HG.out.ch HC1.out (fun _ _ h => h)) (by omega) HC1.out.size ?_
       intro v2 w2 hown2 hgrow2
       rw [fL_append (catB n f g) f g n m (fun j hj => by unfold catB; rw [if_pos hj]) (fun j hj => by unfold catB; rw [if_neg (by omega)]; congr 1; omega)] at hown2
       have hc2 : Ch (fun _ => False) w w2 := Ch.grown HC1.out hgrow2 (fun k hk hlt => by have := (World.ownsRow.lt HO1.out) k hk; omega)
       have HO2 := Go.Lib.hid hown2; have HC2 := Go.Lib.hid hc2; clear hown2 hgrow2 hc2))
  go_ret
  exact ⟨_, rfl, HO2.out, HC2.out⟩

theorem slice_to22 (q : Option Addr) (n c k : Nat) (h : k ≤ c) (w : World) : (Instr.slice 22 (.slice q n c) none (some (.int .i64 (k : Int))) none).run Tryd.prog w = .ok (.slice q k c) w := by
  have e : ¬ c < k := by omega
  cases q with
  | none => simp [Instr.slice, Instr.sliceBounds, Instr.sliceBound, run_underlying Tryd.underlying22, asIntOf, go_sem, e]
  | some a => simp [Instr.slice, Instr.sliceBounds, Instr.sliceBound, run_underlying Tryd.underlying22, asIntOf, go_sem, e, Addr.add]
/-- '[]byte(s)'. -/
theorem conv_str (s : ByteArray) (w : World) : ∃ cap W2, (convert 9 22 (.string s)).run Tryd.prog w = .ok (.slice (some ⟨w.heap.size, 0, none⟩) s.size cap) W2 ∧ Ch (fun _ => False) w W2 ∧ W2.heap.size = w.heap.size + 1 ∧ s.size ≤ cap ∧
    BytesAt W2 (some ⟨w.heap.size, 0, none⟩) s.size cap (byteAt s) := by
  have h := run_bytes_of_string (P := Tryd.prog) w 9 22 5 s Tryd.underlying9 Tryd.underlying22 Tryd.underlying5
  refine ⟨_, _, h, ((Ch.refl _ w).drew).alloc _, World.size_alloc w.drew _, ?_, ?_⟩
  · exact grownCap_ge _ _ _ _
  · refine .inl ⟨_, _, rfl, grownCap_ge _ _ _ _, fun j hj => ?_⟩
    rw [Nat.zero_add]
    refine (World.cell?_alloc_mark w.drew _ 5 _ j).trans ?_
    rw [bytesRow_at _ _ _ hj]
    unfold byteAt
    rw [Array.getD_eq_getD_getElem?, Array.getElem?_eq_getElem hj]
    rfl
set_option maxRecDepth 100000 in
set_option maxHeartbeats 1000000 in
theorem rexpand_err (p : Option Addr) (nk ck : Nat) (s : ByteArray) (n : Int) (w : World) (hn : n < 0 ∨ 8160 < n) :
    Calls Tryd.prog 16 #[.slice p nk ck, .string s, .int .i64 n] w fun e w' => e = .returned (.tuple #[.slice none 0 0, .int .i64 2]) ∧ Ch (fun _ => False) w w' := by
  by_cases h0 : n < 0
  · go_enter Tryd.func16, Tryd.ntmps16
    go_wp2
    go_ret2
    exact ⟨rfl, Ch.refl _ _⟩
  · have h1 : 8160 < n := by omega
    go_enter Tryd.func16, Tryd.ntmps16
    go_wp2
    go_ret2
    exact ⟨rfl, Ch.refl _ _⟩

set_option maxRecDepth 100000 in
set_option maxHeartbeats 4000000 in
theorem rexpand_any (p : Option Addr) (nk ck : Nat) (key : Nat → UInt8) (s : ByteArray) (n : Nat) (w : World) (hn : n ≤ 8160) (hkey : BytesAt w p nk ck key) (hnk : nk ≤ 1000000000) (hs : s.size ≤ 1000000000) :
    Calls Tryd.prog 16 #[.slice p nk ck, .string s, .int .i64 (n : Int)] w fun e w' => ∃ q c, e = .returned (.tuple #[.slice q n c, .int .i64 0]) ∧ BytesAt w' q n c (expB (kb key nk) s) ∧ Ch (fun _ => False) w w' := by
  have HKEY := Go.Lib.hid hkey
  have h1 : ¬ (8160 : Int) < (n : Int) := by omega
  have h2 : ¬ (n : Int) < 0 := by omega
  have HRT := Go.Lib.hid (fun W (hc : Ch (fun _ => False) w W) q m d f (hm : m ≤ 100000000000) (hb : BytesAt W q m d f) => rtag_any p q nk ck m d key f W hnk hm (hkey.ch hc (fun _ _ h => h)) hb)
  have HE := Go.Lib.hid (fun t j (h : j < 32) => expB_next (kb key nk) s t j h)
  have HTS := Go.Lib.hid (fun t => tgs_succ (kb key nk) s t)
  generalize expB (kb key nk) s = E at *
  generalize kb key nk = kk at *
  clear hkey
  go_enter Tryd.func16, Tryd.ntmps16
  go_wp2_with fail
  go_loopw [8, 9, 10] (fun vo vl ix wr => ∃ (t : Nat) (qo ql : Option Addr) (co cl : Nat), t ≤ 255 ∧ ix = .int .i64 ((t : Int) + 1) ∧ vo = .slice qo (32 * t) co ∧ BytesAt wr qo (32 * t) co E ∧ vl = .slice ql (al t) cl ∧ BytesAt wr ql (al t) cl (tgs kk s t) ∧ Ch (fun _ => False) w wr) (fun _ _ ix _ => 300 - (intOf ix).toNat)
  case atStart => exact ⟨0, none, none, 0, 0, by omega, rfl, rfl, .inr ⟨rfl, rfl, rfl⟩, rfl, .inr ⟨rfl, rfl, rfl⟩, Ch.refl _ _⟩
  case round =>
    obtain ⟨t, qo, ql, co, cl, ht, rfl, rfl, hbo, rfl, hbl, hC⟩ := hrel
    have HBO := Go.Lib.hid hbo; have HBL := Go.Lib.hid hbl; have HC := Go.Lib.hid hC
    have hal := al_le t
    have HAL1 := Go.Lib.hid (show al (t + 1) = 32 from rfl)
    clear hbo hbl hC
    by_cases hlt : 32 * t < n
    · have HTT := Go.Lib.hid (HTS.out t)
      have HET := Go.Lib.hid (HE.out t)
      have hmsg := fun (T : Nat → UInt8) j (h : j < al t + s.size) => (show catB (al t) T (byteAt s) j = msgB s t T j by
        unfold msgB catB
        by_cases h1 : j < al t
        · rw [if_pos h1, if_pos h1]
        · rw [if_neg h1, if_neg h1, if_pos (by omega)])
      have hmse := fun (T : Nat → UInt8) => (show msgB s t T (al t + s.size) = UInt8.ofNat (t + 1) by
        unfold msgB catB
        rw [if_neg (by omega), if_neg (by omega)])
      generalize hTn : tgs kk s (t + 1) = Tn at *
      generalize tgs kk s t = T at *
      have HTn := Go.Lib.hid hTn
      have HMG := Go.Lib.hid (fL_congr _ (hmsg T)); have HME := Go.Lib.hid (hmse T)
      clear hTn hmsg hmse
      generalize hMM : msgB s t T = MM at *
      obtain ⟨cap, W2, hcv, hc2, hs2, hcap, hb2⟩ := conv_str s wr
      have HC2 := Go.Lib.hid hc2; have HB2 := Go.Lib.hid hb2
      have HV := Go.Lib.hid hcv
      clear hcv hc2 hb2 hMM
      go_wp2_with fail
      rw [HV.out]
      simp only [Result.andThen]
      rw [Oper.upon_value]
      go_wp2_with fail
      refine (join_own ql (some ⟨wr.heap.size, 0, none⟩) (al t) s.size cl cap T (byteAt s) W2 (HBL.out.ch HC2.out (fun _ _ h => h)) HB2.out (by omega) (by omega)).mono ?_
      rintro e w3 ⟨v3, rfl, ho3, hc3⟩
      rw [HMG.out] at ho3
      have HO3 := Go.Lib.hid ho3; have HC3 := Go.Lib.hid (HC2.out.trans hc3); have hs3 := hc3.size
      clear ho3 hc3 HC2 HB2 HV
      go_wp2_with (at_builtin; (refine wpList_append_byte rfl (.tmp 28) (.tmp 31) rfl W2.heap.size v3 (al t + s.size) MM rfl (HO3.out.alloc _) w3.heap.size _ rfl (cell_fresh w3 _ 5 0) (by rw [HME.out, UInt8.toNat_ofNat']; omega) (by omega) (by simp; omega) ?_
                                intro v4 w4 hown4 hgrow4 hwh4
                                have HO4 := Go.Lib.hid hown4; have HC4 := Go.Lib.hid (show Ch (fun _ => False) wr w4 from Ch.grown (HC3.out.alloc _) hgrow4 (fun k hk hlt => by have := (World.ownsRow.lt HO3.out) k hk; omega))
                                clear hown4 hgrow4 hwh4))
      obtain ⟨q4, c4, rfl, hb4⟩ := own_nil HO4.out
      have HB4 := Go.Lib.hid hb4
      clear hb4 HO3 HC3 HO4
      refine (HRT.out w4 (HC.out.trans HC4.out) q4 (al t + s.size + 1) c4 MM (by omega) HB4.out).mono ?_
      rintro e w5 ⟨rfl, hc5⟩
      rw [show tagB kk MM (al t + s.size + 1) = Tn from HTT.out.symm]
      have HC5 := Go.Lib.hid (HC4.out.trans hc5)
      have HHI := Go.Lib.hid (hv_info Tn); have HHA := Go.Lib.hid (hv_all Tn)
      have HHZ := Go.Lib.hid (show (hv fun _ => 0).size = (hv Tn).size by rw [show (hv fun _ => 0).size = 32 from arr_size _ _]; exact (arr_size _ _).symm)
      clear hc5 HC4 HB4
      go_upto_region 8 with (refine wpList_store_row rfl 28 (.tmp 11) (.tmp 33) rfl w5.heap.size (hv Tn) rfl rfl 28 (hv fun _ => 0) (World.alloc_heap_new w5 _) HHI.out HHZ.out HHA.out ?_)
      generalize hW6 : World.setRow _ w5.heap.size (hv Tn) = W6
      have hx6 : W6.heap[w5.heap.size]? = some (.cells (hv Tn) 28) := by rw [← hW6]; exact heap_setRow (World.alloc_heap_new w5 _)
      have hc6 : Ch (fun _ => False) w5 W6 := by rw [← hW6]; exact ((Ch.refl _ _).alloc _).setRow (fun h => absurd h (Nat.lt_irrefl _)) _
      have HC6 := Go.Lib.hid (HC5.out.trans hc6)
      have hb6 : BytesAt W6 (some ⟨w5.heap.size, 0, none⟩) 32 32 Tn := .inl ⟨w5.heap.size, 0, rfl, Nat.le_refl _, fun j hj => by rw [Nat.zero_add]; exact (cell_of_heap hx6 _).trans (arr_get 32 _ j hj)⟩
      have HB6 := Go.Lib.hid hb6
      have hs6 := HC6.out.size
      clear hW6 hx6 hc6 hb6 HC5 HHI HHA HHZ
      generalize w5.heap.size = X at *
      rw [put_none]
      go_wp2_with (at_builtin; (refine wpList_append_bytes rfl (.tmp 34) (.tmp 35) rfl W6.heap.size _ _ _ rfl (ownsRow_empty W6 _ (Nat.le_refl _)) (some ⟨X, 0, none⟩) 32 32 Tn rfl (HB6.out.ch ((Ch.refl (fun _ => False) W6).alloc _) (fun _ _ h => h)) (by omega) (by simp) ?_
                                intro v7 w7 hown7 hgrow7
                                rw [Nat.zero_add, List.nil_append] at hown7
                                have hc7 : Ch (fun _ => False) W6 w7 := Ch.grown ((Ch.refl _ W6).alloc _) hgrow7 (fun k hk hlt => by
                                  have h : some W6.heap.size = some k := hk
                                  cases h; omega)
                                have HO7 := Go.Lib.hid hown7; have HC7 := Go.Lib.hid (HC6.out.trans hc7); clear hown7 hgrow7 hc7))
      obtain ⟨q7, c7, rfl, hb7⟩ := own_nil HO7.out
      have HB7 := Go.Lib.hid hb7
      clear hb7 HO7 HC6 HB6
      refine (join_any qo q7 (32 * t) 32 co c7 E Tn w7 (HBO.out.ch HC7.out (fun _ _ h => h)) HB7.out (by omega) (by omega)).mono ?_
      rintro e w8 ⟨r8, k8, rfl, hb8, hc8⟩
      have HB8 := Go.Lib.hid (show BytesAt w8 r8 (32 * (t + 1)) k8 E from bytes_congr hb8 (fun j hj => by
        unfold catB
        by_cases h : j < 32 * t
        · rw [if_pos h]
        · rw [if_neg h, ← HET.out (j - 32 * t) (by omega), show 32 * t + (j - 32 * t) = j by omega]))
      have HB9 := Go.Lib.hid (HB7.out.ch hc8 (fun _ _ h => h))
      have HC8 := Go.Lib.hid (HC.out.trans (HC7.out.trans hc8))
      clear hb8 hc8 HB7 HC7
      go_wp2_with fail
      go_roundw
      case rel => exact ⟨t + 1, r8, q7, k8, c7, by omega, by go_num, by rw [Nat.mul_succ], HB8.out, by rw [HAL1.out], by rw [HAL1.out, HTn.out]; exact HB9.out, HC8.out⟩
      case measure => simp [intOf]; omega
    · have hco : n ≤ co := by
        rcases HBO.out with ⟨x, y, _, h, _⟩ | ⟨_, h, h2⟩ <;> omega
      have hl1 : 0 ≤ (n : Int) := by omega
      have hl2 : (n : Int) ≤ (co : Int) := by omega
      have hsl : ∀ W, (Instr.slice 22 (.slice qo (32 * t) co) none (some (.int .i64 (n : Int))) none).run Tryd.prog W = .ok (.slice qo n co) W := fun W => slice_to22 qo (32 * t) co n hco W
      go_wp2_with fail
      go_ret2
      exact ⟨qo, co, rfl, bytes_short HBO.out (by omega), HC.out⟩
end Go.Proofs.YtikdpiedjkailaaDoor
