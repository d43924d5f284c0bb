/- The reference's Child. -/
import Derived.Test.YtikdpiedjkailaaDoorH24
namespace Go.Proofs.YtikdpiedjkailaaDoor
open Go Go.RowKit
attribute [local go_sem high] b_shr64 u64_byte

theorem splice_hv (G T : Nat → UInt8) : ((hv G).toList.take 0 ++ (fL T 32 ++ (hv G).toList.drop (0 + (fL T 32).length))).toArray = hv T := by
  apply Array.ext_getElem?
  intro i
  simp only [List.take_zero, List.nil_append, List.getElem?_toArray, Nat.zero_add]
  by_cases hi : i < 32
  · rw [List.getElem?_append_left (by rw [fL_len]; exact hi), fL_at T 32 i hi]
    exact (show (hv T)[i]? = some (.int .u8 ((T i).toNat : Int)) from arr_get 32 _ i hi).symm
  · rw [List.getElem?_append_right (by rw [fL_len]; omega), List.getElem?_drop, fL_len, List.getElem?_eq_none (by rw [Array.length_toList, show (hv G).size = 32 from arr_size _ _]; omega), Array.getElem?_eq_none (by rw [show (hv T).size = 32 from arr_size _ _]; omega)]
/-- 'copy(row[:], b)', both of 32 bytes. -/
theorem wpList_copy_hash {w : World} {ops : Array Oper} {rest : List Oper} {o : Oper} {a : Act} {Q : Exit → Act → World → Prop} (hgd : o.guard = none) (d s : Operand)
    (ho : o.op = .call { callee := .builtin .copy, args := #[d, s], argTypes := #[22, 22] }) (g : Nat) (G T : Nat → UInt8) (p : Option Addr) (c : Nat)
    (hd : a.eval d = .slice (some ⟨g, 0, none⟩) 32 32) (hs : a.eval s = .slice p 32 c) (hg : w.heap[g]? = some (.cells (hv G) 28)) (hb : BytesAt w p 32 c T)
    (h : ∀ v w', w'.heap[g]? = some (.cells (hv T) 28) → Ch (fun k => k = g) w w' → wpList Tryd.prog ops Q rest (a.put o.dst v) w') : wpList Tryd.prog ops Q (o :: rest) a w := by
  rcases hb with ⟨x, y, rfl, hnc, hb⟩ | ⟨_, h1, _⟩
  · refine wpList_copy_own hgd d s 22 22 ho 5 Tryd.underlying22 (by kernel_rfl) g 0 32 32 ⟨x, y, none⟩ 32 c hd hs (hv G) 28 hg (fL T 32) (by rw [fL_len]; simp [Nat.min_def]) ?_ (by rw [fL_len, show (hv G).size = 32 from arr_size _ _]; omega) ?_ (h _ _ ?_ ?_)
    · intro j v hj
      obtain ⟨h1, rfl⟩ := fL_get T 32 j v hj
      rw [show (⟨x, y, none⟩ : Addr).add j = ⟨x, y + j, none⟩ by simp [Addr.add]]
      exact hb j h1
    · intro v hv
      obtain ⟨j, hj⟩ := List.mem_iff_getElem?.1 hv
      obtain ⟨_, rfl⟩ := fL_get T 32 j v hj
      rfl
    · rw [splice_hv]; exact heap_setRow hg
    · exact Ch.setRow (S := fun k => k = g) (Ch.refl _ w) (fun _ => rfl) _
  · exact absurd h1 (by decide)
theorem bytes_beside {w w' : World} {q : Option Addr} {c g : Nat} {G T : Nat → UInt8} (hb : BytesAt w q 32 c T) (hg : w.heap[g]? = some (.cells (hv G) 28)) (hg' : w'.heap[g]? = some (.cells (hv T) 28)) (hc : Ch (fun k => k = g) w w') : BytesAt w' q 32 c T := by
  rcases hb with ⟨x, y, rfl, h, hb⟩ | ⟨_, h, _⟩
  · by_cases e : x = g
    · subst e
      have h31 := hb 31 (by omega)
      rw [cell_of_heap hg] at h31
      have hlt := (Array.getElem?_eq_some_iff.1 h31).1
      rw [show (hv G).size = 32 from arr_size _ _] at hlt
      obtain rfl : y = 0 := by omega
      exact .inl ⟨x, 0, rfl, h, fun j hj => by rw [Nat.zero_add]; exact (cell_of_heap hg' j).trans (arr_get 32 _ j hj)⟩
    · exact .inl ⟨x, y, rfl, h, fun j hj => hc.get (hb j hj) e⟩
  · exact absurd h (by decide)
theorem ownM_congr {w : World} {base n : Nat} {v : Value} {F G : Nat → UInt8} (h : ownM w base v n F) (e : ∀ j, j < n → G j = F j) : ownM w base v n G := by
  obtain ⟨g, cap, cur, fz, h1, h2, h3, h4, h5, h6, h7, h8⟩ := h
  exact ⟨g, cap, cur, fz, h1, h2, h3, h4, h5, h6, h7, fun j hj => by rw [e j hj]; exact h8 j hj⟩

def nameF (s : ByteArray) (N : Nat) : Nat → UInt8 := catB (s.size + 1) (catB s.size (byteAt s) fun _ => 0) (numB N)
theorem nameF_S (s : ByteArray) (N : Nat) : bS (nameF s N) (s.size + 1 + 8) = nameS s N := rfl
theorem nameF_0 (s : ByteArray) (N j : Nat) (h : j < s.size) : nameF s N j = byteAt s j := by
  unfold nameF catB; rw [if_pos (by omega), if_pos h]
theorem nameF_1 (s : ByteArray) (N : Nat) : nameF s N s.size = 0 := by
  unfold nameF catB; rw [if_pos (by omega), if_neg (by omega)]
theorem nameF_2 (s : ByteArray) (N k : Nat) : nameF s N (s.size + 1 + k) = numB N k := by
  unfold nameF catB; rw [if_neg (by omega)]; congr 1; omega

set_option maxRecDepth 100000 in
set_option maxHeartbeats 8000000 in
theorem rchild_some (p : Option Addr) (n c : Nat) (key : Nat → UInt8) (a off N cap : Nat) (nm : Nat → ByteArray) (nu : Nat → Nat) (w : World) (hn : n ≤ 1000000000) (hkey : BytesAt w p n c key) (hN0 : 0 < N) (hN : N ≤ 1000000)
    (hst : StepsAt w a off N nm nu) (hnm : ∀ i, i < N → (nm i).size ≤ 100000000) :
    Calls Tryd.prog 19 #[.slice p n c, .slice (some ⟨a, off, none⟩) N cap] w fun e w' => e = .returned (.agg (hv (childB key n N nm nu))) ∧ Ch (fun _ => False) w w' := by
  have HKEY := Go.Lib.hid hkey; have HST := Go.Lib.hid hst; have HNM := Go.Lib.hid hnm
  have hz : ((N : Int) == 0) = false := by rw [beq_eq_false_iff_ne]; omega
  have hCB : childB key n N nm nu = keyF key n nm nu N := by unfold childB; rw [if_neg (by omega)]
  rw [hCB]
  clear hkey hst hnm hCB
  go_enter Tryd.func19, Tryd.ntmps19
  go_wp2_with fail
  generalize hW2 : World.alloc (World.alloc w _) _ = W2
  have hc2 : Ch (fun _ => False) w W2 := by rw [← hW2]; exact ((Ch.refl _ w).alloc _).alloc _
  have hR2 : W2.heap[w.heap.size]? = some (.cells (hv fun _ => 0) 28) := by rw [← hW2]; exact ((Ch.refl (fun _ => False) _).alloc _).heap (World.alloc_heap_new w _) id
  have hC2 : W2.heap[w.heap.size + 1]? = some (.cells (hv fun _ => 0) 28) := by rw [← hW2, ← World.size_alloc w (.cells (hv fun _ => 0) 28)]; exact World.alloc_heap_new (w.alloc _) _
  have HC2 := Go.Lib.hid hc2; have HR2 := Go.Lib.hid hR2; have HX2 := Go.Lib.hid hC2
  clear hW2 hc2 hR2 hC2
  go_loopw [0, 6] (fun kv ix wr => ∃ i : Nat, i ≤ N ∧ ix = .int .i64 i ∧ (∃ G : Nat → UInt8, wr.heap[w.heap.size + 1]? = some (.cells (hv G) 28) ∧ (i = 0 ∨ G = keyF key n nm nu i)) ∧ (∃ q cq, kv = .slice q (keyL n i) cq ∧ BytesAt wr q (keyL n i) cq (keyF key n nm nu i)) ∧ wr.heap[w.heap.size]? = some (.cells (hv fun _ => 0) 28) ∧ Ch (fun _ => False) w wr) (fun _ ix _ => N - (intOf ix).toNat)
  case atStart => exact ⟨0, by omega, rfl, ⟨_, HX2.out, .inl rfl⟩, ⟨p, c, rfl, HKEY.out.ch HC2.out (fun _ _ h => h)⟩, HR2.out, HC2.out⟩
  case round =>
    obtain ⟨i, hi, rfl, ⟨G, hG, hGe⟩, ⟨q, cq, rfl, hq⟩, hRr, hCr⟩ := hrel
    have HCr := Go.Lib.hid hCr; have HRr := Go.Lib.hid hRr; have HG := Go.Lib.hid hG; have HQ := Go.Lib.hid hq; have HGE := Go.Lib.hid hGe
    clear hG hGe hq hRr hCr
    by_cases hiN : i < N
    · obtain ⟨hs0, hs1⟩ := HST.out i hiN
      have hcs0 := HCr.out.get hs0 id
      have HS1 := Go.Lib.hid (HCr.out.get hs1 id)
      have HNi := Go.Lib.hid (HNM.out i hiN)
      have HKF := Go.Lib.hid (show keyF key n nm nu (i + 1) = expB (kb (keyF key n nm nu i) (keyL n i)) (nameS (nm i) (nu i)) from rfl)
      have HKL1 := Go.Lib.hid (show keyL n (i + 1) = 32 from rfl)
      have hkl : keyL n i ≤ 1000000000 := by unfold keyL; split <;> omega
      clear hs0 hs1
      generalize keyF key n nm nu i = K0 at *
      generalize hK1 : keyF key n nm nu (i + 1) = K1 at *
      have HK1 := Go.Lib.hid hK1
      clear hK1
      generalize keyL n i = L at *
      generalize hsx : nm i = sx at *
      generalize hnx : nu i = nx at *
      have hsz : sx.size ≤ 100000000 := HNi.out
      have hnz : (nameS sx nx).size ≤ 1000000000 := by rw [nameS_size]; omega
      clear hsx hnx
      have HEX := Go.Lib.hid (fun W (hc : Ch (fun _ => False) wr W) => rexpand_any q L cq K0 (nameS sx nx) 32 W (by omega) (HQ.out.ch hc (fun _ _ h => h)) hkl hnz)
      rw [show (((32 : Nat)) : Int) = 32 from rfl, ← HKF.out] at HEX
      obtain ⟨v1, W1, hcv, hc1, hsW, hown1⟩ := conv_strM sx wr (by omega)
      have HV := Go.Lib.hid hcv; have HC1 := Go.Lib.hid hc1; have HSW := Go.Lib.hid hsW
      have HO1 := Go.Lib.hid (ownM_congr hown1 (fun j hj => nameF_0 sx nx j hj))
      clear hcv hc1 hown1 hsW
      go_wp2_with fail
      rw [HV.out]
      simp only [Result.andThen]
      rw [Oper.upon_value]
      go_wp2_with (at_builtin; (refine wpList_append_byteM rfl (.tmp 27) (.tmp 28) rfl wr.heap.size v1 sx.size (nameF sx nx) rfl (ownM_alloc HO1.out _) W1.heap.size _ rfl (cell_fresh W1 _ 5 0) (by rw [nameF_1]; rfl) (by omega) (by have := HSW.out; simp; omega) ?_
                                intro v2 w2 hown2 hgrow2
                                have HO2 := Go.Lib.hid hown2; have HC2 := Go.Lib.hid (show Ch (fun _ => False) wr w2 from Ch.grown (HC1.out.alloc _) hgrow2 (fun k hk hlt => by have := (ownM_lt HO1.out) k hk; omega))
                                clear hown2 hgrow2))
      clear HV HO1 HC1 HSW hcs0
      obtain ⟨wo, hwo⟩ : ∃ x, x = wr := ⟨_, rfl⟩
      subst hwo
      go_loopw [7, 8] (fun mv jx wz => ∃ k : Nat, k ≤ 8 ∧ jx = .int .i64 (7 - (k : Int)) ∧ ownM wz wo.heap.size mv (sx.size + 1 + k) (nameF sx nx) ∧ Ch (fun _ => False) wo wz) (fun _ jx _ => (intOf jx + 1).toNat)
      case atStart => exact ⟨0, by omega, rfl, HO2.out, HC2.out⟩
      case round =>
        obtain ⟨k, hk, rfl, hown, hC⟩ := hrel
        have HO := Go.Lib.hid hown; have HC := Go.Lib.hid hC
        clear hown hC
        by_cases hk8 : k < 8
        · have hge : (0 : Int) ≤ 7 - (k : Int) := by omega
          have hm : IntKind.i64.wrap (8 * (7 - (k : Int))) = ((56 - 8 * k : Nat) : Int) := by rw [IntKind.wrap_i64]; omega
          have hm2 : IntKind.u64.wrap ((56 - 8 * k : Nat) : Int) = ((56 - 8 * k : Nat) : Int) := by rw [IntKind.wrap_u64]; omega
          have hm0 : 0 ≤ ((56 - 8 * k : Nat) : Int) := by omega
          have hm3 : ((56 - 8 * k : Nat) : Int) ≤ 63 := by omega
          have hcs1 := HC.out.get HS1.out id
          have hbase : wo.heap.size ≤ wr.heap.size := HC.out.size
          have HBS := Go.Lib.hid hbase
          clear hbase
          go_wp2_with (at_builtin; (refine wpList_append_byteM rfl (.tmp 34) (.tmp 45) rfl wo.heap.size _ (sx.size + 1 + k) (nameF sx nx) rfl (ownM_alloc HO.out _) wr.heap.size _ rfl (cell_fresh wr _ 5 0) (by rw [nameF_2]; exact numB_val nx k) (by omega) (by have := HBS.out; simp; omega) ?_
                                    intro v3 w3 hown3 hgrow3
                                    have HO3 := Go.Lib.hid hown3; have HC3 := Go.Lib.hid (show Ch (fun _ => False) wo w3 from Ch.grown (HC.out.alloc _) hgrow3 (fun k hk hlt => by have := (ownM_lt HO.out) k hk; omega))
                                    clear hown3 hgrow3))
          go_roundw
          case rel => exact ⟨k + 1, by omega, by congr 1; omega, HO3.out, HC3.out⟩
          case measure => simp [intOf]; omega
        · obtain rfl : k = 8 := by omega
          obtain ⟨qn, cn, rfl, hbn⟩ := ownM_bytes HO.out
          have hcv := conv_bytes hbn
          rw [nameF_S] at hcv
          have HCV := Go.Lib.hid hcv
          clear hbn hcv HO
          go_wp2_with fail
          rw [HCV.out]
          simp only [Result.andThen]
          rw [Oper.upon_value]
          go_wp2_with fail
          refine (HEX.out _ HC.out).mono ?_
          rintro e w4 ⟨q2, c2, rfl, hb2, hc4⟩
          have HB4 := Go.Lib.hid hb2; have HC4 := Go.Lib.hid (HC.out.trans hc4)
          have HG4 := Go.Lib.hid (HC4.out.heap HG.out id); have HR4 := Go.Lib.hid (HC4.out.heap HRr.out id); have HCC := Go.Lib.hid (HCr.out.trans HC4.out)
          clear hb2 hc4 HCV HC HC4 HG HRr HCr HEX HO2 HC2
          go_wp2_with (first
            | (refine wpList_copy_hash rfl (.tmp 54) (.tmp 55) rfl (w.heap.size + 1) G K1 q2 c2 rfl rfl HG4.out HB4.out ?_
               intro v5 w5 hh5 hc5
               have HH5 := Go.Lib.hid hh5; have HC5 := Go.Lib.hid hc5; have HB5 := Go.Lib.hid (bytes_beside HB4.out HG4.out hh5 hc5); clear hh5 hc5)
            | (at_builtin; (refine wpList_append_bytes rfl (.tmp 57) (.tmp 58) rfl w5.heap.size _ _ _ rfl (ownsRow_empty w5 _ (Nat.le_refl _)) q2 32 c2 K1 rfl (HB5.out.ch ((Ch.refl (fun _ => False) w5).alloc _) (fun _ _ h => h)) (by omega) (by simp) ?_
                            intro v7 w7 hown7 hgrow7
                            rw [Nat.zero_add, List.nil_append] at hown7
                            have HO7 := Go.Lib.hid hown7; have HG7 := Go.Lib.hid hgrow7; clear hown7 hgrow7)))
          have hc7 : Ch (fun _ => False) w5 w7 := Ch.grown ((Ch.refl _ w5).alloc _) HG7.out (fun k hk hlt => by
            have h : some w5.heap.size = some k := hk
            cases h; omega)
          have hcc : Ch (fun k => k = w.heap.size + 1) w4 w7 := HC5.out.trans (hc7.mono (fun _ _ h => h.elim))
          have HC7 := Go.Lib.hid (HCC.out.then hcc (fun i hi h => by omega))
          have HR7 := Go.Lib.hid (hcc.heap HR4.out (by omega)); have HX7 := Go.Lib.hid (hc7.heap HH5.out id)
          obtain ⟨q7, c7, rfl, hb7⟩ := own_nil HO7.out
          have HB7 := Go.Lib.hid hb7
          clear hc7 hcc hb7
          go_roundw
          case rel => exact ⟨i + 1, by omega, by go_num, ⟨K1, HX7.out, .inr HK1.out.symm⟩, ⟨q7, c7, by rw [HKL1.out], by rw [HKL1.out, HK1.out]; exact HB7.out⟩, HR7.out, HC7.out⟩
          case measure => simp [intOf]; omega
    · obtain rfl : i = N := by omega
      obtain rfl : G = keyF key n nm nu i := HGE.out.resolve_left (by omega)
      have HLX := Go.Lib.hid (hash_load HG.out)
      have HHI := Go.Lib.hid (hv_info (keyF key n nm nu i)); have HHA := Go.Lib.hid (hv_all (keyF key n nm nu i))
      have HHZ := Go.Lib.hid (show (hv fun _ => 0).size = (hv (keyF key n nm nu i)).size by rw [show (hv fun _ => 0).size = 32 from arr_size _ _]; exact (arr_size _ _).symm)
      clear HG HQ HGE
      generalize hRV : hv (keyF key n nm nu i) = RV at *
      have HRV := Go.Lib.hid hRV
      clear hRV
      go_wp2_with (first | (refine wpList_load_at rfl 28 (.tmp 5) rfl ⟨w.heap.size + 1, 0, none⟩ rfl (.agg RV) HLX.out ?_) | (refine wpList_store_row rfl 28 (.tmp 4) (.tmp 60) rfl w.heap.size RV rfl rfl 28 (hv fun _ => 0) HRr.out HHI.out HHZ.out HHA.out ?_))
      refine bodyPost_ret (results_cell_row (h := Tryd.results19) _ _ w.heap.size 28 _ (0, 0) _ rfl (heap_setRow HRr.out) Tryd.underlying28 rfl HHI.out) rfl ⟨by rw [HRV.out], ?_⟩
      exact HCr.out.setRow (fun h => absurd h (Nat.lt_irrefl _)) _

set_option maxRecDepth 100000 in
set_option maxHeartbeats 1000000 in
theorem rchild_none (p : Option Addr) (n c cap : Nat) (key : Nat → UInt8) (q : Option Addr) (w : World) (hn : n ≤ 1000000000) (hkey : BytesAt w p n c key) :
    Calls Tryd.prog 19 #[.slice p n c, .slice q 0 cap] w fun e w' => e = .returned (.agg (hv (hashB key n))) ∧ Ch (fun _ => False) w w' := by
  have hal : Ch (fun _ => False) w (w.alloc (.cells (hv fun _ => 0) 28)) := (Ch.refl _ w).alloc _
  have HS := Go.Lib.hid (fun W (hc : Ch (fun _ => False) w W) => rsum_any p n c key W (by omega) (hkey.ch hc (fun _ _ h => h)))
  have HAL := Go.Lib.hid hal; have HH := Go.Lib.hid (World.alloc_heap_new w (.cells (hv fun _ => 0) 28))
  have HHI := Go.Lib.hid (hv_info (hashB key n)); have HHA := Go.Lib.hid (hv_all (hashB key n))
  have HHZ := Go.Lib.hid (show (hv fun _ => 0).size = (hv (hashB key n)).size by rw [show (hv fun _ => 0).size = 32 from arr_size _ _]; exact (arr_size _ _).symm)
  generalize hv (hashB key n) = RV at *
  clear hkey hal
  go_enter Tryd.func19, Tryd.ntmps19
  go_wp2_with fail
  refine (HS.out _ HAL.out).mono ?_
  rintro e w2 ⟨rfl, hc2⟩
  have HH2 := Go.Lib.hid (hc2.heap HH.out id)
  have HC2 := Go.Lib.hid (HAL.out.trans hc2)
  clear hc2 HS
  go_wp2_with (refine wpList_store_row rfl 28 (.tmp 4) (.tmp 15) rfl w.heap.size RV rfl rfl 28 (hv fun _ => 0) HH2.out HHI.out HHZ.out HHA.out ?_)
  refine bodyPost_ret (results_cell_row (h := Tryd.results19) _ _ w.heap.size 28 _ (0, 0) _ rfl (heap_setRow HH2.out) Tryd.underlying28 rfl HHI.out) rfl ⟨rfl, ?_⟩
  exact HC2.out.setRow (fun h => absurd h (Nat.lt_irrefl _)) _
end Go.Proofs.YtikdpiedjkailaaDoor
