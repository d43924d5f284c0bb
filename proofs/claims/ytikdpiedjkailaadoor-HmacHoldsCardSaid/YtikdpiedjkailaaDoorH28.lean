/- HmacHolds: the function. -/
import Derived.Test.YtikdpiedjkailaaDoorH27
namespace Go.Proofs.YtikdpiedjkailaaDoor
open Go Go.RowKit

set_option maxRecDepth 100000 in
set_option maxHeartbeats 16000000 in
theorem holds_law (p : Option Addr) (nk ck pa off N cap : Nat) (key : Nat → UInt8) (sp : Option Addr) (P : Nat → Option Addr) (PL C : Nat → Nat) (f : Nat → UInt8) (s sa sb : ByteArray) (i1 i2 i3 : Int) (na nb : Nat) (w : World) (hkey : BytesAt w p nk ck key) (hsp : sp = some ⟨pa, off, none⟩ ∨ N = 0) (hP : PartsV w pa off N P PL C f) (hK : KAt w) :
    Calls Tryd.prog 8 #[.slice p nk ck, .slice sp N cap, .string s, .int .i64 i1, .int .i64 i2, .agg #[.string sa, .int .u64 (u64n na)], .agg #[.string sb, .int .u64 (u64n nb)], .int .i64 i3] w fun e w' => e = .returned (.bool true) ∧ Ch (fun _ => False) w w' := by
  have HW := Go.Lib.hid (fun W (hc : Ch (fun _ => False) w W) => works_any W (hK.ch hc id))
  have HFE := fun W (hc : Ch (fun _ => False) w W) => few_any pa off N cap 15 sp P PL C f W (by omega) hsp (hP.ch hc)
  rw [show (((15 : Nat)) : Int) = 15 from rfl] at HFE
  have HFE := Go.Lib.hid HFE
  have HK := Go.Lib.hid hK; have HP := Go.Lib.hid hP; have HSP := Go.Lib.hid hsp; have HKEY := Go.Lib.hid hkey
  clear hK hP hsp hkey
  go_enter Tryd.func8, Tryd.ntmps8
  go_upto_region 1 with (fail)
  generalize hW2 : World.alloc (World.alloc w _) _ = W2
  have hc2 : Ch (fun _ => False) w W2 := by rw [← hW2]; exact ((Ch.refl _ w).alloc _).alloc _
  have ha2 : W2.heap[w.heap.size]? = some (.cells #[.string sa, .int .u64 (u64n na)] 44) := by rw [← hW2]; exact ((Ch.refl (fun _ => False) _).alloc _).heap (World.alloc_heap_new w _) id
  have hb2 : W2.heap[w.heap.size + 1]? = some (.cells #[.string sb, .int .u64 (u64n nb)] 44) := by rw [← hW2, ← World.size_alloc w (.cells #[.string sa, .int .u64 (u64n na)] 44)]; exact World.alloc_heap_new (w.alloc _) _
  have HC2 := Go.Lib.hid hc2; have HA2 := Go.Lib.hid ha2; have HB2 := Go.Lib.hid hb2
  have hs2 : W2.heap.size = w.heap.size + 2 := by rw [← hW2]; simp
  have HS2 := Go.Lib.hid hs2
  clear hW2 hc2 ha2 hb2 hs2
  have HF := Go.Lib.hid (HFE.out W2 HC2.out)
  go_wp2_with fail
  refine HF.out.mono ?_
  rintro e w1 ⟨hc1, ⟨rfl, _⟩ | ⟨v, rfl, hN, hL, hown⟩⟩
  · have HC1 := Go.Lib.hid (HC2.out.trans hc1)
    clear hc1 HF HFE
    go_wp2_with fail
    refine (HW.out _ HC1.out).mono ?_
    rintro e w2 ⟨rfl, hc2⟩
    have HCO := Go.Lib.hid (HC1.out.trans hc2)
    clear hc2 HC1
    go_wp2_with fail
    go_ret
    exact ⟨rfl, HCO.out⟩
  · have HC1 := Go.Lib.hid (HC2.out.trans hc1); have HOW := Go.Lib.hid hown; have HLL := Go.Lib.hid hL; have HNN := Go.Lib.hid hN
    have HA1 := Go.Lib.hid (hc1.heap HA2.out id); have HB1 := Go.Lib.hid (hc1.heap HB2.out id)
    have hca : w1.cell? ⟨w.heap.size, 0, none⟩ = some (.string sa) := cell_of_heap HA1.out 0
    have hcb : w1.cell? ⟨w.heap.size + 1, 0, none⟩ = some (.string sb) := cell_of_heap HB1.out 0
    have hsz1 : W2.heap.size ≤ w1.heap.size := hc1.size
    have HSZ1 := Go.Lib.hid hsz1
    clear hc1 hown hL hN HF HFE HA2 HB2 hsz1
    obtain ⟨qa, ca, rfl, hba⟩ := own_nil HOW.out
    have HBA := Go.Lib.hid hba
    clear hba HOW
    by_cases g0 : 200 < nk
    · have g0' : (200 : Int) < (nk : Int) := by omega
      go_wp2_with fail
      refine (HW.out _ HC1.out).mono ?_
      rintro e w2 ⟨rfl, hc2⟩
      have HCO := Go.Lib.hid (HC1.out.trans hc2)
      clear hc2 HC1
      go_wp2_with fail
      go_ret
      exact ⟨rfl, HCO.out⟩
    · have g0' : ¬ (200 : Int) < (nk : Int) := by omega
      by_cases g1 : 100 < s.size
      · have g1' : (100 : Int) < (s.size : Int) := by omega
        go_wp2_with fail
        refine (HW.out _ HC1.out).mono ?_
        rintro e w2 ⟨rfl, hc2⟩
        have HCO := Go.Lib.hid (HC1.out.trans hc2)
        clear hc2 HC1
        go_wp2_with fail
        go_ret
        exact ⟨rfl, HCO.out⟩
      · have g1' : ¬ (100 : Int) < (s.size : Int) := by omega
        by_cases g2 : i1 < 0
        · skip
          go_wp2_with fail
          refine (HW.out _ HC1.out).mono ?_
          rintro e w2 ⟨rfl, hc2⟩
          have HCO := Go.Lib.hid (HC1.out.trans hc2)
          clear hc2 HC1
          go_wp2_with fail
          go_ret
          exact ⟨rfl, HCO.out⟩
        · skip
          by_cases g3 : i2 < i1
          · skip
            go_wp2_with fail
            refine (HW.out _ HC1.out).mono ?_
            rintro e w2 ⟨rfl, hc2⟩
            have HCO := Go.Lib.hid (HC1.out.trans hc2)
            clear hc2 HC1
            go_wp2_with fail
            go_ret
            exact ⟨rfl, HCO.out⟩
          · skip
            by_cases g4 : 300 < i2
            · skip
              go_wp2_with fail
              refine (HW.out _ HC1.out).mono ?_
              rintro e w2 ⟨rfl, hc2⟩
              have HCO := Go.Lib.hid (HC1.out.trans hc2)
              clear hc2 HC1
              go_wp2_with fail
              go_ret
              exact ⟨rfl, HCO.out⟩
            · skip
              by_cases g5 : 100 < sa.size
              · have g5' : (100 : Int) < (sa.size : Int) := by omega
                go_wp2_with fail
                refine (HW.out _ HC1.out).mono ?_
                rintro e w2 ⟨rfl, hc2⟩
                have HCO := Go.Lib.hid (HC1.out.trans hc2)
                clear hc2 HC1
                go_wp2_with fail
                go_ret
                exact ⟨rfl, HCO.out⟩
              · have g5' : ¬ (100 : Int) < (sa.size : Int) := by omega
                by_cases g6 : 100 < sb.size
                · have g6' : (100 : Int) < (sb.size : Int) := by omega
                  go_wp2_with fail
                  refine (HW.out _ HC1.out).mono ?_
                  rintro e w2 ⟨rfl, hc2⟩
                  have HCO := Go.Lib.hid (HC1.out.trans hc2)
                  clear hc2 HC1
                  go_wp2_with fail
                  go_ret
                  exact ⟨rfl, HCO.out⟩
                · have g6' : ¬ (100 : Int) < (sb.size : Int) := by omega
                  by_cases g7 : i3 < 0
                  · skip
                    go_wp2_with fail
                    refine (HW.out _ HC1.out).mono ?_
                    rintro e w2 ⟨rfl, hc2⟩
                    have HCO := Go.Lib.hid (HC1.out.trans hc2)
                    clear hc2 HC1
                    go_wp2_with fail
                    go_ret
                    exact ⟨rfl, HCO.out⟩
                  · skip
                    by_cases g8 : 64 < i3
                    · skip
                      go_wp2_with fail
                      refine (HW.out _ HC1.out).mono ?_
                      rintro e w2 ⟨rfl, hc2⟩
                      have HCO := Go.Lib.hid (HC1.out.trans hc2)
                      clear hc2 HC1
                      go_wp2_with fail
                      go_ret
                      exact ⟨rfl, HCO.out⟩
                    · skip
                      obtain ⟨n1, rfl⟩ := Int.eq_ofNat_of_zero_le (show 0 ≤ i1 by omega)
                      obtain ⟨n2, rfl⟩ := Int.eq_ofNat_of_zero_le (show 0 ≤ i2 by omega)
                      obtain ⟨kz, rfl⟩ := Int.eq_ofNat_of_zero_le (show 0 ≤ i3 by omega)
                      have hn15 : N ≤ 15 := HNN.out
                      have hup : upto PL N ≤ 200 * 15 := Nat.le_trans (upto_200h PL N HLL.out) (Nat.mul_le_mul_left 200 HNN.out)
                      have HNW := Go.Lib.hid (fun W (hc : Ch (fun _ => False) w1 W) => mnew_any p nk ck key W (by omega) (HKEY.out.ch (HC1.out.trans hc) (fun _ _ h => h)) (HK.out.ch (HC1.out.trans hc) id) f)
                      have HEX := Go.Lib.hid (fun n (hn : n ≤ 300) W (hc : Ch (fun _ => False) w1 W) => expand_any p nk ck key s n W (by omega) (HKEY.out.ch (HC1.out.trans hc) (fun _ _ h => h)) (by omega) (by omega) (HK.out.ch (HC1.out.trans hc) id))
                      have HTA := Go.Lib.hid (fun W (hc : Ch (fun _ => False) w1 W) => tag_any p nk ck key W.heap.size 0 1 1 (some ⟨W.heap.size, 0, none⟩) _ _ _ f (W.alloc (.cells #[.slice qa (upto PL N) ca] 22)) (by omega) ((HKEY.out.ch (HC1.out.trans hc) (fun _ _ h => h)).ch ((Ch.refl (fun _ => False) W).alloc _) (fun _ _ h => h)) (.inl rfl) (by omega) (by rw [show upto (fun _ => upto PL N) 1 = upto PL N from Nat.zero_add _]; omega) (part_one (HBA.out.ch hc (fun _ _ h => h))) (HK.out.ch (HC1.out.trans (hc.alloc _)) id))
                      rw [show upto (fun _ => upto PL N) 1 = upto PL N from Nat.zero_add _] at HTA
                      have HTP := Go.Lib.hid (fun W (hc : Ch (fun _ => False) w1 W) => tag_any p nk ck key pa off N cap sp P PL C f W (by omega) (HKEY.out.ch (HC1.out.trans hc) (fun _ _ h => h)) HSP.out (by have := HNN.out; omega) (by omega) (HP.out.ch (HC1.out.trans hc)).parts (HK.out.ch (HC1.out.trans hc) id))
                      have HMT := Go.Lib.hid (fun W (hc : Ch (fun _ => False) w1 W) b r (h : MacAt W b r (inK (kb key nk) f) (64 + upto PL N) (fun i => kb key nk i ^^^ 92)) => (show Calls Tryd.prog 22 #[.pointer (some ⟨b, 0, none⟩)] W fun e w' => e = .returned (.agg (hv (tagB (kb key nk) f (upto PL N)))) ∧ Ch (fun _ => False) W w' from mtag_any b r (64 + upto PL N) _ _ W (by omega) h (HK.out.ch (HC1.out.trans hc) id)))
                      go_wp2_with fail
                      refine (HNW.out _ (Ch.refl _ _)).mono ?_
                      rintro e w2 ⟨b, r, rfl, hr1, hr2, hb2, hmac, hc2⟩
                      have HMA := Go.Lib.hid hmac; have HCC := Go.Lib.hid hc2; have HR1 := Go.Lib.hid hr1; have HR2 := Go.Lib.hid hr2
                      clear hmac hc2 hr1 hr2 hb2 HNW
                      go_wp2_with fail
                      go_loopw [20] (fun ix wr => ∃ i : Nat, i ≤ N ∧ ix = .int .i64 i ∧ MacAt wr b r (inK (kb key nk) f) (64 + upto PL i) (fun i => kb key nk i ^^^ 92) ∧ Ch (fun _ => False) w1 wr) (fun ix _ => N - (intOf ix).toNat)
                      case atStart => exact ⟨0, by omega, rfl, HMA.out, HCC.out⟩
                      case round =>
                        obtain ⟨i, hi, rfl, hmac, hC⟩ := hrel
                        have HM := Go.Lib.hid hmac; have HC := Go.Lib.hid hC
                        clear hmac hC
                        by_cases hiN : i < N
                        · obtain rfl : sp = some ⟨pa, off, none⟩ := HSP.out.resolve_right (by omega)
                          have hcell : wr.cell? ⟨pa, off + i, none⟩ = some (.slice (P i) (PL i) (C i)) := (HC1.out.trans HC.out).get (HP.out.row i hiN) id
                          obtain ⟨x, y, hq, hg⟩ : ∃ x y, ((P i = some ⟨x, y, none⟩ ∧ x ≠ r) ∨ PL i = 0) ∧ ∀ j, j < PL i → wr.cell? ⟨x, y + j, none⟩ = some (.int .u8 ((inK (kb key nk) f (64 + upto PL i + j)).toNat : Int)) := by
                            by_cases h0 : PL i = 0
                            · exact ⟨0, 0, .inr h0, fun j hj => by omega⟩
                            · rcases HP.out.bytes i hiN with ⟨x, y, h1, h2⟩ | ⟨h1, _⟩
                              · have hx := cell_lt (h2 0 (by omega))
                                have hw1 := HC1.out.size
                                have hr := HR1.out
                                simp only at hx
                                exact ⟨x, y, .inl ⟨h1, by omega⟩, fun j hj => by rw [Nat.add_assoc, inK_ge]; exact (HC1.out.trans HC.out).get (h2 j hj) id⟩
                              · exact absurd h1 h0
                          have HU := Go.Lib.hid (show upto PL (i + 1) = upto PL i + PL i from rfl)
                          have hui : upto PL i ≤ upto PL N := upto_le PL (by omega)
                          have HWR := Go.Lib.hid (mwrite_any b r (64 + upto PL i) (PL i) (C i) x y (P i) (inK (kb key nk) f) (fun i => kb key nk i ^^^ 92) wr hq (by have := HR1.out; have := HSZ1.out; have := HS2.out; omega) (by have := HR2.out; omega) (by have := upto_le PL (show i + 1 ≤ N by omega); have := HU.out; omega) hg HM.out (HK.out.ch (HC1.out.trans HC.out) id))
                          clear hq hg
                          generalize P i = pi at *
                          generalize PL i = li at *
                          generalize C i = ci at *
                          go_wp2_with fail
                          refine HWR.out.mono ?_
                          rintro e w3 ⟨rfl, hc3, hm3⟩
                          have HC3 := Go.Lib.hid (HC.out.then hc3 (fun k hk h => by have := HR1.out; omega)); have HM3 := Go.Lib.hid hm3
                          clear hc3 hm3 HWR
                          go_wp2_with fail
                          go_roundw
                          case rel => exact ⟨i + 1, by omega, by go_num, by rw [HU.out, ← Nat.add_assoc]; exact HM3.out, HC3.out⟩
                          case measure => simp [intOf]; omega
                        · obtain rfl : N = i := by omega
                          have HMF := Go.Lib.hid HM.out
                          have HT1 := Go.Lib.hid (HTA.out wr HC.out)
                          have HMT2 := Go.Lib.hid (fun W (hc : Ch (fun _ => False) wr W) => HMT.out W (HC.out.trans hc) b r (HMF.out.ch hc id id))
                          clear HM HTA HMT HMA HCC
                          generalize hTB : tagB (kb key nk) f (upto PL N) = T at *
                          have HTB := Go.Lib.hid hTB
                          have HEQ := Go.Lib.hid (fun W => eqH_self T ▸ eq_hv T T W)
                          have HI := Go.Lib.hid (hv_info T); have HA := Go.Lib.hid (hv_all T)
                          have HHZ := Go.Lib.hid (show (hv fun _ => 0).size = (hv T).size by rw [show (hv fun _ => 0).size = 32 from arr_size _ _]; exact (arr_size _ _).symm)
                          clear hTB
                          go_wp2_with fail
                          refine HT1.out.mono ?_
                          rintro e w4 ⟨rfl, hc4⟩
                          have HC4 := Go.Lib.hid ((HC.out.alloc _).trans hc4); have HD4 := Go.Lib.hid (((Ch.refl _ wr).alloc _).trans hc4)
                          clear hc4 HT1
                          generalize hRT : hv T = RT at *
                          have HRTE := Go.Lib.hid hRT
                          clear hRT
                          go_upto_region 10 with (refine wpList_store_row rfl 28 (.tmp 21) (.tmp 97) rfl w4.heap.size RT rfl rfl 28 (hv fun _ => 0) (World.alloc_heap_new w4 _) HI.out HHZ.out HA.out ?_)
                          generalize hW5 : World.setRow _ w4.heap.size RT = w5
                          have hx5 : w5.heap[w4.heap.size]? = some (.cells RT 28) := by rw [← hW5]; exact heap_setRow (World.alloc_heap_new w4 _)
                          have hc5 : Ch (fun _ => False) w4 w5 := by rw [← hW5]; exact ((Ch.refl _ _).alloc _).setRow (fun h => absurd h (Nat.lt_irrefl _)) _
                          have HX5 := Go.Lib.hid hx5; have HC5 := Go.Lib.hid (HC4.out.trans hc5); have HD5 := Go.Lib.hid (HD4.out.trans hc5)
                          clear hW5 hx5 hc5 HC4 HD4
                          generalize w4.heap.size = B at *
                          rw [put_none]
                          have g300 : n1 ≤ 300 := by omega
                          have g301 : n2 ≤ 300 := by omega
                          go_wp2_with fail
                          refine (HEX.out n1 g300 w5 HC5.out).mono ?_
                          rintro e w6 ⟨q1, c1, rfl, hb6, hc6⟩
                          have HB6 := Go.Lib.hid hb6; have HC6 := Go.Lib.hid (HC5.out.trans hc6); have HD6 := Go.Lib.hid (HD5.out.trans hc6); have HX6 := Go.Lib.hid (hc6.heap HX5.out id)
                          clear hb6 hc6 HC5 HD5 HX5
                          go_wp2_with fail
                          refine (HEX.out n2 g301 w6 HC6.out).mono ?_
                          rintro e w7 ⟨q2, c2, rfl, hb7, hc7⟩
                          have HB7 := Go.Lib.hid hb7; have HC7 := Go.Lib.hid (HC6.out.trans hc7); have HD7 := Go.Lib.hid (HD6.out.trans hc7); have HX7 := Go.Lib.hid (hc7.heap HX6.out id)
                          have HQ7 := Go.Lib.hid (HB6.out.ch hc7 (fun _ _ h => h))
                          clear hb7 hc7 HC6 HD6 HX6 HB6 HEX
                          go_upto_region 12 with (fail)
                          have hcl : n1 ≤ c2 := by
                            rcases HB7.out with ⟨x, y, _, h, _⟩ | ⟨_, h, h2⟩ <;> omega
                          have HSL := Go.Lib.hid (fun W => slice_to22 q2 n2 c2 n1 hcl W)
                          have HCX := Go.Lib.hid (fun W (hc : Ch (fun _ => False) w7 W) => conv_bytes (HQ7.out.ch hc (fun _ _ h => h)))
                          have HCY := Go.Lib.hid (fun W (hc : Ch (fun _ => False) w7 W) => conv_bytes ((bytes_short HB7.out (show n1 ≤ n2 by omega)).ch hc (fun _ _ h => h)))
                          generalize bS (expB (kb key nk) s) n1 = ST at *
                          clear HQ7 HB7
                          generalize hax : Act.mk _ _ = ax
                          have HSZ := Go.Lib.hid (show ax.tmps.size = 191 by rw [← hax]; rfl)
                          have F0 := Go.Lib.hid (show gt ax 0 = .slice p nk ck by rw [← hax]; rfl)
                          have F1 := Go.Lib.hid (show gt ax 1 = .slice sp N cap by rw [← hax]; rfl)
                          have F3 := Go.Lib.hid (show gt ax 3 = .int .i64 (n1 : Int) by rw [← hax]; rfl)
                          have F4 := Go.Lib.hid (show gt ax 4 = .int .i64 (n2 : Int) by rw [← hax]; rfl)
                          have F19 := Go.Lib.hid (show gt ax 19 = .pointer (some ⟨b, 0, none⟩) by rw [← hax]; rfl)
                          have F21 := Go.Lib.hid (show gt ax 21 = .pointer (some ⟨B, 0, none⟩) by rw [← hax]; rfl)
                          have F22 := Go.Lib.hid (show gt ax 22 = .slice q1 n1 c1 by rw [← hax]; rfl)
                          have F23 := Go.Lib.hid (show gt ax 23 = .int .i64 0 by rw [← hax]; rfl)
                          have F24 := Go.Lib.hid (show gt ax 24 = .slice q2 n2 c2 by rw [← hax]; rfl)
                          have F25 := Go.Lib.hid (show gt ax 25 = .int .i64 0 by rw [← hax]; rfl)
                          have HAX := Go.Lib.hid hax
                          clear hax
                          have HND := Go.Lib.hid (show ([112, 113, 114, 115, 116, 117, 118, 119, 120, 121, 122, 123, 124, 125, 126, 127, 128, 129, 130, 131, 132, 133, 134, 135, 136, 137, 138, 139, 140, 141, 142, 143, 144, 145, 146, 147, 148, 149, 150] : List Nat).Nodup by decide)
                          have HLS : Hid (Lasts [(112, fun x _ => x = .slice p nk ck), (113, fun x _ => x = .slice sp N cap), (114, fun x _ => x = .agg RT), (115, fun x _ => x = .agg RT), (116, fun x _ => x = .bool false), (117, fun x _ => x = .bool false), (118, fun x _ => x = .pointer (some ⟨b, 0, none⟩)), (119, fun x _ => x = .agg RT), (120, fun x _ => x = .agg RT), (121, fun x _ => x = .bool false), (122, fun x _ => x = .bool false), (123, fun x _ => x = .bool false), (124, fun x _ => x = .int .i64 0), (125, fun x _ => x = .int .i64 0), (126, fun x _ => x = .int .i64 0), (127, fun x _ => x = .int .i64 0), (128, fun x _ => x = .int .i64 0), (129, fun x _ => x = .bool false), (130, fun x _ => x = .bool false), (131, fun x _ => x = .bool false), (132, fun x _ => x = .slice q1 n1 c1), (133, fun x _ => x = .int .i64 (n1 : Int)), (134, fun x _ => x = .int .i64 (n1 : Int)), (135, fun x _ => x = .bool false), (136, fun x _ => x = .bool false), (137, fun x _ => x = .bool false), (138, fun x _ => x = .slice q2 n2 c2), (139, fun x _ => x = .int .i64 (n2 : Int)), (140, fun x _ => x = .int .i64 (n2 : Int)), (141, fun x _ => x = .bool false), (142, fun x _ => x = .bool false), (143, fun x _ => x = .bool false), (144, fun x _ => x = .slice q1 n1 c1), (145, fun x _ => x = .string ST), (146, fun x _ => x = .slice q2 n2 c2), (147, fun x _ => x = .int .i64 (n1 : Int)), (148, fun x _ => x = .slice q2 n1 c2), (149, fun x _ => x = .string ST), (150, fun x _ => x = .bool false)]) := Go.Lib.hid (by
                            intro p hp v w1 w2 hc h
                            simp only [List.mem_cons, List.not_mem_nil, or_false] at hp
                            rcases hp with rfl | rfl | rfl | rfl | rfl | rfl | rfl | rfl | rfl | rfl | rfl | rfl | rfl | rfl | rfl | rfl | rfl | rfl | rfl | rfl | rfl | rfl | rfl | rfl | rfl | rfl | rfl | rfl | rfl | rfl | rfl | rfl | rfl | rfl | rfl | rfl | rfl | rfl | rfl
                            all_goals first | exact h | (obtain ⟨g, h1, h2⟩ := h; exact ⟨g, h1, hc.heap h2 id⟩) | (obtain ⟨g, c, h1, h2⟩ := h; exact ⟨g, c, h1, h2.ch hc (fun _ _ h => h)⟩))
                          refine wp_region_open_tail 39 (InvQ 191 [(112, fun x _ => x = .slice p nk ck), (113, fun x _ => x = .slice sp N cap), (114, fun x _ => x = .agg RT), (115, fun x _ => x = .agg RT), (116, fun x _ => x = .bool false), (117, fun x _ => x = .bool false), (118, fun x _ => x = .pointer (some ⟨b, 0, none⟩)), (119, fun x _ => x = .agg RT), (120, fun x _ => x = .agg RT), (121, fun x _ => x = .bool false), (122, fun x _ => x = .bool false), (123, fun x _ => x = .bool false), (124, fun x _ => x = .int .i64 0), (125, fun x _ => x = .int .i64 0), (126, fun x _ => x = .int .i64 0), (127, fun x _ => x = .int .i64 0), (128, fun x _ => x = .int .i64 0), (129, fun x _ => x = .bool false), (130, fun x _ => x = .bool false), (131, fun x _ => x = .bool false), (132, fun x _ => x = .slice q1 n1 c1), (133, fun x _ => x = .int .i64 (n1 : Int)), (134, fun x _ => x = .int .i64 (n1 : Int)), (135, fun x _ => x = .bool false), (136, fun x _ => x = .bool false), (137, fun x _ => x = .bool false), (138, fun x _ => x = .slice q2 n2 c2), (139, fun x _ => x = .int .i64 (n2 : Int)), (140, fun x _ => x = .int .i64 (n2 : Int)), (141, fun x _ => x = .bool false), (142, fun x _ => x = .bool false), (143, fun x _ => x = .bool false), (144, fun x _ => x = .slice q1 n1 c1), (145, fun x _ => x = .string ST), (146, fun x _ => x = .slice q2 n2 c2), (147, fun x _ => x = .int .i64 (n1 : Int)), (148, fun x _ => x = .slice q2 n1 c2), (149, fun x _ => x = .string ST), (150, fun x _ => x = .bool false)] (fun _ w' => Ch (fun _ => False) w7 w') ax) (by kernel_rfl) (by kernel_rfl) (InvQ.start (by simp) HSZ.out (Ch.refl _ _).drew) ?_ ?_
                          · intro L a w' i hI hr hlt
                            obtain ⟨h1, o, ho, hall⟩ := mem_ready.1 hr
                            have hsplit : i = 0 ∨ i = 1 ∨ i = 2 ∨ i = 3 ∨ i = 4 ∨ i = 5 ∨ i = 6 ∨ i = 7 ∨ i = 8 ∨ i = 9 ∨ i = 10 ∨ i = 11 ∨ i = 12 ∨ i = 13 ∨ i = 14 ∨ i = 15 ∨ i = 16 ∨ i = 17 ∨ i = 18 ∨ i = 19 ∨ i = 20 ∨ i = 21 ∨ i = 22 ∨ i = 23 ∨ i = 24 ∨ i = 25 ∨ i = 26 ∨ i = 27 ∨ i = 28 ∨ i = 29 ∨ i = 30 ∨ i = 31 ∨ i = 32 ∨ i = 33 ∨ i = 34 ∨ i = 35 ∨ i = 36 ∨ i = 37 ∨ i = 38 := by omega
                            clear hlt h1 hr
                            rcases hsplit with rfl | rfl | rfl | rfl | rfl | rfl | rfl | rfl | rfl | rfl | rfl | rfl | rfl | rfl | rfl | rfl | rfl | rfl | rfl | rfl | rfl | rfl | rfl | rfl | rfl | rfl | rfl | rfl | rfl | rfl | rfl | rfl | rfl | rfl | rfl | rfl | rfl | rfl | rfl
                            · have q0 := (hI.fixed 0 (by simp)).trans F0.out
                              unfold gt at q0
                              clear hall
                              refine wpOp_step (o := _) rfl (fun K' hK' => ?_)
                              go_simp
                              exact hK' _ _ (hI.put 0 rfl (by decide) HND.out HLS.out  (Ch.refl _ _) rfl hI.wld)
                            · have q1 := (hI.fixed 1 (by simp)).trans F1.out
                              unfold gt at q1
                              clear hall
                              refine wpOp_step (o := _) rfl (fun K' hK' => ?_)
                              go_simp
                              exact hK' _ _ (hI.put 1 rfl (by decide) HND.out HLS.out  (Ch.refl _ _) rfl hI.wld)
                            · simp at ho
                              have e0 : lg L 0 = true := by unfold lg; simpa using hall ⟨0, .data⟩ (by rw [← ho]; simp) rfl
                              have f0 : gt a 112 = .slice p nk ck := hI.val 0 _ rfl e0
                              have e1 : lg L 1 = true := by unfold lg; simpa using hall ⟨1, .data⟩ (by rw [← ho]; simp) rfl
                              have f1 : gt a 113 = .slice sp N cap := hI.val 1 _ rfl e1
                              unfold gt at f0 f1
                              clear hall
                              clear ho
                              have HCT := Go.Lib.hid (HTP.out w' (HC7.out.trans hI.wld))
                              refine wpOp_step (o := _) rfl (fun K' hK' => ?_)
                              go_simp
                              refine HCT.out.mono ?_
                              rintro e w3 ⟨rfl, hc⟩
                              exact hK' _ _ (hI.put 2 rfl (by decide) HND.out HLS.out  hc rfl (hI.wld.trans hc))
                            · have q21 := (hI.fixed 21 (by simp)).trans F21.out
                              unfold gt at q21
                              clear hall
                              refine wpOp_step (o := _) rfl (fun K' hK' => ?_)
                              exact wp_load_row 28 (.tmp 21) rfl B (by simpa [Act.eval] using q21) 28 RT (0, 0) _ (hI.wld.heap HX7.out id) Tryd.underlying28 rfl HI.out (hK' _ _ (hI.put 3 rfl (by decide) HND.out HLS.out  (Ch.refl _ _) rfl hI.wld))
                            · simp at ho
                              have e2 : lg L 2 = true := by unfold lg; simpa using hall ⟨2, .data⟩ (by rw [← ho]; simp) rfl
                              have f2 : gt a 114 = .agg RT := hI.val 2 _ rfl e2
                              have e3 : lg L 3 = true := by unfold lg; simpa using hall ⟨3, .data⟩ (by rw [← ho]; simp) rfl
                              have f3 : gt a 115 = .agg RT := hI.val 3 _ rfl e3
                              unfold gt at f2 f3
                              clear hall
                              clear ho
                              refine wpOp_step (o := _) rfl (fun K' hK' => ?_)
                              exact wp_neq (.tmp 114) (.tmp 115) 28 28 rfl RT RT (by simpa [Act.eval] using f2) (by simpa [Act.eval] using f3) eqg28 (HEQ.out _) (hK' _ _ (hI.put 4 rfl (by decide) HND.out HLS.out  (Ch.refl _ _) rfl hI.wld))
                            · simp at ho
                              have e4 : lg L 4 = true := by unfold lg; simpa using hall ⟨4, .data⟩ (by rw [← ho]; simp) rfl
                              have f4 : gt a 116 = .bool false := hI.val 4 _ rfl e4
                              unfold gt at f4
                              clear hall
                              clear ho
                              refine wpOp_step (o := _) rfl (fun K' hK' => ?_)
                              go_simp
                              exact hK' _ _ (hI.put 5 rfl (by decide) HND.out HLS.out  (Ch.refl _ _) rfl hI.wld)
                            · simp at ho
                              have q19 := (hI.fixed 19 (by simp)).trans F19.out
                              have eg : lg L 5 = true := by unfold lg; simpa using hall ⟨5, .guard⟩ (by rw [← ho]; simp) rfl
                              have fg0 : gt a 117 = .bool false := hI.val 5 _ rfl eg
                              have fg := guard_of fg0 (by rw [hI.size]; decide)
                              clear eg fg0
                              unfold gt at q19
                              clear hall
                              clear ho
                              refine wpOp_step (o := _) rfl (fun K' hK' => ?_)
                              go_simp
                              exact hK' _ _ (hI.put 6 rfl (by decide) HND.out HLS.out  (Ch.refl _ _) rfl hI.wld)
                            · simp at ho
                              have e6 : lg L 6 = true := by unfold lg; simpa using hall ⟨6, .data⟩ (by rw [← ho]; simp) rfl
                              have f6 : gt a 118 = .pointer (some ⟨b, 0, none⟩) := hI.val 6 _ rfl e6
                              have eg : lg L 5 = true := by unfold lg; simpa using hall ⟨5, .guard⟩ (by rw [← ho]; simp) rfl
                              have fg0 : gt a 117 = .bool false := hI.val 5 _ rfl eg
                              have fg := guard_of fg0 (by rw [hI.size]; decide)
                              clear eg fg0
                              unfold gt at f6
                              clear hall
                              clear ho
                              have HCT := Go.Lib.hid (HMT2.out w' (HD7.out.trans hI.wld))
                              refine wpOp_step (o := _) rfl (fun K' hK' => ?_)
                              go_simp
                              refine HCT.out.mono ?_
                              rintro e w3 ⟨rfl, hc⟩
                              exact hK' _ _ (hI.put 7 rfl (by decide) HND.out HLS.out  hc rfl (hI.wld.trans hc))
                            · simp at ho
                              have q21 := (hI.fixed 21 (by simp)).trans F21.out
                              have eg : lg L 5 = true := by unfold lg; simpa using hall ⟨5, .guard⟩ (by rw [← ho]; simp) rfl
                              have fg0 : gt a 117 = .bool false := hI.val 5 _ rfl eg
                              have fg := guard_of fg0 (by rw [hI.size]; decide)
                              clear eg fg0
                              unfold gt at q21
                              clear hall
                              clear ho
                              refine wpOp_step (o := _) rfl (fun K' hK' => ?_)
                              rw [if_pos (by simp [Region.wanted, yielded, fg])]
                              exact wp_load_row 28 (.tmp 21) rfl B (by simpa [Act.eval] using q21) 28 RT (0, 0) _ (hI.wld.heap HX7.out id) Tryd.underlying28 rfl HI.out (hK' _ _ (hI.put 8 rfl (by decide) HND.out HLS.out  (Ch.refl _ _) rfl hI.wld))
                            · simp at ho
                              have e7 : lg L 7 = true := by unfold lg; simpa using hall ⟨7, .data⟩ (by rw [← ho]; simp) rfl
                              have f7 : gt a 119 = .agg RT := hI.val 7 _ rfl e7
                              have e8 : lg L 8 = true := by unfold lg; simpa using hall ⟨8, .data⟩ (by rw [← ho]; simp) rfl
                              have f8 : gt a 120 = .agg RT := hI.val 8 _ rfl e8
                              have eg : lg L 5 = true := by unfold lg; simpa using hall ⟨5, .guard⟩ (by rw [← ho]; simp) rfl
                              have fg0 : gt a 117 = .bool false := hI.val 5 _ rfl eg
                              have fg := guard_of fg0 (by rw [hI.size]; decide)
                              clear eg fg0
                              unfold gt at f7 f8
                              clear hall
                              clear ho
                              refine wpOp_step (o := _) rfl (fun K' hK' => ?_)
                              rw [if_pos (by simp [Region.wanted, yielded, fg])]
                              exact wp_neq (.tmp 119) (.tmp 120) 28 28 rfl RT RT (by simpa [Act.eval] using f7) (by simpa [Act.eval] using f8) eqg28 (HEQ.out _) (hK' _ _ (hI.put 9 rfl (by decide) HND.out HLS.out  (Ch.refl _ _) rfl hI.wld))
                            · simp at ho
                              have e5 : lg L 5 = true := by unfold lg; simpa using hall ⟨5, .data⟩ (by rw [← ho]; simp) rfl
                              have f5 : gt a 117 = .bool false := hI.val 5 _ rfl e5
                              have e9 : lg L 9 = true := by unfold lg; simpa using hall ⟨9, .data⟩ (by rw [← ho]; simp) rfl
                              have f9 : gt a 121 = .bool false := hI.val 9 _ rfl e9
                              unfold gt at f5 f9
                              clear hall
                              clear ho
                              refine wpOp_step (o := _) rfl (fun K' hK' => ?_)
                              go_simp
                              exact hK' _ _ (hI.put 10 rfl (by decide) HND.out HLS.out  (Ch.refl _ _) rfl hI.wld)
                            · simp at ho
                              have e10 : lg L 10 = true := by unfold lg; simpa using hall ⟨10, .data⟩ (by rw [← ho]; simp) rfl
                              have f10 : gt a 122 = .bool false := hI.val 10 _ rfl e10
                              unfold gt at f10
                              clear hall
                              clear ho
                              refine wpOp_step (o := _) rfl (fun K' hK' => ?_)
                              go_simp
                              exact hK' _ _ (hI.put 11 rfl (by decide) HND.out HLS.out  (Ch.refl _ _) rfl hI.wld)
                            · simp at ho
                              have q23 := (hI.fixed 23 (by simp)).trans F23.out
                              have eg : lg L 11 = true := by unfold lg; simpa using hall ⟨11, .guard⟩ (by rw [← ho]; simp) rfl
                              have fg0 : gt a 123 = .bool false := hI.val 11 _ rfl eg
                              have fg := guard_of fg0 (by rw [hI.size]; decide)
                              clear eg fg0
                              unfold gt at q23
                              clear hall
                              clear ho
                              refine wpOp_step (o := _) rfl (fun K' hK' => ?_)
                              go_simp
                              exact hK' _ _ (hI.put 12 rfl (by decide) HND.out HLS.out  (Ch.refl _ _) rfl hI.wld)
                            · simp at ho
                              have e12 : lg L 12 = true := by unfold lg; simpa using hall ⟨12, .data⟩ (by rw [← ho]; simp) rfl
                              have f12 : gt a 124 = .int .i64 0 := hI.val 12 _ rfl e12
                              have eg : lg L 11 = true := by unfold lg; simpa using hall ⟨11, .guard⟩ (by rw [← ho]; simp) rfl
                              have fg0 : gt a 123 = .bool false := hI.val 11 _ rfl eg
                              have fg := guard_of fg0 (by rw [hI.size]; decide)
                              clear eg fg0
                              unfold gt at f12
                              clear hall
                              clear ho
                              have HCT := Go.Lib.hid (num17 0 w')
                              refine wpOp_step (o := _) rfl (fun K' hK' => ?_)
                              go_simp
                              refine HCT.out.mono ?_
                              rintro e w3 ⟨rfl, rfl⟩
                              exact hK' _ _ (hI.put 13 rfl (by decide) HND.out HLS.out (Ch.refl _ _) rfl hI.wld)
                            · simp at ho
                              have q25 := (hI.fixed 25 (by simp)).trans F25.out
                              have eg : lg L 11 = true := by unfold lg; simpa using hall ⟨11, .guard⟩ (by rw [← ho]; simp) rfl
                              have fg0 : gt a 123 = .bool false := hI.val 11 _ rfl eg
                              have fg := guard_of fg0 (by rw [hI.size]; decide)
                              clear eg fg0
                              unfold gt at q25
                              clear hall
                              clear ho
                              refine wpOp_step (o := _) rfl (fun K' hK' => ?_)
                              go_simp
                              exact hK' _ _ (hI.put 14 rfl (by decide) HND.out HLS.out  (Ch.refl _ _) rfl hI.wld)
                            · simp at ho
                              have e14 : lg L 14 = true := by unfold lg; simpa using hall ⟨14, .data⟩ (by rw [← ho]; simp) rfl
                              have f14 : gt a 126 = .int .i64 0 := hI.val 14 _ rfl e14
                              have eg : lg L 11 = true := by unfold lg; simpa using hall ⟨11, .guard⟩ (by rw [← ho]; simp) rfl
                              have fg0 : gt a 123 = .bool false := hI.val 11 _ rfl eg
                              have fg := guard_of fg0 (by rw [hI.size]; decide)
                              clear eg fg0
                              unfold gt at f14
                              clear hall
                              clear ho
                              have HCT := Go.Lib.hid (num17 0 w')
                              refine wpOp_step (o := _) rfl (fun K' hK' => ?_)
                              go_simp
                              refine HCT.out.mono ?_
                              rintro e w3 ⟨rfl, rfl⟩
                              exact hK' _ _ (hI.put 15 rfl (by decide) HND.out HLS.out (Ch.refl _ _) rfl hI.wld)
                            · simp at ho
                              have e13 : lg L 13 = true := by unfold lg; simpa using hall ⟨13, .data⟩ (by rw [← ho]; simp) rfl
                              have f13 : gt a 125 = .int .i64 0 := hI.val 13 _ rfl e13
                              have e15 : lg L 15 = true := by unfold lg; simpa using hall ⟨15, .data⟩ (by rw [← ho]; simp) rfl
                              have f15 : gt a 127 = .int .i64 0 := hI.val 15 _ rfl e15
                              have eg : lg L 11 = true := by unfold lg; simpa using hall ⟨11, .guard⟩ (by rw [← ho]; simp) rfl
                              have fg0 : gt a 123 = .bool false := hI.val 11 _ rfl eg
                              have fg := guard_of fg0 (by rw [hI.size]; decide)
                              clear eg fg0
                              unfold gt at f13 f15
                              clear hall
                              clear ho
                              refine wpOp_step (o := _) rfl (fun K' hK' => ?_)
                              go_simp
                              exact hK' _ _ (hI.put 16 rfl (by decide) HND.out HLS.out  (Ch.refl _ _) rfl hI.wld)
                            · simp at ho
                              have e16 : lg L 16 = true := by unfold lg; simpa using hall ⟨16, .data⟩ (by rw [← ho]; simp) rfl
                              have f16 : gt a 128 = .int .i64 0 := hI.val 16 _ rfl e16
                              have eg : lg L 11 = true := by unfold lg; simpa using hall ⟨11, .guard⟩ (by rw [← ho]; simp) rfl
                              have fg0 : gt a 123 = .bool false := hI.val 11 _ rfl eg
                              have fg := guard_of fg0 (by rw [hI.size]; decide)
                              clear eg fg0
                              unfold gt at f16
                              clear hall
                              clear ho
                              refine wpOp_step (o := _) rfl (fun K' hK' => ?_)
                              go_simp
                              exact hK' _ _ (hI.put 17 rfl (by decide) HND.out HLS.out  (Ch.refl _ _) rfl hI.wld)
                            · simp at ho
                              have e11 : lg L 11 = true := by unfold lg; simpa using hall ⟨11, .data⟩ (by rw [← ho]; simp) rfl
                              have f11 : gt a 123 = .bool false := hI.val 11 _ rfl e11
                              have e17 : lg L 17 = true := by unfold lg; simpa using hall ⟨17, .data⟩ (by rw [← ho]; simp) rfl
                              have f17 : gt a 129 = .bool false := hI.val 17 _ rfl e17
                              unfold gt at f11 f17
                              clear hall
                              clear ho
                              refine wpOp_step (o := _) rfl (fun K' hK' => ?_)
                              go_simp
                              exact hK' _ _ (hI.put 18 rfl (by decide) HND.out HLS.out  (Ch.refl _ _) rfl hI.wld)
                            · simp at ho
                              have e18 : lg L 18 = true := by unfold lg; simpa using hall ⟨18, .data⟩ (by rw [← ho]; simp) rfl
                              have f18 : gt a 130 = .bool false := hI.val 18 _ rfl e18
                              unfold gt at f18
                              clear hall
                              clear ho
                              refine wpOp_step (o := _) rfl (fun K' hK' => ?_)
                              go_simp
                              exact hK' _ _ (hI.put 19 rfl (by decide) HND.out HLS.out  (Ch.refl _ _) rfl hI.wld)
                            · simp at ho
                              have q22 := (hI.fixed 22 (by simp)).trans F22.out
                              have eg : lg L 19 = true := by unfold lg; simpa using hall ⟨19, .guard⟩ (by rw [← ho]; simp) rfl
                              have fg0 : gt a 131 = .bool false := hI.val 19 _ rfl eg
                              have fg := guard_of fg0 (by rw [hI.size]; decide)
                              clear eg fg0
                              unfold gt at q22
                              clear hall
                              clear ho
                              refine wpOp_step (o := _) rfl (fun K' hK' => ?_)
                              go_simp
                              exact hK' _ _ (hI.put 20 rfl (by decide) HND.out HLS.out  (Ch.refl _ _) rfl hI.wld)
                            · simp at ho
                              have e20 : lg L 20 = true := by unfold lg; simpa using hall ⟨20, .data⟩ (by rw [← ho]; simp) rfl
                              have f20 : gt a 132 = .slice q1 n1 c1 := hI.val 20 _ rfl e20
                              have eg : lg L 19 = true := by unfold lg; simpa using hall ⟨19, .guard⟩ (by rw [← ho]; simp) rfl
                              have fg0 : gt a 131 = .bool false := hI.val 19 _ rfl eg
                              have fg := guard_of fg0 (by rw [hI.size]; decide)
                              clear eg fg0
                              unfold gt at f20
                              clear hall
                              clear ho
                              refine wpOp_step (o := _) rfl (fun K' hK' => ?_)
                              go_simp
                              exact hK' _ _ (hI.put 21 rfl (by decide) HND.out HLS.out  (Ch.refl _ _) rfl hI.wld)
                            · simp at ho
                              have q3 := (hI.fixed 3 (by simp)).trans F3.out
                              have eg : lg L 19 = true := by unfold lg; simpa using hall ⟨19, .guard⟩ (by rw [← ho]; simp) rfl
                              have fg0 : gt a 131 = .bool false := hI.val 19 _ rfl eg
                              have fg := guard_of fg0 (by rw [hI.size]; decide)
                              clear eg fg0
                              unfold gt at q3
                              clear hall
                              clear ho
                              refine wpOp_step (o := _) rfl (fun K' hK' => ?_)
                              go_simp
                              exact hK' _ _ (hI.put 22 rfl (by decide) HND.out HLS.out  (Ch.refl _ _) rfl hI.wld)
                            · simp at ho
                              have e21 : lg L 21 = true := by unfold lg; simpa using hall ⟨21, .data⟩ (by rw [← ho]; simp) rfl
                              have f21 : gt a 133 = .int .i64 (n1 : Int) := hI.val 21 _ rfl e21
                              have e22 : lg L 22 = true := by unfold lg; simpa using hall ⟨22, .data⟩ (by rw [← ho]; simp) rfl
                              have f22 : gt a 134 = .int .i64 (n1 : Int) := hI.val 22 _ rfl e22
                              have eg : lg L 19 = true := by unfold lg; simpa using hall ⟨19, .guard⟩ (by rw [← ho]; simp) rfl
                              have fg0 : gt a 131 = .bool false := hI.val 19 _ rfl eg
                              have fg := guard_of fg0 (by rw [hI.size]; decide)
                              clear eg fg0
                              unfold gt at f21 f22
                              clear hall
                              clear ho
                              refine wpOp_step (o := _) rfl (fun K' hK' => ?_)
                              go_simp
                              exact hK' _ _ (hI.put 23 rfl (by decide) HND.out HLS.out  (Ch.refl _ _) rfl hI.wld)
                            · simp at ho
                              have e19 : lg L 19 = true := by unfold lg; simpa using hall ⟨19, .data⟩ (by rw [← ho]; simp) rfl
                              have f19 : gt a 131 = .bool false := hI.val 19 _ rfl e19
                              have e23 : lg L 23 = true := by unfold lg; simpa using hall ⟨23, .data⟩ (by rw [← ho]; simp) rfl
                              have f23 : gt a 135 = .bool false := hI.val 23 _ rfl e23
                              unfold gt at f19 f23
                              clear hall
                              clear ho
                              refine wpOp_step (o := _) rfl (fun K' hK' => ?_)
                              go_simp
                              exact hK' _ _ (hI.put 24 rfl (by decide) HND.out HLS.out  (Ch.refl _ _) rfl hI.wld)
                            · simp at ho
                              have e24 : lg L 24 = true := by unfold lg; simpa using hall ⟨24, .data⟩ (by rw [← ho]; simp) rfl
                              have f24 : gt a 136 = .bool false := hI.val 24 _ rfl e24
                              unfold gt at f24
                              clear hall
                              clear ho
                              refine wpOp_step (o := _) rfl (fun K' hK' => ?_)
                              go_simp
                              exact hK' _ _ (hI.put 25 rfl (by decide) HND.out HLS.out  (Ch.refl _ _) rfl hI.wld)
                            · simp at ho
                              have q24 := (hI.fixed 24 (by simp)).trans F24.out
                              have eg : lg L 25 = true := by unfold lg; simpa using hall ⟨25, .guard⟩ (by rw [← ho]; simp) rfl
                              have fg0 : gt a 137 = .bool false := hI.val 25 _ rfl eg
                              have fg := guard_of fg0 (by rw [hI.size]; decide)
                              clear eg fg0
                              unfold gt at q24
                              clear hall
                              clear ho
                              refine wpOp_step (o := _) rfl (fun K' hK' => ?_)
                              go_simp
                              exact hK' _ _ (hI.put 26 rfl (by decide) HND.out HLS.out  (Ch.refl _ _) rfl hI.wld)
                            · simp at ho
                              have e26 : lg L 26 = true := by unfold lg; simpa using hall ⟨26, .data⟩ (by rw [← ho]; simp) rfl
                              have f26 : gt a 138 = .slice q2 n2 c2 := hI.val 26 _ rfl e26
                              have eg : lg L 25 = true := by unfold lg; simpa using hall ⟨25, .guard⟩ (by rw [← ho]; simp) rfl
                              have fg0 : gt a 137 = .bool false := hI.val 25 _ rfl eg
                              have fg := guard_of fg0 (by rw [hI.size]; decide)
                              clear eg fg0
                              unfold gt at f26
                              clear hall
                              clear ho
                              refine wpOp_step (o := _) rfl (fun K' hK' => ?_)
                              go_simp
                              exact hK' _ _ (hI.put 27 rfl (by decide) HND.out HLS.out  (Ch.refl _ _) rfl hI.wld)
                            · simp at ho
                              have q4 := (hI.fixed 4 (by simp)).trans F4.out
                              have eg : lg L 25 = true := by unfold lg; simpa using hall ⟨25, .guard⟩ (by rw [← ho]; simp) rfl
                              have fg0 : gt a 137 = .bool false := hI.val 25 _ rfl eg
                              have fg := guard_of fg0 (by rw [hI.size]; decide)
                              clear eg fg0
                              unfold gt at q4
                              clear hall
                              clear ho
                              refine wpOp_step (o := _) rfl (fun K' hK' => ?_)
                              go_simp
                              exact hK' _ _ (hI.put 28 rfl (by decide) HND.out HLS.out  (Ch.refl _ _) rfl hI.wld)
                            · simp at ho
                              have e27 : lg L 27 = true := by unfold lg; simpa using hall ⟨27, .data⟩ (by rw [← ho]; simp) rfl
                              have f27 : gt a 139 = .int .i64 (n2 : Int) := hI.val 27 _ rfl e27
                              have e28 : lg L 28 = true := by unfold lg; simpa using hall ⟨28, .data⟩ (by rw [← ho]; simp) rfl
                              have f28 : gt a 140 = .int .i64 (n2 : Int) := hI.val 28 _ rfl e28
                              have eg : lg L 25 = true := by unfold lg; simpa using hall ⟨25, .guard⟩ (by rw [← ho]; simp) rfl
                              have fg0 : gt a 137 = .bool false := hI.val 25 _ rfl eg
                              have fg := guard_of fg0 (by rw [hI.size]; decide)
                              clear eg fg0
                              unfold gt at f27 f28
                              clear hall
                              clear ho
                              refine wpOp_step (o := _) rfl (fun K' hK' => ?_)
                              go_simp
                              exact hK' _ _ (hI.put 29 rfl (by decide) HND.out HLS.out  (Ch.refl _ _) rfl hI.wld)
                            · simp at ho
                              have e25 : lg L 25 = true := by unfold lg; simpa using hall ⟨25, .data⟩ (by rw [← ho]; simp) rfl
                              have f25 : gt a 137 = .bool false := hI.val 25 _ rfl e25
                              have e29 : lg L 29 = true := by unfold lg; simpa using hall ⟨29, .data⟩ (by rw [← ho]; simp) rfl
                              have f29 : gt a 141 = .bool false := hI.val 29 _ rfl e29
                              unfold gt at f25 f29
                              clear hall
                              clear ho
                              refine wpOp_step (o := _) rfl (fun K' hK' => ?_)
                              go_simp
                              exact hK' _ _ (hI.put 30 rfl (by decide) HND.out HLS.out  (Ch.refl _ _) rfl hI.wld)
                            · simp at ho
                              have e30 : lg L 30 = true := by unfold lg; simpa using hall ⟨30, .data⟩ (by rw [← ho]; simp) rfl
                              have f30 : gt a 142 = .bool false := hI.val 30 _ rfl e30
                              unfold gt at f30
                              clear hall
                              clear ho
                              refine wpOp_step (o := _) rfl (fun K' hK' => ?_)
                              go_simp
                              exact hK' _ _ (hI.put 31 rfl (by decide) HND.out HLS.out  (Ch.refl _ _) rfl hI.wld)
                            · simp at ho
                              have q22 := (hI.fixed 22 (by simp)).trans F22.out
                              have eg : lg L 31 = true := by unfold lg; simpa using hall ⟨31, .guard⟩ (by rw [← ho]; simp) rfl
                              have fg0 : gt a 143 = .bool false := hI.val 31 _ rfl eg
                              have fg := guard_of fg0 (by rw [hI.size]; decide)
                              clear eg fg0
                              unfold gt at q22
                              clear hall
                              clear ho
                              refine wpOp_step (o := _) rfl (fun K' hK' => ?_)
                              go_simp
                              exact hK' _ _ (hI.put 32 rfl (by decide) HND.out HLS.out  (Ch.refl _ _) rfl hI.wld)
                            · simp at ho
                              have e32 : lg L 32 = true := by unfold lg; simpa using hall ⟨32, .data⟩ (by rw [← ho]; simp) rfl
                              have f32 : gt a 144 = .slice q1 n1 c1 := hI.val 32 _ rfl e32
                              have eg : lg L 31 = true := by unfold lg; simpa using hall ⟨31, .guard⟩ (by rw [← ho]; simp) rfl
                              have fg0 : gt a 143 = .bool false := hI.val 31 _ rfl eg
                              have fg := guard_of fg0 (by rw [hI.size]; decide)
                              clear eg fg0
                              have hx := HCX.out w' hI.wld
                              unfold gt at f32
                              clear hall
                              clear ho
                              refine wpOp_step (o := _) rfl (fun K' hK' => ?_)
                              go_simp
                              exact hK' _ _ (hI.put 33 rfl (by decide) HND.out HLS.out  (Ch.refl _ _) rfl hI.wld)
                            · simp at ho
                              have q24 := (hI.fixed 24 (by simp)).trans F24.out
                              have eg : lg L 31 = true := by unfold lg; simpa using hall ⟨31, .guard⟩ (by rw [← ho]; simp) rfl
                              have fg0 : gt a 143 = .bool false := hI.val 31 _ rfl eg
                              have fg := guard_of fg0 (by rw [hI.size]; decide)
                              clear eg fg0
                              unfold gt at q24
                              clear hall
                              clear ho
                              refine wpOp_step (o := _) rfl (fun K' hK' => ?_)
                              go_simp
                              exact hK' _ _ (hI.put 34 rfl (by decide) HND.out HLS.out  (Ch.refl _ _) rfl hI.wld)
                            · simp at ho
                              have q3 := (hI.fixed 3 (by simp)).trans F3.out
                              have eg : lg L 31 = true := by unfold lg; simpa using hall ⟨31, .guard⟩ (by rw [← ho]; simp) rfl
                              have fg0 : gt a 143 = .bool false := hI.val 31 _ rfl eg
                              have fg := guard_of fg0 (by rw [hI.size]; decide)
                              clear eg fg0
                              unfold gt at q3
                              clear hall
                              clear ho
                              refine wpOp_step (o := _) rfl (fun K' hK' => ?_)
                              go_simp
                              exact hK' _ _ (hI.put 35 rfl (by decide) HND.out HLS.out  (Ch.refl _ _) rfl hI.wld)
                            · simp at ho
                              have e34 : lg L 34 = true := by unfold lg; simpa using hall ⟨34, .data⟩ (by rw [← ho]; simp) rfl
                              have f34 : gt a 146 = .slice q2 n2 c2 := hI.val 34 _ rfl e34
                              have e35 : lg L 35 = true := by unfold lg; simpa using hall ⟨35, .data⟩ (by rw [← ho]; simp) rfl
                              have f35 : gt a 147 = .int .i64 (n1 : Int) := hI.val 35 _ rfl e35
                              have eg : lg L 31 = true := by unfold lg; simpa using hall ⟨31, .guard⟩ (by rw [← ho]; simp) rfl
                              have fg0 : gt a 143 = .bool false := hI.val 31 _ rfl eg
                              have fg := guard_of fg0 (by rw [hI.size]; decide)
                              clear eg fg0
                              have hsl := HSL.out w'
                              unfold gt at f34 f35
                              clear hall
                              clear ho
                              refine wpOp_step (o := _) rfl (fun K' hK' => ?_)
                              go_simp
                              exact hK' _ _ (hI.put 36 rfl (by decide) HND.out HLS.out  (Ch.refl _ _) rfl hI.wld)
                            · simp at ho
                              have e36 : lg L 36 = true := by unfold lg; simpa using hall ⟨36, .data⟩ (by rw [← ho]; simp) rfl
                              have f36 : gt a 148 = .slice q2 n1 c2 := hI.val 36 _ rfl e36
                              have eg : lg L 31 = true := by unfold lg; simpa using hall ⟨31, .guard⟩ (by rw [← ho]; simp) rfl
                              have fg0 : gt a 143 = .bool false := hI.val 31 _ rfl eg
                              have fg := guard_of fg0 (by rw [hI.size]; decide)
                              clear eg fg0
                              have hy := HCY.out w' hI.wld
                              unfold gt at f36
                              clear hall
                              clear ho
                              refine wpOp_step (o := _) rfl (fun K' hK' => ?_)
                              go_simp
                              exact hK' _ _ (hI.put 37 rfl (by decide) HND.out HLS.out  (Ch.refl _ _) rfl hI.wld)
                            · simp at ho
                              have e33 : lg L 33 = true := by unfold lg; simpa using hall ⟨33, .data⟩ (by rw [← ho]; simp) rfl
                              have f33 : gt a 145 = .string ST := hI.val 33 _ rfl e33
                              have e37 : lg L 37 = true := by unfold lg; simpa using hall ⟨37, .data⟩ (by rw [← ho]; simp) rfl
                              have f37 : gt a 149 = .string ST := hI.val 37 _ rfl e37
                              have eg : lg L 31 = true := by unfold lg; simpa using hall ⟨31, .guard⟩ (by rw [← ho]; simp) rfl
                              have fg0 : gt a 143 = .bool false := hI.val 31 _ rfl eg
                              have fg := guard_of fg0 (by rw [hI.size]; decide)
                              clear eg fg0
                              unfold gt at f33 f37
                              clear hall
                              clear ho
                              refine wpOp_step (o := _) rfl (fun K' hK' => ?_)
                              go_simp
                              exact hK' _ _ (hI.put 38 rfl (by decide) HND.out HLS.out  (Ch.refl _ _) rfl hI.wld)
                          · intro L a w' hI hal
                            have hfr := hI.frame HSZ.out (by simp) (fun i hi => hal i hi)
                            have k0 : gt a 112 = .slice p nk ck := hI.val 0 _ rfl (hal 0 (by decide))
                            have k1 : gt a 113 = .slice sp N cap := hI.val 1 _ rfl (hal 1 (by decide))
                            have k2 : gt a 114 = .agg RT := hI.val 2 _ rfl (hal 2 (by decide))
                            have k3 : gt a 115 = .agg RT := hI.val 3 _ rfl (hal 3 (by decide))
                            have k4 : gt a 116 = .bool false := hI.val 4 _ rfl (hal 4 (by decide))
                            have k5 : gt a 117 = .bool false := hI.val 5 _ rfl (hal 5 (by decide))
                            have k6 : gt a 118 = .pointer (some ⟨b, 0, none⟩) := hI.val 6 _ rfl (hal 6 (by decide))
                            have k7 : gt a 119 = .agg RT := hI.val 7 _ rfl (hal 7 (by decide))
                            have k8 : gt a 120 = .agg RT := hI.val 8 _ rfl (hal 8 (by decide))
                            have k9 : gt a 121 = .bool false := hI.val 9 _ rfl (hal 9 (by decide))
                            have k10 : gt a 122 = .bool false := hI.val 10 _ rfl (hal 10 (by decide))
                            have k11 : gt a 123 = .bool false := hI.val 11 _ rfl (hal 11 (by decide))
                            have k12 : gt a 124 = .int .i64 0 := hI.val 12 _ rfl (hal 12 (by decide))
                            have k13 : gt a 125 = .int .i64 0 := hI.val 13 _ rfl (hal 13 (by decide))
                            have k14 : gt a 126 = .int .i64 0 := hI.val 14 _ rfl (hal 14 (by decide))
                            have k15 : gt a 127 = .int .i64 0 := hI.val 15 _ rfl (hal 15 (by decide))
                            have k16 : gt a 128 = .int .i64 0 := hI.val 16 _ rfl (hal 16 (by decide))
                            have k17 : gt a 129 = .bool false := hI.val 17 _ rfl (hal 17 (by decide))
                            have k18 : gt a 130 = .bool false := hI.val 18 _ rfl (hal 18 (by decide))
                            have k19 : gt a 131 = .bool false := hI.val 19 _ rfl (hal 19 (by decide))
                            have k20 : gt a 132 = .slice q1 n1 c1 := hI.val 20 _ rfl (hal 20 (by decide))
                            have k21 : gt a 133 = .int .i64 (n1 : Int) := hI.val 21 _ rfl (hal 21 (by decide))
                            have k22 : gt a 134 = .int .i64 (n1 : Int) := hI.val 22 _ rfl (hal 22 (by decide))
                            have k23 : gt a 135 = .bool false := hI.val 23 _ rfl (hal 23 (by decide))
                            have k24 : gt a 136 = .bool false := hI.val 24 _ rfl (hal 24 (by decide))
                            have k25 : gt a 137 = .bool false := hI.val 25 _ rfl (hal 25 (by decide))
                            have k26 : gt a 138 = .slice q2 n2 c2 := hI.val 26 _ rfl (hal 26 (by decide))
                            have k27 : gt a 139 = .int .i64 (n2 : Int) := hI.val 27 _ rfl (hal 27 (by decide))
                            have k28 : gt a 140 = .int .i64 (n2 : Int) := hI.val 28 _ rfl (hal 28 (by decide))
                            have k29 : gt a 141 = .bool false := hI.val 29 _ rfl (hal 29 (by decide))
                            have k30 : gt a 142 = .bool false := hI.val 30 _ rfl (hal 30 (by decide))
                            have k31 : gt a 143 = .bool false := hI.val 31 _ rfl (hal 31 (by decide))
                            have k32 : gt a 144 = .slice q1 n1 c1 := hI.val 32 _ rfl (hal 32 (by decide))
                            have k33 : gt a 145 = .string ST := hI.val 33 _ rfl (hal 33 (by decide))
                            have k34 : gt a 146 = .slice q2 n2 c2 := hI.val 34 _ rfl (hal 34 (by decide))
                            have k35 : gt a 147 = .int .i64 (n1 : Int) := hI.val 35 _ rfl (hal 35 (by decide))
                            have k36 : gt a 148 = .slice q2 n1 c2 := hI.val 36 _ rfl (hal 36 (by decide))
                            have k37 : gt a 149 = .string ST := hI.val 37 _ rfl (hal 37 (by decide))
                            have k38 : gt a 150 = .bool false := hI.val 38 _ rfl (hal 38 (by decide))
                            rw [hfr, ← HAX.out]
                            have HCR := Go.Lib.hid hI.wld
                            simp only [List.map_cons, List.map_nil, List.foldl_cons, List.foldl_nil, k0, k1, k2, k3, k4, k5, k6, k7, k8, k9, k10, k11, k12, k13, k14, k15, k16, k17, k18, k19, k20, k21, k22, k23, k24, k25, k26, k27, k28, k29, k30, k31, k32, k33, k34, k35, k36, k37, k38, List.setIfInBounds_toArray, List.set_cons_succ, List.set_cons_zero]
                            clear hfr hI hal k0 k1 k2 k3 k4 k5 k6 k7 k8 k9 k10 k11 k12 k13 k14 k15 k16 k17 k18 k19 k20 k21 k22 k23 k24 k25 k26 k27 k28 k29 k30 k31 k32 k33 k34 k35 k36 k37 k38  HSZ HND HLS HAX F0 F1 F3 F4 F19 F21 F22 F23 F24 F25
                            simp only [List.drop_succ_cons, List.drop_zero]
                            have HC8 := Go.Lib.hid (HC7.out.trans HCR.out); have HX8 := Go.Lib.hid (HCR.out.heap HX7.out id)
                            have HA8 := Go.Lib.hid (HC8.out.heap HA1.out id); have HB8 := Go.Lib.hid (HC8.out.heap HB1.out id)
                            clear HCR HX7 HC7 HD7 HTP HMT2 HSL HCX HCY
                            have HC1C := Go.Lib.hid (fun W (hc : Ch (fun _ => False) w1 W) g (hh : W.heap[g]? = some (.cells #[.string sa, .int .u64 (u64n na)] 44)) => child_some p nk ck key g 0 1 1 (fun _ => sa) (fun _ => na) W (by omega) (HKEY.out.ch (HC1.out.trans hc) (fun _ _ h => h)) (by omega) (by omega) (steps_one hh) (fun _ _ => by omega) (HK.out.ch (HC1.out.trans hc) id))
                            have HC2C := Go.Lib.hid (fun W (hc : Ch (fun _ => False) w1 W) g (hh : W.heap[g]? = some (.cells #[.string sa, .int .u64 (u64n na), .string sb, .int .u64 (u64n nb)] 44)) => child_some p nk ck key g 0 2 2 (nm2 sa sb) (nu2 na nb) W (by omega) (HKEY.out.ch (HC1.out.trans hc) (fun _ _ h => h)) (by omega) (by omega) (steps_two hh) (nm2_le sa sb (by omega) (by omega)) (HK.out.ch (HC1.out.trans hc) id))
                            have HCS := Go.Lib.hid (child_step key nk sa sb na nb)
                            generalize hC1 : childB key nk 1 (fun _ => sa) (fun _ => na) = CA at *
                            generalize hC2 : childB key nk 2 (nm2 sa sb) (nu2 na nb) = CB at *
                            have HEQ2 := Go.Lib.hid (fun W => eqH_self CB ▸ eq_hv CB CB W)
                            have HIC := Go.Lib.hid (hv_info CA); have HAC := Go.Lib.hid (hv_all CA)
                            have HZC := Go.Lib.hid (show (hv fun _ => 0).size = (hv CA).size by rw [show (hv fun _ => 0).size = 32 from arr_size _ _]; exact (arr_size _ _).symm)
                            clear hC1 hC2
                            go_wp2_with (refine wpList_load_at rfl 44 (.tmp 13) rfl ⟨w.heap.size, 0, none⟩ rfl (.agg #[.string sa, .int .u64 (u64n na)]) (step_load HA8.out) ?_)
                            refine (HC1C.out _ (HC8.out.alloc _) _ (World.alloc_heap_new w' _)).mono ?_
                            rintro e w9 ⟨rfl, hc9⟩
                            have HC9 := Go.Lib.hid ((HC8.out.alloc _).trans hc9)
                            have HX9 := Go.Lib.hid ((((Ch.refl (fun _ => False) w').alloc _).trans hc9).heap HX8.out id)
                            clear hc9 HC1C HX8 HA8 HB8 HC8
                            generalize hRC : hv CA = RC at *
                            have HRC := Go.Lib.hid hRC
                            clear hRC
                            go_upto_region 15 with (refine wpList_store_row rfl 28 (.tmp 26) (.tmp 155) rfl w9.heap.size RC rfl rfl 28 (hv fun _ => 0) (World.alloc_heap_new w9 _) HIC.out HZC.out HAC.out ?_)
                            generalize hW10 : World.setRow _ w9.heap.size RC = w10
                            have hx10 : w10.heap[w9.heap.size]? = some (.cells RC 28) := by rw [← hW10]; exact heap_setRow (World.alloc_heap_new w9 _)
                            have hc10 : Ch (fun _ => False) w9 w10 := by rw [← hW10]; exact ((Ch.refl _ _).alloc _).setRow (fun h => absurd h (Nat.lt_irrefl _)) _
                            have HY10 := Go.Lib.hid hx10; have HC10 := Go.Lib.hid (HC9.out.trans hc10); have HX10 := Go.Lib.hid (hc10.heap HX9.out id)
                            have HA10 := Go.Lib.hid (HC10.out.heap HA1.out id); have HB10 := Go.Lib.hid (HC10.out.heap HB1.out id)
                            have hcz : ∀ W, Ch (fun _ => False) w10 W → BytesAt W (some ⟨w9.heap.size, 0, none⟩) 32 32 CA := fun W hc => .inl ⟨w9.heap.size, 0, rfl, Nat.le_refl _, fun j hj => by
                              have h := hc.heap HY10.out id
                              rw [← HRC.out] at h
                              rw [Nat.zero_add]; exact (cell_of_heap h _).trans (arr_get 32 _ j hj)⟩
                            have HC3C := Go.Lib.hid (fun W (hc : Ch (fun _ => False) w10 W) g (hh : W.heap[g]? = some (.cells #[.string sb, .int .u64 (u64n nb)] 44)) => child_some (some ⟨w9.heap.size, 0, none⟩) 32 32 CA g 0 1 1 (fun _ => sb) (fun _ => nb) W (by omega) (hcz W hc) (by omega) (by omega) (steps_one hh) (fun _ _ => by omega) (HK.out.ch (HC1.out.trans (HC10.out.trans hc)) id))
                            rw [HCS.out] at HC3C
                            generalize hRB : hv CB = RB at *
                            clear hW10 hx10 hc10 HC9 HX9 hcz hRB
                            generalize w9.heap.size = Z at *
                            rw [put_none]
                            generalize hax : Act.mk _ _ = ax
                            have HSZ := Go.Lib.hid (show ax.tmps.size = 191 by rw [← hax]; rfl)
                            have F0 := Go.Lib.hid (show gt ax 0 = .slice p nk ck by rw [← hax]; rfl)
                            have F13 := Go.Lib.hid (show gt ax 13 = .pointer (some ⟨w.heap.size, 0, none⟩) by rw [← hax]; rfl)
                            have F14 := Go.Lib.hid (show gt ax 14 = .pointer (some ⟨w.heap.size + 1, 0, none⟩) by rw [← hax]; rfl)
                            have F26 := Go.Lib.hid (show gt ax 26 = .pointer (some ⟨Z, 0, none⟩) by rw [← hax]; rfl)
                            have HAX := Go.Lib.hid hax
                            clear hax
                            have HND := Go.Lib.hid (show ([156, 157, 158, 159, 160, 161, 162, 163, 164] : List Nat).Nodup by decide)
                            have HLS : Hid (Lasts [(156, fun x _ => x = .slice p nk ck), (157, fun x _ => x = .agg #[.string sa, .int .u64 (u64n na)]), (158, fun x _ => x = .agg #[.string sb, .int .u64 (u64n nb)]), (159, fun x v => ∃ g, x = .slice (some ⟨g, 0, none⟩) 2 2 ∧ v.heap[g]? = some (.cells #[.string sa, .int .u64 (u64n na), .string sb, .int .u64 (u64n nb)] 44)), (160, fun x _ => x = .agg RB), (161, fun x _ => x = .slice (some ⟨Z, 0, none⟩) 32 32), (162, fun x _ => x = .agg #[.string sb, .int .u64 (u64n nb)]), (163, fun x v => ∃ g, x = .slice (some ⟨g, 0, none⟩) 1 1 ∧ v.heap[g]? = some (.cells #[.string sb, .int .u64 (u64n nb)] 44)), (164, fun x _ => x = .agg RB)]) := Go.Lib.hid (by
                              intro p hp v w1 w2 hc h
                              simp only [List.mem_cons, List.not_mem_nil, or_false] at hp
                              rcases hp with rfl | rfl | rfl | rfl | rfl | rfl | rfl | rfl | rfl
                              all_goals first | exact h | (obtain ⟨g, h1, h2⟩ := h; exact ⟨g, h1, hc.heap h2 id⟩) | (obtain ⟨g, c, h1, h2⟩ := h; exact ⟨g, c, h1, h2.ch hc (fun _ _ h => h)⟩))
                            refine wp_region_open_tail 9 (InvQ 191 [(156, fun x _ => x = .slice p nk ck), (157, fun x _ => x = .agg #[.string sa, .int .u64 (u64n na)]), (158, fun x _ => x = .agg #[.string sb, .int .u64 (u64n nb)]), (159, fun x v => ∃ g, x = .slice (some ⟨g, 0, none⟩) 2 2 ∧ v.heap[g]? = some (.cells #[.string sa, .int .u64 (u64n na), .string sb, .int .u64 (u64n nb)] 44)), (160, fun x _ => x = .agg RB), (161, fun x _ => x = .slice (some ⟨Z, 0, none⟩) 32 32), (162, fun x _ => x = .agg #[.string sb, .int .u64 (u64n nb)]), (163, fun x v => ∃ g, x = .slice (some ⟨g, 0, none⟩) 1 1 ∧ v.heap[g]? = some (.cells #[.string sb, .int .u64 (u64n nb)] 44)), (164, fun x _ => x = .agg RB)] (fun _ w' => Ch (fun _ => False) w10 w') ax) (by kernel_rfl) (by kernel_rfl) (InvQ.start (by simp) HSZ.out (Ch.refl _ _).drew) ?_ ?_
                            · intro L a w' i hI hr hlt
                              obtain ⟨h1, o, ho, hall⟩ := mem_ready.1 hr
                              have hsplit : i = 0 ∨ i = 1 ∨ i = 2 ∨ i = 3 ∨ i = 4 ∨ i = 5 ∨ i = 6 ∨ i = 7 ∨ i = 8 := by omega
                              clear hlt h1 hr
                              rcases hsplit with rfl | rfl | rfl | rfl | rfl | rfl | rfl | rfl | rfl
                              · have q0 := (hI.fixed 0 (by simp)).trans F0.out
                                unfold gt at q0
                                clear hall
                                refine wpOp_step (o := _) rfl (fun K' hK' => ?_)
                                go_simp
                                exact hK' _ _ (hI.put 0 rfl (by decide) HND.out HLS.out  (Ch.refl _ _) rfl hI.wld)
                              · have q13 := (hI.fixed 13 (by simp)).trans F13.out
                                unfold gt at q13
                                clear hall
                                refine wpOp_step (o := _) rfl (fun K' hK' => ?_)
                                exact wp_load_at 44 (.tmp 13) rfl ⟨w.heap.size, 0, none⟩ (by simpa [Act.eval] using q13) _ (step_load (hI.wld.heap HA10.out id)) (hK' _ _ (hI.put 1 rfl (by decide) HND.out HLS.out  (Ch.refl _ _) rfl hI.wld))
                              · have q14 := (hI.fixed 14 (by simp)).trans F14.out
                                unfold gt at q14
                                clear hall
                                refine wpOp_step (o := _) rfl (fun K' hK' => ?_)
                                exact wp_load_at 44 (.tmp 14) rfl ⟨w.heap.size + 1, 0, none⟩ (by simpa [Act.eval] using q14) _ (step_load (hI.wld.heap HB10.out id)) (hK' _ _ (hI.put 2 rfl (by decide) HND.out HLS.out  (Ch.refl _ _) rfl hI.wld))
                              · simp at ho
                                have e1 : lg L 1 = true := by unfold lg; simpa using hall ⟨1, .data⟩ (by rw [← ho]; simp) rfl
                                have f1 : gt a 157 = .agg #[.string sa, .int .u64 (u64n na)] := hI.val 1 _ rfl e1
                                have e2 : lg L 2 = true := by unfold lg; simpa using hall ⟨2, .data⟩ (by rw [← ho]; simp) rfl
                                have f2 : gt a 158 = .agg #[.string sb, .int .u64 (u64n nb)] := hI.val 2 _ rfl e2
                                unfold gt at f1 f2
                                clear hall
                                clear ho
                                refine wpOp_step (o := _) rfl (fun K' hK' => ?_)
                                go_simp
                                exact hK' _ _ (hI.put 3 rfl (by decide) HND.out HLS.out  ((Ch.refl _ _).alloc _) ⟨_, rfl, World.alloc_heap_new w' _⟩ (hI.wld.alloc _))
                              · simp at ho
                                have e0 : lg L 0 = true := by unfold lg; simpa using hall ⟨0, .data⟩ (by rw [← ho]; simp) rfl
                                have f0 : gt a 156 = .slice p nk ck := hI.val 0 _ rfl e0
                                have e3 : lg L 3 = true := by unfold lg; simpa using hall ⟨3, .data⟩ (by rw [← ho]; simp) rfl
                                obtain ⟨g3, f3, hh3⟩ : ∃ g, gt a 159 = .slice (some ⟨g, 0, none⟩) 2 2 ∧ w'.heap[g]? = some (.cells #[.string sa, .int .u64 (u64n na), .string sb, .int .u64 (u64n nb)] 44) := hI.val 3 _ rfl e3
                                unfold gt at f0 f3
                                clear hall
                                clear ho
                                have HCT := Go.Lib.hid (HC2C.out w' (HC10.out.trans hI.wld) g3 hh3)
                                refine wpOp_step (o := _) rfl (fun K' hK' => ?_)
                                go_simp
                                refine HCT.out.mono ?_
                                rintro e w3 ⟨rfl, hc⟩
                                exact hK' _ _ (hI.put 4 rfl (by decide) HND.out HLS.out  hc rfl (hI.wld.trans hc))
                              · have q26 := (hI.fixed 26 (by simp)).trans F26.out
                                unfold gt at q26
                                clear hall
                                refine wpOp_step (o := _) rfl (fun K' hK' => ?_)
                                go_simp
                                exact hK' _ _ (hI.put 5 rfl (by decide) HND.out HLS.out  (Ch.refl _ _) rfl hI.wld)
                              · have q14 := (hI.fixed 14 (by simp)).trans F14.out
                                unfold gt at q14
                                clear hall
                                refine wpOp_step (o := _) rfl (fun K' hK' => ?_)
                                exact wp_load_at 44 (.tmp 14) rfl ⟨w.heap.size + 1, 0, none⟩ (by simpa [Act.eval] using q14) _ (step_load (hI.wld.heap HB10.out id)) (hK' _ _ (hI.put 6 rfl (by decide) HND.out HLS.out  (Ch.refl _ _) rfl hI.wld))
                              · simp at ho
                                have e6 : lg L 6 = true := by unfold lg; simpa using hall ⟨6, .data⟩ (by rw [← ho]; simp) rfl
                                have f6 : gt a 162 = .agg #[.string sb, .int .u64 (u64n nb)] := hI.val 6 _ rfl e6
                                unfold gt at f6
                                clear hall
                                clear ho
                                refine wpOp_step (o := _) rfl (fun K' hK' => ?_)
                                go_simp
                                exact hK' _ _ (hI.put 7 rfl (by decide) HND.out HLS.out  ((Ch.refl _ _).alloc _) ⟨_, rfl, World.alloc_heap_new w' _⟩ (hI.wld.alloc _))
                              · simp at ho
                                have e5 : lg L 5 = true := by unfold lg; simpa using hall ⟨5, .data⟩ (by rw [← ho]; simp) rfl
                                have f5 : gt a 161 = .slice (some ⟨Z, 0, none⟩) 32 32 := hI.val 5 _ rfl e5
                                have e7 : lg L 7 = true := by unfold lg; simpa using hall ⟨7, .data⟩ (by rw [← ho]; simp) rfl
                                obtain ⟨g7, f7, hh7⟩ : ∃ g, gt a 163 = .slice (some ⟨g, 0, none⟩) 1 1 ∧ w'.heap[g]? = some (.cells #[.string sb, .int .u64 (u64n nb)] 44) := hI.val 7 _ rfl e7
                                unfold gt at f5 f7
                                clear hall
                                clear ho
                                have HCT := Go.Lib.hid (HC3C.out w' hI.wld g7 hh7)
                                refine wpOp_step (o := _) rfl (fun K' hK' => ?_)
                                go_simp
                                refine HCT.out.mono ?_
                                rintro e w3 ⟨rfl, hc⟩
                                exact hK' _ _ (hI.put 8 rfl (by decide) HND.out HLS.out  hc rfl (hI.wld.trans hc))
                            · intro L a w' hI hal
                              have hfr := hI.frame HSZ.out (by simp) (fun i hi => hal i hi)
                              have k0 : gt a 156 = .slice p nk ck := hI.val 0 _ rfl (hal 0 (by decide))
                              have k1 : gt a 157 = .agg #[.string sa, .int .u64 (u64n na)] := hI.val 1 _ rfl (hal 1 (by decide))
                              have k2 : gt a 158 = .agg #[.string sb, .int .u64 (u64n nb)] := hI.val 2 _ rfl (hal 2 (by decide))
                              obtain ⟨g3, k3, hh3⟩ : ∃ g, gt a 159 = .slice (some ⟨g, 0, none⟩) 2 2 ∧ w'.heap[g]? = some (.cells #[.string sa, .int .u64 (u64n na), .string sb, .int .u64 (u64n nb)] 44) := hI.val 3 _ rfl (hal 3 (by decide))
                              have H3 := Go.Lib.hid hh3
                              have k4 : gt a 160 = .agg RB := hI.val 4 _ rfl (hal 4 (by decide))
                              have k5 : gt a 161 = .slice (some ⟨Z, 0, none⟩) 32 32 := hI.val 5 _ rfl (hal 5 (by decide))
                              have k6 : gt a 162 = .agg #[.string sb, .int .u64 (u64n nb)] := hI.val 6 _ rfl (hal 6 (by decide))
                              obtain ⟨g7, k7, hh7⟩ : ∃ g, gt a 163 = .slice (some ⟨g, 0, none⟩) 1 1 ∧ w'.heap[g]? = some (.cells #[.string sb, .int .u64 (u64n nb)] 44) := hI.val 7 _ rfl (hal 7 (by decide))
                              have H7 := Go.Lib.hid hh7
                              have k8 : gt a 164 = .agg RB := hI.val 8 _ rfl (hal 8 (by decide))
                              rw [hfr, ← HAX.out]
                              have HCR := Go.Lib.hid hI.wld
                              simp only [List.map_cons, List.map_nil, List.foldl_cons, List.foldl_nil, k0, k1, k2, k3, k4, k5, k6, k7, k8, List.setIfInBounds_toArray, List.set_cons_succ, List.set_cons_zero]
                              clear hfr hI hal k0 k1 k2 k3 k4 k5 k6 k7 k8 hh3 hh7 HSZ HND HLS HAX F0 F13 F14 F26
                              simp only [List.drop_succ_cons, List.drop_zero]
                              have HC11 := Go.Lib.hid (HC10.out.trans HCR.out); have HX11 := Go.Lib.hid (HCR.out.heap HX10.out id)
                              clear HCR HX10 HC10 HY10 HA10 HB10 HC2C HC3C H3 H7
                              go_upto_region 17 with (refine wpList_neq rfl (.tmp 160) (.tmp 164) 28 28 rfl RB RB rfl rfl eqg28 (HEQ2.out _) ?_)
                              generalize hwx : w' = wx at *
                              clear hwx
                              go_upto_region 18 with (at_builtin; (first
                                | (refine wpList_append_bytes rfl (.tmp 166) (.tmp 167) rfl wx.heap.size _ _ _ rfl (ownsRow_empty wx _ (Nat.le_refl _)) p nk ck key rfl (HKEY.out.ch ((HC1.out.trans HC11.out).alloc _) (fun _ _ h => h)) (by omega) (by simp) ?_
                                   intro v12 w12 hown12 hgrow12
                                   rw [Nat.zero_add, List.nil_append] at hown12
                                   have hc12 : Ch (fun _ => False) wx w12 := Ch.grown ((Ch.refl _ wx).alloc _) hgrow12 (fun k hk hlt => by
                                     have h : some wx.heap.size = some k := hk
                                     cases h; omega)
                                   have HO12 := Go.Lib.hid hown12; have HC12 := Go.Lib.hid hc12; clear hown12 hgrow12 hc12)
                                | (refine wpList_append_zeros rfl (.tmp 168) (.tmp 169) rfl wx.heap.size v12 nk _ rfl HO12.out kz rfl (by omega) HC12.out.size ?_
                                   intro v13 w13 hown13 hgrow13
                                   rw [fL_padZ] at hown13
                                   have hc13 : Ch (fun _ => False) wx w13 := Ch.grown HC12.out hgrow13 (fun k hk hlt => by have := (World.ownsRow.lt HO12.out) k hk; omega)
                                   have HO13 := Go.Lib.hid hown13; have HC13 := Go.Lib.hid (HC11.out.trans hc13); have HX13 := Go.Lib.hid (hc13.heap HX11.out id); clear hown13 hgrow13 hc13 HO12 HC12)))
                              obtain ⟨q3, c3, rfl, hb13⟩ := own_nil HO13.out
                              have HB13 := Go.Lib.hid hb13
                              clear hb13 HO13 HC11 HX11
                              have HTO := Go.Lib.hid (fun q3 ln c3 K3 (hln : ln ≤ 64) (hk : kb K3 ln = kb key nk) W (hc : Ch (fun _ => False) w1 W) (hb : BytesAt W q3 ln c3 K3) g (hh : W.heap[g]? = some (.cells #[.slice qa (upto PL N) ca] 22)) => tag_any q3 ln c3 K3 g 0 1 1 (some ⟨g, 0, none⟩) (fun _ => qa) (fun _ => upto PL N) (fun _ => ca) f W (by omega) hb (.inl rfl) (by omega) (by rw [show upto (fun _ => upto PL N) 1 = upto PL N from Nat.zero_add _]; omega)
                                (parts_of (fun i hi => by
                                  obtain rfl : i = 0 := by omega
                                  exact cell_of_heap hh 0) (fun i hi => by
                                  obtain rfl : i = 0 := by omega
                                  have := HBA.out.ch hc (fun _ _ h => h)
                                  simpa [upto] using this)) (HK.out.ch (HC1.out.trans hc) id))
                              by_cases h64 : 64 < nk
                              · have h64' : (64 : Int) < (nk : Int) := by omega
                                have HRS := Go.Lib.hid (fun W (hc : Ch (fun _ => False) w1 W) => rsum_any p nk ck key W (by omega) (HKEY.out.ch (HC1.out.trans hc) (fun _ _ h => h)))
                                have HT3 := Go.Lib.hid (fun q3 W hc hb g hh => HTO.out q3 32 32 (hashB key nk) (by omega) (kb_hash key nk h64) W hc hb g hh)
                                rw [kb_hash key nk h64, show upto (fun _ => upto PL N) 1 = upto PL N from Nat.zero_add _, HTB.out, HRTE.out] at HT3
                                have HIK := Go.Lib.hid (hv_info (hashB key nk)); have HAK := Go.Lib.hid (hv_all (hashB key nk))
                                have HZK := Go.Lib.hid (show (hv fun _ => 0).size = (hv (hashB key nk)).size by rw [show (hv fun _ => 0).size = 32 from arr_size _ _]; exact (arr_size _ _).symm)
                                have HRK := Go.Lib.hid (show ∃ RK, RK = hv (hashB key nk) from ⟨_, rfl⟩)
                                obtain ⟨RK, hRK⟩ := HRK.out
                                rw [← hRK] at HRS HIK HAK HZK
                                clear HRK HTO
                                have HRK := Go.Lib.hid hRK
                                clear hRK
                                go_wp2_with fail
                                refine (HRS.out _ HC13.out).mono ?_
                                rintro e w14 ⟨rfl, hc14⟩
                                have HC14 := Go.Lib.hid (HC13.out.trans hc14); have HX14 := Go.Lib.hid (hc14.heap HX13.out id)
                                clear hc14 HRS HC13 HX13 HB13
                                go_upto_region 20 with (refine wpList_store_row rfl 28 (.tmp 28) (.tmp 175) rfl w14.heap.size RK rfl rfl 28 (hv fun _ => 0) (World.alloc_heap_new w14 _) HIK.out HZK.out HAK.out ?_)
                                generalize hW15 : World.setRow _ w14.heap.size RK = w15
                                have hx15 : w15.heap[w14.heap.size]? = some (.cells RK 28) := by rw [← hW15]; exact heap_setRow (World.alloc_heap_new w14 _)
                                have hc15 : Ch (fun _ => False) w14 w15 := by rw [← hW15]; exact ((Ch.refl _ _).alloc _).setRow (fun h => absurd h (Nat.lt_irrefl _)) _
                                have HC15 := Go.Lib.hid (HC14.out.trans hc15); have HX15 := Go.Lib.hid (hc15.heap HX14.out id)
                                have HB15 := Go.Lib.hid (fun W (hc : Ch (fun _ => False) w15 W) => (show BytesAt W (some ⟨w14.heap.size, 0, none⟩) 32 32 (hashB key nk) from .inl ⟨w14.heap.size, 0, rfl, Nat.le_refl _, fun j hj => by
                                  have h := hc.heap hx15 id
                                  rw [HRK.out] at h
                                  rw [Nat.zero_add]; exact (cell_of_heap h _).trans (arr_get 32 _ j hj)⟩))
                                have HT3 := Go.Lib.hid (fun W hc hb g hh => HT3.out (some ⟨w14.heap.size, 0, none⟩) W hc hb g hh)
                                clear hW15 hx15 hc15 HC14 HX14
                                generalize w14.heap.size = Y at *
                                rw [put_none]
                                go_upto_region 21 with (fail)
                                generalize hax : Act.mk _ _ = ax
                                have HSZ := Go.Lib.hid (show ax.tmps.size = 191 by rw [← hax]; rfl)
                                have F17 := Go.Lib.hid (show gt ax 17 = .slice qa (upto PL N) ca by rw [← hax]; rfl)
                                have F21 := Go.Lib.hid (show gt ax 21 = .pointer (some ⟨B, 0, none⟩) by rw [← hax]; rfl)
                                have F27 := Go.Lib.hid (show gt ax 27 = .slice (some ⟨Y, 0, none⟩) 32 32 by rw [← hax]; rfl)
                                have HAX := Go.Lib.hid hax
                                clear hax
                                have HND := Go.Lib.hid (show ([177, 178, 179, 180, 181, 182, 183, 184, 185, 186, 187, 188, 189, 190] : List Nat).Nodup by decide)
                                have HLS : Hid (Lasts [(177, fun x _ => x = .slice (some ⟨Y, 0, none⟩) 32 32), (178, fun x _ => x = .int .i64 32), (179, fun x _ => x = .bool false), (180, fun x _ => x = .bool false), (181, fun x _ => x = .slice (some ⟨Y, 0, none⟩) 32 32), (182, fun x _ => x = .slice qa (upto PL N) ca), (183, fun x v => ∃ g, x = .slice (some ⟨g, 0, none⟩) 1 1 ∧ v.heap[g]? = some (.cells #[.slice qa (upto PL N) ca] 22)), (184, fun x _ => x = .agg RT), (185, fun x _ => x = .agg RT), (186, fun x _ => x = .bool true), (187, fun x _ => x = .bool true), (188, fun x _ => x = .bool true), (189, fun x _ => x = .bool true), (190, fun x _ => x = .bool true)]) := Go.Lib.hid (by
                                  intro p hp v w1 w2 hc h
                                  simp only [List.mem_cons, List.not_mem_nil, or_false] at hp
                                  rcases hp with rfl | rfl | rfl | rfl | rfl | rfl | rfl | rfl | rfl | rfl | rfl | rfl | rfl | rfl
                                  all_goals first | exact h | (obtain ⟨g, h1, h2⟩ := h; exact ⟨g, h1, hc.heap h2 id⟩) | (obtain ⟨g, c, h1, h2⟩ := h; exact ⟨g, c, h1, h2.ch hc (fun _ _ h => h)⟩))
                                refine wp_region_open_tail 14 (InvQ 191 [(177, fun x _ => x = .slice (some ⟨Y, 0, none⟩) 32 32), (178, fun x _ => x = .int .i64 32), (179, fun x _ => x = .bool false), (180, fun x _ => x = .bool false), (181, fun x _ => x = .slice (some ⟨Y, 0, none⟩) 32 32), (182, fun x _ => x = .slice qa (upto PL N) ca), (183, fun x v => ∃ g, x = .slice (some ⟨g, 0, none⟩) 1 1 ∧ v.heap[g]? = some (.cells #[.slice qa (upto PL N) ca] 22)), (184, fun x _ => x = .agg RT), (185, fun x _ => x = .agg RT), (186, fun x _ => x = .bool true), (187, fun x _ => x = .bool true), (188, fun x _ => x = .bool true), (189, fun x _ => x = .bool true), (190, fun x _ => x = .bool true)] (fun _ w' => Ch (fun _ => False) w15 w') ax) (by kernel_rfl) (by kernel_rfl) (InvQ.start (by simp) HSZ.out (Ch.refl _ _).drew) ?_ ?_
                                · intro L a w' i hI hr hlt
                                  obtain ⟨h1, o, ho, hall⟩ := mem_ready.1 hr
                                  have hsplit : i = 0 ∨ i = 1 ∨ i = 2 ∨ i = 3 ∨ i = 4 ∨ i = 5 ∨ i = 6 ∨ i = 7 ∨ i = 8 ∨ i = 9 ∨ i = 10 ∨ i = 11 ∨ i = 12 ∨ i = 13 := by omega
                                  clear hlt h1 hr
                                  rcases hsplit with rfl | rfl | rfl | rfl | rfl | rfl | rfl | rfl | rfl | rfl | rfl | rfl | rfl | rfl
                                  · have q27 := (hI.fixed 27 (by simp)).trans F27.out
                                    unfold gt at q27
                                    clear hall
                                    refine wpOp_step (o := _) rfl (fun K' hK' => ?_)
                                    go_simp
                                    exact hK' _ _ (hI.put 0 rfl (by decide) HND.out HLS.out  (Ch.refl _ _) rfl hI.wld)
                                  · simp at ho
                                    have e0 : lg L 0 = true := by unfold lg; simpa using hall ⟨0, .data⟩ (by rw [← ho]; simp) rfl
                                    have f0 : gt a 177 = .slice (some ⟨Y, 0, none⟩) 32 32 := hI.val 0 _ rfl e0
                                    unfold gt at f0
                                    clear hall
                                    clear ho
                                    refine wpOp_step (o := _) rfl (fun K' hK' => ?_)
                                    go_simp
                                    exact hK' _ _ (hI.put 1 rfl (by decide) HND.out HLS.out  (Ch.refl _ _) rfl hI.wld)
                                  · simp at ho
                                    have e1 : lg L 1 = true := by unfold lg; simpa using hall ⟨1, .data⟩ (by rw [← ho]; simp) rfl
                                    have f1 : gt a 178 = .int .i64 32 := hI.val 1 _ rfl e1
                                    unfold gt at f1
                                    clear hall
                                    clear ho
                                    refine wpOp_step (o := _) rfl (fun K' hK' => ?_)
                                    go_simp
                                    exact hK' _ _ (hI.put 2 rfl (by decide) HND.out HLS.out  (Ch.refl _ _) rfl hI.wld)
                                  · simp at ho
                                    have e2 : lg L 2 = true := by unfold lg; simpa using hall ⟨2, .data⟩ (by rw [← ho]; simp) rfl
                                    have f2 : gt a 179 = .bool false := hI.val 2 _ rfl e2
                                    unfold gt at f2
                                    clear hall
                                    clear ho
                                    refine wpOp_step (o := _) rfl (fun K' hK' => ?_)
                                    go_simp
                                    exact hK' _ _ (hI.put 3 rfl (by decide) HND.out HLS.out  (Ch.refl _ _) rfl hI.wld)
                                  · simp at ho
                                    have q27 := (hI.fixed 27 (by simp)).trans F27.out
                                    have eg : lg L 3 = true := by unfold lg; simpa using hall ⟨3, .guard⟩ (by rw [← ho]; simp) rfl
                                    have fg0 : gt a 180 = .bool false := hI.val 3 _ rfl eg
                                    have fg := guard_of fg0 (by rw [hI.size]; decide)
                                    clear eg fg0
                                    unfold gt at q27
                                    clear hall
                                    clear ho
                                    refine wpOp_step (o := _) rfl (fun K' hK' => ?_)
                                    go_simp
                                    exact hK' _ _ (hI.put 4 rfl (by decide) HND.out HLS.out  (Ch.refl _ _) rfl hI.wld)
                                  · simp at ho
                                    have q17 := (hI.fixed 17 (by simp)).trans F17.out
                                    have eg : lg L 3 = true := by unfold lg; simpa using hall ⟨3, .guard⟩ (by rw [← ho]; simp) rfl
                                    have fg0 : gt a 180 = .bool false := hI.val 3 _ rfl eg
                                    have fg := guard_of fg0 (by rw [hI.size]; decide)
                                    clear eg fg0
                                    unfold gt at q17
                                    clear hall
                                    clear ho
                                    refine wpOp_step (o := _) rfl (fun K' hK' => ?_)
                                    go_simp
                                    exact hK' _ _ (hI.put 5 rfl (by decide) HND.out HLS.out  (Ch.refl _ _) rfl hI.wld)
                                  · simp at ho
                                    have e5 : lg L 5 = true := by unfold lg; simpa using hall ⟨5, .data⟩ (by rw [← ho]; simp) rfl
                                    have f5 : gt a 182 = .slice qa (upto PL N) ca := hI.val 5 _ rfl e5
                                    have eg : lg L 3 = true := by unfold lg; simpa using hall ⟨3, .guard⟩ (by rw [← ho]; simp) rfl
                                    have fg0 : gt a 180 = .bool false := hI.val 3 _ rfl eg
                                    have fg := guard_of fg0 (by rw [hI.size]; decide)
                                    clear eg fg0
                                    unfold gt at f5
                                    clear hall
                                    clear ho
                                    refine wpOp_step (o := _) rfl (fun K' hK' => ?_)
                                    go_simp
                                    exact hK' _ _ (hI.put 6 rfl (by decide) HND.out HLS.out  ((Ch.refl _ _).alloc _) ⟨_, rfl, World.alloc_heap_new w' _⟩ (hI.wld.alloc _))
                                  · simp at ho
                                    have e4 : lg L 4 = true := by unfold lg; simpa using hall ⟨4, .data⟩ (by rw [← ho]; simp) rfl
                                    have f4 : gt a 181 = .slice (some ⟨Y, 0, none⟩) 32 32 := hI.val 4 _ rfl e4
                                    have e6 : lg L 6 = true := by unfold lg; simpa using hall ⟨6, .data⟩ (by rw [← ho]; simp) rfl
                                    obtain ⟨g6, f6, hh6⟩ : ∃ g, gt a 183 = .slice (some ⟨g, 0, none⟩) 1 1 ∧ w'.heap[g]? = some (.cells #[.slice qa (upto PL N) ca] 22) := hI.val 6 _ rfl e6
                                    have eg : lg L 3 = true := by unfold lg; simpa using hall ⟨3, .guard⟩ (by rw [← ho]; simp) rfl
                                    have fg0 : gt a 180 = .bool false := hI.val 3 _ rfl eg
                                    have fg := guard_of fg0 (by rw [hI.size]; decide)
                                    clear eg fg0
                                    unfold gt at f4 f6
                                    clear hall
                                    clear ho
                                    have HCT := Go.Lib.hid (HT3.out w' (HC15.out.trans hI.wld) (HB15.out w' hI.wld) g6 hh6)
                                    refine wpOp_step (o := _) rfl (fun K' hK' => ?_)
                                    go_simp
                                    refine HCT.out.mono ?_
                                    rintro e w3 ⟨rfl, hc⟩
                                    exact hK' _ _ (hI.put 7 rfl (by decide) HND.out HLS.out  hc rfl (hI.wld.trans hc))
                                  · simp at ho
                                    have q21 := (hI.fixed 21 (by simp)).trans F21.out
                                    have eg : lg L 3 = true := by unfold lg; simpa using hall ⟨3, .guard⟩ (by rw [← ho]; simp) rfl
                                    have fg0 : gt a 180 = .bool false := hI.val 3 _ rfl eg
                                    have fg := guard_of fg0 (by rw [hI.size]; decide)
                                    clear eg fg0
                                    unfold gt at q21
                                    clear hall
                                    clear ho
                                    refine wpOp_step (o := _) rfl (fun K' hK' => ?_)
                                    rw [if_pos (by simp [Region.wanted, yielded, fg])]
                                    exact wp_load_row 28 (.tmp 21) rfl B (by simpa [Act.eval] using q21) 28 RT (0, 0) _ (hI.wld.heap HX15.out id) Tryd.underlying28 rfl HI.out (hK' _ _ (hI.put 8 rfl (by decide) HND.out HLS.out  (Ch.refl _ _) rfl hI.wld))
                                  · simp at ho
                                    have e7 : lg L 7 = true := by unfold lg; simpa using hall ⟨7, .data⟩ (by rw [← ho]; simp) rfl
                                    have f7 : gt a 184 = .agg RT := hI.val 7 _ rfl e7
                                    have e8 : lg L 8 = true := by unfold lg; simpa using hall ⟨8, .data⟩ (by rw [← ho]; simp) rfl
                                    have f8 : gt a 185 = .agg RT := hI.val 8 _ rfl e8
                                    have eg : lg L 3 = true := by unfold lg; simpa using hall ⟨3, .guard⟩ (by rw [← ho]; simp) rfl
                                    have fg0 : gt a 180 = .bool false := hI.val 3 _ rfl eg
                                    have fg := guard_of fg0 (by rw [hI.size]; decide)
                                    clear eg fg0
                                    unfold gt at f7 f8
                                    clear hall
                                    clear ho
                                    refine wpOp_step (o := _) rfl (fun K' hK' => ?_)
                                    rw [if_pos (by simp [Region.wanted, yielded, fg])]
                                    exact wp_eql (.tmp 184) (.tmp 185) 28 28 rfl RT RT (by simpa [Act.eval] using f7) (by simpa [Act.eval] using f8) eqg28 (HEQ.out _) (hK' _ _ (hI.put 9 rfl (by decide) HND.out HLS.out  (Ch.refl _ _) rfl hI.wld))
                                  · simp at ho
                                    have e3 : lg L 3 = true := by unfold lg; simpa using hall ⟨3, .data⟩ (by rw [← ho]; simp) rfl
                                    have f3 : gt a 180 = .bool false := hI.val 3 _ rfl e3
                                    have e9 : lg L 9 = true := by unfold lg; simpa using hall ⟨9, .data⟩ (by rw [← ho]; simp) rfl
                                    have f9 : gt a 186 = .bool true := hI.val 9 _ rfl e9
                                    unfold gt at f3 f9
                                    clear hall
                                    clear ho
                                    refine wpOp_step (o := _) rfl (fun K' hK' => ?_)
                                    go_simp
                                    exact hK' _ _ (hI.put 10 rfl (by decide) HND.out HLS.out  (Ch.refl _ _) rfl hI.wld)
                                  · simp at ho
                                    have e10 : lg L 10 = true := by unfold lg; simpa using hall ⟨10, .data⟩ (by rw [← ho]; simp) rfl
                                    have f10 : gt a 187 = .bool true := hI.val 10 _ rfl e10
                                    unfold gt at f10
                                    clear hall
                                    clear ho
                                    refine wpOp_step (o := _) rfl (fun K' hK' => ?_)
                                    go_simp
                                    exact hK' _ _ (hI.put 11 rfl (by decide) HND.out HLS.out  (Ch.refl _ _) rfl hI.wld)
                                  · simp at ho
                                    have eg : lg L 11 = true := by unfold lg; simpa using hall ⟨11, .guard⟩ (by rw [← ho]; simp) rfl
                                    have fg0 : gt a 188 = .bool true := hI.val 11 _ rfl eg
                                    have fg := guard_of fg0 (by rw [hI.size]; decide)
                                    clear eg fg0
                                    clear hall
                                    clear ho
                                    have HCT := Go.Lib.hid (HW.out w' (HC1.out.trans (HC15.out.trans hI.wld)))
                                    refine wpOp_step (o := _) rfl (fun K' hK' => ?_)
                                    go_simp
                                    refine HCT.out.mono ?_
                                    rintro e w3 ⟨rfl, hc⟩
                                    exact hK' _ _ (hI.put 12 rfl (by decide) HND.out HLS.out  hc rfl (hI.wld.trans hc))
                                  · simp at ho
                                    have e11 : lg L 11 = true := by unfold lg; simpa using hall ⟨11, .data⟩ (by rw [← ho]; simp) rfl
                                    have f11 : gt a 188 = .bool true := hI.val 11 _ rfl e11
                                    have e12 : lg L 12 = true := by unfold lg; simpa using hall ⟨12, .data⟩ (by rw [← ho]; simp) rfl
                                    have f12 : gt a 189 = .bool true := hI.val 12 _ rfl e12
                                    unfold gt at f11 f12
                                    clear hall
                                    clear ho
                                    refine wpOp_step (o := _) rfl (fun K' hK' => ?_)
                                    go_simp
                                    exact hK' _ _ (hI.put 13 rfl (by decide) HND.out HLS.out  (Ch.refl _ _) rfl hI.wld)
                                · intro L a w' hI hal
                                  have hfr := hI.frame HSZ.out (by simp) (fun i hi => hal i hi)
                                  have k0 : gt a 177 = .slice (some ⟨Y, 0, none⟩) 32 32 := hI.val 0 _ rfl (hal 0 (by decide))
                                  have k1 : gt a 178 = .int .i64 32 := hI.val 1 _ rfl (hal 1 (by decide))
                                  have k2 : gt a 179 = .bool false := hI.val 2 _ rfl (hal 2 (by decide))
                                  have k3 : gt a 180 = .bool false := hI.val 3 _ rfl (hal 3 (by decide))
                                  have k4 : gt a 181 = .slice (some ⟨Y, 0, none⟩) 32 32 := hI.val 4 _ rfl (hal 4 (by decide))
                                  have k5 : gt a 182 = .slice qa (upto PL N) ca := hI.val 5 _ rfl (hal 5 (by decide))
                                  obtain ⟨g6, k6, hh6⟩ : ∃ g, gt a 183 = .slice (some ⟨g, 0, none⟩) 1 1 ∧ w'.heap[g]? = some (.cells #[.slice qa (upto PL N) ca] 22) := hI.val 6 _ rfl (hal 6 (by decide))
                                  have H6 := Go.Lib.hid hh6
                                  have k7 : gt a 184 = .agg RT := hI.val 7 _ rfl (hal 7 (by decide))
                                  have k8 : gt a 185 = .agg RT := hI.val 8 _ rfl (hal 8 (by decide))
                                  have k9 : gt a 186 = .bool true := hI.val 9 _ rfl (hal 9 (by decide))
                                  have k10 : gt a 187 = .bool true := hI.val 10 _ rfl (hal 10 (by decide))
                                  have k11 : gt a 188 = .bool true := hI.val 11 _ rfl (hal 11 (by decide))
                                  have k12 : gt a 189 = .bool true := hI.val 12 _ rfl (hal 12 (by decide))
                                  have k13 : gt a 190 = .bool true := hI.val 13 _ rfl (hal 13 (by decide))
                                  rw [hfr, ← HAX.out]
                                  have HCR := Go.Lib.hid hI.wld
                                  simp only [List.map_cons, List.map_nil, List.foldl_cons, List.foldl_nil, k0, k1, k2, k3, k4, k5, k6, k7, k8, k9, k10, k11, k12, k13, List.setIfInBounds_toArray, List.set_cons_succ, List.set_cons_zero]
                                  clear hfr hI hal k0 k1 k2 k3 k4 k5 k6 k7 k8 k9 k10 k11 k12 k13 hh6 HSZ HND HLS HAX F17 F21 F27
                                  simp only [List.drop_succ_cons, List.drop_zero]
                                  have HCZ := Go.Lib.hid (HC1.out.trans (HC15.out.trans HCR.out))
                                  clear HC15 HCR
                                  go_wp2_with fail
                                  go_ret
                                  exact ⟨rfl, HCZ.out⟩
                              · have h64' : ¬ (64 : Int) < (nk : Int) := by omega
                                have HBC := Go.Lib.hid (fun W (hc : Ch (fun _ => False) w13 W) => HB13.out.ch hc (fun _ _ h => h))
                                have HKZ := Go.Lib.hid (kb_padZ key nk kz)
                                generalize hln : nk + kz = ln at *
                                clear hln HB13
                                by_cases hz : 64 < ln
                                · have hz' : (64 : Int) < (ln : Int) := by omega
                                  clear HTO HKZ
                                  go_upto_region 21 with (fail)
                                  generalize hax : Act.mk _ _ = ax
                                  have HSZ := Go.Lib.hid (show ax.tmps.size = 191 by rw [← hax]; rfl)
                                  have F17 := Go.Lib.hid (show gt ax 17 = .slice qa (upto PL N) ca by rw [← hax]; rfl)
                                  have F21 := Go.Lib.hid (show gt ax 21 = .pointer (some ⟨B, 0, none⟩) by rw [← hax]; rfl)
                                  have F27 := Go.Lib.hid (show gt ax 27 = .slice q3 ln c3 by rw [← hax]; rfl)
                                  have HAX := Go.Lib.hid hax
                                  clear hax
                                  have HND := Go.Lib.hid (show ([177, 178, 179, 180, 181, 182, 183, 184, 185, 186, 187, 188, 189, 190] : List Nat).Nodup by decide)
                                  have HLS : Hid (Lasts [(177, fun x _ => x = .slice q3 ln c3), (178, fun x _ => x = .int .i64 (ln : Int)), (179, fun x _ => x = .bool true), (180, fun x _ => x = .bool true), (181, fun x _ => x = undef), (182, fun x _ => x = undef), (183, fun x _ => x = undef), (184, fun x _ => x = undef), (185, fun x _ => x = undef), (186, fun x _ => x = undef), (187, fun x _ => x = .bool true), (188, fun x _ => x = .bool true), (189, fun x _ => x = .bool true), (190, fun x _ => x = .bool true)]) := Go.Lib.hid (by
                                    intro p hp v w1 w2 hc h
                                    simp only [List.mem_cons, List.not_mem_nil, or_false] at hp
                                    rcases hp with rfl | rfl | rfl | rfl | rfl | rfl | rfl | rfl | rfl | rfl | rfl | rfl | rfl | rfl
                                    all_goals first | exact h | (obtain ⟨g, h1, h2⟩ := h; exact ⟨g, h1, hc.heap h2 id⟩) | (obtain ⟨g, c, h1, h2⟩ := h; exact ⟨g, c, h1, h2.ch hc (fun _ _ h => h)⟩))
                                  refine wp_region_open_tail 14 (InvQ 191 [(177, fun x _ => x = .slice q3 ln c3), (178, fun x _ => x = .int .i64 (ln : Int)), (179, fun x _ => x = .bool true), (180, fun x _ => x = .bool true), (181, fun x _ => x = undef), (182, fun x _ => x = undef), (183, fun x _ => x = undef), (184, fun x _ => x = undef), (185, fun x _ => x = undef), (186, fun x _ => x = undef), (187, fun x _ => x = .bool true), (188, fun x _ => x = .bool true), (189, fun x _ => x = .bool true), (190, fun x _ => x = .bool true)] (fun _ w' => Ch (fun _ => False) w13 w') ax) (by kernel_rfl) (by kernel_rfl) (InvQ.start (by simp) HSZ.out (Ch.refl _ _).drew) ?_ ?_
                                  · intro L a w' i hI hr hlt
                                    obtain ⟨h1, o, ho, hall⟩ := mem_ready.1 hr
                                    have hsplit : i = 0 ∨ i = 1 ∨ i = 2 ∨ i = 3 ∨ i = 4 ∨ i = 5 ∨ i = 6 ∨ i = 7 ∨ i = 8 ∨ i = 9 ∨ i = 10 ∨ i = 11 ∨ i = 12 ∨ i = 13 := by omega
                                    clear hlt h1 hr
                                    rcases hsplit with rfl | rfl | rfl | rfl | rfl | rfl | rfl | rfl | rfl | rfl | rfl | rfl | rfl | rfl
                                    · have q27 := (hI.fixed 27 (by simp)).trans F27.out
                                      unfold gt at q27
                                      clear hall
                                      refine wpOp_step (o := _) rfl (fun K' hK' => ?_)
                                      go_simp
                                      exact hK' _ _ (hI.put 0 rfl (by decide) HND.out HLS.out  (Ch.refl _ _) rfl hI.wld)
                                    · simp at ho
                                      have e0 : lg L 0 = true := by unfold lg; simpa using hall ⟨0, .data⟩ (by rw [← ho]; simp) rfl
                                      have f0 : gt a 177 = .slice q3 ln c3 := hI.val 0 _ rfl e0
                                      unfold gt at f0
                                      clear hall
                                      clear ho
                                      refine wpOp_step (o := _) rfl (fun K' hK' => ?_)
                                      go_simp
                                      exact hK' _ _ (hI.put 1 rfl (by decide) HND.out HLS.out  (Ch.refl _ _) rfl hI.wld)
                                    · simp at ho
                                      have e1 : lg L 1 = true := by unfold lg; simpa using hall ⟨1, .data⟩ (by rw [← ho]; simp) rfl
                                      have f1 : gt a 178 = .int .i64 (ln : Int) := hI.val 1 _ rfl e1
                                      unfold gt at f1
                                      clear hall
                                      clear ho
                                      refine wpOp_step (o := _) rfl (fun K' hK' => ?_)
                                      go_simp
                                      exact hK' _ _ (hI.put 2 rfl (by decide) HND.out HLS.out  (Ch.refl _ _) rfl hI.wld)
                                    · simp at ho
                                      have e2 : lg L 2 = true := by unfold lg; simpa using hall ⟨2, .data⟩ (by rw [← ho]; simp) rfl
                                      have f2 : gt a 179 = .bool true := hI.val 2 _ rfl e2
                                      unfold gt at f2
                                      clear hall
                                      clear ho
                                      refine wpOp_step (o := _) rfl (fun K' hK' => ?_)
                                      go_simp
                                      exact hK' _ _ (hI.put 3 rfl (by decide) HND.out HLS.out  (Ch.refl _ _) rfl hI.wld)
                                    · simp at ho
                                      have eg : lg L 3 = true := by unfold lg; simpa using hall ⟨3, .guard⟩ (by rw [← ho]; simp) rfl
                                      have fg0 : gt a 180 = .bool true := hI.val 3 _ rfl eg
                                      have fg := guard_of fg0 (by rw [hI.size]; decide)
                                      clear eg fg0
                                      clear hall
                                      clear ho
                                      refine wpOp_step (o := _) rfl (fun K' hK' => ?_)
                                      rw [if_neg (by simp [Region.wanted, yielded, fg])]
                                      exact hK' _ _ (hI.put 4 rfl (by decide) HND.out HLS.out  (Ch.refl _ _) rfl hI.wld)
                                    · simp at ho
                                      have eg : lg L 3 = true := by unfold lg; simpa using hall ⟨3, .guard⟩ (by rw [← ho]; simp) rfl
                                      have fg0 : gt a 180 = .bool true := hI.val 3 _ rfl eg
                                      have fg := guard_of fg0 (by rw [hI.size]; decide)
                                      clear eg fg0
                                      clear hall
                                      clear ho
                                      refine wpOp_step (o := _) rfl (fun K' hK' => ?_)
                                      rw [if_neg (by simp [Region.wanted, yielded, fg])]
                                      exact hK' _ _ (hI.put 5 rfl (by decide) HND.out HLS.out  (Ch.refl _ _) rfl hI.wld)
                                    · simp at ho
                                      have eg : lg L 3 = true := by unfold lg; simpa using hall ⟨3, .guard⟩ (by rw [← ho]; simp) rfl
                                      have fg0 : gt a 180 = .bool true := hI.val 3 _ rfl eg
                                      have fg := guard_of fg0 (by rw [hI.size]; decide)
                                      clear eg fg0
                                      clear hall
                                      clear ho
                                      refine wpOp_step (o := _) rfl (fun K' hK' => ?_)
                                      rw [if_neg (by simp [Region.wanted, yielded, fg])]
                                      exact hK' _ _ (hI.put 6 rfl (by decide) HND.out HLS.out  (Ch.refl _ _) rfl hI.wld)
                                    · simp at ho
                                      have eg : lg L 3 = true := by unfold lg; simpa using hall ⟨3, .guard⟩ (by rw [← ho]; simp) rfl
                                      have fg0 : gt a 180 = .bool true := hI.val 3 _ rfl eg
                                      have fg := guard_of fg0 (by rw [hI.size]; decide)
                                      clear eg fg0
                                      clear hall
                                      clear ho
                                      refine wpOp_step (o := _) rfl (fun K' hK' => ?_)
                                      rw [if_neg (by simp [Region.wanted, yielded, fg])]
                                      exact hK' _ _ (hI.put 7 rfl (by decide) HND.out HLS.out  (Ch.refl _ _) rfl hI.wld)
                                    · simp at ho
                                      have eg : lg L 3 = true := by unfold lg; simpa using hall ⟨3, .guard⟩ (by rw [← ho]; simp) rfl
                                      have fg0 : gt a 180 = .bool true := hI.val 3 _ rfl eg
                                      have fg := guard_of fg0 (by rw [hI.size]; decide)
                                      clear eg fg0
                                      clear hall
                                      clear ho
                                      refine wpOp_step (o := _) rfl (fun K' hK' => ?_)
                                      rw [if_neg (by simp [Region.wanted, yielded, fg])]
                                      exact hK' _ _ (hI.put 8 rfl (by decide) HND.out HLS.out  (Ch.refl _ _) rfl hI.wld)
                                    · simp at ho
                                      have eg : lg L 3 = true := by unfold lg; simpa using hall ⟨3, .guard⟩ (by rw [← ho]; simp) rfl
                                      have fg0 : gt a 180 = .bool true := hI.val 3 _ rfl eg
                                      have fg := guard_of fg0 (by rw [hI.size]; decide)
                                      clear eg fg0
                                      clear hall
                                      clear ho
                                      refine wpOp_step (o := _) rfl (fun K' hK' => ?_)
                                      rw [if_neg (by simp [Region.wanted, yielded, fg])]
                                      exact hK' _ _ (hI.put 9 rfl (by decide) HND.out HLS.out  (Ch.refl _ _) rfl hI.wld)
                                    · simp at ho
                                      have e3 : lg L 3 = true := by unfold lg; simpa using hall ⟨3, .data⟩ (by rw [← ho]; simp) rfl
                                      have f3 : gt a 180 = .bool true := hI.val 3 _ rfl e3
                                      unfold gt at f3
                                      clear hall
                                      clear ho
                                      refine wpOp_step (o := _) rfl (fun K' hK' => ?_)
                                      go_simp
                                      exact hK' _ _ (hI.put 10 rfl (by decide) HND.out HLS.out  (Ch.refl _ _) rfl hI.wld)
                                    · simp at ho
                                      have e10 : lg L 10 = true := by unfold lg; simpa using hall ⟨10, .data⟩ (by rw [← ho]; simp) rfl
                                      have f10 : gt a 187 = .bool true := hI.val 10 _ rfl e10
                                      unfold gt at f10
                                      clear hall
                                      clear ho
                                      refine wpOp_step (o := _) rfl (fun K' hK' => ?_)
                                      go_simp
                                      exact hK' _ _ (hI.put 11 rfl (by decide) HND.out HLS.out  (Ch.refl _ _) rfl hI.wld)
                                    · simp at ho
                                      have eg : lg L 11 = true := by unfold lg; simpa using hall ⟨11, .guard⟩ (by rw [← ho]; simp) rfl
                                      have fg0 : gt a 188 = .bool true := hI.val 11 _ rfl eg
                                      have fg := guard_of fg0 (by rw [hI.size]; decide)
                                      clear eg fg0
                                      clear hall
                                      clear ho
                                      have HCT := Go.Lib.hid (HW.out w' (HC1.out.trans (HC13.out.trans hI.wld)))
                                      refine wpOp_step (o := _) rfl (fun K' hK' => ?_)
                                      go_simp
                                      refine HCT.out.mono ?_
                                      rintro e w3 ⟨rfl, hc⟩
                                      exact hK' _ _ (hI.put 12 rfl (by decide) HND.out HLS.out  hc rfl (hI.wld.trans hc))
                                    · simp at ho
                                      have e11 : lg L 11 = true := by unfold lg; simpa using hall ⟨11, .data⟩ (by rw [← ho]; simp) rfl
                                      have f11 : gt a 188 = .bool true := hI.val 11 _ rfl e11
                                      have e12 : lg L 12 = true := by unfold lg; simpa using hall ⟨12, .data⟩ (by rw [← ho]; simp) rfl
                                      have f12 : gt a 189 = .bool true := hI.val 12 _ rfl e12
                                      unfold gt at f11 f12
                                      clear hall
                                      clear ho
                                      refine wpOp_step (o := _) rfl (fun K' hK' => ?_)
                                      go_simp
                                      exact hK' _ _ (hI.put 13 rfl (by decide) HND.out HLS.out  (Ch.refl _ _) rfl hI.wld)
                                  · intro L a w' hI hal
                                    have hfr := hI.frame HSZ.out (by simp) (fun i hi => hal i hi)
                                    have k0 : gt a 177 = .slice q3 ln c3 := hI.val 0 _ rfl (hal 0 (by decide))
                                    have k1 : gt a 178 = .int .i64 (ln : Int) := hI.val 1 _ rfl (hal 1 (by decide))
                                    have k2 : gt a 179 = .bool true := hI.val 2 _ rfl (hal 2 (by decide))
                                    have k3 : gt a 180 = .bool true := hI.val 3 _ rfl (hal 3 (by decide))
                                    have k4 : gt a 181 = undef := hI.val 4 _ rfl (hal 4 (by decide))
                                    have k5 : gt a 182 = undef := hI.val 5 _ rfl (hal 5 (by decide))
                                    have k6 : gt a 183 = undef := hI.val 6 _ rfl (hal 6 (by decide))
                                    have k7 : gt a 184 = undef := hI.val 7 _ rfl (hal 7 (by decide))
                                    have k8 : gt a 185 = undef := hI.val 8 _ rfl (hal 8 (by decide))
                                    have k9 : gt a 186 = undef := hI.val 9 _ rfl (hal 9 (by decide))
                                    have k10 : gt a 187 = .bool true := hI.val 10 _ rfl (hal 10 (by decide))
                                    have k11 : gt a 188 = .bool true := hI.val 11 _ rfl (hal 11 (by decide))
                                    have k12 : gt a 189 = .bool true := hI.val 12 _ rfl (hal 12 (by decide))
                                    have k13 : gt a 190 = .bool true := hI.val 13 _ rfl (hal 13 (by decide))
                                    rw [hfr, ← HAX.out]
                                    have HCR := Go.Lib.hid hI.wld
                                    simp only [List.map_cons, List.map_nil, List.foldl_cons, List.foldl_nil, k0, k1, k2, k3, k4, k5, k6, k7, k8, k9, k10, k11, k12, k13, List.setIfInBounds_toArray, List.set_cons_succ, List.set_cons_zero]
                                    clear hfr hI hal k0 k1 k2 k3 k4 k5 k6 k7 k8 k9 k10 k11 k12 k13  HSZ HND HLS HAX F17 F21 F27
                                    simp only [List.drop_succ_cons, List.drop_zero]
                                    have HCZ := Go.Lib.hid (HC1.out.trans (HC13.out.trans HCR.out))
                                    clear HC13 HCR
                                    go_wp2_with fail
                                    go_ret
                                    exact ⟨rfl, HCZ.out⟩
                                · have hz' : ¬ (64 : Int) < (ln : Int) := by omega
                                  have HT3 := Go.Lib.hid (fun W hc hb g hh => HTO.out q3 ln c3 (padZ key nk) (by omega) (HKZ.out (by omega)) W hc hb g hh)
                                  rw [HKZ.out (by omega), show upto (fun _ => upto PL N) 1 = upto PL N from Nat.zero_add _, HTB.out, HRTE.out] at HT3
                                  clear HTO HKZ
                                  go_upto_region 21 with (fail)
                                  generalize hax : Act.mk _ _ = ax
                                  have HSZ := Go.Lib.hid (show ax.tmps.size = 191 by rw [← hax]; rfl)
                                  have F17 := Go.Lib.hid (show gt ax 17 = .slice qa (upto PL N) ca by rw [← hax]; rfl)
                                  have F21 := Go.Lib.hid (show gt ax 21 = .pointer (some ⟨B, 0, none⟩) by rw [← hax]; rfl)
                                  have F27 := Go.Lib.hid (show gt ax 27 = .slice q3 ln c3 by rw [← hax]; rfl)
                                  have HAX := Go.Lib.hid hax
                                  clear hax
                                  have HND := Go.Lib.hid (show ([177, 178, 179, 180, 181, 182, 183, 184, 185, 186, 187, 188, 189, 190] : List Nat).Nodup by decide)
                                  have HLS : Hid (Lasts [(177, fun x _ => x = .slice q3 ln c3), (178, fun x _ => x = .int .i64 (ln : Int)), (179, fun x _ => x = .bool false), (180, fun x _ => x = .bool false), (181, fun x _ => x = .slice q3 ln c3), (182, fun x _ => x = .slice qa (upto PL N) ca), (183, fun x v => ∃ g, x = .slice (some ⟨g, 0, none⟩) 1 1 ∧ v.heap[g]? = some (.cells #[.slice qa (upto PL N) ca] 22)), (184, fun x _ => x = .agg RT), (185, fun x _ => x = .agg RT), (186, fun x _ => x = .bool true), (187, fun x _ => x = .bool true), (188, fun x _ => x = .bool true), (189, fun x _ => x = .bool true), (190, fun x _ => x = .bool true)]) := Go.Lib.hid (by
                                    intro p hp v w1 w2 hc h
                                    simp only [List.mem_cons, List.not_mem_nil, or_false] at hp
                                    rcases hp with rfl | rfl | rfl | rfl | rfl | rfl | rfl | rfl | rfl | rfl | rfl | rfl | rfl | rfl
                                    all_goals first | exact h | (obtain ⟨g, h1, h2⟩ := h; exact ⟨g, h1, hc.heap h2 id⟩) | (obtain ⟨g, c, h1, h2⟩ := h; exact ⟨g, c, h1, h2.ch hc (fun _ _ h => h)⟩))
                                  refine wp_region_open_tail 14 (InvQ 191 [(177, fun x _ => x = .slice q3 ln c3), (178, fun x _ => x = .int .i64 (ln : Int)), (179, fun x _ => x = .bool false), (180, fun x _ => x = .bool false), (181, fun x _ => x = .slice q3 ln c3), (182, fun x _ => x = .slice qa (upto PL N) ca), (183, fun x v => ∃ g, x = .slice (some ⟨g, 0, none⟩) 1 1 ∧ v.heap[g]? = some (.cells #[.slice qa (upto PL N) ca] 22)), (184, fun x _ => x = .agg RT), (185, fun x _ => x = .agg RT), (186, fun x _ => x = .bool true), (187, fun x _ => x = .bool true), (188, fun x _ => x = .bool true), (189, fun x _ => x = .bool true), (190, fun x _ => x = .bool true)] (fun _ w' => Ch (fun _ => False) w13 w') ax) (by kernel_rfl) (by kernel_rfl) (InvQ.start (by simp) HSZ.out (Ch.refl _ _).drew) ?_ ?_
                                  · intro L a w' i hI hr hlt
                                    obtain ⟨h1, o, ho, hall⟩ := mem_ready.1 hr
                                    have hsplit : i = 0 ∨ i = 1 ∨ i = 2 ∨ i = 3 ∨ i = 4 ∨ i = 5 ∨ i = 6 ∨ i = 7 ∨ i = 8 ∨ i = 9 ∨ i = 10 ∨ i = 11 ∨ i = 12 ∨ i = 13 := by omega
                                    clear hlt h1 hr
                                    rcases hsplit with rfl | rfl | rfl | rfl | rfl | rfl | rfl | rfl | rfl | rfl | rfl | rfl | rfl | rfl
                                    · have q27 := (hI.fixed 27 (by simp)).trans F27.out
                                      unfold gt at q27
                                      clear hall
                                      refine wpOp_step (o := _) rfl (fun K' hK' => ?_)
                                      go_simp
                                      exact hK' _ _ (hI.put 0 rfl (by decide) HND.out HLS.out  (Ch.refl _ _) rfl hI.wld)
                                    · simp at ho
                                      have e0 : lg L 0 = true := by unfold lg; simpa using hall ⟨0, .data⟩ (by rw [← ho]; simp) rfl
                                      have f0 : gt a 177 = .slice q3 ln c3 := hI.val 0 _ rfl e0
                                      unfold gt at f0
                                      clear hall
                                      clear ho
                                      refine wpOp_step (o := _) rfl (fun K' hK' => ?_)
                                      go_simp
                                      exact hK' _ _ (hI.put 1 rfl (by decide) HND.out HLS.out  (Ch.refl _ _) rfl hI.wld)
                                    · simp at ho
                                      have e1 : lg L 1 = true := by unfold lg; simpa using hall ⟨1, .data⟩ (by rw [← ho]; simp) rfl
                                      have f1 : gt a 178 = .int .i64 (ln : Int) := hI.val 1 _ rfl e1
                                      unfold gt at f1
                                      clear hall
                                      clear ho
                                      refine wpOp_step (o := _) rfl (fun K' hK' => ?_)
                                      go_simp
                                      exact hK' _ _ (hI.put 2 rfl (by decide) HND.out HLS.out  (Ch.refl _ _) rfl hI.wld)
                                    · simp at ho
                                      have e2 : lg L 2 = true := by unfold lg; simpa using hall ⟨2, .data⟩ (by rw [← ho]; simp) rfl
                                      have f2 : gt a 179 = .bool false := hI.val 2 _ rfl e2
                                      unfold gt at f2
                                      clear hall
                                      clear ho
                                      refine wpOp_step (o := _) rfl (fun K' hK' => ?_)
                                      go_simp
                                      exact hK' _ _ (hI.put 3 rfl (by decide) HND.out HLS.out  (Ch.refl _ _) rfl hI.wld)
                                    · simp at ho
                                      have q27 := (hI.fixed 27 (by simp)).trans F27.out
                                      have eg : lg L 3 = true := by unfold lg; simpa using hall ⟨3, .guard⟩ (by rw [← ho]; simp) rfl
                                      have fg0 : gt a 180 = .bool false := hI.val 3 _ rfl eg
                                      have fg := guard_of fg0 (by rw [hI.size]; decide)
                                      clear eg fg0
                                      unfold gt at q27
                                      clear hall
                                      clear ho
                                      refine wpOp_step (o := _) rfl (fun K' hK' => ?_)
                                      go_simp
                                      exact hK' _ _ (hI.put 4 rfl (by decide) HND.out HLS.out  (Ch.refl _ _) rfl hI.wld)
                                    · simp at ho
                                      have q17 := (hI.fixed 17 (by simp)).trans F17.out
                                      have eg : lg L 3 = true := by unfold lg; simpa using hall ⟨3, .guard⟩ (by rw [← ho]; simp) rfl
                                      have fg0 : gt a 180 = .bool false := hI.val 3 _ rfl eg
                                      have fg := guard_of fg0 (by rw [hI.size]; decide)
                                      clear eg fg0
                                      unfold gt at q17
                                      clear hall
                                      clear ho
                                      refine wpOp_step (o := _) rfl (fun K' hK' => ?_)
                                      go_simp
                                      exact hK' _ _ (hI.put 5 rfl (by decide) HND.out HLS.out  (Ch.refl _ _) rfl hI.wld)
                                    · simp at ho
                                      have e5 : lg L 5 = true := by unfold lg; simpa using hall ⟨5, .data⟩ (by rw [← ho]; simp) rfl
                                      have f5 : gt a 182 = .slice qa (upto PL N) ca := hI.val 5 _ rfl e5
                                      have eg : lg L 3 = true := by unfold lg; simpa using hall ⟨3, .guard⟩ (by rw [← ho]; simp) rfl
                                      have fg0 : gt a 180 = .bool false := hI.val 3 _ rfl eg
                                      have fg := guard_of fg0 (by rw [hI.size]; decide)
                                      clear eg fg0
                                      unfold gt at f5
                                      clear hall
                                      clear ho
                                      refine wpOp_step (o := _) rfl (fun K' hK' => ?_)
                                      go_simp
                                      exact hK' _ _ (hI.put 6 rfl (by decide) HND.out HLS.out  ((Ch.refl _ _).alloc _) ⟨_, rfl, World.alloc_heap_new w' _⟩ (hI.wld.alloc _))
                                    · simp at ho
                                      have e4 : lg L 4 = true := by unfold lg; simpa using hall ⟨4, .data⟩ (by rw [← ho]; simp) rfl
                                      have f4 : gt a 181 = .slice q3 ln c3 := hI.val 4 _ rfl e4
                                      have e6 : lg L 6 = true := by unfold lg; simpa using hall ⟨6, .data⟩ (by rw [← ho]; simp) rfl
                                      obtain ⟨g6, f6, hh6⟩ : ∃ g, gt a 183 = .slice (some ⟨g, 0, none⟩) 1 1 ∧ w'.heap[g]? = some (.cells #[.slice qa (upto PL N) ca] 22) := hI.val 6 _ rfl e6
                                      have eg : lg L 3 = true := by unfold lg; simpa using hall ⟨3, .guard⟩ (by rw [← ho]; simp) rfl
                                      have fg0 : gt a 180 = .bool false := hI.val 3 _ rfl eg
                                      have fg := guard_of fg0 (by rw [hI.size]; decide)
                                      clear eg fg0
                                      unfold gt at f4 f6
                                      clear hall
                                      clear ho
                                      have HCT := Go.Lib.hid (HT3.out w' (HC13.out.trans hI.wld) (HBC.out w' hI.wld) g6 hh6)
                                      refine wpOp_step (o := _) rfl (fun K' hK' => ?_)
                                      go_simp
                                      refine HCT.out.mono ?_
                                      rintro e w3 ⟨rfl, hc⟩
                                      exact hK' _ _ (hI.put 7 rfl (by decide) HND.out HLS.out  hc rfl (hI.wld.trans hc))
                                    · simp at ho
                                      have q21 := (hI.fixed 21 (by simp)).trans F21.out
                                      have eg : lg L 3 = true := by unfold lg; simpa using hall ⟨3, .guard⟩ (by rw [← ho]; simp) rfl
                                      have fg0 : gt a 180 = .bool false := hI.val 3 _ rfl eg
                                      have fg := guard_of fg0 (by rw [hI.size]; decide)
                                      clear eg fg0
                                      unfold gt at q21
                                      clear hall
                                      clear ho
                                      refine wpOp_step (o := _) rfl (fun K' hK' => ?_)
                                      rw [if_pos (by simp [Region.wanted, yielded, fg])]
                                      exact wp_load_row 28 (.tmp 21) rfl B (by simpa [Act.eval] using q21) 28 RT (0, 0) _ (hI.wld.heap HX13.out id) Tryd.underlying28 rfl HI.out (hK' _ _ (hI.put 8 rfl (by decide) HND.out HLS.out  (Ch.refl _ _) rfl hI.wld))
                                    · simp at ho
                                      have e7 : lg L 7 = true := by unfold lg; simpa using hall ⟨7, .data⟩ (by rw [← ho]; simp) rfl
                                      have f7 : gt a 184 = .agg RT := hI.val 7 _ rfl e7
                                      have e8 : lg L 8 = true := by unfold lg; simpa using hall ⟨8, .data⟩ (by rw [← ho]; simp) rfl
                                      have f8 : gt a 185 = .agg RT := hI.val 8 _ rfl e8
                                      have eg : lg L 3 = true := by unfold lg; simpa using hall ⟨3, .guard⟩ (by rw [← ho]; simp) rfl
                                      have fg0 : gt a 180 = .bool false := hI.val 3 _ rfl eg
                                      have fg := guard_of fg0 (by rw [hI.size]; decide)
                                      clear eg fg0
                                      unfold gt at f7 f8
                                      clear hall
                                      clear ho
                                      refine wpOp_step (o := _) rfl (fun K' hK' => ?_)
                                      rw [if_pos (by simp [Region.wanted, yielded, fg])]
                                      exact wp_eql (.tmp 184) (.tmp 185) 28 28 rfl RT RT (by simpa [Act.eval] using f7) (by simpa [Act.eval] using f8) eqg28 (HEQ.out _) (hK' _ _ (hI.put 9 rfl (by decide) HND.out HLS.out  (Ch.refl _ _) rfl hI.wld))
                                    · simp at ho
                                      have e3 : lg L 3 = true := by unfold lg; simpa using hall ⟨3, .data⟩ (by rw [← ho]; simp) rfl
                                      have f3 : gt a 180 = .bool false := hI.val 3 _ rfl e3
                                      have e9 : lg L 9 = true := by unfold lg; simpa using hall ⟨9, .data⟩ (by rw [← ho]; simp) rfl
                                      have f9 : gt a 186 = .bool true := hI.val 9 _ rfl e9
                                      unfold gt at f3 f9
                                      clear hall
                                      clear ho
                                      refine wpOp_step (o := _) rfl (fun K' hK' => ?_)
                                      go_simp
                                      exact hK' _ _ (hI.put 10 rfl (by decide) HND.out HLS.out  (Ch.refl _ _) rfl hI.wld)
                                    · simp at ho
                                      have e10 : lg L 10 = true := by unfold lg; simpa using hall ⟨10, .data⟩ (by rw [← ho]; simp) rfl
                                      have f10 : gt a 187 = .bool true := hI.val 10 _ rfl e10
                                      unfold gt at f10
                                      clear hall
                                      clear ho
                                      refine wpOp_step (o := _) rfl (fun K' hK' => ?_)
                                      go_simp
                                      exact hK' _ _ (hI.put 11 rfl (by decide) HND.out HLS.out  (Ch.refl _ _) rfl hI.wld)
                                    · simp at ho
                                      have eg : lg L 11 = true := by unfold lg; simpa using hall ⟨11, .guard⟩ (by rw [← ho]; simp) rfl
                                      have fg0 : gt a 188 = .bool true := hI.val 11 _ rfl eg
                                      have fg := guard_of fg0 (by rw [hI.size]; decide)
                                      clear eg fg0
                                      clear hall
                                      clear ho
                                      have HCT := Go.Lib.hid (HW.out w' (HC1.out.trans (HC13.out.trans hI.wld)))
                                      refine wpOp_step (o := _) rfl (fun K' hK' => ?_)
                                      go_simp
                                      refine HCT.out.mono ?_
                                      rintro e w3 ⟨rfl, hc⟩
                                      exact hK' _ _ (hI.put 12 rfl (by decide) HND.out HLS.out  hc rfl (hI.wld.trans hc))
                                    · simp at ho
                                      have e11 : lg L 11 = true := by unfold lg; simpa using hall ⟨11, .data⟩ (by rw [← ho]; simp) rfl
                                      have f11 : gt a 188 = .bool true := hI.val 11 _ rfl e11
                                      have e12 : lg L 12 = true := by unfold lg; simpa using hall ⟨12, .data⟩ (by rw [← ho]; simp) rfl
                                      have f12 : gt a 189 = .bool true := hI.val 12 _ rfl e12
                                      unfold gt at f11 f12
                                      clear hall
                                      clear ho
                                      refine wpOp_step (o := _) rfl (fun K' hK' => ?_)
                                      go_simp
                                      exact hK' _ _ (hI.put 13 rfl (by decide) HND.out HLS.out  (Ch.refl _ _) rfl hI.wld)
                                  · intro L a w' hI hal
                                    have hfr := hI.frame HSZ.out (by simp) (fun i hi => hal i hi)
                                    have k0 : gt a 177 = .slice q3 ln c3 := hI.val 0 _ rfl (hal 0 (by decide))
                                    have k1 : gt a 178 = .int .i64 (ln : Int) := hI.val 1 _ rfl (hal 1 (by decide))
                                    have k2 : gt a 179 = .bool false := hI.val 2 _ rfl (hal 2 (by decide))
                                    have k3 : gt a 180 = .bool false := hI.val 3 _ rfl (hal 3 (by decide))
                                    have k4 : gt a 181 = .slice q3 ln c3 := hI.val 4 _ rfl (hal 4 (by decide))
                                    have k5 : gt a 182 = .slice qa (upto PL N) ca := hI.val 5 _ rfl (hal 5 (by decide))
                                    obtain ⟨g6, k6, hh6⟩ : ∃ g, gt a 183 = .slice (some ⟨g, 0, none⟩) 1 1 ∧ w'.heap[g]? = some (.cells #[.slice qa (upto PL N) ca] 22) := hI.val 6 _ rfl (hal 6 (by decide))
                                    have H6 := Go.Lib.hid hh6
                                    have k7 : gt a 184 = .agg RT := hI.val 7 _ rfl (hal 7 (by decide))
                                    have k8 : gt a 185 = .agg RT := hI.val 8 _ rfl (hal 8 (by decide))
                                    have k9 : gt a 186 = .bool true := hI.val 9 _ rfl (hal 9 (by decide))
                                    have k10 : gt a 187 = .bool true := hI.val 10 _ rfl (hal 10 (by decide))
                                    have k11 : gt a 188 = .bool true := hI.val 11 _ rfl (hal 11 (by decide))
                                    have k12 : gt a 189 = .bool true := hI.val 12 _ rfl (hal 12 (by decide))
                                    have k13 : gt a 190 = .bool true := hI.val 13 _ rfl (hal 13 (by decide))
                                    rw [hfr, ← HAX.out]
                                    have HCR := Go.Lib.hid hI.wld
                                    simp only [List.map_cons, List.map_nil, List.foldl_cons, List.foldl_nil, k0, k1, k2, k3, k4, k5, k6, k7, k8, k9, k10, k11, k12, k13, List.setIfInBounds_toArray, List.set_cons_succ, List.set_cons_zero]
                                    clear hfr hI hal k0 k1 k2 k3 k4 k5 k6 k7 k8 k9 k10 k11 k12 k13 hh6 HSZ HND HLS HAX F17 F21 F27
                                    simp only [List.drop_succ_cons, List.drop_zero]
                                    have HCZ := Go.Lib.hid (HC1.out.trans (HC13.out.trans HCR.out))
                                    clear HC13 HCR
                                    go_wp2_with fail
                                    go_ret
                                    exact ⟨rfl, HCZ.out⟩
end Go.Proofs.YtikdpiedjkailaaDoor
