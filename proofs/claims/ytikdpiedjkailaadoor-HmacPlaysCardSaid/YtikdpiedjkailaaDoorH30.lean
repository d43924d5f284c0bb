/- HmacPlays: the function. -/
import Derived.Test.YtikdpiedjkailaaDoorHP
namespace Go.Proofs.YtikdpiedjkailaaDoor
open Go Go.RowKit

set_option maxRecDepth 100000 in
set_option maxHeartbeats 16000000 in
theorem plays_law (p0 p1 : Option Addr) (n0 n1 c0 c1 : Nat) (key0 key1 : Nat → UInt8) (sp : Option Addr) (pa off N cap : Nat) (wh : Nat → Int) (tw : Nat → Bool) (bp : Nat → Option Addr) (bl bc : Nat → Nat) (bf : Nat → Nat → UInt8) (w : World)
    (hk0 : BytesAt w p0 n0 c0 key0) (hk1 : BytesAt w p1 n1 c1 key1) (hsp : sp = some ⟨pa, off, none⟩ ∨ N = 0) (hA : ActsAt w pa off N wh tw bp bl bc bf) (hK : KAt w) :
    Calls Tryd.prog 7 #[.slice p0 n0 c0, .slice p1 n1 c1, .slice sp N cap] w fun e w' => e = .returned (.bool true) ∧ Ch (fun _ => False) w w' := by
  have HW := Go.Lib.hid (fun W (hc : Ch (fun _ => False) w W) => works_any W (hK.ch hc id))
  have HK := Go.Lib.hid hK; have HSP := Go.Lib.hid hsp; have HACT := Go.Lib.hid hA; have HK0 := Go.Lib.hid hk0; have HK1 := Go.Lib.hid hk1
  clear hK hsp hA hk0 hk1
  by_cases g0 : 200 < n0
  · have g0' : (200 : Int) < (n0 : Int) := by omega
    go_enter Tryd.func7, Tryd.ntmps7
    go_wp2_with fail
    refine (HW.out _ (Ch.refl _ _)).mono ?_
    rintro e w2 ⟨rfl, hc2⟩
    go_wp2_with fail
    go_ret
    exact ⟨rfl, hc2⟩
  · have g0' : ¬ (200 : Int) < (n0 : Int) := by omega
    by_cases g1 : 200 < n1
    · have g1' : (200 : Int) < (n1 : Int) := by omega
      go_enter Tryd.func7, Tryd.ntmps7
      go_wp2_with fail
      refine (HW.out _ (Ch.refl _ _)).mono ?_
      rintro e w2 ⟨rfl, hc2⟩
      go_wp2_with fail
      go_ret
      exact ⟨rfl, hc2⟩
    · have g1' : ¬ (200 : Int) < (n1 : Int) := by omega
      by_cases g2 : 20 < N
      · have g2' : (20 : Int) < (N : Int) := by omega
        go_enter Tryd.func7, Tryd.ntmps7
        go_wp2_with fail
        refine (HW.out _ (Ch.refl _ _)).mono ?_
        rintro e w2 ⟨rfl, hc2⟩
        go_wp2_with fail
        go_ret
        exact ⟨rfl, hc2⟩
      · have g2' : ¬ (20 : Int) < (N : Int) := by omega
        have HNW := Go.Lib.hid (fun p n c f W (hn : n ≤ 200) (hb : BytesAt W p n c f) (hc : Ch (fun _ => False) w W) => mnew_any p n c f W (by omega) hb (HK.out.ch hc id) (fun _ => 0))
        go_enter Tryd.func7, Tryd.ntmps7
        go_upto_region 4 with (at_builtin; (
          refine wpList_append_bytes rfl (.tmp 29) (.tmp 30) rfl w.heap.size _ _ _ rfl (ownsRow_empty w _ (Nat.le_refl _)) p0 n0 c0 key0 rfl (HK0.out.ch ((Ch.refl (fun _ => False) w).alloc _) (fun _ _ h => h)) (by omega) (by simp) ?_
          intro v1 w1 hown1 hgrow1
          rw [Nat.zero_add, List.nil_append] at hown1
          have hc1 : Ch (fun _ => False) w w1 := Ch.grown ((Ch.refl _ w).alloc _) hgrow1 (fun k hk hlt => by
            have h : some w.heap.size = some k := hk
            cases h; omega)
          have HZ1 := Go.Lib.hid (show w.heap.size + 1 ≤ w1.heap.size from by have := hgrow1.size; simpa using this)
          have HO1 := Go.Lib.hid hown1; have HC1 := Go.Lib.hid hc1; clear hown1 hgrow1 hc1))
        obtain ⟨qk, ckk, hvk, hbk⟩ := own_nil HO1.out
        have HBK := Go.Lib.hid hbk
        have hrw := own_rowU HO1.out
        subst hvk
        obtain ⟨g, hqg, hru, hg1, hg2⟩ : ∃ g, (qk = some ⟨g, 0, none⟩ ∨ n0 = 0) ∧ (n0 = 0 ∨ RowU w1 g n0) ∧ w.heap.size ≤ g ∧ g < w1.heap.size := by
          rcases hrw with ⟨g, c, e, h1, h2⟩ | ⟨_, h0⟩
          · cases e
            obtain ⟨cur, h3, h4⟩ := h2
            exact ⟨g, .inl rfl, .inr ⟨cur, h3, h4⟩, h1, row_lt h3⟩
          · have := HZ1.out
            exact ⟨w.heap.size, .inr h0, .inl h0, by omega, by omega⟩
        have HQG := Go.Lib.hid hqg; have HRU := Go.Lib.hid hru; have HG := Go.Lib.hid (And.intro hg1 hg2)
        clear hrw hqg hru hg1 hg2
        clear hbk HO1
        go_wp2_with fail
        refine (HNW.out _ _ _ _ w1 (by omega) HBK.out HC1.out).mono ?_
        rintro e w2 ⟨b0, r0, rfl, hr1, hr2, hb2, hm2, hc2⟩
        have HM0 := Go.Lib.hid hm2; have HC2 := Go.Lib.hid (HC1.out.trans hc2); have HD2 := Go.Lib.hid hc2; have HP0 := Go.Lib.hid (And.intro hr1 (And.intro hr2 hb2))
        clear hr1 hr2 hb2 hm2 hc2
        go_wp2_with fail
        refine (HNW.out _ _ _ _ w2 (by omega) (HK1.out.ch HC2.out (fun _ _ h => h)) HC2.out).mono ?_
        rintro e w3 ⟨b1, r1, rfl, hr1, hr2, hb2, hm3, hc3⟩
        have HM1 := Go.Lib.hid hm3; have HC3 := Go.Lib.hid (HC2.out.trans hc3); have HD3 := Go.Lib.hid (HD2.out.trans hc3); have HM03 := Go.Lib.hid (HM0.out.ch hc3 id id); have HP1 := Go.Lib.hid (And.intro hr1 (And.intro hr2 hb2))
        clear hr1 hr2 hb2 hm3 hc3 HNW HM0 HC2 HD2
        go_wp2_with fail
        generalize hW4 : World.alloc w3 _ = w4
        have hm4 : w4.heap[w3.heap.size]? = some (.cells (arr 2 fun i => .pointer (some ⟨if i = 0 then b0 else b1, 0, none⟩)) 49) := by rw [← hW4]; exact World.alloc_heap_new w3 _
        have hc4 : Ch (fun _ => False) w3 w4 := by rw [← hW4]; exact (Ch.refl _ w3).alloc _
        have HR4 := Go.Lib.hid hm4; have HC4 := Go.Lib.hid (HC3.out.trans hc4); have HRU4 := Go.Lib.hid (HRU.out.imp id (fun ⟨cur, h1, h2⟩ => (⟨cur, (HD3.out.trans hc4).heap h1 id, h2⟩ : RowU w4 g n0)))
        have HM04 := Go.Lib.hid (HM03.out.ch hc4 id id); have HM14 := Go.Lib.hid (HM1.out.ch hc4 id id)
        have HPL := Go.Lib.hid (show w.heap.size ≤ g ∧ g < w1.heap.size ∧ w1.heap.size ≤ r0 ∧ r0 < b0 ∧ b0 < w2.heap.size ∧ w2.heap.size ≤ r1 ∧ r1 < b1 ∧ b1 < w3.heap.size from ⟨HG.out.1, HG.out.2, HP0.out.1, HP0.out.2.1, HP0.out.2.2, HP1.out.1, HP1.out.2.1, HP1.out.2.2⟩)
        clear hW4 hm4 hc4 HRU HC3 HD3 HM03 HM1 HG HP0 HP1 HBK
        have HS4 := Go.Lib.hid (row_lt HR4.out)
        generalize w3.heap.size = Mb at *
        go_loopw [9] (fun ix wr => ∃ i : Nat, i ≤ n0 ∧ ix = .int .i64 i ∧ (n0 = 0 ∨ RowU wr g n0) ∧ Ch (fun t => t = g) w4 wr) (fun ix _ => n0 - (intOf ix).toNat)
        case atStart => exact ⟨0, by omega, rfl, HRU4.out, Ch.refl _ _⟩
        case round =>
          obtain ⟨i, hi, rfl, hru, hC⟩ := hrel
          have HC := Go.Lib.hid hC; have HRW := Go.Lib.hid hru
          clear hC hru
          by_cases hin : i < n0
          · obtain rfl := HQG.out.resolve_right (by omega)
            obtain ⟨cur, hcur, hby⟩ := HRW.out.resolve_left (by omega)
            obtain ⟨z, hz⟩ := hby i hin
            have hcell : wr.cell? ⟨g, i, none⟩ = some (.int .u8 (z.toNat : Int)) := (cell_of_heap hcur i).trans hz
            have hfr : wr.frozen? ⟨g, i, none⟩ = false := frozen_of_heap hcur i
            have HZ := Go.Lib.hid (show ((z.toNat : Int) + 1) % 256 = ((z + 1).toNat : Int) by
              rw [UInt8.toNat_add, show (1 : UInt8).toNat = 1 from rfl]; have := z.toNat_lt; omega)
            have HST := Go.Lib.hid ((show RowU wr g n0 from ⟨cur, hcur, hby⟩).set (z + 1) hin)
            rw [← HZ.out] at HST
            clear hcur hby hz HZ
            go_wp2_with fail
            go_roundw
            case rel => exact ⟨i + 1, by omega, by go_num, .inr HST.out, Ch.setCell (S := fun t => t = g) HC.out (p := ⟨g, i, none⟩) (fun _ => rfl) _⟩
            case measure => simp [intOf]; omega
          · obtain rfl : n0 = i := by omega
            clear HRW HQG HRU4
            go_upto_region 11 with (refine wpList_store_row rfl 52 (.tmp 10) (.tmp 51) rfl wr.heap.size #[.slice p0 n0 c0, .slice p1 n1 c1] rfl rfl 52 #[.slice none 0 0, .slice none 0 0] (World.alloc_heap_new wr _) (by kernel_rfl) rfl rfl ?_)
            generalize hW5 : World.alloc (World.alloc wr _) _ = w5
            have hk5' : w5.heap[wr.heap.size]? = some (.cells #[.slice p0 n0 c0, .slice p1 n1 c1] 52) := by
              rw [← hW5]; exact Ch.heap (S := fun _ => False) ((Ch.refl _ _).alloc (.cells #[.slice none 0 0, .slice none 0 0] 52)) (World.alloc_heap_new wr (.cells #[.slice p0 n0 c0, .slice p1 n1 c1] 52)) id
            have hk5 : w5.heap[wr.heap.size]? = some (.cells (arr 2 fun i => .slice (if i = 0 then p0 else p1) (if i = 0 then n0 else n1) (if i = 0 then c0 else c1)) 52) := hk5'
            have hl5 : wr.heap.size + 1 < w5.heap.size := by rw [← hW5]; simp
            have ha5 : w5.heap[wr.heap.size + 1]? = some (.cells (arr 2 fun _ => .slice none 0 0) 52) := by
              rw [← hW5, ← World.size_alloc wr (.cells #[.slice p0 n0 c0, .slice p1 n1 c1] 52)]
              exact World.alloc_heap_new _ _
            have hc5 : Ch (fun _ => False) wr w5 := by rw [← hW5]; exact ((Ch.refl _ _).alloc _).alloc _
            have HK5 := Go.Lib.hid hk5; have HA5 := Go.Lib.hid ha5; have HC5 := Go.Lib.hid hc5
            have hcw : Ch (fun t => t = g) w4 w5 := HC.out.trans (hc5.mono (fun _ _ h => h.elim))
            have hz := hcw.size; have hz4 := HC4.out.size; have hz5 := HC.out.size
            have hpl := HPL.out; have hs4 := HS4.out; have hzr := hc5.size
            have HPA := Go.Lib.hid (show PlayAt w5 w.heap.size Mb wr.heap.size (wr.heap.size + 1) (fun i => if i = 0 then b0 else b1) (fun i => if i = 0 then r0 else r1) (fun i => if i = 0 then p0 else p1) (fun i => if i = 0 then n0 else n1) (fun i => if i = 0 then c0 else c1) (fun i => if i = 0 then key0 else key1) (fun _ => none) (fun _ => 0) (fun _ => 0) (fun _ _ => 0) from by
              refine ⟨hcw.heap HR4.out (show ¬ Mb = g by omega), hk5, ha5, two_cases (HM04.out.ch hcw (show ¬ b0 = g by omega) (show ¬ r0 = g by omega)) (HM14.out.ch hcw (show ¬ b1 = g by omega) (show ¬ r1 = g by omega)), two_cases (HK0.out.ch (HC4.out.then hcw (fun i hi h => by omega)) (fun _ _ h => h)) (HK1.out.ch (HC4.out.then hcw (fun i hi h => by omega)) (fun _ _ h => h)), two_cases (show n0 ≤ 200 by omega) (show n1 ≤ 200 by omega), two_cases (.inr ⟨rfl, rfl, rfl⟩) (.inr ⟨rfl, rfl, rfl⟩), ?_, two_cases ?_ ?_, ?_, ?_, fun i ad _ e => by cases e⟩
              · refine ⟨?_, ?_, ?_, ?_, ?_, ?_⟩ <;> omega
              · show w.heap.size ≤ r0 ∧ w.heap.size ≤ b0 ∧ r0 ≠ Mb ∧ r0 ≠ wr.heap.size ∧ r0 ≠ wr.heap.size + 1 ∧ b0 ≠ Mb ∧ b0 ≠ wr.heap.size ∧ b0 ≠ wr.heap.size + 1
                refine ⟨?_, ?_, ?_, ?_, ?_, ?_, ?_, ?_⟩ <;> omega
              · show w.heap.size ≤ r1 ∧ w.heap.size ≤ b1 ∧ r1 ≠ Mb ∧ r1 ≠ wr.heap.size ∧ r1 ≠ wr.heap.size + 1 ∧ b1 ≠ Mb ∧ b1 ≠ wr.heap.size ∧ b1 ≠ wr.heap.size + 1
                refine ⟨?_, ?_, ?_, ?_, ?_, ?_, ?_, ?_⟩ <;> omega
              · refine ⟨show r0 ≠ r1 by omega, fun i j hi hj => ?_⟩
                obtain rfl | rfl : i = 0 ∨ i = 1 := by omega
                · obtain rfl | rfl : j = 0 ∨ j = 1 := by omega
                  · show b0 ≠ r0; omega
                  · show b0 ≠ r1; omega
                · obtain rfl | rfl : j = 0 ∨ j = 1 := by omega
                  · show b1 ≠ r0; omega
                  · show b1 ≠ r1; omega
              · intro i ad hi hn e
                obtain rfl | rfl : i = 0 ∨ i = 1 := by omega
                · rcases HK0.out with ⟨x, y, e2, _, h2⟩ | ⟨_, h0, _⟩
                  · rw [show p0 = some ad from e] at e2; cases e2
                    exact cell_lt (h2 0 (Nat.pos_of_ne_zero hn))
                  · exact absurd h0 hn
                · rcases HK1.out with ⟨x, y, e2, _, h2⟩ | ⟨_, h0, _⟩
                  · rw [show p1 = some ad from e] at e2; cases e2
                    exact cell_lt (h2 0 (Nat.pos_of_ne_zero hn))
                  · exact absurd h0 hn)
            have HCW := Go.Lib.hid (HC4.out.then hcw (fun i hi h => by omega))
            clear hW5 hk5' hk5 hl5 ha5 hc5 hcw hz hz4 hz5 hpl hs4 hzr HK5 HA5 HC5 HC HR4 HC4 HM04 HM14 HPL HS4 HZ1 HC1
            generalize wr.heap.size = Kb at *
            generalize Kb + 1 = Ab at *
            go_wp2_with fail
            go_loopw [12] (fun ix wr => ∃ i : Nat, i ≤ N ∧ ix = .int .i64 i ∧ (∃ b r kp kn kc kf q le c F, PlayAt wr w.heap.size Mb Kb Ab b r kp kn kc kf q le c F ∧ ∀ t, t < 2 → le t ≤ 200 * i) ∧ Ch (fun _ => False) w wr) (fun ix _ => N - (intOf ix).toNat)
            case atStart => exact ⟨0, by omega, rfl, ⟨_, _, _, _, _, _, _, _, _, _, HPA.out, fun _ _ => Nat.zero_le _⟩, HCW.out⟩
            case round =>
              clear HPA HCW
              obtain ⟨rd, hrd, rfl, ⟨b, r, kp, kn, kc, kf, q, le, c, F, hp, hL⟩, hC⟩ := hrel
              have HP := Go.Lib.hid hp; have HLL := Go.Lib.hid hL; have HC := Go.Lib.hid hC
              clear hp hL hC
              have hl0 := HLL.out 0 (by omega); have hl1 := HLL.out 1 (by omega)
              have hk0 := HP.out.short 0 (by omega); have hk1 := HP.out.short 1 (by omega)
              have HT := Go.Lib.hid (fun t (ht : t < 2) W (hc : Ch (fun _ => False) wr W) => (show Calls Tryd.prog 22 #[.pointer (some ⟨b t, 0, none⟩)] W fun e w' => e = .returned (.agg (hv (tagB (kb (kf t) (kn t)) (F t) (le t)))) ∧ Ch (fun _ => False) W w' from mtag_any (b t) (r t) (64 + le t) _ _ W (by have := HLL.out t ht; omega) ((HP.out.mac t ht).ch hc id id) (HK.out.ch (HC.out.trans hc) id)))
              have HRT := Go.Lib.hid (fun t (ht : t < 2) W (hc : Ch (fun _ => False) wr W) => rtag_any (kp t) (q t) (kn t) (kc t) (le t) (c t) (kf t) (F t) W (by have := HP.out.short t ht; omega) (by have := HLL.out t ht; omega) ((HP.out.key t ht).ch hc (fun _ _ h => h)) ((HP.out.all t ht).ch hc (fun _ _ h => h)))
              have HTA := Go.Lib.hid (HT.out 0 (by omega)); have HTB := Go.Lib.hid (HT.out 1 (by omega)); have HRA := Go.Lib.hid (HRT.out 0 (by omega)); have HRB := Go.Lib.hid (HRT.out 1 (by omega))
              have HEA := Go.Lib.hid (fun W => eqH_self (tagB (kb (kf 0) (kn 0)) (F 0) (le 0)) ▸ eq_hv (tagB (kb (kf 0) (kn 0)) (F 0) (le 0)) (tagB (kb (kf 0) (kn 0)) (F 0) (le 0)) W)
              have HEB := Go.Lib.hid (fun W => eqH_self (tagB (kb (kf 1) (kn 1)) (F 1) (le 1)) ▸ eq_hv (tagB (kb (kf 1) (kn 1)) (F 1) (le 1)) (tagB (kb (kf 1) (kn 1)) (F 1) (le 1)) W)
              have HEZ := Go.Lib.hid (fun W => eqH_self (fun _ => 0) ▸ eq_hv (fun _ => 0) (fun _ => 0) W)
              have HM0 := Go.Lib.hid (show wr.cell? ⟨Mb, 0, none⟩ = some (.pointer (some ⟨b 0, 0, none⟩)) from (cell_of_heap HP.out.rowM 0).trans (arr_get 2 _ 0 (by omega))); have HM1 := Go.Lib.hid (show wr.cell? ⟨Mb, 1, none⟩ = some (.pointer (some ⟨b 1, 0, none⟩)) from (cell_of_heap HP.out.rowM 1).trans (arr_get 2 _ 1 (by omega)))
              have HQ0 := Go.Lib.hid (show wr.cell? ⟨Kb, 0, none⟩ = some (.slice (kp 0) (kn 0) (kc 0)) from (cell_of_heap HP.out.rowK 0).trans (arr_get 2 _ 0 (by omega))); have HQ1 := Go.Lib.hid (show wr.cell? ⟨Kb, 1, none⟩ = some (.slice (kp 1) (kn 1) (kc 1)) from (cell_of_heap HP.out.rowK 1).trans (arr_get 2 _ 1 (by omega)))
              have HA0 := Go.Lib.hid (show wr.cell? ⟨Ab, 0, none⟩ = some (.slice (q 0) (le 0) (c 0)) from (cell_of_heap HP.out.rowA 0).trans (arr_get 2 _ 0 (by omega))); have HA1 := Go.Lib.hid (show wr.cell? ⟨Ab, 1, none⟩ = some (.slice (q 1) (le 1) (c 1)) from (cell_of_heap HP.out.rowA 1).trans (arr_get 2 _ 1 (by omega)))
              by_cases hiN : rd < N
              · obtain rfl := HSP.out.resolve_right (by omega)
                have HAC := Go.Lib.hid (HACT.out.ch HC.out)
                have hwh := HAC.out.what rd hiN; have htw := HAC.out.two rd hiN; have hrow := HAC.out.row rd hiN
                have HBY := Go.Lib.hid (HACT.out.bytes rd hiN)
                generalize wh rd = W0 at *
                generalize tw rd = T0 at *
                generalize bp rd = bp0 at *
                generalize hbl : bl rd = bl0 at *
                generalize bc rd = bc0 at *
                generalize bf rd = bf0 at *
                clear hbl
                by_cases h200 : 200 < bl0
                · have h200' : (200 : Int) < (bl0 : Int) := by omega
                  go_wp2_with fail
                  refine (HW.out _ HC.out).mono ?_
                  rintro e w2 ⟨rfl, hc2⟩
                  have HCO := Go.Lib.hid (HC.out.trans hc2)
                  clear hc2
                  go_wp2_with fail
                  go_ret
                  exact ⟨rfl, HCO.out⟩
                · have h200' : ¬ (200 : Int) < (bl0 : Int) := by omega
                  have HROW := Go.Lib.hid hrow
                  cases T0 with
                  | false =>
                    by_cases w0 : W0 = 0
                    · subst w0
                      obtain ⟨x, y, hq, hg⟩ : ∃ x y, ((bp0 = some ⟨x, y, none⟩ ∧ x ≠ r 0) ∨ bl0 = 0) ∧ ∀ j, j < bl0 → w.cell? ⟨x, y + j, none⟩ = some (.int .u8 ((bf0 j).toNat : Int)) := by
                        by_cases h0 : bl0 = 0
                        · exact ⟨0, 0, .inr h0, fun j hj => by omega⟩
                        · rcases HBY.out with (⟨x, y, h1, _, h2⟩ | ⟨_, h1, _⟩) | ⟨h1, _⟩
                          · have hx := cell_lt (h2 0 (by omega))
                            have hr := (HP.out.runs 0 (by omega)).1
                            simp only at hx
                            exact ⟨x, y, .inl ⟨h1, by omega⟩, h2⟩
                          · exact absurd h1 h0
                          · exact absurd h1 h0
                      have HWR := Go.Lib.hid (fun W (hc : Ch (fun _ => False) wr W) => mwrite_any (b 0) (r 0) (64 + le 0) bl0 bc0 x y bp0 (inK (kb (kf 0) (kn 0)) (catB (le 0) (F 0) bf0)) (fun j => kb (kf 0) (kn 0) j ^^^ 92) W hq (by have := (HP.out.runs 0 (by omega)).1; have := cell_lt (HK.out 0 (by omega)); omega) (HP.out.apart.2 0 0 (by omega) (by omega)) (by omega)
                        (fun j hj => by rw [Nat.add_assoc, inK_ge, catB_ge]; exact (HC.out.trans hc).get (hg j hj) id)
                        (((HP.out.mac 0 (by omega)).ch hc id id).congr (fun j hj => inK_cong _ _ _ _ _ hj)) (HK.out.ch (HC.out.trans hc) id))
                      go_upto_region 22 with (fail)
                      generalize hax : Act.mk _ _ = ax
                      have HSZ := Go.Lib.hid (show ax.tmps.size = 186 by rw [← hax]; rfl)
                      have F2 := Go.Lib.hid (show gt ax 2 = .slice (some ⟨pa, off, none⟩) N cap by rw [← hax]; rfl)
                      have F8 := Go.Lib.hid (show gt ax 8 = .slice (some ⟨Mb, 0, none⟩) 2 2 by rw [← hax]; rfl)
                      have F12 := Go.Lib.hid (show gt ax 12 = .int .i64 (rd : Int) by rw [← hax]; rfl)
                      have F13 := Go.Lib.hid (show gt ax 13 = .int .i64 0 by rw [← hax]; rfl)
                      have HAX := Go.Lib.hid hax
                      clear hax
                      have HND := Go.Lib.hid (show ([99, 100, 101, 102, 103, 104, 105, 106, 107] : List Nat).Nodup by decide)
                      have HLS : Hid (Lasts [(99, fun x _ => x = .slice (some ⟨Mb, 0, none⟩) 2 2), (100, fun x _ => x = .int .i64 0), (101, fun x _ => x = .pointer (some ⟨Mb, 0, none⟩)), (102, fun x _ => x = .pointer (some ⟨b 0, 0, none⟩)), (103, fun x _ => x = .slice (some ⟨pa, off, none⟩) N cap), (104, fun x _ => x = .int .i64 (rd : Int)), (105, fun x _ => x = .pointer (some ⟨pa, off + rd * 3, none⟩)), (106, fun x _ => x = .pointer (some ⟨pa, off + rd * 3 + 2, none⟩)), (107, fun x _ => x = .slice bp0 bl0 bc0)]) := Go.Lib.hid (by
                        intro p hp v w1 w2 hc h
                        simp only [List.mem_cons, List.not_mem_nil, or_false] at hp
                        rcases hp with rfl | rfl | rfl | rfl | rfl | rfl | rfl | rfl | rfl
                        all_goals first | exact h | (obtain ⟨g, h1, h2⟩ := h; exact ⟨g, h1, hc.heap h2 id⟩) | (obtain ⟨g, c, h1, h2⟩ := h; exact ⟨g, c, h1, h2.ch hc (fun _ _ h => h)⟩))
                      refine wp_region_open_tail 9 (InvQ 186 [(99, fun x _ => x = .slice (some ⟨Mb, 0, none⟩) 2 2), (100, fun x _ => x = .int .i64 0), (101, fun x _ => x = .pointer (some ⟨Mb, 0, none⟩)), (102, fun x _ => x = .pointer (some ⟨b 0, 0, none⟩)), (103, fun x _ => x = .slice (some ⟨pa, off, none⟩) N cap), (104, fun x _ => x = .int .i64 (rd : Int)), (105, fun x _ => x = .pointer (some ⟨pa, off + rd * 3, none⟩)), (106, fun x _ => x = .pointer (some ⟨pa, off + rd * 3 + 2, none⟩)), (107, fun x _ => x = .slice bp0 bl0 bc0)] (fun _ w' => Ch (fun _ => False) wr w') ax) (by kernel_rfl) (by kernel_rfl) (InvQ.start (by simp) HSZ.out (Ch.refl _ _).drew) ?_ ?_
                      · intro L a w' i hI hr hlt
                        obtain ⟨h1, o, ho, hall⟩ := mem_ready.1 hr
                        have hsplit : i = 0 ∨ i = 1 ∨ i = 2 ∨ i = 3 ∨ i = 4 ∨ i = 5 ∨ i = 6 ∨ i = 7 ∨ i = 8 := by omega
                        clear hlt h1 hr
                        rcases hsplit with rfl | rfl | rfl | rfl | rfl | rfl | rfl | rfl | rfl
                        · have q8 := (hI.fixed 8 (by simp)).trans F8.out
                          unfold gt at q8
                          clear hall
                          refine wpOp_step (o := _) rfl (fun K' hK' => ?_)
                          go_simp
                          exact hK' _ _ (hI.put 0 rfl (by decide) HND.out HLS.out  (Ch.refl _ _) rfl hI.wld)
                        · have q13 := (hI.fixed 13 (by simp)).trans F13.out
                          unfold gt at q13
                          clear hall
                          refine wpOp_step (o := _) rfl (fun K' hK' => ?_)
                          go_simp
                          exact hK' _ _ (hI.put 1 rfl (by decide) HND.out HLS.out  (Ch.refl _ _) rfl hI.wld)
                        · simp at ho
                          have e0 : lg L 0 = true := by unfold lg; simpa using hall ⟨0, .data⟩ (by rw [← ho]; simp) rfl
                          have f0 : gt a 99 = .slice (some ⟨Mb, 0, none⟩) 2 2 := hI.val 0 _ rfl e0
                          have e1 : lg L 1 = true := by unfold lg; simpa using hall ⟨1, .data⟩ (by rw [← ho]; simp) rfl
                          have f1 : gt a 100 = .int .i64 0 := hI.val 1 _ rfl e1
                          unfold gt at f0 f1
                          clear hall
                          clear ho
                          refine wpOp_step (o := _) rfl (fun K' hK' => ?_)
                          go_simp
                          exact hK' _ _ (hI.put 2 rfl (by decide) HND.out HLS.out  (Ch.refl _ _) rfl hI.wld)
                        · simp at ho
                          have e2 : lg L 2 = true := by unfold lg; simpa using hall ⟨2, .data⟩ (by rw [← ho]; simp) rfl
                          have f2 : gt a 101 = .pointer (some ⟨Mb, 0, none⟩) := hI.val 2 _ rfl e2
                          have hcl := hI.wld.get HM0.out id
                          unfold gt at f2
                          clear hall
                          clear ho
                          refine wpOp_step (o := _) rfl (fun K' hK' => ?_)
                          go_simp
                          exact hK' _ _ (hI.put 3 rfl (by decide) HND.out HLS.out  (Ch.refl _ _) rfl hI.wld)
                        · have q2 := (hI.fixed 2 (by simp)).trans F2.out
                          unfold gt at q2
                          clear hall
                          refine wpOp_step (o := _) rfl (fun K' hK' => ?_)
                          go_simp
                          exact hK' _ _ (hI.put 4 rfl (by decide) HND.out HLS.out  (Ch.refl _ _) rfl hI.wld)
                        · have q12 := (hI.fixed 12 (by simp)).trans F12.out
                          unfold gt at q12
                          clear hall
                          refine wpOp_step (o := _) rfl (fun K' hK' => ?_)
                          go_simp
                          exact hK' _ _ (hI.put 5 rfl (by decide) HND.out HLS.out  (Ch.refl _ _) rfl hI.wld)
                        · simp at ho
                          have e4 : lg L 4 = true := by unfold lg; simpa using hall ⟨4, .data⟩ (by rw [← ho]; simp) rfl
                          have f4 : gt a 103 = .slice (some ⟨pa, off, none⟩) N cap := hI.val 4 _ rfl e4
                          have e5 : lg L 5 = true := by unfold lg; simpa using hall ⟨5, .data⟩ (by rw [← ho]; simp) rfl
                          have f5 : gt a 104 = .int .i64 (rd : Int) := hI.val 5 _ rfl e5
                          unfold gt at f4 f5
                          clear hall
                          clear ho
                          refine wpOp_step (o := _) rfl (fun K' hK' => ?_)
                          go_simp
                          exact hK' _ _ (hI.put 6 rfl (by decide) HND.out HLS.out  (Ch.refl _ _) rfl hI.wld)
                        · simp at ho
                          have e6 : lg L 6 = true := by unfold lg; simpa using hall ⟨6, .data⟩ (by rw [← ho]; simp) rfl
                          have f6 : gt a 105 = .pointer (some ⟨pa, off + rd * 3, none⟩) := hI.val 6 _ rfl e6
                          unfold gt at f6
                          clear hall
                          clear ho
                          refine wpOp_step (o := _) rfl (fun K' hK' => ?_)
                          go_simp
                          exact hK' _ _ (hI.put 7 rfl (by decide) HND.out HLS.out  (Ch.refl _ _) rfl hI.wld)
                        · simp at ho
                          have e7 : lg L 7 = true := by unfold lg; simpa using hall ⟨7, .data⟩ (by rw [← ho]; simp) rfl
                          have f7 : gt a 106 = .pointer (some ⟨pa, off + rd * 3 + 2, none⟩) := hI.val 7 _ rfl e7
                          have hcl := hI.wld.get HROW.out id
                          unfold gt at f7
                          clear hall
                          clear ho
                          refine wpOp_step (o := _) rfl (fun K' hK' => ?_)
                          go_simp
                          exact hK' _ _ (hI.put 8 rfl (by decide) HND.out HLS.out  (Ch.refl _ _) rfl hI.wld)
                      · intro L a w' hI hal
                        have hfr := hI.frame HSZ.out (by simp) (fun i hi => hal i hi)
                        have k0 : gt a 99 = .slice (some ⟨Mb, 0, none⟩) 2 2 := hI.val 0 _ rfl (hal 0 (by decide))
                        have k1 : gt a 100 = .int .i64 0 := hI.val 1 _ rfl (hal 1 (by decide))
                        have k2 : gt a 101 = .pointer (some ⟨Mb, 0, none⟩) := hI.val 2 _ rfl (hal 2 (by decide))
                        have k3 : gt a 102 = .pointer (some ⟨b 0, 0, none⟩) := hI.val 3 _ rfl (hal 3 (by decide))
                        have k4 : gt a 103 = .slice (some ⟨pa, off, none⟩) N cap := hI.val 4 _ rfl (hal 4 (by decide))
                        have k5 : gt a 104 = .int .i64 (rd : Int) := hI.val 5 _ rfl (hal 5 (by decide))
                        have k6 : gt a 105 = .pointer (some ⟨pa, off + rd * 3, none⟩) := hI.val 6 _ rfl (hal 6 (by decide))
                        have k7 : gt a 106 = .pointer (some ⟨pa, off + rd * 3 + 2, none⟩) := hI.val 7 _ rfl (hal 7 (by decide))
                        have k8 : gt a 107 = .slice bp0 bl0 bc0 := hI.val 8 _ rfl (hal 8 (by decide))
                        rw [hfr, ← HAX.out]
                        have HCR := Go.Lib.hid hI.wld
                        simp only [List.map_cons, List.map_nil, List.foldl_cons, List.foldl_nil, k0, k1, k2, k3, k4, k5, k6, k7, k8, List.setIfInBounds_toArray, List.set_cons_succ, List.set_cons_zero]
                        clear hfr hI hal k0 k1 k2 k3 k4 k5 k6 k7 k8  HSZ HND HLS HAX F2 F8 F12 F13
                        simp only [List.drop_succ_cons, List.drop_zero]
                        go_wp2_with fail
                        refine (HWR.out _ HCR.out).mono ?_
                        rintro e w4 ⟨rfl, hc4, hm4⟩
                        have HC4 := Go.Lib.hid hc4; have HM4 := Go.Lib.hid hm4
                        clear hc4 hm4 HWR
                        have hkr := HP.out.runs 0 (by omega)
                        have hchx : Ch (fun t => t = r 0) wr w4 := (HCR.out.mono (fun _ _ e => e.elim)).trans HC4.out
                        have HCX := Go.Lib.hid hchx
                        have HCM := Go.Lib.hid (hchx.get HA0.out (fun e : Ab = r 0 => hkr.2.2.2.2.1 e.symm))
                        have HWX := Go.Lib.hid (show Ch (fun _ => False) w w4 from HC.out.then hchx (fun i hi e => by have e' : i = r 0 := e; omega))
                        have HQX := Go.Lib.hid (bytes_ch_but (HP.out.all 0 (by omega)) hchx (fun _ ad e => (HP.out.alls 0 ad (by omega) e).2.2.2.1))
                        have HBX := Go.Lib.hid (show AnyAt w4 bp0 bl0 bc0 bf0 from HBY.out.imp (fun k => k.ch HWX.out (fun _ _ => id)) id)
                        have HROWX := Go.Lib.hid (hchx.get HROW.out (show ¬ pa = r 0 from by have := cell_lt (HACT.out.row rd hiN); simp only at this; omega))
                        have HGL := Go.Lib.hid (show ∀ j, j < le 0 → catB (le 0) (F 0) bf0 j = F 0 j from fun j hj => if_pos hj)
                        generalize hGG : catB (le 0) (F 0) bf0 = GG at *
                        have HGG := Go.Lib.hid hGG
                        clear hGG hkr hchx
                        go_upto_region 24 with (go_at_call 17; refine (num17 _ _).mono ?_; rintro e w' ⟨rfl, rfl⟩)
                        have HCR1 := Go.Lib.hid HCR.out
                        clear HCR
                        generalize hax : Act.mk _ _ = ax
                        have HSZ := Go.Lib.hid (show ax.tmps.size = 186 by rw [← hax]; rfl)
                        have F2 := Go.Lib.hid (show gt ax 2 = .slice (some ⟨pa, off, none⟩) N cap by rw [← hax]; rfl)
                        have F11 := Go.Lib.hid (show gt ax 11 = .pointer (some ⟨Ab, 0, none⟩) by rw [← hax]; rfl)
                        have F12 := Go.Lib.hid (show gt ax 12 = .int .i64 (rd : Int) by rw [← hax]; rfl)
                        have F13 := Go.Lib.hid (show gt ax 13 = .int .i64 0 by rw [← hax]; rfl)
                        have HAX := Go.Lib.hid hax
                        clear hax
                        have HND := Go.Lib.hid (show ([111, 112, 113, 114, 115, 116, 117, 118, 119, 120, 121, 122] : List Nat).Nodup by decide)
                        have HLS : Hid (Lasts [(111, fun x _ => x = .int .i64 0), (112, fun x v => ∃ (g : Nat) (c : Nat), x = .slice (some ⟨g, 0, none⟩) 0 0 ∧ EmptyRow v w4.heap.size g c), (113, fun x _ => x = .int .i64 0), (114, fun x _ => x = .pointer (some ⟨Ab, 0, none⟩)), (115, fun x _ => x = .slice (q 0) (le 0) (c 0)), (116, fun x v => ∃ (g : Value) (c : Nat), x = g ∧ OwnB v w4.heap.size g (F 0) (le 0) c), (117, fun x _ => x = .slice (some ⟨pa, off, none⟩) N cap), (118, fun x _ => x = .int .i64 (rd : Int)), (119, fun x _ => x = .pointer (some ⟨pa, off + rd * 3, none⟩)), (120, fun x _ => x = .pointer (some ⟨pa, off + rd * 3 + 2, none⟩)), (121, fun x _ => x = .slice bp0 bl0 bc0), (122, fun x v => ∃ (g : Value) (c : Nat), x = g ∧ OwnB v w4.heap.size g GG (le 0 + bl0) c)]) := Go.Lib.hid (by
                          intro p hp v w1 w2 hc h
                          simp only [List.mem_cons, List.not_mem_nil, or_false] at hp
                          rcases hp with rfl | rfl | rfl | rfl | rfl | rfl | rfl | rfl | rfl | rfl | rfl | rfl
                          all_goals first | exact h | (obtain ⟨g, h1, h2⟩ := h; exact ⟨g, h1, hc.heap h2 id⟩) | (obtain ⟨g, c, h1, h2⟩ := h; exact ⟨g, c, h1, h2.ch hc (fun _ _ h => h)⟩))
                        refine wp_region_open_tail 12 (InvQ 186 [(111, fun x _ => x = .int .i64 0), (112, fun x v => ∃ (g : Nat) (c : Nat), x = .slice (some ⟨g, 0, none⟩) 0 0 ∧ EmptyRow v w4.heap.size g c), (113, fun x _ => x = .int .i64 0), (114, fun x _ => x = .pointer (some ⟨Ab, 0, none⟩)), (115, fun x _ => x = .slice (q 0) (le 0) (c 0)), (116, fun x v => ∃ (g : Value) (c : Nat), x = g ∧ OwnB v w4.heap.size g (F 0) (le 0) c), (117, fun x _ => x = .slice (some ⟨pa, off, none⟩) N cap), (118, fun x _ => x = .int .i64 (rd : Int)), (119, fun x _ => x = .pointer (some ⟨pa, off + rd * 3, none⟩)), (120, fun x _ => x = .pointer (some ⟨pa, off + rd * 3 + 2, none⟩)), (121, fun x _ => x = .slice bp0 bl0 bc0), (122, fun x v => ∃ (g : Value) (c : Nat), x = g ∧ OwnB v w4.heap.size g GG (le 0 + bl0) c)] (fun _ w' => Ch (fun _ => False) w4 w') ax) (by kernel_rfl) (by kernel_rfl) (InvQ.start (by simp) HSZ.out ((Ch.refl _ _).drew)) ?_ ?_
                        · intro L a w' i hI hr hlt
                          obtain ⟨h1, o, ho, hall⟩ := mem_ready.1 hr
                          have hun : lg L i = false := by
                            have h2 : i < L.size := Nat.lt_of_lt_of_le hlt hI.lsize
                            unfold lg; simp [h2] at h1 ⊢; exact h1
                          have hsplit : i = 0 ∨ i = 1 ∨ i = 2 ∨ i = 3 ∨ i = 4 ∨ i = 5 ∨ i = 6 ∨ i = 7 ∨ i = 8 ∨ i = 9 ∨ i = 10 ∨ i = 11 := by omega
                          clear hlt h1 hr
                          rcases hsplit with rfl | rfl | rfl | rfl | rfl | rfl | rfl | rfl | rfl | rfl | rfl | rfl
                          · have q13 := (hI.fixed 13 (by simp)).trans F13.out
                            unfold gt at q13
                            clear hall
                            refine wpOp_step (o := _) rfl (fun K' hK' => ?_)
                            go_simp
                            exact hK' _ _ (hI.put 0 rfl (by decide) HND.out HLS.out (Ch.refl _ _) rfl (hI.wld.trans (Ch.refl _ _)))
                          · clear hall
                            refine wpOp_step (o := _) rfl (fun K' hK' => ?_)
                            go_simp
                            exact hK' _ _ (hI.put 1 rfl (by decide) HND.out HLS.out ((Ch.refl _ _).alloc _) ⟨_, 0, rfl, ⟨World.alloc_heap_new w' _, hI.wld.size⟩⟩ (hI.wld.trans ((Ch.refl _ _).alloc _)))
                          · have q13 := (hI.fixed 13 (by simp)).trans F13.out
                            unfold gt at q13
                            clear hall
                            refine wpOp_step (o := _) rfl (fun K' hK' => ?_)
                            go_simp
                            exact hK' _ _ (hI.put 2 rfl (by decide) HND.out HLS.out (Ch.refl _ _) rfl (hI.wld.trans (Ch.refl _ _)))
                          · simp at ho
                            have e2 : lg L 2 = true := by unfold lg; simpa using hall ⟨2, .data⟩ (by rw [← ho]; simp) rfl
                            have f2 : gt a 113 = .int .i64 0 := hI.val 2 _ rfl e2
                            have q11 := (hI.fixed 11 (by simp)).trans F11.out
                            unfold gt at f2 q11
                            clear hall
                            clear ho
                            refine wpOp_step (o := _) rfl (fun K' hK' => ?_)
                            go_simp
                            exact hK' _ _ (hI.put 3 rfl (by decide) HND.out HLS.out (Ch.refl _ _) rfl (hI.wld.trans (Ch.refl _ _)))
                          · simp at ho
                            have e3 : lg L 3 = true := by unfold lg; simpa using hall ⟨3, .data⟩ (by rw [← ho]; simp) rfl
                            have f3 : gt a 114 = .pointer (some ⟨Ab, 0, none⟩) := hI.val 3 _ rfl e3
                            have hcl := hI.wld.get HCM.out id
                            unfold gt at f3
                            clear hall
                            clear ho
                            refine wpOp_step (o := _) rfl (fun K' hK' => ?_)
                            go_simp
                            exact hK' _ _ (hI.put 4 rfl (by decide) HND.out HLS.out (Ch.refl _ _) rfl (hI.wld.trans (Ch.refl _ _)))
                          · simp at ho
                            have e1 : lg L 1 = true := by unfold lg; simpa using hall ⟨1, .data⟩ (by rw [← ho]; simp) rfl
                            obtain ⟨g1, c1, f1, hh1⟩ : (fun x v => ∃ (g : Nat) (c : Nat), x = .slice (some ⟨g, 0, none⟩) 0 0 ∧ EmptyRow v w4.heap.size g c) (gt a 112) w' := hI.val 1 _ rfl e1
                            have e4 : lg L 4 = true := by unfold lg; simpa using hall ⟨4, .data⟩ (by rw [← ho]; simp) rfl
                            have f4 : gt a 115 = .slice (q 0) (le 0) (c 0) := hI.val 4 _ rfl e4
                            unfold gt at f1 f4
                            clear hall
                            clear ho
                            refine wpOp_step (o := _) rfl (fun K' hK' => ?_)
                            refine wp_append_fresh (base := w4.heap.size) (.tmp 112) (.tmp 115) rfl (by simpa [Act.eval] using f1) hh1.row hh1.lo hI.wld.size (by simpa [Act.eval] using f4) (.inl (HQX.out.ch hI.wld (fun _ _ => id))) (by omega) ?_
                            intro v8 w5 ho3 hc3
                            exact hK' _ _ (hI.put 5 rfl (by decide) HND.out HLS.out hc3 ⟨v8, 0, rfl, ⟨ho3⟩⟩ (hI.wld.trans hc3))
                          · have q2 := (hI.fixed 2 (by simp)).trans F2.out
                            unfold gt at q2
                            clear hall
                            refine wpOp_step (o := _) rfl (fun K' hK' => ?_)
                            go_simp
                            exact hK' _ _ (hI.put 6 rfl (by decide) HND.out HLS.out (Ch.refl _ _) rfl (hI.wld.trans (Ch.refl _ _)))
                          · have q12 := (hI.fixed 12 (by simp)).trans F12.out
                            unfold gt at q12
                            clear hall
                            refine wpOp_step (o := _) rfl (fun K' hK' => ?_)
                            go_simp
                            exact hK' _ _ (hI.put 7 rfl (by decide) HND.out HLS.out (Ch.refl _ _) rfl (hI.wld.trans (Ch.refl _ _)))
                          · simp at ho
                            have e6 : lg L 6 = true := by unfold lg; simpa using hall ⟨6, .data⟩ (by rw [← ho]; simp) rfl
                            have f6 : gt a 117 = .slice (some ⟨pa, off, none⟩) N cap := hI.val 6 _ rfl e6
                            have e7 : lg L 7 = true := by unfold lg; simpa using hall ⟨7, .data⟩ (by rw [← ho]; simp) rfl
                            have f7 : gt a 118 = .int .i64 (rd : Int) := hI.val 7 _ rfl e7
                            unfold gt at f6 f7
                            clear hall
                            clear ho
                            refine wpOp_step (o := _) rfl (fun K' hK' => ?_)
                            go_simp
                            exact hK' _ _ (hI.put 8 rfl (by decide) HND.out HLS.out (Ch.refl _ _) rfl (hI.wld.trans (Ch.refl _ _)))
                          · simp at ho
                            have e8 : lg L 8 = true := by unfold lg; simpa using hall ⟨8, .data⟩ (by rw [← ho]; simp) rfl
                            have f8 : gt a 119 = .pointer (some ⟨pa, off + rd * 3, none⟩) := hI.val 8 _ rfl e8
                            unfold gt at f8
                            clear hall
                            clear ho
                            refine wpOp_step (o := _) rfl (fun K' hK' => ?_)
                            go_simp
                            exact hK' _ _ (hI.put 9 rfl (by decide) HND.out HLS.out (Ch.refl _ _) rfl (hI.wld.trans (Ch.refl _ _)))
                          · simp at ho
                            have e9 : lg L 9 = true := by unfold lg; simpa using hall ⟨9, .data⟩ (by rw [← ho]; simp) rfl
                            have f9 : gt a 120 = .pointer (some ⟨pa, off + rd * 3 + 2, none⟩) := hI.val 9 _ rfl e9
                            have hcl := hI.wld.get HROWX.out id
                            unfold gt at f9
                            clear hall
                            clear ho
                            refine wpOp_step (o := _) rfl (fun K' hK' => ?_)
                            go_simp
                            exact hK' _ _ (hI.put 10 rfl (by decide) HND.out HLS.out (Ch.refl _ _) rfl (hI.wld.trans (Ch.refl _ _)))
                          · simp at ho
                            have e5 : lg L 5 = true := by unfold lg; simpa using hall ⟨5, .data⟩ (by rw [← ho]; simp) rfl
                            obtain ⟨g5, c5, f5, hh5⟩ : (fun x v => ∃ (g : Value) (c : Nat), x = g ∧ OwnB v w4.heap.size g (F 0) (le 0) c) (gt a 116) w' := hI.val 5 _ rfl e5
                            have e10 : lg L 10 = true := by unfold lg; simpa using hall ⟨10, .data⟩ (by rw [← ho]; simp) rfl
                            have f10 : gt a 121 = .slice bp0 bl0 bc0 := hI.val 10 _ rfl e10
                            unfold gt at f5 f10
                            clear hall
                            clear ho
                            refine wpOp_step (o := _) rfl (fun K' hK' => ?_)
                            refine wp_append_keep (.tmp 116) (.tmp 121) rfl (by simpa [Act.eval] using f5) hh5.own (by simpa [Act.eval] using f10) (HBX.out.imp (fun k => k.ch hI.wld (fun _ _ => id)) id) (by omega) hI.wld.size ?_
                            intro v9 w5 ho3 hk3 he3 hc3
                            rw [HGG.out] at ho3
                            exact hK' _ _ (hI.putX 11 rfl (by decide) HND.out (fun k p hp hk hl h => by
                              have hk14 : k < 12 := (List.getElem?_eq_some_iff.1 hp).1
                              obtain rfl | rfl | rfl | rfl | rfl | rfl | rfl | rfl | rfl | rfl | rfl | rfl : k = 0 ∨ k = 1 ∨ k = 2 ∨ k = 3 ∨ k = 4 ∨ k = 5 ∨ k = 6 ∨ k = 7 ∨ k = 8 ∨ k = 9 ∨ k = 10 ∨ k = 11 := by omega
                              all_goals first
                                | exact absurd rfl hk
                                | (cases hp; exact h)
                                | (cases hp; obtain ⟨g, c, h1, h2⟩ := h; exact ⟨g, c, h1, ⟨he3 _ h2.row, h2.lo⟩⟩)
                                | (cases hp; obtain ⟨g, c, h1, h2⟩ := h; obtain rfl : g5 = g := f5.symm.trans h1; exact ⟨_, c, h1, ⟨hk3⟩⟩)) ⟨v9, 0, rfl, ⟨ho3⟩⟩ (hI.wld.then hc3 (fun i hi e => by have e' : w4.heap.size ≤ i := e; omega)))
                        · intro L a w' hI hal
                          have hfr := hI.frame HSZ.out (by simp) (fun i hi => hal i hi)
                          have k0 : gt a 111 = .int .i64 0 := hI.val 0 _ rfl (hal 0 (by decide))
                          obtain ⟨g1, c1, k1, hh1⟩ : (fun x v => ∃ (g : Nat) (c : Nat), x = .slice (some ⟨g, 0, none⟩) 0 0 ∧ EmptyRow v w4.heap.size g c) (gt a 112) w' := hI.val 1 _ rfl (hal 1 (by decide))
                          have H1 := Go.Lib.hid hh1
                          have k2 : gt a 113 = .int .i64 0 := hI.val 2 _ rfl (hal 2 (by decide))
                          have k3 : gt a 114 = .pointer (some ⟨Ab, 0, none⟩) := hI.val 3 _ rfl (hal 3 (by decide))
                          have k4 : gt a 115 = .slice (q 0) (le 0) (c 0) := hI.val 4 _ rfl (hal 4 (by decide))
                          obtain ⟨g5, c5, k5, hh5⟩ : (fun x v => ∃ (g : Value) (c : Nat), x = g ∧ OwnB v w4.heap.size g (F 0) (le 0) c) (gt a 116) w' := hI.val 5 _ rfl (hal 5 (by decide))
                          have H5 := Go.Lib.hid hh5
                          have k6 : gt a 117 = .slice (some ⟨pa, off, none⟩) N cap := hI.val 6 _ rfl (hal 6 (by decide))
                          have k7 : gt a 118 = .int .i64 (rd : Int) := hI.val 7 _ rfl (hal 7 (by decide))
                          have k8 : gt a 119 = .pointer (some ⟨pa, off + rd * 3, none⟩) := hI.val 8 _ rfl (hal 8 (by decide))
                          have k9 : gt a 120 = .pointer (some ⟨pa, off + rd * 3 + 2, none⟩) := hI.val 9 _ rfl (hal 9 (by decide))
                          have k10 : gt a 121 = .slice bp0 bl0 bc0 := hI.val 10 _ rfl (hal 10 (by decide))
                          obtain ⟨g11, c11, k11, hh11⟩ : (fun x v => ∃ (g : Value) (c : Nat), x = g ∧ OwnB v w4.heap.size g GG (le 0 + bl0) c) (gt a 122) w' := hI.val 11 _ rfl (hal 11 (by decide))
                          have H11 := Go.Lib.hid hh11
                          rw [hfr, ← HAX.out]
                          have HCR := Go.Lib.hid hI.wld
                          simp only [List.map_cons, List.map_nil, List.foldl_cons, List.foldl_nil, k0, k1, k2, k3, k4, k5, k6, k7, k8, k9, k10, k11, List.setIfInBounds_toArray, List.set_cons_succ, List.set_cons_zero]
                          clear hfr hI hal k0 k1 k2 k3 k4 k5 k6 k7 k8 k9 k10 k11 hh1 hh5 hh11 HSZ HND HLS HAX F2 F11 F12 F13
                          simp only [List.drop_succ_cons, List.drop_zero]
                          have hz2 : w4.heap.size < w'.heap.size := by have := H1.out.lo; have := row_lt H1.out.row; omega
                          obtain ⟨w24, hw24⟩ : ∃ x, x = w' := ⟨_, rfl⟩
                          subst hw24
                          obtain ⟨q9, c9, g9, hv9, hb9, -, -, -, hq9⟩ := own_given H11.out.own hz2
                          subst hv9
                          have hm4 := HM4.out
                          rw [Nat.add_assoc] at hm4
                          have hp2 := HP.out.wrote (k := 0) (m := bl0) (by omega) (G := GG) HGL.out HCX.out hm4 HCR.out hb9 hq9
                          have hA := (HCX.out.trans (HCR.out.mono (fun _ _ e => e.elim))).heap HP.out.rowA (fun e : Ab = r 0 => (HP.out.runs 0 (by omega)).2.2.2.2.1 e.symm)
                          have hcl4 : w24.cell? ⟨Ab, 0, none⟩ = some (.slice (q 0) (le 0) (c 0)) := (cell_of_heap hA 0).trans (arr_get 2 _ 0 (by omega))
                          have hfz4 : w24.frozen? ⟨Ab, 0, none⟩ = false := frozen_of_heap hA 0
                          have hcw := Ch.setCell (S := fun _ => False) (HWX.out.trans HCR.out) (p := ⟨Ab, 0, none⟩) (fun h => by have h' : Ab < w.heap.size := h; have := HP.out.three; omega) (.slice q9 (le 0 + bl0) c9)
                          have HP2 := Go.Lib.hid hp2; have HCW2 := Go.Lib.hid hcw
                          clear hp2 hcw hA hm4 hb9 hq9 hz2 H1 H5 H11 HCR HCX HCM HQX HBX HROWX HWX HM4 HC4 HCR1 HGL HGG
                          go_wp2_with fail
                          go_roundw
                          case rel =>
                            refine ⟨rd + 1, by omega, by go_num, ⟨b, r, kp, kn, kc, kf, _, _, _, _, HP2.out, fun t ht => ?_⟩, HCW2.out⟩
                            by_cases e : t = 0
                            · subst e; rw [put2_self]; omega
                            · rw [put2_ne _ _ _ _ e]; have := HLL.out t ht; omega
                          case measure => simp [intOf]; omega
                    · have w0' : (W0 == 0) = false := by simpa using w0
                      by_cases w1 : W0 = 1
                      · subst w1
                        generalize hv (tagB (kb (kf 0) (kn 0)) (F 0) (le 0)) = R0 at *
                        go_upto_region 26 with (fail)
                        generalize hax : Act.mk _ _ = ax
                        have HSZ := Go.Lib.hid (show ax.tmps.size = 186 by rw [← hax]; rfl)
                        have F8 := Go.Lib.hid (show gt ax 8 = .slice (some ⟨Mb, 0, none⟩) 2 2 by rw [← hax]; rfl)
                        have F10 := Go.Lib.hid (show gt ax 10 = .pointer (some ⟨Kb, 0, none⟩) by rw [← hax]; rfl)
                        have F11 := Go.Lib.hid (show gt ax 11 = .pointer (some ⟨Ab, 0, none⟩) by rw [← hax]; rfl)
                        have F13 := Go.Lib.hid (show gt ax 13 = .int .i64 0 by rw [← hax]; rfl)
                        have HAX := Go.Lib.hid hax
                        clear hax
                        have HND := Go.Lib.hid (show ([126, 127, 128, 129, 130, 131, 132, 133, 134, 135, 136, 137] : List Nat).Nodup by decide)
                        have HLS : Hid (Lasts [(126, fun x _ => x = .slice (some ⟨Mb, 0, none⟩) 2 2), (127, fun x _ => x = .int .i64 0), (128, fun x _ => x = .pointer (some ⟨Mb, 0, none⟩)), (129, fun x _ => x = .pointer (some ⟨b 0, 0, none⟩)), (130, fun x _ => x = .agg R0), (131, fun x _ => x = .int .i64 0), (132, fun x _ => x = .pointer (some ⟨Kb, 0, none⟩)), (133, fun x _ => x = .slice (kp 0) (kn 0) (kc 0)), (134, fun x _ => x = .int .i64 0), (135, fun x _ => x = .pointer (some ⟨Ab, 0, none⟩)), (136, fun x _ => x = .slice (q 0) (le 0) (c 0)), (137, fun x _ => x = .agg R0)]) := Go.Lib.hid (by
                          intro p hp v w1 w2 hc h
                          simp only [List.mem_cons, List.not_mem_nil, or_false] at hp
                          rcases hp with rfl | rfl | rfl | rfl | rfl | rfl | rfl | rfl | rfl | rfl | rfl | rfl
                          all_goals first | exact h | (obtain ⟨g, h1, h2⟩ := h; exact ⟨g, h1, hc.heap h2 id⟩) | (obtain ⟨g, c, h1, h2⟩ := h; exact ⟨g, c, h1, h2.ch hc (fun _ _ h => h)⟩))
                        refine wp_region_open_tail 12 (InvQ 186 [(126, fun x _ => x = .slice (some ⟨Mb, 0, none⟩) 2 2), (127, fun x _ => x = .int .i64 0), (128, fun x _ => x = .pointer (some ⟨Mb, 0, none⟩)), (129, fun x _ => x = .pointer (some ⟨b 0, 0, none⟩)), (130, fun x _ => x = .agg R0), (131, fun x _ => x = .int .i64 0), (132, fun x _ => x = .pointer (some ⟨Kb, 0, none⟩)), (133, fun x _ => x = .slice (kp 0) (kn 0) (kc 0)), (134, fun x _ => x = .int .i64 0), (135, fun x _ => x = .pointer (some ⟨Ab, 0, none⟩)), (136, fun x _ => x = .slice (q 0) (le 0) (c 0)), (137, fun x _ => x = .agg R0)] (fun _ w' => Ch (fun _ => False) wr w') ax) (by kernel_rfl) (by kernel_rfl) (InvQ.start (by simp) HSZ.out (Ch.refl _ _).drew) ?_ ?_
                        · intro L a w' i hI hr hlt
                          obtain ⟨h1, o, ho, hall⟩ := mem_ready.1 hr
                          have hsplit : i = 0 ∨ i = 1 ∨ i = 2 ∨ i = 3 ∨ i = 4 ∨ i = 5 ∨ i = 6 ∨ i = 7 ∨ i = 8 ∨ i = 9 ∨ i = 10 ∨ i = 11 := by omega
                          clear hlt h1 hr
                          rcases hsplit with rfl | rfl | rfl | rfl | rfl | rfl | rfl | rfl | rfl | rfl | rfl | rfl
                          · have q8 := (hI.fixed 8 (by simp)).trans F8.out
                            unfold gt at q8
                            clear hall
                            refine wpOp_step (o := _) rfl (fun K' hK' => ?_)
                            go_simp
                            exact hK' _ _ (hI.put 0 rfl (by decide) HND.out HLS.out  (Ch.refl _ _) rfl hI.wld)
                          · have q13 := (hI.fixed 13 (by simp)).trans F13.out
                            unfold gt at q13
                            clear hall
                            refine wpOp_step (o := _) rfl (fun K' hK' => ?_)
                            go_simp
                            exact hK' _ _ (hI.put 1 rfl (by decide) HND.out HLS.out  (Ch.refl _ _) rfl hI.wld)
                          · simp at ho
                            have e0 : lg L 0 = true := by unfold lg; simpa using hall ⟨0, .data⟩ (by rw [← ho]; simp) rfl
                            have f0 : gt a 126 = .slice (some ⟨Mb, 0, none⟩) 2 2 := hI.val 0 _ rfl e0
                            have e1 : lg L 1 = true := by unfold lg; simpa using hall ⟨1, .data⟩ (by rw [← ho]; simp) rfl
                            have f1 : gt a 127 = .int .i64 0 := hI.val 1 _ rfl e1
                            unfold gt at f0 f1
                            clear hall
                            clear ho
                            refine wpOp_step (o := _) rfl (fun K' hK' => ?_)
                            go_simp
                            exact hK' _ _ (hI.put 2 rfl (by decide) HND.out HLS.out  (Ch.refl _ _) rfl hI.wld)
                          · simp at ho
                            have e2 : lg L 2 = true := by unfold lg; simpa using hall ⟨2, .data⟩ (by rw [← ho]; simp) rfl
                            have f2 : gt a 128 = .pointer (some ⟨Mb, 0, none⟩) := hI.val 2 _ rfl e2
                            have hcl := hI.wld.get HM0.out id
                            unfold gt at f2
                            clear hall
                            clear ho
                            refine wpOp_step (o := _) rfl (fun K' hK' => ?_)
                            go_simp
                            exact hK' _ _ (hI.put 3 rfl (by decide) HND.out HLS.out  (Ch.refl _ _) rfl hI.wld)
                          · simp at ho
                            have e3 : lg L 3 = true := by unfold lg; simpa using hall ⟨3, .data⟩ (by rw [← ho]; simp) rfl
                            have f3 : gt a 129 = .pointer (some ⟨b 0, 0, none⟩) := hI.val 3 _ rfl e3
                            unfold gt at f3
                            clear hall
                            clear ho
                            have HCT := Go.Lib.hid (HTA.out w' hI.wld)
                            refine wpOp_step (o := _) rfl (fun K' hK' => ?_)
                            go_simp
                            refine HCT.out.mono ?_
                            rintro e w3 ⟨rfl, hc⟩
                            exact hK' _ _ (hI.put 4 rfl (by decide) HND.out HLS.out  hc rfl (hI.wld.trans hc))
                          · have q13 := (hI.fixed 13 (by simp)).trans F13.out
                            unfold gt at q13
                            clear hall
                            refine wpOp_step (o := _) rfl (fun K' hK' => ?_)
                            go_simp
                            exact hK' _ _ (hI.put 5 rfl (by decide) HND.out HLS.out  (Ch.refl _ _) rfl hI.wld)
                          · simp at ho
                            have e5 : lg L 5 = true := by unfold lg; simpa using hall ⟨5, .data⟩ (by rw [← ho]; simp) rfl
                            have f5 : gt a 131 = .int .i64 0 := hI.val 5 _ rfl e5
                            have q10 := (hI.fixed 10 (by simp)).trans F10.out
                            unfold gt at f5 q10
                            clear hall
                            clear ho
                            refine wpOp_step (o := _) rfl (fun K' hK' => ?_)
                            go_simp
                            exact hK' _ _ (hI.put 6 rfl (by decide) HND.out HLS.out  (Ch.refl _ _) rfl hI.wld)
                          · simp at ho
                            have e6 : lg L 6 = true := by unfold lg; simpa using hall ⟨6, .data⟩ (by rw [← ho]; simp) rfl
                            have f6 : gt a 132 = .pointer (some ⟨Kb, 0, none⟩) := hI.val 6 _ rfl e6
                            have hcl := hI.wld.get HQ0.out id
                            unfold gt at f6
                            clear hall
                            clear ho
                            refine wpOp_step (o := _) rfl (fun K' hK' => ?_)
                            go_simp
                            exact hK' _ _ (hI.put 7 rfl (by decide) HND.out HLS.out  (Ch.refl _ _) rfl hI.wld)
                          · have q13 := (hI.fixed 13 (by simp)).trans F13.out
                            unfold gt at q13
                            clear hall
                            refine wpOp_step (o := _) rfl (fun K' hK' => ?_)
                            go_simp
                            exact hK' _ _ (hI.put 8 rfl (by decide) HND.out HLS.out  (Ch.refl _ _) rfl hI.wld)
                          · simp at ho
                            have e8 : lg L 8 = true := by unfold lg; simpa using hall ⟨8, .data⟩ (by rw [← ho]; simp) rfl
                            have f8 : gt a 134 = .int .i64 0 := hI.val 8 _ rfl e8
                            have q11 := (hI.fixed 11 (by simp)).trans F11.out
                            unfold gt at f8 q11
                            clear hall
                            clear ho
                            refine wpOp_step (o := _) rfl (fun K' hK' => ?_)
                            go_simp
                            exact hK' _ _ (hI.put 9 rfl (by decide) HND.out HLS.out  (Ch.refl _ _) rfl hI.wld)
                          · simp at ho
                            have e9 : lg L 9 = true := by unfold lg; simpa using hall ⟨9, .data⟩ (by rw [← ho]; simp) rfl
                            have f9 : gt a 135 = .pointer (some ⟨Ab, 0, none⟩) := hI.val 9 _ rfl e9
                            have hcl := hI.wld.get HA0.out id
                            unfold gt at f9
                            clear hall
                            clear ho
                            refine wpOp_step (o := _) rfl (fun K' hK' => ?_)
                            go_simp
                            exact hK' _ _ (hI.put 10 rfl (by decide) HND.out HLS.out  (Ch.refl _ _) rfl hI.wld)
                          · simp at ho
                            have e7 : lg L 7 = true := by unfold lg; simpa using hall ⟨7, .data⟩ (by rw [← ho]; simp) rfl
                            have f7 : gt a 133 = .slice (kp 0) (kn 0) (kc 0) := hI.val 7 _ rfl e7
                            have e10 : lg L 10 = true := by unfold lg; simpa using hall ⟨10, .data⟩ (by rw [← ho]; simp) rfl
                            have f10 : gt a 136 = .slice (q 0) (le 0) (c 0) := hI.val 10 _ rfl e10
                            unfold gt at f7 f10
                            clear hall
                            clear ho
                            have HCT := Go.Lib.hid (HRA.out w' hI.wld)
                            refine wpOp_step (o := _) rfl (fun K' hK' => ?_)
                            go_simp
                            refine HCT.out.mono ?_
                            rintro e w3 ⟨rfl, hc⟩
                            exact hK' _ _ (hI.put 11 rfl (by decide) HND.out HLS.out  hc rfl (hI.wld.trans hc))
                        · intro L a w' hI hal
                          have hfr := hI.frame HSZ.out (by simp) (fun i hi => hal i hi)
                          have k0 : gt a 126 = .slice (some ⟨Mb, 0, none⟩) 2 2 := hI.val 0 _ rfl (hal 0 (by decide))
                          have k1 : gt a 127 = .int .i64 0 := hI.val 1 _ rfl (hal 1 (by decide))
                          have k2 : gt a 128 = .pointer (some ⟨Mb, 0, none⟩) := hI.val 2 _ rfl (hal 2 (by decide))
                          have k3 : gt a 129 = .pointer (some ⟨b 0, 0, none⟩) := hI.val 3 _ rfl (hal 3 (by decide))
                          have k4 : gt a 130 = .agg R0 := hI.val 4 _ rfl (hal 4 (by decide))
                          have k5 : gt a 131 = .int .i64 0 := hI.val 5 _ rfl (hal 5 (by decide))
                          have k6 : gt a 132 = .pointer (some ⟨Kb, 0, none⟩) := hI.val 6 _ rfl (hal 6 (by decide))
                          have k7 : gt a 133 = .slice (kp 0) (kn 0) (kc 0) := hI.val 7 _ rfl (hal 7 (by decide))
                          have k8 : gt a 134 = .int .i64 0 := hI.val 8 _ rfl (hal 8 (by decide))
                          have k9 : gt a 135 = .pointer (some ⟨Ab, 0, none⟩) := hI.val 9 _ rfl (hal 9 (by decide))
                          have k10 : gt a 136 = .slice (q 0) (le 0) (c 0) := hI.val 10 _ rfl (hal 10 (by decide))
                          have k11 : gt a 137 = .agg R0 := hI.val 11 _ rfl (hal 11 (by decide))
                          rw [hfr, ← HAX.out]
                          have HCR := Go.Lib.hid hI.wld
                          simp only [List.map_cons, List.map_nil, List.foldl_cons, List.foldl_nil, k0, k1, k2, k3, k4, k5, k6, k7, k8, k9, k10, k11, List.setIfInBounds_toArray, List.set_cons_succ, List.set_cons_zero]
                          clear hfr hI hal k0 k1 k2 k3 k4 k5 k6 k7 k8 k9 k10 k11  HSZ HND HLS HAX F8 F10 F11 F13
                          simp only [List.drop_succ_cons, List.drop_zero]
                          go_wp2_with (refine wpList_neq rfl (.tmp 130) (.tmp 137) 28 28 rfl R0 R0 rfl rfl eqg28 (HEA.out _) ?_)
                          go_roundw
                          case rel => exact ⟨rd + 1, by omega, by go_num, ⟨b, r, kp, kn, kc, kf, q, le, c, F, HP.out.ch HCR.out, fun t ht => by have := HLL.out t ht; omega⟩, HC.out.trans HCR.out⟩
                          case measure => simp [intOf]; omega
                      · have w1' : (W0 == 1) = false := by simpa using w1
                        have hrm := HP.out.runs 1 (by omega)
                        have h3 := HP.out.three
                        have hlM := row_lt HP.out.rowM; have hlK := row_lt HP.out.rowK; have hlA := row_lt HP.out.rowA
                        have HDS := Go.Lib.hid (show Mb < wr.heap.size ∧ Kb < wr.heap.size ∧ Ab < wr.heap.size from ⟨hlM, hlK, hlA⟩)
                        have HSW := Go.Lib.hid (show w.heap.size ≤ wr.heap.size from HC.out.size)
                        have HCP := Go.Lib.hid (fun W (hc : Ch (fun t => t = Mb ∨ t = Kb ∨ t = Ab) wr W) => mcopy_any (b 1) (r 1) (64 + le 1) _ _ W ((HP.out.mac 1 (by omega)).ch hc (show ¬ (b 1 = Mb ∨ b 1 = Kb ∨ b 1 = Ab) by omega) (show ¬ (r 1 = Mb ∨ r 1 = Kb ∨ r 1 = Ab) by omega)))
                        have HST := Go.Lib.hid (I20.start (n := 0) (l := 1) (f := inK (kb (kf 1) (kn 1)) (F 1)) (N := 64 + le 1) (o := fun j => kb (kf 1) (kn 1) j ^^^ 92) (SM := 19) (SK := 21) (SA := 23) (T := 24) HP.out.rowM HP.out.rowK HP.out.rowA ⟨h3.2.2.2.1, h3.2.2.2.2.1, h3.2.2.2.2.2⟩)
                        clear hrm h3 hlM hlK hlA
                        go_upto_region 20 with (fail)
                        refine wp_region_any (by kernel_rfl) ?_
                        generalize hax : Act.mk _ _ = ax
                        have HSZ := Go.Lib.hid (show ax.tmps.size = 186 by rw [← hax]; rfl)
                        have F8 := Go.Lib.hid (show gt ax 8 = .slice (some ⟨Mb, 0, none⟩) 2 2 by rw [← hax]; rfl)
                        have F10 := Go.Lib.hid (show gt ax 10 = .pointer (some ⟨Kb, 0, none⟩) by rw [← hax]; rfl)
                        have F11 := Go.Lib.hid (show gt ax 11 = .pointer (some ⟨Ab, 0, none⟩) by rw [← hax]; rfl)
                        have F13 := Go.Lib.hid (show gt ax 13 = .int .i64 0 by rw [← hax]; rfl)
                        have HAX := Go.Lib.hid hax
                        clear hax
                        have HND := Go.Lib.hid (show ([76, 77, 78, 79, 80, 81, 82, 83, 84, 85, 86, 87, 88, 89, 90, 91, 92, 93, 94, 95, 96] : List Nat).Nodup by decide)
                        have HN1 := Go.Lib.hid (show ([0, 1, 2, 3, 4, 5, 6, 7, 8, 9, 10, 11, 12, 13, 14, 15, 16, 17, 18, 20, 22] : List Nat).Nodup by decide)
                        have HLS : Hid (LastsS (fun t => t = Mb ∨ t = Kb ∨ t = Ab) [(0, 76, fun x _ => x = .slice (some ⟨Mb, 0, none⟩) 2 2), (1, 77, fun x _ => x = .int .i64 0), (2, 78, fun x _ => x = .int .i64 0), (3, 79, fun x _ => x = .int .i64 0), (4, 80, fun x _ => x = .slice (some ⟨Mb, 0, none⟩) 2 2), (5, 81, fun x _ => x = .int .i64 0), (6, 82, fun x _ => x = .int .i64 1), (7, 83, fun x _ => x = .pointer (some ⟨Mb, 1, none⟩)), (8, 84, fun x _ => x = .pointer (some ⟨b 1, 0, none⟩)), (9, 85, fun x v => ∃ g c, x = .pointer (some ⟨g, 0, none⟩) ∧ CopyOf wr v g c (inK (kb (kf 1) (kn 1)) (F 1)) (64 + le 1) (fun j => kb (kf 1) (kn 1) j ^^^ 92)), (10, 86, fun x _ => x = .int .i64 0), (11, 87, fun x _ => x = .int .i64 1), (12, 88, fun x _ => x = .pointer (some ⟨Kb, 1, none⟩)), (13, 89, fun x _ => x = .slice (kp 1) (kn 1) (kc 1)), (14, 90, fun x _ => x = .int .i64 0), (15, 91, fun x _ => x = .int .i64 1), (16, 92, fun x _ => x = .pointer (some ⟨Ab, 1, none⟩)), (17, 93, fun x _ => x = .slice (q 1) (le 1) (c 1)), (18, 94, fun x _ => x = .pointer (some ⟨Mb, 0, none⟩)), (20, 95, fun x _ => x = .pointer (some ⟨Kb, 0, none⟩)), (22, 96, fun x _ => x = .pointer (some ⟨Ab, 0, none⟩))]) := Go.Lib.hid (by
                          intro q hq v w1 w2 hc h
                          simp only [List.mem_cons, List.not_mem_nil, or_false] at hq
                          rcases hq with rfl | rfl | rfl | rfl | rfl | rfl | rfl | rfl | rfl | rfl | rfl | rfl | rfl | rfl | rfl | rfl | rfl | rfl | rfl | rfl | rfl
                          all_goals first | exact h | (obtain ⟨g, c, h1, h2⟩ := h; exact ⟨g, c, h1, h2.but hc (fun i hi e => by have := HDS.out; omega)⟩))
                        refine wpAny_inv (InvS 186 24 (fun t => t = Mb ∨ t = Kb ∨ t = Ab) [(0, 76, fun x _ => x = .slice (some ⟨Mb, 0, none⟩) 2 2), (1, 77, fun x _ => x = .int .i64 0), (2, 78, fun x _ => x = .int .i64 0), (3, 79, fun x _ => x = .int .i64 0), (4, 80, fun x _ => x = .slice (some ⟨Mb, 0, none⟩) 2 2), (5, 81, fun x _ => x = .int .i64 0), (6, 82, fun x _ => x = .int .i64 1), (7, 83, fun x _ => x = .pointer (some ⟨Mb, 1, none⟩)), (8, 84, fun x _ => x = .pointer (some ⟨b 1, 0, none⟩)), (9, 85, fun x v => ∃ g c, x = .pointer (some ⟨g, 0, none⟩) ∧ CopyOf wr v g c (inK (kb (kf 1) (kn 1)) (F 1)) (64 + le 1) (fun j => kb (kf 1) (kn 1) j ^^^ 92)), (10, 86, fun x _ => x = .int .i64 0), (11, 87, fun x _ => x = .int .i64 1), (12, 88, fun x _ => x = .pointer (some ⟨Kb, 1, none⟩)), (13, 89, fun x _ => x = .slice (kp 1) (kn 1) (kc 1)), (14, 90, fun x _ => x = .int .i64 0), (15, 91, fun x _ => x = .int .i64 1), (16, 92, fun x _ => x = .pointer (some ⟨Ab, 1, none⟩)), (17, 93, fun x _ => x = .slice (q 1) (le 1) (c 1)), (18, 94, fun x _ => x = .pointer (some ⟨Mb, 0, none⟩)), (20, 95, fun x _ => x = .pointer (some ⟨Kb, 0, none⟩)), (22, 96, fun x _ => x = .pointer (some ⟨Ab, 0, none⟩))] (I20 wr Mb Kb Ab 0 1 b (fun i => .slice (kp i) (kn i) (kc i)) (fun i => .slice (q i) (le i) (c i)) (inK (kb (kf 1) (kn 1)) (F 1)) (64 + le 1) (fun j => kb (kf 1) (kn 1) j ^^^ 92) 19 21 23 24) ax) ?_ ?_ _ _ _ _ rfl (by decide) (InvS.start HSZ.out (HST.out))
                        · intro L a w' i hI hr
                          obtain ⟨h1, o, ho, hall⟩ := mem_ready.1 hr
                          have hlt : i < 24 := (Array.getElem?_eq_some_iff.1 ho).1
                          have hun : lg L i = false := by
                            have h2 : i < L.size := Nat.lt_of_lt_of_le hlt (Nat.le_of_eq hI.lsize.symm)
                            unfold lg; simp [h2] at h1 ⊢; exact h1
                          have hsplit : i = 0 ∨ i = 1 ∨ i = 2 ∨ i = 3 ∨ i = 4 ∨ i = 5 ∨ i = 6 ∨ i = 7 ∨ i = 8 ∨ i = 9 ∨ i = 10 ∨ i = 11 ∨ i = 12 ∨ i = 13 ∨ i = 14 ∨ i = 15 ∨ i = 16 ∨ i = 17 ∨ i = 18 ∨ i = 19 ∨ i = 20 ∨ i = 21 ∨ i = 22 ∨ i = 23 := by omega
                          clear hlt h1 hr
                          rcases hsplit with rfl | rfl | rfl | rfl | rfl | rfl | rfl | rfl | rfl | rfl | rfl | rfl | rfl | rfl | rfl | rfl | rfl | rfl | rfl | rfl | rfl | rfl | rfl | rfl
                          · have q8 := (hI.fixed 8 (by simp)).trans F8.out
                            unfold gt at q8
                            clear hall
                            refine wpOp_step (o := _) rfl (fun K' hK' => ?_)
                            go_simp
                            exact hK' _ _ (hI.put 0 rfl (by decide) (by decide) HND.out HN1.out HLS.out (Ch.refl _ _) rfl (hI.wld.step 0 (by decide) (by decide) (by decide) (by decide) (Ch.refl _ _)))
                          · have q13 := (hI.fixed 13 (by simp)).trans F13.out
                            unfold gt at q13
                            clear hall
                            refine wpOp_step (o := _) rfl (fun K' hK' => ?_)
                            go_simp
                            exact hK' _ _ (hI.put 1 rfl (by decide) (by decide) HND.out HN1.out HLS.out (Ch.refl _ _) rfl (hI.wld.step 1 (by decide) (by decide) (by decide) (by decide) (Ch.refl _ _)))
                          · have q13 := (hI.fixed 13 (by simp)).trans F13.out
                            unfold gt at q13
                            clear hall
                            refine wpOp_step (o := _) rfl (fun K' hK' => ?_)
                            go_simp
                            exact hK' _ _ (hI.put 2 rfl (by decide) (by decide) HND.out HN1.out HLS.out (Ch.refl _ _) rfl (hI.wld.step 2 (by decide) (by decide) (by decide) (by decide) (Ch.refl _ _)))
                          · have q13 := (hI.fixed 13 (by simp)).trans F13.out
                            unfold gt at q13
                            clear hall
                            refine wpOp_step (o := _) rfl (fun K' hK' => ?_)
                            go_simp
                            exact hK' _ _ (hI.put 3 rfl (by decide) (by decide) HND.out HN1.out HLS.out (Ch.refl _ _) rfl (hI.wld.step 3 (by decide) (by decide) (by decide) (by decide) (Ch.refl _ _)))
                          · have q8 := (hI.fixed 8 (by simp)).trans F8.out
                            unfold gt at q8
                            clear hall
                            refine wpOp_step (o := _) rfl (fun K' hK' => ?_)
                            go_simp
                            exact hK' _ _ (hI.put 4 rfl (by decide) (by decide) HND.out HN1.out HLS.out (Ch.refl _ _) rfl (hI.wld.step 4 (by decide) (by decide) (by decide) (by decide) (Ch.refl _ _)))
                          · have q13 := (hI.fixed 13 (by simp)).trans F13.out
                            unfold gt at q13
                            clear hall
                            refine wpOp_step (o := _) rfl (fun K' hK' => ?_)
                            go_simp
                            exact hK' _ _ (hI.put 5 rfl (by decide) (by decide) HND.out HN1.out HLS.out (Ch.refl _ _) rfl (hI.wld.step 5 (by decide) (by decide) (by decide) (by decide) (Ch.refl _ _)))
                          · simp at ho
                            have e5 : lg L 5 = true := by unfold lg; simpa using hall ⟨5, .data⟩ (by rw [← ho]; simp) rfl
                            have f5 : gt a 81 = .int .i64 0 := hI.val 5 _ rfl e5
                            unfold gt at f5
                            clear hall
                            clear ho
                            refine wpOp_step (o := _) rfl (fun K' hK' => ?_)
                            go_simp
                            exact hK' _ _ (hI.put 6 rfl (by decide) (by decide) HND.out HN1.out HLS.out (Ch.refl _ _) rfl (hI.wld.step 6 (by decide) (by decide) (by decide) (by decide) (Ch.refl _ _)))
                          · simp at ho
                            have e4 : lg L 4 = true := by unfold lg; simpa using hall ⟨4, .data⟩ (by rw [← ho]; simp) rfl
                            have f4 : gt a 80 = .slice (some ⟨Mb, 0, none⟩) 2 2 := hI.val 4 _ rfl e4
                            have e6 : lg L 6 = true := by unfold lg; simpa using hall ⟨6, .data⟩ (by rw [← ho]; simp) rfl
                            have f6 : gt a 82 = .int .i64 1 := hI.val 6 _ rfl e6
                            unfold gt at f4 f6
                            clear hall
                            clear ho
                            refine wpOp_step (o := _) rfl (fun K' hK' => ?_)
                            go_simp
                            exact hK' _ _ (hI.put 7 rfl (by decide) (by decide) HND.out HN1.out HLS.out (Ch.refl _ _) rfl (hI.wld.step 7 (by decide) (by decide) (by decide) (by decide) (Ch.refl _ _)))
                          · simp at ho
                            have e7 : lg L 7 = true := by unfold lg; simpa using hall ⟨7, .data⟩ (by rw [← ho]; simp) rfl
                            have f7 : gt a 83 = .pointer (some ⟨Mb, 1, none⟩) := hI.val 7 _ rfl e7
                            have hcl : w'.cell? ⟨Mb, 1, none⟩ = some (.pointer (some ⟨b 1, 0, none⟩)) := hI.wld.ldM (by decide) (by decide)
                            unfold gt at f7
                            clear hall
                            clear ho
                            refine wpOp_step (o := _) rfl (fun K' hK' => ?_)
                            go_simp
                            exact hK' _ _ (hI.put 8 rfl (by decide) (by decide) HND.out HN1.out HLS.out (Ch.refl _ _) rfl (hI.wld.step 8 (by decide) (by decide) (by decide) (by decide) (Ch.refl _ _)))
                          · simp at ho
                            have e8 : lg L 8 = true := by unfold lg; simpa using hall ⟨8, .data⟩ (by rw [← ho]; simp) rfl
                            have f8 : gt a 84 = .pointer (some ⟨b 1, 0, none⟩) := hI.val 8 _ rfl e8
                            unfold gt at f8
                            clear hall
                            clear ho
                            have HCT := Go.Lib.hid (HCP.out w' hI.wld.ch)
                            refine wpOp_step (o := _) rfl (fun K' hK' => ?_)
                            go_simp
                            refine HCT.out.mono ?_
                            rintro e w3 ⟨b', r', rfl, h1, h2, h3, h4, hc⟩
                            exact hK' _ _ (hI.put 9 rfl (by decide) (by decide) HND.out HN1.out HLS.out (hc.mono (fun _ _ e => e.elim)) ⟨b', r', rfl, ⟨h4, Nat.le_trans hI.wld.ch.size h1, h2⟩⟩ (hI.wld.step 9 (by decide) (by decide) (by decide) (by decide) hc))
                          · have q13 := (hI.fixed 13 (by simp)).trans F13.out
                            unfold gt at q13
                            clear hall
                            refine wpOp_step (o := _) rfl (fun K' hK' => ?_)
                            go_simp
                            exact hK' _ _ (hI.put 10 rfl (by decide) (by decide) HND.out HN1.out HLS.out (Ch.refl _ _) rfl (hI.wld.step 10 (by decide) (by decide) (by decide) (by decide) (Ch.refl _ _)))
                          · simp at ho
                            have e10 : lg L 10 = true := by unfold lg; simpa using hall ⟨10, .data⟩ (by rw [← ho]; simp) rfl
                            have f10 : gt a 86 = .int .i64 0 := hI.val 10 _ rfl e10
                            unfold gt at f10
                            clear hall
                            clear ho
                            refine wpOp_step (o := _) rfl (fun K' hK' => ?_)
                            go_simp
                            exact hK' _ _ (hI.put 11 rfl (by decide) (by decide) HND.out HN1.out HLS.out (Ch.refl _ _) rfl (hI.wld.step 11 (by decide) (by decide) (by decide) (by decide) (Ch.refl _ _)))
                          · simp at ho
                            have e11 : lg L 11 = true := by unfold lg; simpa using hall ⟨11, .data⟩ (by rw [← ho]; simp) rfl
                            have f11 : gt a 87 = .int .i64 1 := hI.val 11 _ rfl e11
                            have q10 := (hI.fixed 10 (by simp)).trans F10.out
                            unfold gt at f11 q10
                            clear hall
                            clear ho
                            refine wpOp_step (o := _) rfl (fun K' hK' => ?_)
                            go_simp
                            exact hK' _ _ (hI.put 12 rfl (by decide) (by decide) HND.out HN1.out HLS.out (Ch.refl _ _) rfl (hI.wld.step 12 (by decide) (by decide) (by decide) (by decide) (Ch.refl _ _)))
                          · simp at ho
                            have e12 : lg L 12 = true := by unfold lg; simpa using hall ⟨12, .data⟩ (by rw [← ho]; simp) rfl
                            have f12 : gt a 88 = .pointer (some ⟨Kb, 1, none⟩) := hI.val 12 _ rfl e12
                            have hcl : w'.cell? ⟨Kb, 1, none⟩ = some (.slice (kp 1) (kn 1) (kc 1)) := hI.wld.ldK (by decide) (by decide)
                            unfold gt at f12
                            clear hall
                            clear ho
                            refine wpOp_step (o := _) rfl (fun K' hK' => ?_)
                            go_simp
                            exact hK' _ _ (hI.put 13 rfl (by decide) (by decide) HND.out HN1.out HLS.out (Ch.refl _ _) rfl (hI.wld.step 13 (by decide) (by decide) (by decide) (by decide) (Ch.refl _ _)))
                          · have q13 := (hI.fixed 13 (by simp)).trans F13.out
                            unfold gt at q13
                            clear hall
                            refine wpOp_step (o := _) rfl (fun K' hK' => ?_)
                            go_simp
                            exact hK' _ _ (hI.put 14 rfl (by decide) (by decide) HND.out HN1.out HLS.out (Ch.refl _ _) rfl (hI.wld.step 14 (by decide) (by decide) (by decide) (by decide) (Ch.refl _ _)))
                          · simp at ho
                            have e14 : lg L 14 = true := by unfold lg; simpa using hall ⟨14, .data⟩ (by rw [← ho]; simp) rfl
                            have f14 : gt a 90 = .int .i64 0 := hI.val 14 _ rfl e14
                            unfold gt at f14
                            clear hall
                            clear ho
                            refine wpOp_step (o := _) rfl (fun K' hK' => ?_)
                            go_simp
                            exact hK' _ _ (hI.put 15 rfl (by decide) (by decide) HND.out HN1.out HLS.out (Ch.refl _ _) rfl (hI.wld.step 15 (by decide) (by decide) (by decide) (by decide) (Ch.refl _ _)))
                          · simp at ho
                            have e15 : lg L 15 = true := by unfold lg; simpa using hall ⟨15, .data⟩ (by rw [← ho]; simp) rfl
                            have f15 : gt a 91 = .int .i64 1 := hI.val 15 _ rfl e15
                            have q11 := (hI.fixed 11 (by simp)).trans F11.out
                            unfold gt at f15 q11
                            clear hall
                            clear ho
                            refine wpOp_step (o := _) rfl (fun K' hK' => ?_)
                            go_simp
                            exact hK' _ _ (hI.put 16 rfl (by decide) (by decide) HND.out HN1.out HLS.out (Ch.refl _ _) rfl (hI.wld.step 16 (by decide) (by decide) (by decide) (by decide) (Ch.refl _ _)))
                          · simp at ho
                            have e16 : lg L 16 = true := by unfold lg; simpa using hall ⟨16, .data⟩ (by rw [← ho]; simp) rfl
                            have f16 : gt a 92 = .pointer (some ⟨Ab, 1, none⟩) := hI.val 16 _ rfl e16
                            have hcl : w'.cell? ⟨Ab, 1, none⟩ = some (.slice (q 1) (le 1) (c 1)) := hI.wld.ldA (by decide) (by decide)
                            unfold gt at f16
                            clear hall
                            clear ho
                            refine wpOp_step (o := _) rfl (fun K' hK' => ?_)
                            go_simp
                            exact hK' _ _ (hI.put 17 rfl (by decide) (by decide) HND.out HN1.out HLS.out (Ch.refl _ _) rfl (hI.wld.step 17 (by decide) (by decide) (by decide) (by decide) (Ch.refl _ _)))
                          · simp at ho
                            have e0 : lg L 0 = true := by unfold lg; simpa using hall ⟨0, .data⟩ (by rw [← ho]; simp) rfl
                            have f0 : gt a 76 = .slice (some ⟨Mb, 0, none⟩) 2 2 := hI.val 0 _ rfl e0
                            have e1 : lg L 1 = true := by unfold lg; simpa using hall ⟨1, .data⟩ (by rw [← ho]; simp) rfl
                            have f1 : gt a 77 = .int .i64 0 := hI.val 1 _ rfl e1
                            unfold gt at f0 f1
                            clear hall
                            clear ho
                            refine wpOp_step (o := _) rfl (fun K' hK' => ?_)
                            go_simp
                            exact hK' _ _ (hI.put 18 rfl (by decide) (by decide) HND.out HN1.out HLS.out (Ch.refl _ _) rfl (hI.wld.step 18 (by decide) (by decide) (by decide) (by decide) (Ch.refl _ _)))
                          · simp at ho
                            have e18 : lg L 18 = true := by unfold lg; simpa using hall ⟨18, .data⟩ (by rw [← ho]; simp) rfl
                            have f18 : gt a 94 = .pointer (some ⟨Mb, 0, none⟩) := hI.val 18 _ rfl e18
                            have e9 : lg L 9 = true := by unfold lg; simpa using hall ⟨9, .data⟩ (by rw [← ho]; simp) rfl
                            obtain ⟨g9, c9, f9, hh9⟩ : (fun x v => ∃ g c, x = .pointer (some ⟨g, 0, none⟩) ∧ CopyOf wr v g c (inK (kb (kf 1) (kn 1)) (F 1)) (64 + le 1) (fun j => kb (kf 1) (kn 1) j ^^^ 92)) (gt a 85) w' := hI.val 9 _ rfl e9
                            unfold gt at f18 f9
                            clear hall
                            clear ho
                            have hrow := hI.wld.m0 hun
                            have hcl := (cell_of_heap hrow 0).trans (arr_get 2 _ 0 (by omega))
                            have hfz := frozen_of_heap hrow 0
                            refine wpOp_step (o := _) rfl (fun K' hK' => ?_)
                            clear hrow
                            go_simp
                            exact hK' _ _ (hI.skip 19 (by decide) (by simp) HLS.out (Ch.setCell (S := fun t => t = Mb ∨ t = Kb ∨ t = Ab) (Ch.refl _ _) (p := ⟨Mb, 0, none⟩) (fun _ => by simp) _) (hI.wld.stM (by decide) (by decide) hun hh9))
                          · simp at ho
                            have e2 : lg L 2 = true := by unfold lg; simpa using hall ⟨2, .data⟩ (by rw [← ho]; simp) rfl
                            have f2 : gt a 78 = .int .i64 0 := hI.val 2 _ rfl e2
                            have q10 := (hI.fixed 10 (by simp)).trans F10.out
                            unfold gt at f2 q10
                            clear hall
                            clear ho
                            refine wpOp_step (o := _) rfl (fun K' hK' => ?_)
                            go_simp
                            exact hK' _ _ (hI.put 19 rfl (by decide) (by decide) HND.out HN1.out HLS.out (Ch.refl _ _) rfl (hI.wld.step 20 (by decide) (by decide) (by decide) (by decide) (Ch.refl _ _)))
                          · simp at ho
                            have e20 : lg L 20 = true := by unfold lg; simpa using hall ⟨20, .data⟩ (by rw [← ho]; simp) rfl
                            have f20 : gt a 95 = .pointer (some ⟨Kb, 0, none⟩) := hI.val 19 _ rfl e20
                            have e13 : lg L 13 = true := by unfold lg; simpa using hall ⟨13, .data⟩ (by rw [← ho]; simp) rfl
                            have f13 : gt a 89 = .slice (kp 1) (kn 1) (kc 1) := hI.val 13 _ rfl e13
                            unfold gt at f20 f13
                            clear hall
                            clear ho
                            have hrow := hI.wld.k0 hun
                            have hcl := (cell_of_heap hrow 0).trans (arr_get 2 _ 0 (by omega))
                            have hfz := frozen_of_heap hrow 0
                            refine wpOp_step (o := _) rfl (fun K' hK' => ?_)
                            clear hrow
                            go_simp
                            exact hK' _ _ (hI.skip 21 (by decide) (by simp) HLS.out (Ch.setCell (S := fun t => t = Mb ∨ t = Kb ∨ t = Ab) (Ch.refl _ _) (p := ⟨Kb, 0, none⟩) (fun _ => by simp) _) (hI.wld.stK (by decide) (by decide) hun))
                          · simp at ho
                            have e3 : lg L 3 = true := by unfold lg; simpa using hall ⟨3, .data⟩ (by rw [← ho]; simp) rfl
                            have f3 : gt a 79 = .int .i64 0 := hI.val 3 _ rfl e3
                            have q11 := (hI.fixed 11 (by simp)).trans F11.out
                            unfold gt at f3 q11
                            clear hall
                            clear ho
                            refine wpOp_step (o := _) rfl (fun K' hK' => ?_)
                            go_simp
                            exact hK' _ _ (hI.put 20 rfl (by decide) (by decide) HND.out HN1.out HLS.out (Ch.refl _ _) rfl (hI.wld.step 22 (by decide) (by decide) (by decide) (by decide) (Ch.refl _ _)))
                          · simp at ho
                            have e22 : lg L 22 = true := by unfold lg; simpa using hall ⟨22, .data⟩ (by rw [← ho]; simp) rfl
                            have f22 : gt a 96 = .pointer (some ⟨Ab, 0, none⟩) := hI.val 20 _ rfl e22
                            have e17 : lg L 17 = true := by unfold lg; simpa using hall ⟨17, .data⟩ (by rw [← ho]; simp) rfl
                            have f17 : gt a 93 = .slice (q 1) (le 1) (c 1) := hI.val 17 _ rfl e17
                            unfold gt at f22 f17
                            clear hall
                            clear ho
                            have hrow := hI.wld.a0 hun
                            have hcl := (cell_of_heap hrow 0).trans (arr_get 2 _ 0 (by omega))
                            have hfz := frozen_of_heap hrow 0
                            refine wpOp_step (o := _) rfl (fun K' hK' => ?_)
                            clear hrow
                            go_simp
                            exact hK' _ _ (hI.skip 23 (by decide) (by simp) HLS.out (Ch.setCell (S := fun t => t = Mb ∨ t = Kb ∨ t = Ab) (Ch.refl _ _) (p := ⟨Ab, 0, none⟩) (fun _ => by simp) _) (hI.wld.stA (by decide) (by decide) hun))
                        · intro L a w' hI hr
                          have hal := all_listed' (md := .any) (by kernel_rfl) hI.lsize hr
                          have hfr := hI.frame HSZ.out (by simp)
                          have k0 : gt a 76 = .slice (some ⟨Mb, 0, none⟩) 2 2 := hI.val 0 _ rfl (hal 0 (by decide))
                          have k1 : gt a 77 = .int .i64 0 := hI.val 1 _ rfl (hal 1 (by decide))
                          have k2 : gt a 78 = .int .i64 0 := hI.val 2 _ rfl (hal 2 (by decide))
                          have k3 : gt a 79 = .int .i64 0 := hI.val 3 _ rfl (hal 3 (by decide))
                          have k4 : gt a 80 = .slice (some ⟨Mb, 0, none⟩) 2 2 := hI.val 4 _ rfl (hal 4 (by decide))
                          have k5 : gt a 81 = .int .i64 0 := hI.val 5 _ rfl (hal 5 (by decide))
                          have k6 : gt a 82 = .int .i64 1 := hI.val 6 _ rfl (hal 6 (by decide))
                          have k7 : gt a 83 = .pointer (some ⟨Mb, 1, none⟩) := hI.val 7 _ rfl (hal 7 (by decide))
                          have k8 : gt a 84 = .pointer (some ⟨b 1, 0, none⟩) := hI.val 8 _ rfl (hal 8 (by decide))
                          obtain ⟨g9, c9, k9, hh9⟩ : (fun x v => ∃ g c, x = .pointer (some ⟨g, 0, none⟩) ∧ CopyOf wr v g c (inK (kb (kf 1) (kn 1)) (F 1)) (64 + le 1) (fun j => kb (kf 1) (kn 1) j ^^^ 92)) (gt a 85) w' := hI.val 9 _ rfl (hal 9 (by decide))
                          have H9 := Go.Lib.hid hh9
                          have k10 : gt a 86 = .int .i64 0 := hI.val 10 _ rfl (hal 10 (by decide))
                          have k11 : gt a 87 = .int .i64 1 := hI.val 11 _ rfl (hal 11 (by decide))
                          have k12 : gt a 88 = .pointer (some ⟨Kb, 1, none⟩) := hI.val 12 _ rfl (hal 12 (by decide))
                          have k13 : gt a 89 = .slice (kp 1) (kn 1) (kc 1) := hI.val 13 _ rfl (hal 13 (by decide))
                          have k14 : gt a 90 = .int .i64 0 := hI.val 14 _ rfl (hal 14 (by decide))
                          have k15 : gt a 91 = .int .i64 1 := hI.val 15 _ rfl (hal 15 (by decide))
                          have k16 : gt a 92 = .pointer (some ⟨Ab, 1, none⟩) := hI.val 16 _ rfl (hal 16 (by decide))
                          have k17 : gt a 93 = .slice (q 1) (le 1) (c 1) := hI.val 17 _ rfl (hal 17 (by decide))
                          have k18 : gt a 94 = .pointer (some ⟨Mb, 0, none⟩) := hI.val 18 _ rfl (hal 18 (by decide))
                          have k20 : gt a 95 = .pointer (some ⟨Kb, 0, none⟩) := hI.val 19 _ rfl (hal 20 (by decide))
                          have k22 : gt a 96 = .pointer (some ⟨Ab, 0, none⟩) := hI.val 20 _ rfl (hal 22 (by decide))
                          rw [hfr, ← HAX.out]
                          have HMX := Go.Lib.hid (hI.wld.m1 (hal 19 (by decide))); have HKX := Go.Lib.hid (hI.wld.k1 (hal 21 (by decide))); have HAX2 := Go.Lib.hid (hI.wld.a1 (hal 23 (by decide))); have HCH := Go.Lib.hid hI.wld.ch
                          simp only [List.map_cons, List.map_nil, List.foldl_cons, List.foldl_nil, k0, k1, k2, k3, k4, k5, k6, k7, k8, k9, k10, k11, k12, k13, k14, k15, k16, k17, k18, k20, k22, List.setIfInBounds_toArray, List.set_cons_succ, List.set_cons_zero]
                          clear hfr hI hal hr k0 k1 k2 k3 k4 k5 k6 k7 k8 k9 k10 k11 k12 k13 k14 k15 k16 k17 k18 k20 k22 hh9 HSZ HND HN1 HLS HAX F8 F10 F11 F13
                          obtain ⟨x, y, hcp, hrM⟩ := HMX.out
                          have hp2 := HP.out.copied2 (k := 0) (l := 1) (by omega) HCH.out hcp.late.1 hcp.late.2 hcp.mac HSW.out hrM HKX.out HAX2.out
                          have HP2 := Go.Lib.hid hp2
                          have HCW2 := Go.Lib.hid (show Ch (fun _ => False) w w' from HC.out.then HCH.out (fun i hi e => by have := HP.out.three; omega))
                          clear hcp hrM hp2 HMX HKX HAX2 HCH H9 HCP HST HDS HSW
                          go_wp2_with fail
                          go_roundw
                          case rel =>
                            refine ⟨rd + 1, by omega, by go_num, ⟨_, _, _, _, _, _, _, _, _, _, HP2.out, fun t ht => ?_⟩, HCW2.out⟩
                            by_cases e : t = 0
                            · subst e; rw [put2_self]; omega
                            · rw [put2_ne _ _ _ _ e]; have := HLL.out t ht; omega
                          case measure => simp [intOf]; omega
                  | true =>
                    by_cases w0 : W0 = 0
                    · subst w0
                      obtain ⟨x, y, hq, hg⟩ : ∃ x y, ((bp0 = some ⟨x, y, none⟩ ∧ x ≠ r 1) ∨ bl0 = 0) ∧ ∀ j, j < bl0 → w.cell? ⟨x, y + j, none⟩ = some (.int .u8 ((bf0 j).toNat : Int)) := by
                        by_cases h0 : bl0 = 0
                        · exact ⟨0, 0, .inr h0, fun j hj => by omega⟩
                        · rcases HBY.out with (⟨x, y, h1, _, h2⟩ | ⟨_, h1, _⟩) | ⟨h1, _⟩
                          · have hx := cell_lt (h2 0 (by omega))
                            have hr := (HP.out.runs 1 (by omega)).1
                            simp only at hx
                            exact ⟨x, y, .inl ⟨h1, by omega⟩, h2⟩
                          · exact absurd h1 h0
                          · exact absurd h1 h0
                      have HWR := Go.Lib.hid (fun W (hc : Ch (fun _ => False) wr W) => mwrite_any (b 1) (r 1) (64 + le 1) bl0 bc0 x y bp0 (inK (kb (kf 1) (kn 1)) (catB (le 1) (F 1) bf0)) (fun j => kb (kf 1) (kn 1) j ^^^ 92) W hq (by have := (HP.out.runs 1 (by omega)).1; have := cell_lt (HK.out 0 (by omega)); omega) (HP.out.apart.2 1 1 (by omega) (by omega)) (by omega)
                        (fun j hj => by rw [Nat.add_assoc, inK_ge, catB_ge]; exact (HC.out.trans hc).get (hg j hj) id)
                        (((HP.out.mac 1 (by omega)).ch hc id id).congr (fun j hj => inK_cong _ _ _ _ _ hj)) (HK.out.ch (HC.out.trans hc) id))
                      go_upto_region 22 with (fail)
                      generalize hax : Act.mk _ _ = ax
                      have HSZ := Go.Lib.hid (show ax.tmps.size = 186 by rw [← hax]; rfl)
                      have F2 := Go.Lib.hid (show gt ax 2 = .slice (some ⟨pa, off, none⟩) N cap by rw [← hax]; rfl)
                      have F8 := Go.Lib.hid (show gt ax 8 = .slice (some ⟨Mb, 0, none⟩) 2 2 by rw [← hax]; rfl)
                      have F12 := Go.Lib.hid (show gt ax 12 = .int .i64 (rd : Int) by rw [← hax]; rfl)
                      have F13 := Go.Lib.hid (show gt ax 13 = .int .i64 1 by rw [← hax]; rfl)
                      have HAX := Go.Lib.hid hax
                      clear hax
                      have HND := Go.Lib.hid (show ([99, 100, 101, 102, 103, 104, 105, 106, 107] : List Nat).Nodup by decide)
                      have HLS : Hid (Lasts [(99, fun x _ => x = .slice (some ⟨Mb, 0, none⟩) 2 2), (100, fun x _ => x = .int .i64 1), (101, fun x _ => x = .pointer (some ⟨Mb, 1, none⟩)), (102, fun x _ => x = .pointer (some ⟨b 1, 0, none⟩)), (103, fun x _ => x = .slice (some ⟨pa, off, none⟩) N cap), (104, fun x _ => x = .int .i64 (rd : Int)), (105, fun x _ => x = .pointer (some ⟨pa, off + rd * 3, none⟩)), (106, fun x _ => x = .pointer (some ⟨pa, off + rd * 3 + 2, none⟩)), (107, fun x _ => x = .slice bp0 bl0 bc0)]) := Go.Lib.hid (by
                        intro p hp v w1 w2 hc h
                        simp only [List.mem_cons, List.not_mem_nil, or_false] at hp
                        rcases hp with rfl | rfl | rfl | rfl | rfl | rfl | rfl | rfl | rfl
                        all_goals first | exact h | (obtain ⟨g, h1, h2⟩ := h; exact ⟨g, h1, hc.heap h2 id⟩) | (obtain ⟨g, c, h1, h2⟩ := h; exact ⟨g, c, h1, h2.ch hc (fun _ _ h => h)⟩))
                      refine wp_region_open_tail 9 (InvQ 186 [(99, fun x _ => x = .slice (some ⟨Mb, 0, none⟩) 2 2), (100, fun x _ => x = .int .i64 1), (101, fun x _ => x = .pointer (some ⟨Mb, 1, none⟩)), (102, fun x _ => x = .pointer (some ⟨b 1, 0, none⟩)), (103, fun x _ => x = .slice (some ⟨pa, off, none⟩) N cap), (104, fun x _ => x = .int .i64 (rd : Int)), (105, fun x _ => x = .pointer (some ⟨pa, off + rd * 3, none⟩)), (106, fun x _ => x = .pointer (some ⟨pa, off + rd * 3 + 2, none⟩)), (107, fun x _ => x = .slice bp0 bl0 bc0)] (fun _ w' => Ch (fun _ => False) wr w') ax) (by kernel_rfl) (by kernel_rfl) (InvQ.start (by simp) HSZ.out (Ch.refl _ _).drew) ?_ ?_
                      · intro L a w' i hI hr hlt
                        obtain ⟨h1, o, ho, hall⟩ := mem_ready.1 hr
                        have hsplit : i = 0 ∨ i = 1 ∨ i = 2 ∨ i = 3 ∨ i = 4 ∨ i = 5 ∨ i = 6 ∨ i = 7 ∨ i = 8 := by omega
                        clear hlt h1 hr
                        rcases hsplit with rfl | rfl | rfl | rfl | rfl | rfl | rfl | rfl | rfl
                        · have q8 := (hI.fixed 8 (by simp)).trans F8.out
                          unfold gt at q8
                          clear hall
                          refine wpOp_step (o := _) rfl (fun K' hK' => ?_)
                          go_simp
                          exact hK' _ _ (hI.put 0 rfl (by decide) HND.out HLS.out  (Ch.refl _ _) rfl hI.wld)
                        · have q13 := (hI.fixed 13 (by simp)).trans F13.out
                          unfold gt at q13
                          clear hall
                          refine wpOp_step (o := _) rfl (fun K' hK' => ?_)
                          go_simp
                          exact hK' _ _ (hI.put 1 rfl (by decide) HND.out HLS.out  (Ch.refl _ _) rfl hI.wld)
                        · simp at ho
                          have e0 : lg L 0 = true := by unfold lg; simpa using hall ⟨0, .data⟩ (by rw [← ho]; simp) rfl
                          have f0 : gt a 99 = .slice (some ⟨Mb, 0, none⟩) 2 2 := hI.val 0 _ rfl e0
                          have e1 : lg L 1 = true := by unfold lg; simpa using hall ⟨1, .data⟩ (by rw [← ho]; simp) rfl
                          have f1 : gt a 100 = .int .i64 1 := hI.val 1 _ rfl e1
                          unfold gt at f0 f1
                          clear hall
                          clear ho
                          refine wpOp_step (o := _) rfl (fun K' hK' => ?_)
                          go_simp
                          exact hK' _ _ (hI.put 2 rfl (by decide) HND.out HLS.out  (Ch.refl _ _) rfl hI.wld)
                        · simp at ho
                          have e2 : lg L 2 = true := by unfold lg; simpa using hall ⟨2, .data⟩ (by rw [← ho]; simp) rfl
                          have f2 : gt a 101 = .pointer (some ⟨Mb, 1, none⟩) := hI.val 2 _ rfl e2
                          have hcl := hI.wld.get HM1.out id
                          unfold gt at f2
                          clear hall
                          clear ho
                          refine wpOp_step (o := _) rfl (fun K' hK' => ?_)
                          go_simp
                          exact hK' _ _ (hI.put 3 rfl (by decide) HND.out HLS.out  (Ch.refl _ _) rfl hI.wld)
                        · have q2 := (hI.fixed 2 (by simp)).trans F2.out
                          unfold gt at q2
                          clear hall
                          refine wpOp_step (o := _) rfl (fun K' hK' => ?_)
                          go_simp
                          exact hK' _ _ (hI.put 4 rfl (by decide) HND.out HLS.out  (Ch.refl _ _) rfl hI.wld)
                        · have q12 := (hI.fixed 12 (by simp)).trans F12.out
                          unfold gt at q12
                          clear hall
                          refine wpOp_step (o := _) rfl (fun K' hK' => ?_)
                          go_simp
                          exact hK' _ _ (hI.put 5 rfl (by decide) HND.out HLS.out  (Ch.refl _ _) rfl hI.wld)
                        · simp at ho
                          have e4 : lg L 4 = true := by unfold lg; simpa using hall ⟨4, .data⟩ (by rw [← ho]; simp) rfl
                          have f4 : gt a 103 = .slice (some ⟨pa, off, none⟩) N cap := hI.val 4 _ rfl e4
                          have e5 : lg L 5 = true := by unfold lg; simpa using hall ⟨5, .data⟩ (by rw [← ho]; simp) rfl
                          have f5 : gt a 104 = .int .i64 (rd : Int) := hI.val 5 _ rfl e5
                          unfold gt at f4 f5
                          clear hall
                          clear ho
                          refine wpOp_step (o := _) rfl (fun K' hK' => ?_)
                          go_simp
                          exact hK' _ _ (hI.put 6 rfl (by decide) HND.out HLS.out  (Ch.refl _ _) rfl hI.wld)
                        · simp at ho
                          have e6 : lg L 6 = true := by unfold lg; simpa using hall ⟨6, .data⟩ (by rw [← ho]; simp) rfl
                          have f6 : gt a 105 = .pointer (some ⟨pa, off + rd * 3, none⟩) := hI.val 6 _ rfl e6
                          unfold gt at f6
                          clear hall
                          clear ho
                          refine wpOp_step (o := _) rfl (fun K' hK' => ?_)
                          go_simp
                          exact hK' _ _ (hI.put 7 rfl (by decide) HND.out HLS.out  (Ch.refl _ _) rfl hI.wld)
                        · simp at ho
                          have e7 : lg L 7 = true := by unfold lg; simpa using hall ⟨7, .data⟩ (by rw [← ho]; simp) rfl
                          have f7 : gt a 106 = .pointer (some ⟨pa, off + rd * 3 + 2, none⟩) := hI.val 7 _ rfl e7
                          have hcl := hI.wld.get HROW.out id
                          unfold gt at f7
                          clear hall
                          clear ho
                          refine wpOp_step (o := _) rfl (fun K' hK' => ?_)
                          go_simp
                          exact hK' _ _ (hI.put 8 rfl (by decide) HND.out HLS.out  (Ch.refl _ _) rfl hI.wld)
                      · intro L a w' hI hal
                        have hfr := hI.frame HSZ.out (by simp) (fun i hi => hal i hi)
                        have k0 : gt a 99 = .slice (some ⟨Mb, 0, none⟩) 2 2 := hI.val 0 _ rfl (hal 0 (by decide))
                        have k1 : gt a 100 = .int .i64 1 := hI.val 1 _ rfl (hal 1 (by decide))
                        have k2 : gt a 101 = .pointer (some ⟨Mb, 1, none⟩) := hI.val 2 _ rfl (hal 2 (by decide))
                        have k3 : gt a 102 = .pointer (some ⟨b 1, 0, none⟩) := hI.val 3 _ rfl (hal 3 (by decide))
                        have k4 : gt a 103 = .slice (some ⟨pa, off, none⟩) N cap := hI.val 4 _ rfl (hal 4 (by decide))
                        have k5 : gt a 104 = .int .i64 (rd : Int) := hI.val 5 _ rfl (hal 5 (by decide))
                        have k6 : gt a 105 = .pointer (some ⟨pa, off + rd * 3, none⟩) := hI.val 6 _ rfl (hal 6 (by decide))
                        have k7 : gt a 106 = .pointer (some ⟨pa, off + rd * 3 + 2, none⟩) := hI.val 7 _ rfl (hal 7 (by decide))
                        have k8 : gt a 107 = .slice bp0 bl0 bc0 := hI.val 8 _ rfl (hal 8 (by decide))
                        rw [hfr, ← HAX.out]
                        have HCR := Go.Lib.hid hI.wld
                        simp only [List.map_cons, List.map_nil, List.foldl_cons, List.foldl_nil, k0, k1, k2, k3, k4, k5, k6, k7, k8, List.setIfInBounds_toArray, List.set_cons_succ, List.set_cons_zero]
                        clear hfr hI hal k0 k1 k2 k3 k4 k5 k6 k7 k8  HSZ HND HLS HAX F2 F8 F12 F13
                        simp only [List.drop_succ_cons, List.drop_zero]
                        go_wp2_with fail
                        refine (HWR.out _ HCR.out).mono ?_
                        rintro e w4 ⟨rfl, hc4, hm4⟩
                        have HC4 := Go.Lib.hid hc4; have HM4 := Go.Lib.hid hm4
                        clear hc4 hm4 HWR
                        have hkr := HP.out.runs 1 (by omega)
                        have hchx : Ch (fun t => t = r 1) wr w4 := (HCR.out.mono (fun _ _ e => e.elim)).trans HC4.out
                        have HCX := Go.Lib.hid hchx
                        have HCM := Go.Lib.hid (hchx.get HA1.out (fun e : Ab = r 1 => hkr.2.2.2.2.1 e.symm))
                        have HWX := Go.Lib.hid (show Ch (fun _ => False) w w4 from HC.out.then hchx (fun i hi e => by have e' : i = r 1 := e; omega))
                        have HQX := Go.Lib.hid (bytes_ch_but (HP.out.all 1 (by omega)) hchx (fun _ ad e => (HP.out.alls 1 ad (by omega) e).2.2.2.2.1))
                        have HBX := Go.Lib.hid (show AnyAt w4 bp0 bl0 bc0 bf0 from HBY.out.imp (fun k => k.ch HWX.out (fun _ _ => id)) id)
                        have HROWX := Go.Lib.hid (hchx.get HROW.out (show ¬ pa = r 1 from by have := cell_lt (HACT.out.row rd hiN); simp only at this; omega))
                        have HGL := Go.Lib.hid (show ∀ j, j < le 1 → catB (le 1) (F 1) bf0 j = F 1 j from fun j hj => if_pos hj)
                        generalize hGG : catB (le 1) (F 1) bf0 = GG at *
                        have HGG := Go.Lib.hid hGG
                        clear hGG hkr hchx
                        go_upto_region 24 with (go_at_call 17; refine (num17 _ _).mono ?_; rintro e w' ⟨rfl, rfl⟩)
                        have HCR1 := Go.Lib.hid HCR.out
                        clear HCR
                        generalize hax : Act.mk _ _ = ax
                        have HSZ := Go.Lib.hid (show ax.tmps.size = 186 by rw [← hax]; rfl)
                        have F2 := Go.Lib.hid (show gt ax 2 = .slice (some ⟨pa, off, none⟩) N cap by rw [← hax]; rfl)
                        have F11 := Go.Lib.hid (show gt ax 11 = .pointer (some ⟨Ab, 0, none⟩) by rw [← hax]; rfl)
                        have F12 := Go.Lib.hid (show gt ax 12 = .int .i64 (rd : Int) by rw [← hax]; rfl)
                        have F13 := Go.Lib.hid (show gt ax 13 = .int .i64 1 by rw [← hax]; rfl)
                        have HAX := Go.Lib.hid hax
                        clear hax
                        have HND := Go.Lib.hid (show ([111, 112, 113, 114, 115, 116, 117, 118, 119, 120, 121, 122] : List Nat).Nodup by decide)
                        have HLS : Hid (Lasts [(111, fun x _ => x = .int .i64 1), (112, fun x v => ∃ (g : Nat) (c : Nat), x = .slice (some ⟨g, 0, none⟩) 0 0 ∧ EmptyRow v w4.heap.size g c), (113, fun x _ => x = .int .i64 1), (114, fun x _ => x = .pointer (some ⟨Ab, 1, none⟩)), (115, fun x _ => x = .slice (q 1) (le 1) (c 1)), (116, fun x v => ∃ (g : Value) (c : Nat), x = g ∧ OwnB v w4.heap.size g (F 1) (le 1) c), (117, fun x _ => x = .slice (some ⟨pa, off, none⟩) N cap), (118, fun x _ => x = .int .i64 (rd : Int)), (119, fun x _ => x = .pointer (some ⟨pa, off + rd * 3, none⟩)), (120, fun x _ => x = .pointer (some ⟨pa, off + rd * 3 + 2, none⟩)), (121, fun x _ => x = .slice bp0 bl0 bc0), (122, fun x v => ∃ (g : Value) (c : Nat), x = g ∧ OwnB v w4.heap.size g GG (le 1 + bl0) c)]) := Go.Lib.hid (by
                          intro p hp v w1 w2 hc h
                          simp only [List.mem_cons, List.not_mem_nil, or_false] at hp
                          rcases hp with rfl | rfl | rfl | rfl | rfl | rfl | rfl | rfl | rfl | rfl | rfl | rfl
                          all_goals first | exact h | (obtain ⟨g, h1, h2⟩ := h; exact ⟨g, h1, hc.heap h2 id⟩) | (obtain ⟨g, c, h1, h2⟩ := h; exact ⟨g, c, h1, h2.ch hc (fun _ _ h => h)⟩))
                        refine wp_region_open_tail 12 (InvQ 186 [(111, fun x _ => x = .int .i64 1), (112, fun x v => ∃ (g : Nat) (c : Nat), x = .slice (some ⟨g, 0, none⟩) 0 0 ∧ EmptyRow v w4.heap.size g c), (113, fun x _ => x = .int .i64 1), (114, fun x _ => x = .pointer (some ⟨Ab, 1, none⟩)), (115, fun x _ => x = .slice (q 1) (le 1) (c 1)), (116, fun x v => ∃ (g : Value) (c : Nat), x = g ∧ OwnB v w4.heap.size g (F 1) (le 1) c), (117, fun x _ => x = .slice (some ⟨pa, off, none⟩) N cap), (118, fun x _ => x = .int .i64 (rd : Int)), (119, fun x _ => x = .pointer (some ⟨pa, off + rd * 3, none⟩)), (120, fun x _ => x = .pointer (some ⟨pa, off + rd * 3 + 2, none⟩)), (121, fun x _ => x = .slice bp0 bl0 bc0), (122, fun x v => ∃ (g : Value) (c : Nat), x = g ∧ OwnB v w4.heap.size g GG (le 1 + bl0) c)] (fun _ w' => Ch (fun _ => False) w4 w') ax) (by kernel_rfl) (by kernel_rfl) (InvQ.start (by simp) HSZ.out ((Ch.refl _ _).drew)) ?_ ?_
                        · intro L a w' i hI hr hlt
                          obtain ⟨h1, o, ho, hall⟩ := mem_ready.1 hr
                          have hun : lg L i = false := by
                            have h2 : i < L.size := Nat.lt_of_lt_of_le hlt hI.lsize
                            unfold lg; simp [h2] at h1 ⊢; exact h1
                          have hsplit : i = 0 ∨ i = 1 ∨ i = 2 ∨ i = 3 ∨ i = 4 ∨ i = 5 ∨ i = 6 ∨ i = 7 ∨ i = 8 ∨ i = 9 ∨ i = 10 ∨ i = 11 := by omega
                          clear hlt h1 hr
                          rcases hsplit with rfl | rfl | rfl | rfl | rfl | rfl | rfl | rfl | rfl | rfl | rfl | rfl
                          · have q13 := (hI.fixed 13 (by simp)).trans F13.out
                            unfold gt at q13
                            clear hall
                            refine wpOp_step (o := _) rfl (fun K' hK' => ?_)
                            go_simp
                            exact hK' _ _ (hI.put 0 rfl (by decide) HND.out HLS.out (Ch.refl _ _) rfl (hI.wld.trans (Ch.refl _ _)))
                          · clear hall
                            refine wpOp_step (o := _) rfl (fun K' hK' => ?_)
                            go_simp
                            exact hK' _ _ (hI.put 1 rfl (by decide) HND.out HLS.out ((Ch.refl _ _).alloc _) ⟨_, 0, rfl, ⟨World.alloc_heap_new w' _, hI.wld.size⟩⟩ (hI.wld.trans ((Ch.refl _ _).alloc _)))
                          · have q13 := (hI.fixed 13 (by simp)).trans F13.out
                            unfold gt at q13
                            clear hall
                            refine wpOp_step (o := _) rfl (fun K' hK' => ?_)
                            go_simp
                            exact hK' _ _ (hI.put 2 rfl (by decide) HND.out HLS.out (Ch.refl _ _) rfl (hI.wld.trans (Ch.refl _ _)))
                          · simp at ho
                            have e2 : lg L 2 = true := by unfold lg; simpa using hall ⟨2, .data⟩ (by rw [← ho]; simp) rfl
                            have f2 : gt a 113 = .int .i64 1 := hI.val 2 _ rfl e2
                            have q11 := (hI.fixed 11 (by simp)).trans F11.out
                            unfold gt at f2 q11
                            clear hall
                            clear ho
                            refine wpOp_step (o := _) rfl (fun K' hK' => ?_)
                            go_simp
                            exact hK' _ _ (hI.put 3 rfl (by decide) HND.out HLS.out (Ch.refl _ _) rfl (hI.wld.trans (Ch.refl _ _)))
                          · simp at ho
                            have e3 : lg L 3 = true := by unfold lg; simpa using hall ⟨3, .data⟩ (by rw [← ho]; simp) rfl
                            have f3 : gt a 114 = .pointer (some ⟨Ab, 1, none⟩) := hI.val 3 _ rfl e3
                            have hcl := hI.wld.get HCM.out id
                            unfold gt at f3
                            clear hall
                            clear ho
                            refine wpOp_step (o := _) rfl (fun K' hK' => ?_)
                            go_simp
                            exact hK' _ _ (hI.put 4 rfl (by decide) HND.out HLS.out (Ch.refl _ _) rfl (hI.wld.trans (Ch.refl _ _)))
                          · simp at ho
                            have e1 : lg L 1 = true := by unfold lg; simpa using hall ⟨1, .data⟩ (by rw [← ho]; simp) rfl
                            obtain ⟨g1, c1, f1, hh1⟩ : (fun x v => ∃ (g : Nat) (c : Nat), x = .slice (some ⟨g, 0, none⟩) 0 0 ∧ EmptyRow v w4.heap.size g c) (gt a 112) w' := hI.val 1 _ rfl e1
                            have e4 : lg L 4 = true := by unfold lg; simpa using hall ⟨4, .data⟩ (by rw [← ho]; simp) rfl
                            have f4 : gt a 115 = .slice (q 1) (le 1) (c 1) := hI.val 4 _ rfl e4
                            unfold gt at f1 f4
                            clear hall
                            clear ho
                            refine wpOp_step (o := _) rfl (fun K' hK' => ?_)
                            refine wp_append_fresh (base := w4.heap.size) (.tmp 112) (.tmp 115) rfl (by simpa [Act.eval] using f1) hh1.row hh1.lo hI.wld.size (by simpa [Act.eval] using f4) (.inl (HQX.out.ch hI.wld (fun _ _ => id))) (by omega) ?_
                            intro v8 w5 ho3 hc3
                            exact hK' _ _ (hI.put 5 rfl (by decide) HND.out HLS.out hc3 ⟨v8, 0, rfl, ⟨ho3⟩⟩ (hI.wld.trans hc3))
                          · have q2 := (hI.fixed 2 (by simp)).trans F2.out
                            unfold gt at q2
                            clear hall
                            refine wpOp_step (o := _) rfl (fun K' hK' => ?_)
                            go_simp
                            exact hK' _ _ (hI.put 6 rfl (by decide) HND.out HLS.out (Ch.refl _ _) rfl (hI.wld.trans (Ch.refl _ _)))
                          · have q12 := (hI.fixed 12 (by simp)).trans F12.out
                            unfold gt at q12
                            clear hall
                            refine wpOp_step (o := _) rfl (fun K' hK' => ?_)
                            go_simp
                            exact hK' _ _ (hI.put 7 rfl (by decide) HND.out HLS.out (Ch.refl _ _) rfl (hI.wld.trans (Ch.refl _ _)))
                          · simp at ho
                            have e6 : lg L 6 = true := by unfold lg; simpa using hall ⟨6, .data⟩ (by rw [← ho]; simp) rfl
                            have f6 : gt a 117 = .slice (some ⟨pa, off, none⟩) N cap := hI.val 6 _ rfl e6
                            have e7 : lg L 7 = true := by unfold lg; simpa using hall ⟨7, .data⟩ (by rw [← ho]; simp) rfl
                            have f7 : gt a 118 = .int .i64 (rd : Int) := hI.val 7 _ rfl e7
                            unfold gt at f6 f7
                            clear hall
                            clear ho
                            refine wpOp_step (o := _) rfl (fun K' hK' => ?_)
                            go_simp
                            exact hK' _ _ (hI.put 8 rfl (by decide) HND.out HLS.out (Ch.refl _ _) rfl (hI.wld.trans (Ch.refl _ _)))
                          · simp at ho
                            have e8 : lg L 8 = true := by unfold lg; simpa using hall ⟨8, .data⟩ (by rw [← ho]; simp) rfl
                            have f8 : gt a 119 = .pointer (some ⟨pa, off + rd * 3, none⟩) := hI.val 8 _ rfl e8
                            unfold gt at f8
                            clear hall
                            clear ho
                            refine wpOp_step (o := _) rfl (fun K' hK' => ?_)
                            go_simp
                            exact hK' _ _ (hI.put 9 rfl (by decide) HND.out HLS.out (Ch.refl _ _) rfl (hI.wld.trans (Ch.refl _ _)))
                          · simp at ho
                            have e9 : lg L 9 = true := by unfold lg; simpa using hall ⟨9, .data⟩ (by rw [← ho]; simp) rfl
                            have f9 : gt a 120 = .pointer (some ⟨pa, off + rd * 3 + 2, none⟩) := hI.val 9 _ rfl e9
                            have hcl := hI.wld.get HROWX.out id
                            unfold gt at f9
                            clear hall
                            clear ho
                            refine wpOp_step (o := _) rfl (fun K' hK' => ?_)
                            go_simp
                            exact hK' _ _ (hI.put 10 rfl (by decide) HND.out HLS.out (Ch.refl _ _) rfl (hI.wld.trans (Ch.refl _ _)))
                          · simp at ho
                            have e5 : lg L 5 = true := by unfold lg; simpa using hall ⟨5, .data⟩ (by rw [← ho]; simp) rfl
                            obtain ⟨g5, c5, f5, hh5⟩ : (fun x v => ∃ (g : Value) (c : Nat), x = g ∧ OwnB v w4.heap.size g (F 1) (le 1) c) (gt a 116) w' := hI.val 5 _ rfl e5
                            have e10 : lg L 10 = true := by unfold lg; simpa using hall ⟨10, .data⟩ (by rw [← ho]; simp) rfl
                            have f10 : gt a 121 = .slice bp0 bl0 bc0 := hI.val 10 _ rfl e10
                            unfold gt at f5 f10
                            clear hall
                            clear ho
                            refine wpOp_step (o := _) rfl (fun K' hK' => ?_)
                            refine wp_append_keep (.tmp 116) (.tmp 121) rfl (by simpa [Act.eval] using f5) hh5.own (by simpa [Act.eval] using f10) (HBX.out.imp (fun k => k.ch hI.wld (fun _ _ => id)) id) (by omega) hI.wld.size ?_
                            intro v9 w5 ho3 hk3 he3 hc3
                            rw [HGG.out] at ho3
                            exact hK' _ _ (hI.putX 11 rfl (by decide) HND.out (fun k p hp hk hl h => by
                              have hk14 : k < 12 := (List.getElem?_eq_some_iff.1 hp).1
                              obtain rfl | rfl | rfl | rfl | rfl | rfl | rfl | rfl | rfl | rfl | rfl | rfl : k = 0 ∨ k = 1 ∨ k = 2 ∨ k = 3 ∨ k = 4 ∨ k = 5 ∨ k = 6 ∨ k = 7 ∨ k = 8 ∨ k = 9 ∨ k = 10 ∨ k = 11 := by omega
                              all_goals first
                                | exact absurd rfl hk
                                | (cases hp; exact h)
                                | (cases hp; obtain ⟨g, c, h1, h2⟩ := h; exact ⟨g, c, h1, ⟨he3 _ h2.row, h2.lo⟩⟩)
                                | (cases hp; obtain ⟨g, c, h1, h2⟩ := h; obtain rfl : g5 = g := f5.symm.trans h1; exact ⟨_, c, h1, ⟨hk3⟩⟩)) ⟨v9, 0, rfl, ⟨ho3⟩⟩ (hI.wld.then hc3 (fun i hi e => by have e' : w4.heap.size ≤ i := e; omega)))
                        · intro L a w' hI hal
                          have hfr := hI.frame HSZ.out (by simp) (fun i hi => hal i hi)
                          have k0 : gt a 111 = .int .i64 1 := hI.val 0 _ rfl (hal 0 (by decide))
                          obtain ⟨g1, c1, k1, hh1⟩ : (fun x v => ∃ (g : Nat) (c : Nat), x = .slice (some ⟨g, 0, none⟩) 0 0 ∧ EmptyRow v w4.heap.size g c) (gt a 112) w' := hI.val 1 _ rfl (hal 1 (by decide))
                          have H1 := Go.Lib.hid hh1
                          have k2 : gt a 113 = .int .i64 1 := hI.val 2 _ rfl (hal 2 (by decide))
                          have k3 : gt a 114 = .pointer (some ⟨Ab, 1, none⟩) := hI.val 3 _ rfl (hal 3 (by decide))
                          have k4 : gt a 115 = .slice (q 1) (le 1) (c 1) := hI.val 4 _ rfl (hal 4 (by decide))
                          obtain ⟨g5, c5, k5, hh5⟩ : (fun x v => ∃ (g : Value) (c : Nat), x = g ∧ OwnB v w4.heap.size g (F 1) (le 1) c) (gt a 116) w' := hI.val 5 _ rfl (hal 5 (by decide))
                          have H5 := Go.Lib.hid hh5
                          have k6 : gt a 117 = .slice (some ⟨pa, off, none⟩) N cap := hI.val 6 _ rfl (hal 6 (by decide))
                          have k7 : gt a 118 = .int .i64 (rd : Int) := hI.val 7 _ rfl (hal 7 (by decide))
                          have k8 : gt a 119 = .pointer (some ⟨pa, off + rd * 3, none⟩) := hI.val 8 _ rfl (hal 8 (by decide))
                          have k9 : gt a 120 = .pointer (some ⟨pa, off + rd * 3 + 2, none⟩) := hI.val 9 _ rfl (hal 9 (by decide))
                          have k10 : gt a 121 = .slice bp0 bl0 bc0 := hI.val 10 _ rfl (hal 10 (by decide))
                          obtain ⟨g11, c11, k11, hh11⟩ : (fun x v => ∃ (g : Value) (c : Nat), x = g ∧ OwnB v w4.heap.size g GG (le 1 + bl0) c) (gt a 122) w' := hI.val 11 _ rfl (hal 11 (by decide))
                          have H11 := Go.Lib.hid hh11
                          rw [hfr, ← HAX.out]
                          have HCR := Go.Lib.hid hI.wld
                          simp only [List.map_cons, List.map_nil, List.foldl_cons, List.foldl_nil, k0, k1, k2, k3, k4, k5, k6, k7, k8, k9, k10, k11, List.setIfInBounds_toArray, List.set_cons_succ, List.set_cons_zero]
                          clear hfr hI hal k0 k1 k2 k3 k4 k5 k6 k7 k8 k9 k10 k11 hh1 hh5 hh11 HSZ HND HLS HAX F2 F11 F12 F13
                          simp only [List.drop_succ_cons, List.drop_zero]
                          have hz2 : w4.heap.size < w'.heap.size := by have := H1.out.lo; have := row_lt H1.out.row; omega
                          obtain ⟨w24, hw24⟩ : ∃ x, x = w' := ⟨_, rfl⟩
                          subst hw24
                          obtain ⟨q9, c9, g9, hv9, hb9, -, -, -, hq9⟩ := own_given H11.out.own hz2
                          subst hv9
                          have hm4 := HM4.out
                          rw [Nat.add_assoc] at hm4
                          have hp2 := HP.out.wrote (k := 1) (m := bl0) (by omega) (G := GG) HGL.out HCX.out hm4 HCR.out hb9 hq9
                          have hA := (HCX.out.trans (HCR.out.mono (fun _ _ e => e.elim))).heap HP.out.rowA (fun e : Ab = r 1 => (HP.out.runs 1 (by omega)).2.2.2.2.1 e.symm)
                          have hcl4 : w24.cell? ⟨Ab, 1, none⟩ = some (.slice (q 1) (le 1) (c 1)) := (cell_of_heap hA 1).trans (arr_get 2 _ 1 (by omega))
                          have hfz4 : w24.frozen? ⟨Ab, 1, none⟩ = false := frozen_of_heap hA 1
                          have hcw := Ch.setCell (S := fun _ => False) (HWX.out.trans HCR.out) (p := ⟨Ab, 1, none⟩) (fun h => by have h' : Ab < w.heap.size := h; have := HP.out.three; omega) (.slice q9 (le 1 + bl0) c9)
                          have HP2 := Go.Lib.hid hp2; have HCW2 := Go.Lib.hid hcw
                          clear hp2 hcw hA hm4 hb9 hq9 hz2 H1 H5 H11 HCR HCX HCM HQX HBX HROWX HWX HM4 HC4 HCR1 HGL HGG
                          go_wp2_with fail
                          go_roundw
                          case rel =>
                            refine ⟨rd + 1, by omega, by go_num, ⟨b, r, kp, kn, kc, kf, _, _, _, _, HP2.out, fun t ht => ?_⟩, HCW2.out⟩
                            by_cases e : t = 1
                            · subst e; rw [put2_self]; omega
                            · rw [put2_ne _ _ _ _ e]; have := HLL.out t ht; omega
                          case measure => simp [intOf]; omega
                    · have w0' : (W0 == 0) = false := by simpa using w0
                      by_cases w1 : W0 = 1
                      · subst w1
                        generalize hv (tagB (kb (kf 1) (kn 1)) (F 1) (le 1)) = R1 at *
                        go_upto_region 26 with (fail)
                        generalize hax : Act.mk _ _ = ax
                        have HSZ := Go.Lib.hid (show ax.tmps.size = 186 by rw [← hax]; rfl)
                        have F8 := Go.Lib.hid (show gt ax 8 = .slice (some ⟨Mb, 0, none⟩) 2 2 by rw [← hax]; rfl)
                        have F10 := Go.Lib.hid (show gt ax 10 = .pointer (some ⟨Kb, 0, none⟩) by rw [← hax]; rfl)
                        have F11 := Go.Lib.hid (show gt ax 11 = .pointer (some ⟨Ab, 0, none⟩) by rw [← hax]; rfl)
                        have F13 := Go.Lib.hid (show gt ax 13 = .int .i64 1 by rw [← hax]; rfl)
                        have HAX := Go.Lib.hid hax
                        clear hax
                        have HND := Go.Lib.hid (show ([126, 127, 128, 129, 130, 131, 132, 133, 134, 135, 136, 137] : List Nat).Nodup by decide)
                        have HLS : Hid (Lasts [(126, fun x _ => x = .slice (some ⟨Mb, 0, none⟩) 2 2), (127, fun x _ => x = .int .i64 1), (128, fun x _ => x = .pointer (some ⟨Mb, 1, none⟩)), (129, fun x _ => x = .pointer (some ⟨b 1, 0, none⟩)), (130, fun x _ => x = .agg R1), (131, fun x _ => x = .int .i64 1), (132, fun x _ => x = .pointer (some ⟨Kb, 1, none⟩)), (133, fun x _ => x = .slice (kp 1) (kn 1) (kc 1)), (134, fun x _ => x = .int .i64 1), (135, fun x _ => x = .pointer (some ⟨Ab, 1, none⟩)), (136, fun x _ => x = .slice (q 1) (le 1) (c 1)), (137, fun x _ => x = .agg R1)]) := Go.Lib.hid (by
                          intro p hp v w1 w2 hc h
                          simp only [List.mem_cons, List.not_mem_nil, or_false] at hp
                          rcases hp with rfl | rfl | rfl | rfl | rfl | rfl | rfl | rfl | rfl | rfl | rfl | rfl
                          all_goals first | exact h | (obtain ⟨g, h1, h2⟩ := h; exact ⟨g, h1, hc.heap h2 id⟩) | (obtain ⟨g, c, h1, h2⟩ := h; exact ⟨g, c, h1, h2.ch hc (fun _ _ h => h)⟩))
                        refine wp_region_open_tail 12 (InvQ 186 [(126, fun x _ => x = .slice (some ⟨Mb, 0, none⟩) 2 2), (127, fun x _ => x = .int .i64 1), (128, fun x _ => x = .pointer (some ⟨Mb, 1, none⟩)), (129, fun x _ => x = .pointer (some ⟨b 1, 0, none⟩)), (130, fun x _ => x = .agg R1), (131, fun x _ => x = .int .i64 1), (132, fun x _ => x = .pointer (some ⟨Kb, 1, none⟩)), (133, fun x _ => x = .slice (kp 1) (kn 1) (kc 1)), (134, fun x _ => x = .int .i64 1), (135, fun x _ => x = .pointer (some ⟨Ab, 1, none⟩)), (136, fun x _ => x = .slice (q 1) (le 1) (c 1)), (137, fun x _ => x = .agg R1)] (fun _ w' => Ch (fun _ => False) wr w') ax) (by kernel_rfl) (by kernel_rfl) (InvQ.start (by simp) HSZ.out (Ch.refl _ _).drew) ?_ ?_
                        · intro L a w' i hI hr hlt
                          obtain ⟨h1, o, ho, hall⟩ := mem_ready.1 hr
                          have hsplit : i = 0 ∨ i = 1 ∨ i = 2 ∨ i = 3 ∨ i = 4 ∨ i = 5 ∨ i = 6 ∨ i = 7 ∨ i = 8 ∨ i = 9 ∨ i = 10 ∨ i = 11 := by omega
                          clear hlt h1 hr
                          rcases hsplit with rfl | rfl | rfl | rfl | rfl | rfl | rfl | rfl | rfl | rfl | rfl | rfl
                          · have q8 := (hI.fixed 8 (by simp)).trans F8.out
                            unfold gt at q8
                            clear hall
                            refine wpOp_step (o := _) rfl (fun K' hK' => ?_)
                            go_simp
                            exact hK' _ _ (hI.put 0 rfl (by decide) HND.out HLS.out  (Ch.refl _ _) rfl hI.wld)
                          · have q13 := (hI.fixed 13 (by simp)).trans F13.out
                            unfold gt at q13
                            clear hall
                            refine wpOp_step (o := _) rfl (fun K' hK' => ?_)
                            go_simp
                            exact hK' _ _ (hI.put 1 rfl (by decide) HND.out HLS.out  (Ch.refl _ _) rfl hI.wld)
                          · simp at ho
                            have e0 : lg L 0 = true := by unfold lg; simpa using hall ⟨0, .data⟩ (by rw [← ho]; simp) rfl
                            have f0 : gt a 126 = .slice (some ⟨Mb, 0, none⟩) 2 2 := hI.val 0 _ rfl e0
                            have e1 : lg L 1 = true := by unfold lg; simpa using hall ⟨1, .data⟩ (by rw [← ho]; simp) rfl
                            have f1 : gt a 127 = .int .i64 1 := hI.val 1 _ rfl e1
                            unfold gt at f0 f1
                            clear hall
                            clear ho
                            refine wpOp_step (o := _) rfl (fun K' hK' => ?_)
                            go_simp
                            exact hK' _ _ (hI.put 2 rfl (by decide) HND.out HLS.out  (Ch.refl _ _) rfl hI.wld)
                          · simp at ho
                            have e2 : lg L 2 = true := by unfold lg; simpa using hall ⟨2, .data⟩ (by rw [← ho]; simp) rfl
                            have f2 : gt a 128 = .pointer (some ⟨Mb, 1, none⟩) := hI.val 2 _ rfl e2
                            have hcl := hI.wld.get HM1.out id
                            unfold gt at f2
                            clear hall
                            clear ho
                            refine wpOp_step (o := _) rfl (fun K' hK' => ?_)
                            go_simp
                            exact hK' _ _ (hI.put 3 rfl (by decide) HND.out HLS.out  (Ch.refl _ _) rfl hI.wld)
                          · simp at ho
                            have e3 : lg L 3 = true := by unfold lg; simpa using hall ⟨3, .data⟩ (by rw [← ho]; simp) rfl
                            have f3 : gt a 129 = .pointer (some ⟨b 1, 0, none⟩) := hI.val 3 _ rfl e3
                            unfold gt at f3
                            clear hall
                            clear ho
                            have HCT := Go.Lib.hid (HTB.out w' hI.wld)
                            refine wpOp_step (o := _) rfl (fun K' hK' => ?_)
                            go_simp
                            refine HCT.out.mono ?_
                            rintro e w3 ⟨rfl, hc⟩
                            exact hK' _ _ (hI.put 4 rfl (by decide) HND.out HLS.out  hc rfl (hI.wld.trans hc))
                          · have q13 := (hI.fixed 13 (by simp)).trans F13.out
                            unfold gt at q13
                            clear hall
                            refine wpOp_step (o := _) rfl (fun K' hK' => ?_)
                            go_simp
                            exact hK' _ _ (hI.put 5 rfl (by decide) HND.out HLS.out  (Ch.refl _ _) rfl hI.wld)
                          · simp at ho
                            have e5 : lg L 5 = true := by unfold lg; simpa using hall ⟨5, .data⟩ (by rw [← ho]; simp) rfl
                            have f5 : gt a 131 = .int .i64 1 := hI.val 5 _ rfl e5
                            have q10 := (hI.fixed 10 (by simp)).trans F10.out
                            unfold gt at f5 q10
                            clear hall
                            clear ho
                            refine wpOp_step (o := _) rfl (fun K' hK' => ?_)
                            go_simp
                            exact hK' _ _ (hI.put 6 rfl (by decide) HND.out HLS.out  (Ch.refl _ _) rfl hI.wld)
                          · simp at ho
                            have e6 : lg L 6 = true := by unfold lg; simpa using hall ⟨6, .data⟩ (by rw [← ho]; simp) rfl
                            have f6 : gt a 132 = .pointer (some ⟨Kb, 1, none⟩) := hI.val 6 _ rfl e6
                            have hcl := hI.wld.get HQ1.out id
                            unfold gt at f6
                            clear hall
                            clear ho
                            refine wpOp_step (o := _) rfl (fun K' hK' => ?_)
                            go_simp
                            exact hK' _ _ (hI.put 7 rfl (by decide) HND.out HLS.out  (Ch.refl _ _) rfl hI.wld)
                          · have q13 := (hI.fixed 13 (by simp)).trans F13.out
                            unfold gt at q13
                            clear hall
                            refine wpOp_step (o := _) rfl (fun K' hK' => ?_)
                            go_simp
                            exact hK' _ _ (hI.put 8 rfl (by decide) HND.out HLS.out  (Ch.refl _ _) rfl hI.wld)
                          · simp at ho
                            have e8 : lg L 8 = true := by unfold lg; simpa using hall ⟨8, .data⟩ (by rw [← ho]; simp) rfl
                            have f8 : gt a 134 = .int .i64 1 := hI.val 8 _ rfl e8
                            have q11 := (hI.fixed 11 (by simp)).trans F11.out
                            unfold gt at f8 q11
                            clear hall
                            clear ho
                            refine wpOp_step (o := _) rfl (fun K' hK' => ?_)
                            go_simp
                            exact hK' _ _ (hI.put 9 rfl (by decide) HND.out HLS.out  (Ch.refl _ _) rfl hI.wld)
                          · simp at ho
                            have e9 : lg L 9 = true := by unfold lg; simpa using hall ⟨9, .data⟩ (by rw [← ho]; simp) rfl
                            have f9 : gt a 135 = .pointer (some ⟨Ab, 1, none⟩) := hI.val 9 _ rfl e9
                            have hcl := hI.wld.get HA1.out id
                            unfold gt at f9
                            clear hall
                            clear ho
                            refine wpOp_step (o := _) rfl (fun K' hK' => ?_)
                            go_simp
                            exact hK' _ _ (hI.put 10 rfl (by decide) HND.out HLS.out  (Ch.refl _ _) rfl hI.wld)
                          · simp at ho
                            have e7 : lg L 7 = true := by unfold lg; simpa using hall ⟨7, .data⟩ (by rw [← ho]; simp) rfl
                            have f7 : gt a 133 = .slice (kp 1) (kn 1) (kc 1) := hI.val 7 _ rfl e7
                            have e10 : lg L 10 = true := by unfold lg; simpa using hall ⟨10, .data⟩ (by rw [← ho]; simp) rfl
                            have f10 : gt a 136 = .slice (q 1) (le 1) (c 1) := hI.val 10 _ rfl e10
                            unfold gt at f7 f10
                            clear hall
                            clear ho
                            have HCT := Go.Lib.hid (HRB.out w' hI.wld)
                            refine wpOp_step (o := _) rfl (fun K' hK' => ?_)
                            go_simp
                            refine HCT.out.mono ?_
                            rintro e w3 ⟨rfl, hc⟩
                            exact hK' _ _ (hI.put 11 rfl (by decide) HND.out HLS.out  hc rfl (hI.wld.trans hc))
                        · intro L a w' hI hal
                          have hfr := hI.frame HSZ.out (by simp) (fun i hi => hal i hi)
                          have k0 : gt a 126 = .slice (some ⟨Mb, 0, none⟩) 2 2 := hI.val 0 _ rfl (hal 0 (by decide))
                          have k1 : gt a 127 = .int .i64 1 := hI.val 1 _ rfl (hal 1 (by decide))
                          have k2 : gt a 128 = .pointer (some ⟨Mb, 1, none⟩) := hI.val 2 _ rfl (hal 2 (by decide))
                          have k3 : gt a 129 = .pointer (some ⟨b 1, 0, none⟩) := hI.val 3 _ rfl (hal 3 (by decide))
                          have k4 : gt a 130 = .agg R1 := hI.val 4 _ rfl (hal 4 (by decide))
                          have k5 : gt a 131 = .int .i64 1 := hI.val 5 _ rfl (hal 5 (by decide))
                          have k6 : gt a 132 = .pointer (some ⟨Kb, 1, none⟩) := hI.val 6 _ rfl (hal 6 (by decide))
                          have k7 : gt a 133 = .slice (kp 1) (kn 1) (kc 1) := hI.val 7 _ rfl (hal 7 (by decide))
                          have k8 : gt a 134 = .int .i64 1 := hI.val 8 _ rfl (hal 8 (by decide))
                          have k9 : gt a 135 = .pointer (some ⟨Ab, 1, none⟩) := hI.val 9 _ rfl (hal 9 (by decide))
                          have k10 : gt a 136 = .slice (q 1) (le 1) (c 1) := hI.val 10 _ rfl (hal 10 (by decide))
                          have k11 : gt a 137 = .agg R1 := hI.val 11 _ rfl (hal 11 (by decide))
                          rw [hfr, ← HAX.out]
                          have HCR := Go.Lib.hid hI.wld
                          simp only [List.map_cons, List.map_nil, List.foldl_cons, List.foldl_nil, k0, k1, k2, k3, k4, k5, k6, k7, k8, k9, k10, k11, List.setIfInBounds_toArray, List.set_cons_succ, List.set_cons_zero]
                          clear hfr hI hal k0 k1 k2 k3 k4 k5 k6 k7 k8 k9 k10 k11  HSZ HND HLS HAX F8 F10 F11 F13
                          simp only [List.drop_succ_cons, List.drop_zero]
                          go_wp2_with (refine wpList_neq rfl (.tmp 130) (.tmp 137) 28 28 rfl R1 R1 rfl rfl eqg28 (HEB.out _) ?_)
                          go_roundw
                          case rel => exact ⟨rd + 1, by omega, by go_num, ⟨b, r, kp, kn, kc, kf, q, le, c, F, HP.out.ch HCR.out, fun t ht => by have := HLL.out t ht; omega⟩, HC.out.trans HCR.out⟩
                          case measure => simp [intOf]; omega
                      · have w1' : (W0 == 1) = false := by simpa using w1
                        have hrm := HP.out.runs 0 (by omega)
                        have h3 := HP.out.three
                        have hlM := row_lt HP.out.rowM; have hlK := row_lt HP.out.rowK; have hlA := row_lt HP.out.rowA
                        have HDS := Go.Lib.hid (show Mb < wr.heap.size ∧ Kb < wr.heap.size ∧ Ab < wr.heap.size from ⟨hlM, hlK, hlA⟩)
                        have HSW := Go.Lib.hid (show w.heap.size ≤ wr.heap.size from HC.out.size)
                        have HCP := Go.Lib.hid (fun W (hc : Ch (fun t => t = Mb ∨ t = Kb ∨ t = Ab) wr W) => mcopy_any (b 0) (r 0) (64 + le 0) _ _ W ((HP.out.mac 0 (by omega)).ch hc (show ¬ (b 0 = Mb ∨ b 0 = Kb ∨ b 0 = Ab) by omega) (show ¬ (r 0 = Mb ∨ r 0 = Kb ∨ r 0 = Ab) by omega)))
                        have HST := Go.Lib.hid (I20.start (n := 1) (l := 0) (f := inK (kb (kf 0) (kn 0)) (F 0)) (N := 64 + le 0) (o := fun j => kb (kf 0) (kn 0) j ^^^ 92) (SM := 19) (SK := 21) (SA := 23) (T := 24) HP.out.rowM HP.out.rowK HP.out.rowA ⟨h3.2.2.2.1, h3.2.2.2.2.1, h3.2.2.2.2.2⟩)
                        clear hrm h3 hlM hlK hlA
                        go_upto_region 20 with (fail)
                        refine wp_region_any (by kernel_rfl) ?_
                        generalize hax : Act.mk _ _ = ax
                        have HSZ := Go.Lib.hid (show ax.tmps.size = 186 by rw [← hax]; rfl)
                        have F8 := Go.Lib.hid (show gt ax 8 = .slice (some ⟨Mb, 0, none⟩) 2 2 by rw [← hax]; rfl)
                        have F10 := Go.Lib.hid (show gt ax 10 = .pointer (some ⟨Kb, 0, none⟩) by rw [← hax]; rfl)
                        have F11 := Go.Lib.hid (show gt ax 11 = .pointer (some ⟨Ab, 0, none⟩) by rw [← hax]; rfl)
                        have F13 := Go.Lib.hid (show gt ax 13 = .int .i64 1 by rw [← hax]; rfl)
                        have HAX := Go.Lib.hid hax
                        clear hax
                        have HND := Go.Lib.hid (show ([76, 77, 78, 79, 80, 81, 82, 83, 84, 85, 86, 87, 88, 89, 90, 91, 92, 93, 94, 95, 96] : List Nat).Nodup by decide)
                        have HN1 := Go.Lib.hid (show ([0, 1, 2, 3, 4, 5, 6, 7, 8, 9, 10, 11, 12, 13, 14, 15, 16, 17, 18, 20, 22] : List Nat).Nodup by decide)
                        have HLS : Hid (LastsS (fun t => t = Mb ∨ t = Kb ∨ t = Ab) [(0, 76, fun x _ => x = .slice (some ⟨Mb, 0, none⟩) 2 2), (1, 77, fun x _ => x = .int .i64 1), (2, 78, fun x _ => x = .int .i64 1), (3, 79, fun x _ => x = .int .i64 1), (4, 80, fun x _ => x = .slice (some ⟨Mb, 0, none⟩) 2 2), (5, 81, fun x _ => x = .int .i64 1), (6, 82, fun x _ => x = .int .i64 0), (7, 83, fun x _ => x = .pointer (some ⟨Mb, 0, none⟩)), (8, 84, fun x _ => x = .pointer (some ⟨b 0, 0, none⟩)), (9, 85, fun x v => ∃ g c, x = .pointer (some ⟨g, 0, none⟩) ∧ CopyOf wr v g c (inK (kb (kf 0) (kn 0)) (F 0)) (64 + le 0) (fun j => kb (kf 0) (kn 0) j ^^^ 92)), (10, 86, fun x _ => x = .int .i64 1), (11, 87, fun x _ => x = .int .i64 0), (12, 88, fun x _ => x = .pointer (some ⟨Kb, 0, none⟩)), (13, 89, fun x _ => x = .slice (kp 0) (kn 0) (kc 0)), (14, 90, fun x _ => x = .int .i64 1), (15, 91, fun x _ => x = .int .i64 0), (16, 92, fun x _ => x = .pointer (some ⟨Ab, 0, none⟩)), (17, 93, fun x _ => x = .slice (q 0) (le 0) (c 0)), (18, 94, fun x _ => x = .pointer (some ⟨Mb, 1, none⟩)), (20, 95, fun x _ => x = .pointer (some ⟨Kb, 1, none⟩)), (22, 96, fun x _ => x = .pointer (some ⟨Ab, 1, none⟩))]) := Go.Lib.hid (by
                          intro q hq v w1 w2 hc h
                          simp only [List.mem_cons, List.not_mem_nil, or_false] at hq
                          rcases hq with rfl | rfl | rfl | rfl | rfl | rfl | rfl | rfl | rfl | rfl | rfl | rfl | rfl | rfl | rfl | rfl | rfl | rfl | rfl | rfl | rfl
                          all_goals first | exact h | (obtain ⟨g, c, h1, h2⟩ := h; exact ⟨g, c, h1, h2.but hc (fun i hi e => by have := HDS.out; omega)⟩))
                        refine wpAny_inv (InvS 186 24 (fun t => t = Mb ∨ t = Kb ∨ t = Ab) [(0, 76, fun x _ => x = .slice (some ⟨Mb, 0, none⟩) 2 2), (1, 77, fun x _ => x = .int .i64 1), (2, 78, fun x _ => x = .int .i64 1), (3, 79, fun x _ => x = .int .i64 1), (4, 80, fun x _ => x = .slice (some ⟨Mb, 0, none⟩) 2 2), (5, 81, fun x _ => x = .int .i64 1), (6, 82, fun x _ => x = .int .i64 0), (7, 83, fun x _ => x = .pointer (some ⟨Mb, 0, none⟩)), (8, 84, fun x _ => x = .pointer (some ⟨b 0, 0, none⟩)), (9, 85, fun x v => ∃ g c, x = .pointer (some ⟨g, 0, none⟩) ∧ CopyOf wr v g c (inK (kb (kf 0) (kn 0)) (F 0)) (64 + le 0) (fun j => kb (kf 0) (kn 0) j ^^^ 92)), (10, 86, fun x _ => x = .int .i64 1), (11, 87, fun x _ => x = .int .i64 0), (12, 88, fun x _ => x = .pointer (some ⟨Kb, 0, none⟩)), (13, 89, fun x _ => x = .slice (kp 0) (kn 0) (kc 0)), (14, 90, fun x _ => x = .int .i64 1), (15, 91, fun x _ => x = .int .i64 0), (16, 92, fun x _ => x = .pointer (some ⟨Ab, 0, none⟩)), (17, 93, fun x _ => x = .slice (q 0) (le 0) (c 0)), (18, 94, fun x _ => x = .pointer (some ⟨Mb, 1, none⟩)), (20, 95, fun x _ => x = .pointer (some ⟨Kb, 1, none⟩)), (22, 96, fun x _ => x = .pointer (some ⟨Ab, 1, none⟩))] (I20 wr Mb Kb Ab 1 0 b (fun i => .slice (kp i) (kn i) (kc i)) (fun i => .slice (q i) (le i) (c i)) (inK (kb (kf 0) (kn 0)) (F 0)) (64 + le 0) (fun j => kb (kf 0) (kn 0) j ^^^ 92) 19 21 23 24) ax) ?_ ?_ _ _ _ _ rfl (by decide) (InvS.start HSZ.out (HST.out))
                        · intro L a w' i hI hr
                          obtain ⟨h1, o, ho, hall⟩ := mem_ready.1 hr
                          have hlt : i < 24 := (Array.getElem?_eq_some_iff.1 ho).1
                          have hun : lg L i = false := by
                            have h2 : i < L.size := Nat.lt_of_lt_of_le hlt (Nat.le_of_eq hI.lsize.symm)
                            unfold lg; simp [h2] at h1 ⊢; exact h1
                          have hsplit : i = 0 ∨ i = 1 ∨ i = 2 ∨ i = 3 ∨ i = 4 ∨ i = 5 ∨ i = 6 ∨ i = 7 ∨ i = 8 ∨ i = 9 ∨ i = 10 ∨ i = 11 ∨ i = 12 ∨ i = 13 ∨ i = 14 ∨ i = 15 ∨ i = 16 ∨ i = 17 ∨ i = 18 ∨ i = 19 ∨ i = 20 ∨ i = 21 ∨ i = 22 ∨ i = 23 := by omega
                          clear hlt h1 hr
                          rcases hsplit with rfl | rfl | rfl | rfl | rfl | rfl | rfl | rfl | rfl | rfl | rfl | rfl | rfl | rfl | rfl | rfl | rfl | rfl | rfl | rfl | rfl | rfl | rfl | rfl
                          · have q8 := (hI.fixed 8 (by simp)).trans F8.out
                            unfold gt at q8
                            clear hall
                            refine wpOp_step (o := _) rfl (fun K' hK' => ?_)
                            go_simp
                            exact hK' _ _ (hI.put 0 rfl (by decide) (by decide) HND.out HN1.out HLS.out (Ch.refl _ _) rfl (hI.wld.step 0 (by decide) (by decide) (by decide) (by decide) (Ch.refl _ _)))
                          · have q13 := (hI.fixed 13 (by simp)).trans F13.out
                            unfold gt at q13
                            clear hall
                            refine wpOp_step (o := _) rfl (fun K' hK' => ?_)
                            go_simp
                            exact hK' _ _ (hI.put 1 rfl (by decide) (by decide) HND.out HN1.out HLS.out (Ch.refl _ _) rfl (hI.wld.step 1 (by decide) (by decide) (by decide) (by decide) (Ch.refl _ _)))
                          · have q13 := (hI.fixed 13 (by simp)).trans F13.out
                            unfold gt at q13
                            clear hall
                            refine wpOp_step (o := _) rfl (fun K' hK' => ?_)
                            go_simp
                            exact hK' _ _ (hI.put 2 rfl (by decide) (by decide) HND.out HN1.out HLS.out (Ch.refl _ _) rfl (hI.wld.step 2 (by decide) (by decide) (by decide) (by decide) (Ch.refl _ _)))
                          · have q13 := (hI.fixed 13 (by simp)).trans F13.out
                            unfold gt at q13
                            clear hall
                            refine wpOp_step (o := _) rfl (fun K' hK' => ?_)
                            go_simp
                            exact hK' _ _ (hI.put 3 rfl (by decide) (by decide) HND.out HN1.out HLS.out (Ch.refl _ _) rfl (hI.wld.step 3 (by decide) (by decide) (by decide) (by decide) (Ch.refl _ _)))
                          · have q8 := (hI.fixed 8 (by simp)).trans F8.out
                            unfold gt at q8
                            clear hall
                            refine wpOp_step (o := _) rfl (fun K' hK' => ?_)
                            go_simp
                            exact hK' _ _ (hI.put 4 rfl (by decide) (by decide) HND.out HN1.out HLS.out (Ch.refl _ _) rfl (hI.wld.step 4 (by decide) (by decide) (by decide) (by decide) (Ch.refl _ _)))
                          · have q13 := (hI.fixed 13 (by simp)).trans F13.out
                            unfold gt at q13
                            clear hall
                            refine wpOp_step (o := _) rfl (fun K' hK' => ?_)
                            go_simp
                            exact hK' _ _ (hI.put 5 rfl (by decide) (by decide) HND.out HN1.out HLS.out (Ch.refl _ _) rfl (hI.wld.step 5 (by decide) (by decide) (by decide) (by decide) (Ch.refl _ _)))
                          · simp at ho
                            have e5 : lg L 5 = true := by unfold lg; simpa using hall ⟨5, .data⟩ (by rw [← ho]; simp) rfl
                            have f5 : gt a 81 = .int .i64 1 := hI.val 5 _ rfl e5
                            unfold gt at f5
                            clear hall
                            clear ho
                            refine wpOp_step (o := _) rfl (fun K' hK' => ?_)
                            go_simp
                            exact hK' _ _ (hI.put 6 rfl (by decide) (by decide) HND.out HN1.out HLS.out (Ch.refl _ _) rfl (hI.wld.step 6 (by decide) (by decide) (by decide) (by decide) (Ch.refl _ _)))
                          · simp at ho
                            have e4 : lg L 4 = true := by unfold lg; simpa using hall ⟨4, .data⟩ (by rw [← ho]; simp) rfl
                            have f4 : gt a 80 = .slice (some ⟨Mb, 0, none⟩) 2 2 := hI.val 4 _ rfl e4
                            have e6 : lg L 6 = true := by unfold lg; simpa using hall ⟨6, .data⟩ (by rw [← ho]; simp) rfl
                            have f6 : gt a 82 = .int .i64 0 := hI.val 6 _ rfl e6
                            unfold gt at f4 f6
                            clear hall
                            clear ho
                            refine wpOp_step (o := _) rfl (fun K' hK' => ?_)
                            go_simp
                            exact hK' _ _ (hI.put 7 rfl (by decide) (by decide) HND.out HN1.out HLS.out (Ch.refl _ _) rfl (hI.wld.step 7 (by decide) (by decide) (by decide) (by decide) (Ch.refl _ _)))
                          · simp at ho
                            have e7 : lg L 7 = true := by unfold lg; simpa using hall ⟨7, .data⟩ (by rw [← ho]; simp) rfl
                            have f7 : gt a 83 = .pointer (some ⟨Mb, 0, none⟩) := hI.val 7 _ rfl e7
                            have hcl : w'.cell? ⟨Mb, 0, none⟩ = some (.pointer (some ⟨b 0, 0, none⟩)) := hI.wld.ldM (by decide) (by decide)
                            unfold gt at f7
                            clear hall
                            clear ho
                            refine wpOp_step (o := _) rfl (fun K' hK' => ?_)
                            go_simp
                            exact hK' _ _ (hI.put 8 rfl (by decide) (by decide) HND.out HN1.out HLS.out (Ch.refl _ _) rfl (hI.wld.step 8 (by decide) (by decide) (by decide) (by decide) (Ch.refl _ _)))
                          · simp at ho
                            have e8 : lg L 8 = true := by unfold lg; simpa using hall ⟨8, .data⟩ (by rw [← ho]; simp) rfl
                            have f8 : gt a 84 = .pointer (some ⟨b 0, 0, none⟩) := hI.val 8 _ rfl e8
                            unfold gt at f8
                            clear hall
                            clear ho
                            have HCT := Go.Lib.hid (HCP.out w' hI.wld.ch)
                            refine wpOp_step (o := _) rfl (fun K' hK' => ?_)
                            go_simp
                            refine HCT.out.mono ?_
                            rintro e w3 ⟨b', r', rfl, h1, h2, h3, h4, hc⟩
                            exact hK' _ _ (hI.put 9 rfl (by decide) (by decide) HND.out HN1.out HLS.out (hc.mono (fun _ _ e => e.elim)) ⟨b', r', rfl, ⟨h4, Nat.le_trans hI.wld.ch.size h1, h2⟩⟩ (hI.wld.step 9 (by decide) (by decide) (by decide) (by decide) hc))
                          · have q13 := (hI.fixed 13 (by simp)).trans F13.out
                            unfold gt at q13
                            clear hall
                            refine wpOp_step (o := _) rfl (fun K' hK' => ?_)
                            go_simp
                            exact hK' _ _ (hI.put 10 rfl (by decide) (by decide) HND.out HN1.out HLS.out (Ch.refl _ _) rfl (hI.wld.step 10 (by decide) (by decide) (by decide) (by decide) (Ch.refl _ _)))
                          · simp at ho
                            have e10 : lg L 10 = true := by unfold lg; simpa using hall ⟨10, .data⟩ (by rw [← ho]; simp) rfl
                            have f10 : gt a 86 = .int .i64 1 := hI.val 10 _ rfl e10
                            unfold gt at f10
                            clear hall
                            clear ho
                            refine wpOp_step (o := _) rfl (fun K' hK' => ?_)
                            go_simp
                            exact hK' _ _ (hI.put 11 rfl (by decide) (by decide) HND.out HN1.out HLS.out (Ch.refl _ _) rfl (hI.wld.step 11 (by decide) (by decide) (by decide) (by decide) (Ch.refl _ _)))
                          · simp at ho
                            have e11 : lg L 11 = true := by unfold lg; simpa using hall ⟨11, .data⟩ (by rw [← ho]; simp) rfl
                            have f11 : gt a 87 = .int .i64 0 := hI.val 11 _ rfl e11
                            have q10 := (hI.fixed 10 (by simp)).trans F10.out
                            unfold gt at f11 q10
                            clear hall
                            clear ho
                            refine wpOp_step (o := _) rfl (fun K' hK' => ?_)
                            go_simp
                            exact hK' _ _ (hI.put 12 rfl (by decide) (by decide) HND.out HN1.out HLS.out (Ch.refl _ _) rfl (hI.wld.step 12 (by decide) (by decide) (by decide) (by decide) (Ch.refl _ _)))
                          · simp at ho
                            have e12 : lg L 12 = true := by unfold lg; simpa using hall ⟨12, .data⟩ (by rw [← ho]; simp) rfl
                            have f12 : gt a 88 = .pointer (some ⟨Kb, 0, none⟩) := hI.val 12 _ rfl e12
                            have hcl : w'.cell? ⟨Kb, 0, none⟩ = some (.slice (kp 0) (kn 0) (kc 0)) := hI.wld.ldK (by decide) (by decide)
                            unfold gt at f12
                            clear hall
                            clear ho
                            refine wpOp_step (o := _) rfl (fun K' hK' => ?_)
                            go_simp
                            exact hK' _ _ (hI.put 13 rfl (by decide) (by decide) HND.out HN1.out HLS.out (Ch.refl _ _) rfl (hI.wld.step 13 (by decide) (by decide) (by decide) (by decide) (Ch.refl _ _)))
                          · have q13 := (hI.fixed 13 (by simp)).trans F13.out
                            unfold gt at q13
                            clear hall
                            refine wpOp_step (o := _) rfl (fun K' hK' => ?_)
                            go_simp
                            exact hK' _ _ (hI.put 14 rfl (by decide) (by decide) HND.out HN1.out HLS.out (Ch.refl _ _) rfl (hI.wld.step 14 (by decide) (by decide) (by decide) (by decide) (Ch.refl _ _)))
                          · simp at ho
                            have e14 : lg L 14 = true := by unfold lg; simpa using hall ⟨14, .data⟩ (by rw [← ho]; simp) rfl
                            have f14 : gt a 90 = .int .i64 1 := hI.val 14 _ rfl e14
                            unfold gt at f14
                            clear hall
                            clear ho
                            refine wpOp_step (o := _) rfl (fun K' hK' => ?_)
                            go_simp
                            exact hK' _ _ (hI.put 15 rfl (by decide) (by decide) HND.out HN1.out HLS.out (Ch.refl _ _) rfl (hI.wld.step 15 (by decide) (by decide) (by decide) (by decide) (Ch.refl _ _)))
                          · simp at ho
                            have e15 : lg L 15 = true := by unfold lg; simpa using hall ⟨15, .data⟩ (by rw [← ho]; simp) rfl
                            have f15 : gt a 91 = .int .i64 0 := hI.val 15 _ rfl e15
                            have q11 := (hI.fixed 11 (by simp)).trans F11.out
                            unfold gt at f15 q11
                            clear hall
                            clear ho
                            refine wpOp_step (o := _) rfl (fun K' hK' => ?_)
                            go_simp
                            exact hK' _ _ (hI.put 16 rfl (by decide) (by decide) HND.out HN1.out HLS.out (Ch.refl _ _) rfl (hI.wld.step 16 (by decide) (by decide) (by decide) (by decide) (Ch.refl _ _)))
                          · simp at ho
                            have e16 : lg L 16 = true := by unfold lg; simpa using hall ⟨16, .data⟩ (by rw [← ho]; simp) rfl
                            have f16 : gt a 92 = .pointer (some ⟨Ab, 0, none⟩) := hI.val 16 _ rfl e16
                            have hcl : w'.cell? ⟨Ab, 0, none⟩ = some (.slice (q 0) (le 0) (c 0)) := hI.wld.ldA (by decide) (by decide)
                            unfold gt at f16
                            clear hall
                            clear ho
                            refine wpOp_step (o := _) rfl (fun K' hK' => ?_)
                            go_simp
                            exact hK' _ _ (hI.put 17 rfl (by decide) (by decide) HND.out HN1.out HLS.out (Ch.refl _ _) rfl (hI.wld.step 17 (by decide) (by decide) (by decide) (by decide) (Ch.refl _ _)))
                          · simp at ho
                            have e0 : lg L 0 = true := by unfold lg; simpa using hall ⟨0, .data⟩ (by rw [← ho]; simp) rfl
                            have f0 : gt a 76 = .slice (some ⟨Mb, 0, none⟩) 2 2 := hI.val 0 _ rfl e0
                            have e1 : lg L 1 = true := by unfold lg; simpa using hall ⟨1, .data⟩ (by rw [← ho]; simp) rfl
                            have f1 : gt a 77 = .int .i64 1 := hI.val 1 _ rfl e1
                            unfold gt at f0 f1
                            clear hall
                            clear ho
                            refine wpOp_step (o := _) rfl (fun K' hK' => ?_)
                            go_simp
                            exact hK' _ _ (hI.put 18 rfl (by decide) (by decide) HND.out HN1.out HLS.out (Ch.refl _ _) rfl (hI.wld.step 18 (by decide) (by decide) (by decide) (by decide) (Ch.refl _ _)))
                          · simp at ho
                            have e18 : lg L 18 = true := by unfold lg; simpa using hall ⟨18, .data⟩ (by rw [← ho]; simp) rfl
                            have f18 : gt a 94 = .pointer (some ⟨Mb, 1, none⟩) := hI.val 18 _ rfl e18
                            have e9 : lg L 9 = true := by unfold lg; simpa using hall ⟨9, .data⟩ (by rw [← ho]; simp) rfl
                            obtain ⟨g9, c9, f9, hh9⟩ : (fun x v => ∃ g c, x = .pointer (some ⟨g, 0, none⟩) ∧ CopyOf wr v g c (inK (kb (kf 0) (kn 0)) (F 0)) (64 + le 0) (fun j => kb (kf 0) (kn 0) j ^^^ 92)) (gt a 85) w' := hI.val 9 _ rfl e9
                            unfold gt at f18 f9
                            clear hall
                            clear ho
                            have hrow := hI.wld.m0 hun
                            have hcl := (cell_of_heap hrow 1).trans (arr_get 2 _ 1 (by omega))
                            have hfz := frozen_of_heap hrow 1
                            refine wpOp_step (o := _) rfl (fun K' hK' => ?_)
                            clear hrow
                            go_simp
                            exact hK' _ _ (hI.skip 19 (by decide) (by simp) HLS.out (Ch.setCell (S := fun t => t = Mb ∨ t = Kb ∨ t = Ab) (Ch.refl _ _) (p := ⟨Mb, 1, none⟩) (fun _ => by simp) _) (hI.wld.stM (by decide) (by decide) hun hh9))
                          · simp at ho
                            have e2 : lg L 2 = true := by unfold lg; simpa using hall ⟨2, .data⟩ (by rw [← ho]; simp) rfl
                            have f2 : gt a 78 = .int .i64 1 := hI.val 2 _ rfl e2
                            have q10 := (hI.fixed 10 (by simp)).trans F10.out
                            unfold gt at f2 q10
                            clear hall
                            clear ho
                            refine wpOp_step (o := _) rfl (fun K' hK' => ?_)
                            go_simp
                            exact hK' _ _ (hI.put 19 rfl (by decide) (by decide) HND.out HN1.out HLS.out (Ch.refl _ _) rfl (hI.wld.step 20 (by decide) (by decide) (by decide) (by decide) (Ch.refl _ _)))
                          · simp at ho
                            have e20 : lg L 20 = true := by unfold lg; simpa using hall ⟨20, .data⟩ (by rw [← ho]; simp) rfl
                            have f20 : gt a 95 = .pointer (some ⟨Kb, 1, none⟩) := hI.val 19 _ rfl e20
                            have e13 : lg L 13 = true := by unfold lg; simpa using hall ⟨13, .data⟩ (by rw [← ho]; simp) rfl
                            have f13 : gt a 89 = .slice (kp 0) (kn 0) (kc 0) := hI.val 13 _ rfl e13
                            unfold gt at f20 f13
                            clear hall
                            clear ho
                            have hrow := hI.wld.k0 hun
                            have hcl := (cell_of_heap hrow 1).trans (arr_get 2 _ 1 (by omega))
                            have hfz := frozen_of_heap hrow 1
                            refine wpOp_step (o := _) rfl (fun K' hK' => ?_)
                            clear hrow
                            go_simp
                            exact hK' _ _ (hI.skip 21 (by decide) (by simp) HLS.out (Ch.setCell (S := fun t => t = Mb ∨ t = Kb ∨ t = Ab) (Ch.refl _ _) (p := ⟨Kb, 1, none⟩) (fun _ => by simp) _) (hI.wld.stK (by decide) (by decide) hun))
                          · simp at ho
                            have e3 : lg L 3 = true := by unfold lg; simpa using hall ⟨3, .data⟩ (by rw [← ho]; simp) rfl
                            have f3 : gt a 79 = .int .i64 1 := hI.val 3 _ rfl e3
                            have q11 := (hI.fixed 11 (by simp)).trans F11.out
                            unfold gt at f3 q11
                            clear hall
                            clear ho
                            refine wpOp_step (o := _) rfl (fun K' hK' => ?_)
                            go_simp
                            exact hK' _ _ (hI.put 20 rfl (by decide) (by decide) HND.out HN1.out HLS.out (Ch.refl _ _) rfl (hI.wld.step 22 (by decide) (by decide) (by decide) (by decide) (Ch.refl _ _)))
                          · simp at ho
                            have e22 : lg L 22 = true := by unfold lg; simpa using hall ⟨22, .data⟩ (by rw [← ho]; simp) rfl
                            have f22 : gt a 96 = .pointer (some ⟨Ab, 1, none⟩) := hI.val 20 _ rfl e22
                            have e17 : lg L 17 = true := by unfold lg; simpa using hall ⟨17, .data⟩ (by rw [← ho]; simp) rfl
                            have f17 : gt a 93 = .slice (q 0) (le 0) (c 0) := hI.val 17 _ rfl e17
                            unfold gt at f22 f17
                            clear hall
                            clear ho
                            have hrow := hI.wld.a0 hun
                            have hcl := (cell_of_heap hrow 1).trans (arr_get 2 _ 1 (by omega))
                            have hfz := frozen_of_heap hrow 1
                            refine wpOp_step (o := _) rfl (fun K' hK' => ?_)
                            clear hrow
                            go_simp
                            exact hK' _ _ (hI.skip 23 (by decide) (by simp) HLS.out (Ch.setCell (S := fun t => t = Mb ∨ t = Kb ∨ t = Ab) (Ch.refl _ _) (p := ⟨Ab, 1, none⟩) (fun _ => by simp) _) (hI.wld.stA (by decide) (by decide) hun))
                        · intro L a w' hI hr
                          have hal := all_listed' (md := .any) (by kernel_rfl) hI.lsize hr
                          have hfr := hI.frame HSZ.out (by simp)
                          have k0 : gt a 76 = .slice (some ⟨Mb, 0, none⟩) 2 2 := hI.val 0 _ rfl (hal 0 (by decide))
                          have k1 : gt a 77 = .int .i64 1 := hI.val 1 _ rfl (hal 1 (by decide))
                          have k2 : gt a 78 = .int .i64 1 := hI.val 2 _ rfl (hal 2 (by decide))
                          have k3 : gt a 79 = .int .i64 1 := hI.val 3 _ rfl (hal 3 (by decide))
                          have k4 : gt a 80 = .slice (some ⟨Mb, 0, none⟩) 2 2 := hI.val 4 _ rfl (hal 4 (by decide))
                          have k5 : gt a 81 = .int .i64 1 := hI.val 5 _ rfl (hal 5 (by decide))
                          have k6 : gt a 82 = .int .i64 0 := hI.val 6 _ rfl (hal 6 (by decide))
                          have k7 : gt a 83 = .pointer (some ⟨Mb, 0, none⟩) := hI.val 7 _ rfl (hal 7 (by decide))
                          have k8 : gt a 84 = .pointer (some ⟨b 0, 0, none⟩) := hI.val 8 _ rfl (hal 8 (by decide))
                          obtain ⟨g9, c9, k9, hh9⟩ : (fun x v => ∃ g c, x = .pointer (some ⟨g, 0, none⟩) ∧ CopyOf wr v g c (inK (kb (kf 0) (kn 0)) (F 0)) (64 + le 0) (fun j => kb (kf 0) (kn 0) j ^^^ 92)) (gt a 85) w' := hI.val 9 _ rfl (hal 9 (by decide))
                          have H9 := Go.Lib.hid hh9
                          have k10 : gt a 86 = .int .i64 1 := hI.val 10 _ rfl (hal 10 (by decide))
                          have k11 : gt a 87 = .int .i64 0 := hI.val 11 _ rfl (hal 11 (by decide))
                          have k12 : gt a 88 = .pointer (some ⟨Kb, 0, none⟩) := hI.val 12 _ rfl (hal 12 (by decide))
                          have k13 : gt a 89 = .slice (kp 0) (kn 0) (kc 0) := hI.val 13 _ rfl (hal 13 (by decide))
                          have k14 : gt a 90 = .int .i64 1 := hI.val 14 _ rfl (hal 14 (by decide))
                          have k15 : gt a 91 = .int .i64 0 := hI.val 15 _ rfl (hal 15 (by decide))
                          have k16 : gt a 92 = .pointer (some ⟨Ab, 0, none⟩) := hI.val 16 _ rfl (hal 16 (by decide))
                          have k17 : gt a 93 = .slice (q 0) (le 0) (c 0) := hI.val 17 _ rfl (hal 17 (by decide))
                          have k18 : gt a 94 = .pointer (some ⟨Mb, 1, none⟩) := hI.val 18 _ rfl (hal 18 (by decide))
                          have k20 : gt a 95 = .pointer (some ⟨Kb, 1, none⟩) := hI.val 19 _ rfl (hal 20 (by decide))
                          have k22 : gt a 96 = .pointer (some ⟨Ab, 1, none⟩) := hI.val 20 _ rfl (hal 22 (by decide))
                          rw [hfr, ← HAX.out]
                          have HMX := Go.Lib.hid (hI.wld.m1 (hal 19 (by decide))); have HKX := Go.Lib.hid (hI.wld.k1 (hal 21 (by decide))); have HAX2 := Go.Lib.hid (hI.wld.a1 (hal 23 (by decide))); have HCH := Go.Lib.hid hI.wld.ch
                          simp only [List.map_cons, List.map_nil, List.foldl_cons, List.foldl_nil, k0, k1, k2, k3, k4, k5, k6, k7, k8, k9, k10, k11, k12, k13, k14, k15, k16, k17, k18, k20, k22, List.setIfInBounds_toArray, List.set_cons_succ, List.set_cons_zero]
                          clear hfr hI hal hr k0 k1 k2 k3 k4 k5 k6 k7 k8 k9 k10 k11 k12 k13 k14 k15 k16 k17 k18 k20 k22 hh9 HSZ HND HN1 HLS HAX F8 F10 F11 F13
                          obtain ⟨x, y, hcp, hrM⟩ := HMX.out
                          have hp2 := HP.out.copied2 (k := 1) (l := 0) (by omega) HCH.out hcp.late.1 hcp.late.2 hcp.mac HSW.out hrM HKX.out HAX2.out
                          have HP2 := Go.Lib.hid hp2
                          have HCW2 := Go.Lib.hid (show Ch (fun _ => False) w w' from HC.out.then HCH.out (fun i hi e => by have := HP.out.three; omega))
                          clear hcp hrM hp2 HMX HKX HAX2 HCH H9 HCP HST HDS HSW
                          go_wp2_with fail
                          go_roundw
                          case rel =>
                            refine ⟨rd + 1, by omega, by go_num, ⟨_, _, _, _, _, _, _, _, _, _, HP2.out, fun t ht => ?_⟩, HCW2.out⟩
                            by_cases e : t = 1
                            · subst e; rw [put2_self]; omega
                            · rw [put2_ne _ _ _ _ e]; have := HLL.out t ht; omega
                          case measure => simp [intOf]; omega
              · obtain rfl : N = rd := by omega
                clear HT HRT
                generalize hv (tagB (kb (kf 0) (kn 0)) (F 0) (le 0)) = R0 at *
                generalize hv (tagB (kb (kf 1) (kn 1)) (F 1) (le 1)) = R1 at *
                go_wp2_with fail
                refine (gone_any _ _).mono ?_
                rintro e w2 ⟨xg, rfl, hx, hc2⟩
                have HX := Go.Lib.hid hx; have HC2 := Go.Lib.hid hc2
                clear hx hc2
                go_upto_region 29 with (fail)
                generalize hax : Act.mk _ _ = ax
                have HSZ := Go.Lib.hid (show ax.tmps.size = 186 by rw [← hax]; rfl)
                have F8 := Go.Lib.hid (show gt ax 8 = .slice (some ⟨Mb, 0, none⟩) 2 2 by rw [← hax]; rfl)
                have F10 := Go.Lib.hid (show gt ax 10 = .pointer (some ⟨Kb, 0, none⟩) by rw [← hax]; rfl)
                have F11 := Go.Lib.hid (show gt ax 11 = .pointer (some ⟨Ab, 0, none⟩) by rw [← hax]; rfl)
                have F14 := Go.Lib.hid (show gt ax 14 = xg by rw [← hax]; rfl)
                have HAX := Go.Lib.hid hax
                clear hax
                have HND := Go.Lib.hid (show ([144, 145, 146, 147, 148, 149, 150, 151, 152, 153, 154, 155, 156, 157, 158, 159, 160, 161, 162, 163, 164, 165, 166, 167, 168, 169, 170, 171, 172, 173, 174, 175, 176, 177, 178, 179, 180, 181, 182, 183, 184, 185] : List Nat).Nodup by decide)
                have HLS : Hid (Lasts [(144, fun x _ => x = .slice (some ⟨Mb, 0, none⟩) 2 2), (145, fun x _ => x = .pointer (some ⟨Mb, 0, none⟩)), (146, fun x _ => x = .pointer (some ⟨b 0, 0, none⟩)), (147, fun x _ => x = .agg R0), (148, fun x _ => x = .pointer (some ⟨Kb, 0, none⟩)), (149, fun x _ => x = .slice (kp 0) (kn 0) (kc 0)), (150, fun x _ => x = .pointer (some ⟨Ab, 0, none⟩)), (151, fun x _ => x = .slice (q 0) (le 0) (c 0)), (152, fun x _ => x = .agg R0), (153, fun x _ => x = .bool true), (154, fun x _ => x = .bool true), (155, fun x _ => x = .slice (some ⟨Mb, 0, none⟩) 2 2), (156, fun x _ => x = .pointer (some ⟨Mb, 1, none⟩)), (157, fun x _ => x = .pointer (some ⟨b 1, 0, none⟩)), (158, fun x _ => x = .agg R1), (159, fun x _ => x = .pointer (some ⟨Kb, 1, none⟩)), (160, fun x _ => x = .slice (kp 1) (kn 1) (kc 1)), (161, fun x _ => x = .pointer (some ⟨Ab, 1, none⟩)), (162, fun x _ => x = .slice (q 1) (le 1) (c 1)), (163, fun x _ => x = .agg R1), (164, fun x _ => x = .bool true), (165, fun x _ => x = .bool true), (166, fun x _ => x = .bool true), (167, fun x _ => x = xg), (168, fun x _ => x = .int .i64 1), (169, fun x _ => x = .int .i64 1), (170, fun x _ => x = .bool true), (171, fun x _ => x = .bool true), (172, fun x _ => x = .bool true), (173, fun x _ => x = xg), (174, fun x _ => x = .agg (hv fun _ => 0)), (175, fun x _ => x = .agg (hv fun _ => 0)), (176, fun x _ => x = .bool true), (177, fun x _ => x = .bool true), (178, fun x _ => x = .bool true), (179, fun x _ => x = xg), (180, fun x _ => x = .pointer none), (181, fun x _ => x = .bool true), (182, fun x _ => x = .bool true), (183, fun x _ => x = .bool true), (184, fun x _ => x = .bool true), (185, fun x _ => x = .bool true)]) := Go.Lib.hid (by
                  intro p hp v w1 w2 hc h
                  simp only [List.mem_cons, List.not_mem_nil, or_false] at hp
                  rcases hp with rfl | rfl | rfl | rfl | rfl | rfl | rfl | rfl | rfl | rfl | rfl | rfl | rfl | rfl | rfl | rfl | rfl | rfl | rfl | rfl | rfl | rfl | rfl | rfl | rfl | rfl | rfl | rfl | rfl | rfl | rfl | rfl | rfl | rfl | rfl | rfl | rfl | rfl | rfl | rfl | rfl | rfl
                  all_goals first | exact h | (obtain ⟨g, h1, h2⟩ := h; exact ⟨g, h1, hc.heap h2 id⟩) | (obtain ⟨g, c, h1, h2⟩ := h; exact ⟨g, c, h1, h2.ch hc (fun _ _ h => h)⟩))
                refine wp_region_open_tail 42 (InvQ 186 [(144, fun x _ => x = .slice (some ⟨Mb, 0, none⟩) 2 2), (145, fun x _ => x = .pointer (some ⟨Mb, 0, none⟩)), (146, fun x _ => x = .pointer (some ⟨b 0, 0, none⟩)), (147, fun x _ => x = .agg R0), (148, fun x _ => x = .pointer (some ⟨Kb, 0, none⟩)), (149, fun x _ => x = .slice (kp 0) (kn 0) (kc 0)), (150, fun x _ => x = .pointer (some ⟨Ab, 0, none⟩)), (151, fun x _ => x = .slice (q 0) (le 0) (c 0)), (152, fun x _ => x = .agg R0), (153, fun x _ => x = .bool true), (154, fun x _ => x = .bool true), (155, fun x _ => x = .slice (some ⟨Mb, 0, none⟩) 2 2), (156, fun x _ => x = .pointer (some ⟨Mb, 1, none⟩)), (157, fun x _ => x = .pointer (some ⟨b 1, 0, none⟩)), (158, fun x _ => x = .agg R1), (159, fun x _ => x = .pointer (some ⟨Kb, 1, none⟩)), (160, fun x _ => x = .slice (kp 1) (kn 1) (kc 1)), (161, fun x _ => x = .pointer (some ⟨Ab, 1, none⟩)), (162, fun x _ => x = .slice (q 1) (le 1) (c 1)), (163, fun x _ => x = .agg R1), (164, fun x _ => x = .bool true), (165, fun x _ => x = .bool true), (166, fun x _ => x = .bool true), (167, fun x _ => x = xg), (168, fun x _ => x = .int .i64 1), (169, fun x _ => x = .int .i64 1), (170, fun x _ => x = .bool true), (171, fun x _ => x = .bool true), (172, fun x _ => x = .bool true), (173, fun x _ => x = xg), (174, fun x _ => x = .agg (hv fun _ => 0)), (175, fun x _ => x = .agg (hv fun _ => 0)), (176, fun x _ => x = .bool true), (177, fun x _ => x = .bool true), (178, fun x _ => x = .bool true), (179, fun x _ => x = xg), (180, fun x _ => x = .pointer none), (181, fun x _ => x = .bool true), (182, fun x _ => x = .bool true), (183, fun x _ => x = .bool true), (184, fun x _ => x = .bool true), (185, fun x _ => x = .bool true)] (fun _ w' => Ch (fun _ => False) w2 w') ax) (by kernel_rfl) (by kernel_rfl) (InvQ.start (by simp) HSZ.out (Ch.refl _ _).drew) ?_ ?_
                · intro L a w' i hI hr hlt
                  obtain ⟨h1, o, ho, hall⟩ := mem_ready.1 hr
                  have hsplit : i = 0 ∨ i = 1 ∨ i = 2 ∨ i = 3 ∨ i = 4 ∨ i = 5 ∨ i = 6 ∨ i = 7 ∨ i = 8 ∨ i = 9 ∨ i = 10 ∨ i = 11 ∨ i = 12 ∨ i = 13 ∨ i = 14 ∨ i = 15 ∨ i = 16 ∨ i = 17 ∨ i = 18 ∨ i = 19 ∨ i = 20 ∨ i = 21 ∨ i = 22 ∨ i = 23 ∨ i = 24 ∨ i = 25 ∨ i = 26 ∨ i = 27 ∨ i = 28 ∨ i = 29 ∨ i = 30 ∨ i = 31 ∨ i = 32 ∨ i = 33 ∨ i = 34 ∨ i = 35 ∨ i = 36 ∨ i = 37 ∨ i = 38 ∨ i = 39 ∨ i = 40 ∨ i = 41 := by omega
                  clear hlt h1 hr
                  rcases hsplit with rfl | rfl | rfl | rfl | rfl | rfl | rfl | rfl | rfl | rfl | rfl | rfl | rfl | rfl | rfl | rfl | rfl | rfl | rfl | rfl | rfl | rfl | rfl | rfl | rfl | rfl | rfl | rfl | rfl | rfl | rfl | rfl | rfl | rfl | rfl | rfl | rfl | rfl | rfl | rfl | rfl | rfl
                  · have q8 := (hI.fixed 8 (by simp)).trans F8.out
                    unfold gt at q8
                    clear hall
                    refine wpOp_step (o := _) rfl (fun K' hK' => ?_)
                    go_simp
                    exact hK' _ _ (hI.put 0 rfl (by decide) HND.out HLS.out  (Ch.refl _ _) rfl hI.wld)
                  · simp at ho
                    have e0 : lg L 0 = true := by unfold lg; simpa using hall ⟨0, .data⟩ (by rw [← ho]; simp) rfl
                    have f0 : gt a 144 = .slice (some ⟨Mb, 0, none⟩) 2 2 := hI.val 0 _ rfl e0
                    unfold gt at f0
                    clear hall
                    clear ho
                    refine wpOp_step (o := _) rfl (fun K' hK' => ?_)
                    go_simp
                    exact hK' _ _ (hI.put 1 rfl (by decide) HND.out HLS.out  (Ch.refl _ _) rfl hI.wld)
                  · simp at ho
                    have e1 : lg L 1 = true := by unfold lg; simpa using hall ⟨1, .data⟩ (by rw [← ho]; simp) rfl
                    have f1 : gt a 145 = .pointer (some ⟨Mb, 0, none⟩) := hI.val 1 _ rfl e1
                    have hcl := (HC2.out.trans hI.wld).get HM0.out id
                    unfold gt at f1
                    clear hall
                    clear ho
                    refine wpOp_step (o := _) rfl (fun K' hK' => ?_)
                    go_simp
                    exact hK' _ _ (hI.put 2 rfl (by decide) HND.out HLS.out  (Ch.refl _ _) rfl hI.wld)
                  · simp at ho
                    have e2 : lg L 2 = true := by unfold lg; simpa using hall ⟨2, .data⟩ (by rw [← ho]; simp) rfl
                    have f2 : gt a 146 = .pointer (some ⟨b 0, 0, none⟩) := hI.val 2 _ rfl e2
                    unfold gt at f2
                    clear hall
                    clear ho
                    have HCT := Go.Lib.hid (HTA.out w' (HC2.out.trans hI.wld))
                    refine wpOp_step (o := _) rfl (fun K' hK' => ?_)
                    go_simp
                    refine HCT.out.mono ?_
                    rintro e w3 ⟨rfl, hc⟩
                    exact hK' _ _ (hI.put 3 rfl (by decide) HND.out HLS.out  hc rfl (hI.wld.trans hc))
                  · have q10 := (hI.fixed 10 (by simp)).trans F10.out
                    unfold gt at q10
                    clear hall
                    refine wpOp_step (o := _) rfl (fun K' hK' => ?_)
                    go_simp
                    exact hK' _ _ (hI.put 4 rfl (by decide) HND.out HLS.out  (Ch.refl _ _) rfl hI.wld)
                  · simp at ho
                    have e4 : lg L 4 = true := by unfold lg; simpa using hall ⟨4, .data⟩ (by rw [← ho]; simp) rfl
                    have f4 : gt a 148 = .pointer (some ⟨Kb, 0, none⟩) := hI.val 4 _ rfl e4
                    have hcl := (HC2.out.trans hI.wld).get HQ0.out id
                    unfold gt at f4
                    clear hall
                    clear ho
                    refine wpOp_step (o := _) rfl (fun K' hK' => ?_)
                    go_simp
                    exact hK' _ _ (hI.put 5 rfl (by decide) HND.out HLS.out  (Ch.refl _ _) rfl hI.wld)
                  · have q11 := (hI.fixed 11 (by simp)).trans F11.out
                    unfold gt at q11
                    clear hall
                    refine wpOp_step (o := _) rfl (fun K' hK' => ?_)
                    go_simp
                    exact hK' _ _ (hI.put 6 rfl (by decide) HND.out HLS.out  (Ch.refl _ _) rfl hI.wld)
                  · simp at ho
                    have e6 : lg L 6 = true := by unfold lg; simpa using hall ⟨6, .data⟩ (by rw [← ho]; simp) rfl
                    have f6 : gt a 150 = .pointer (some ⟨Ab, 0, none⟩) := hI.val 6 _ rfl e6
                    have hcl := (HC2.out.trans hI.wld).get HA0.out id
                    unfold gt at f6
                    clear hall
                    clear ho
                    refine wpOp_step (o := _) rfl (fun K' hK' => ?_)
                    go_simp
                    exact hK' _ _ (hI.put 7 rfl (by decide) HND.out HLS.out  (Ch.refl _ _) rfl hI.wld)
                  · simp at ho
                    have e5 : lg L 5 = true := by unfold lg; simpa using hall ⟨5, .data⟩ (by rw [← ho]; simp) rfl
                    have f5 : gt a 149 = .slice (kp 0) (kn 0) (kc 0) := hI.val 5 _ rfl e5
                    have e7 : lg L 7 = true := by unfold lg; simpa using hall ⟨7, .data⟩ (by rw [← ho]; simp) rfl
                    have f7 : gt a 151 = .slice (q 0) (le 0) (c 0) := hI.val 7 _ rfl e7
                    unfold gt at f5 f7
                    clear hall
                    clear ho
                    have HCT := Go.Lib.hid (HRA.out w' (HC2.out.trans hI.wld))
                    refine wpOp_step (o := _) rfl (fun K' hK' => ?_)
                    go_simp
                    refine HCT.out.mono ?_
                    rintro e w3 ⟨rfl, hc⟩
                    exact hK' _ _ (hI.put 8 rfl (by decide) HND.out HLS.out  hc rfl (hI.wld.trans hc))
                  · simp at ho
                    have e3 : lg L 3 = true := by unfold lg; simpa using hall ⟨3, .data⟩ (by rw [← ho]; simp) rfl
                    have f3 : gt a 147 = .agg R0 := hI.val 3 _ rfl e3
                    have e8 : lg L 8 = true := by unfold lg; simpa using hall ⟨8, .data⟩ (by rw [← ho]; simp) rfl
                    have f8 : gt a 152 = .agg R0 := hI.val 8 _ rfl e8
                    unfold gt at f3 f8
                    clear hall
                    clear ho
                    refine wpOp_step (o := _) rfl (fun K' hK' => ?_)
                    exact wp_eql (.tmp 147) (.tmp 152) 28 28 rfl R0 R0 (by simpa [Act.eval] using f3) (by simpa [Act.eval] using f8) eqg28 (HEA.out _) (hK' _ _ (hI.put 9 rfl (by decide) HND.out HLS.out  (Ch.refl _ _) rfl hI.wld))
                  · simp at ho
                    have e9 : lg L 9 = true := by unfold lg; simpa using hall ⟨9, .data⟩ (by rw [← ho]; simp) rfl
                    have f9 : gt a 153 = .bool true := hI.val 9 _ rfl e9
                    unfold gt at f9
                    clear hall
                    clear ho
                    refine wpOp_step (o := _) rfl (fun K' hK' => ?_)
                    go_simp
                    exact hK' _ _ (hI.put 10 rfl (by decide) HND.out HLS.out  (Ch.refl _ _) rfl hI.wld)
                  · simp at ho
                    have q8 := (hI.fixed 8 (by simp)).trans F8.out
                    have eg : lg L 10 = true := by unfold lg; simpa using hall ⟨10, .guard⟩ (by rw [← ho]; simp) rfl
                    have fg0 : gt a 154 = .bool true := hI.val 10 _ rfl eg
                    have fg := guard_of fg0 (by rw [hI.size]; decide)
                    clear eg fg0
                    unfold gt at q8
                    clear hall
                    clear ho
                    refine wpOp_step (o := _) rfl (fun K' hK' => ?_)
                    go_simp
                    exact hK' _ _ (hI.put 11 rfl (by decide) HND.out HLS.out  (Ch.refl _ _) rfl hI.wld)
                  · simp at ho
                    have e11 : lg L 11 = true := by unfold lg; simpa using hall ⟨11, .data⟩ (by rw [← ho]; simp) rfl
                    have f11 : gt a 155 = .slice (some ⟨Mb, 0, none⟩) 2 2 := hI.val 11 _ rfl e11
                    have eg : lg L 10 = true := by unfold lg; simpa using hall ⟨10, .guard⟩ (by rw [← ho]; simp) rfl
                    have fg0 : gt a 154 = .bool true := hI.val 10 _ rfl eg
                    have fg := guard_of fg0 (by rw [hI.size]; decide)
                    clear eg fg0
                    unfold gt at f11
                    clear hall
                    clear ho
                    refine wpOp_step (o := _) rfl (fun K' hK' => ?_)
                    go_simp
                    exact hK' _ _ (hI.put 12 rfl (by decide) HND.out HLS.out  (Ch.refl _ _) rfl hI.wld)
                  · simp at ho
                    have e12 : lg L 12 = true := by unfold lg; simpa using hall ⟨12, .data⟩ (by rw [← ho]; simp) rfl
                    have f12 : gt a 156 = .pointer (some ⟨Mb, 1, none⟩) := hI.val 12 _ rfl e12
                    have eg : lg L 10 = true := by unfold lg; simpa using hall ⟨10, .guard⟩ (by rw [← ho]; simp) rfl
                    have fg0 : gt a 154 = .bool true := hI.val 10 _ rfl eg
                    have fg := guard_of fg0 (by rw [hI.size]; decide)
                    clear eg fg0
                    have hcl := (HC2.out.trans hI.wld).get HM1.out id
                    unfold gt at f12
                    clear hall
                    clear ho
                    refine wpOp_step (o := _) rfl (fun K' hK' => ?_)
                    go_simp
                    exact hK' _ _ (hI.put 13 rfl (by decide) HND.out HLS.out  (Ch.refl _ _) rfl hI.wld)
                  · simp at ho
                    have e13 : lg L 13 = true := by unfold lg; simpa using hall ⟨13, .data⟩ (by rw [← ho]; simp) rfl
                    have f13 : gt a 157 = .pointer (some ⟨b 1, 0, none⟩) := hI.val 13 _ rfl e13
                    have eg : lg L 10 = true := by unfold lg; simpa using hall ⟨10, .guard⟩ (by rw [← ho]; simp) rfl
                    have fg0 : gt a 154 = .bool true := hI.val 10 _ rfl eg
                    have fg := guard_of fg0 (by rw [hI.size]; decide)
                    clear eg fg0
                    unfold gt at f13
                    clear hall
                    clear ho
                    have HCT := Go.Lib.hid (HTB.out w' (HC2.out.trans hI.wld))
                    refine wpOp_step (o := _) rfl (fun K' hK' => ?_)
                    go_simp
                    refine HCT.out.mono ?_
                    rintro e w3 ⟨rfl, hc⟩
                    exact hK' _ _ (hI.put 14 rfl (by decide) HND.out HLS.out  hc rfl (hI.wld.trans hc))
                  · simp at ho
                    have q10 := (hI.fixed 10 (by simp)).trans F10.out
                    have eg : lg L 10 = true := by unfold lg; simpa using hall ⟨10, .guard⟩ (by rw [← ho]; simp) rfl
                    have fg0 : gt a 154 = .bool true := hI.val 10 _ rfl eg
                    have fg := guard_of fg0 (by rw [hI.size]; decide)
                    clear eg fg0
                    unfold gt at q10
                    clear hall
                    clear ho
                    refine wpOp_step (o := _) rfl (fun K' hK' => ?_)
                    go_simp
                    exact hK' _ _ (hI.put 15 rfl (by decide) HND.out HLS.out  (Ch.refl _ _) rfl hI.wld)
                  · simp at ho
                    have e15 : lg L 15 = true := by unfold lg; simpa using hall ⟨15, .data⟩ (by rw [← ho]; simp) rfl
                    have f15 : gt a 159 = .pointer (some ⟨Kb, 1, none⟩) := hI.val 15 _ rfl e15
                    have eg : lg L 10 = true := by unfold lg; simpa using hall ⟨10, .guard⟩ (by rw [← ho]; simp) rfl
                    have fg0 : gt a 154 = .bool true := hI.val 10 _ rfl eg
                    have fg := guard_of fg0 (by rw [hI.size]; decide)
                    clear eg fg0
                    have hcl := (HC2.out.trans hI.wld).get HQ1.out id
                    unfold gt at f15
                    clear hall
                    clear ho
                    refine wpOp_step (o := _) rfl (fun K' hK' => ?_)
                    go_simp
                    exact hK' _ _ (hI.put 16 rfl (by decide) HND.out HLS.out  (Ch.refl _ _) rfl hI.wld)
                  · simp at ho
                    have q11 := (hI.fixed 11 (by simp)).trans F11.out
                    have eg : lg L 10 = true := by unfold lg; simpa using hall ⟨10, .guard⟩ (by rw [← ho]; simp) rfl
                    have fg0 : gt a 154 = .bool true := hI.val 10 _ rfl eg
                    have fg := guard_of fg0 (by rw [hI.size]; decide)
                    clear eg fg0
                    unfold gt at q11
                    clear hall
                    clear ho
                    refine wpOp_step (o := _) rfl (fun K' hK' => ?_)
                    go_simp
                    exact hK' _ _ (hI.put 17 rfl (by decide) HND.out HLS.out  (Ch.refl _ _) rfl hI.wld)
                  · simp at ho
                    have e17 : lg L 17 = true := by unfold lg; simpa using hall ⟨17, .data⟩ (by rw [← ho]; simp) rfl
                    have f17 : gt a 161 = .pointer (some ⟨Ab, 1, none⟩) := hI.val 17 _ rfl e17
                    have eg : lg L 10 = true := by unfold lg; simpa using hall ⟨10, .guard⟩ (by rw [← ho]; simp) rfl
                    have fg0 : gt a 154 = .bool true := hI.val 10 _ rfl eg
                    have fg := guard_of fg0 (by rw [hI.size]; decide)
                    clear eg fg0
                    have hcl := (HC2.out.trans hI.wld).get HA1.out id
                    unfold gt at f17
                    clear hall
                    clear ho
                    refine wpOp_step (o := _) rfl (fun K' hK' => ?_)
                    go_simp
                    exact hK' _ _ (hI.put 18 rfl (by decide) HND.out HLS.out  (Ch.refl _ _) rfl hI.wld)
                  · simp at ho
                    have e16 : lg L 16 = true := by unfold lg; simpa using hall ⟨16, .data⟩ (by rw [← ho]; simp) rfl
                    have f16 : gt a 160 = .slice (kp 1) (kn 1) (kc 1) := hI.val 16 _ rfl e16
                    have e18 : lg L 18 = true := by unfold lg; simpa using hall ⟨18, .data⟩ (by rw [← ho]; simp) rfl
                    have f18 : gt a 162 = .slice (q 1) (le 1) (c 1) := hI.val 18 _ rfl e18
                    have eg : lg L 10 = true := by unfold lg; simpa using hall ⟨10, .guard⟩ (by rw [← ho]; simp) rfl
                    have fg0 : gt a 154 = .bool true := hI.val 10 _ rfl eg
                    have fg := guard_of fg0 (by rw [hI.size]; decide)
                    clear eg fg0
                    unfold gt at f16 f18
                    clear hall
                    clear ho
                    have HCT := Go.Lib.hid (HRB.out w' (HC2.out.trans hI.wld))
                    refine wpOp_step (o := _) rfl (fun K' hK' => ?_)
                    go_simp
                    refine HCT.out.mono ?_
                    rintro e w3 ⟨rfl, hc⟩
                    exact hK' _ _ (hI.put 19 rfl (by decide) HND.out HLS.out  hc rfl (hI.wld.trans hc))
                  · simp at ho
                    have e14 : lg L 14 = true := by unfold lg; simpa using hall ⟨14, .data⟩ (by rw [← ho]; simp) rfl
                    have f14 : gt a 158 = .agg R1 := hI.val 14 _ rfl e14
                    have e19 : lg L 19 = true := by unfold lg; simpa using hall ⟨19, .data⟩ (by rw [← ho]; simp) rfl
                    have f19 : gt a 163 = .agg R1 := hI.val 19 _ rfl e19
                    have eg : lg L 10 = true := by unfold lg; simpa using hall ⟨10, .guard⟩ (by rw [← ho]; simp) rfl
                    have fg0 : gt a 154 = .bool true := hI.val 10 _ rfl eg
                    have fg := guard_of fg0 (by rw [hI.size]; decide)
                    clear eg fg0
                    unfold gt at f14 f19
                    clear hall
                    clear ho
                    refine wpOp_step (o := _) rfl (fun K' hK' => ?_)
                    rw [if_pos (by simp [Region.wanted, yielded, fg])]
                    exact wp_eql (.tmp 158) (.tmp 163) 28 28 rfl R1 R1 (by simpa [Act.eval] using f14) (by simpa [Act.eval] using f19) eqg28 (HEB.out _) (hK' _ _ (hI.put 20 rfl (by decide) HND.out HLS.out  (Ch.refl _ _) rfl hI.wld))
                  · simp at ho
                    have e10 : lg L 10 = true := by unfold lg; simpa using hall ⟨10, .data⟩ (by rw [← ho]; simp) rfl
                    have f10 : gt a 154 = .bool true := hI.val 10 _ rfl e10
                    have e20 : lg L 20 = true := by unfold lg; simpa using hall ⟨20, .data⟩ (by rw [← ho]; simp) rfl
                    have f20 : gt a 164 = .bool true := hI.val 20 _ rfl e20
                    unfold gt at f10 f20
                    clear hall
                    clear ho
                    refine wpOp_step (o := _) rfl (fun K' hK' => ?_)
                    go_simp
                    exact hK' _ _ (hI.put 21 rfl (by decide) HND.out HLS.out  (Ch.refl _ _) rfl hI.wld)
                  · simp at ho
                    have e21 : lg L 21 = true := by unfold lg; simpa using hall ⟨21, .data⟩ (by rw [← ho]; simp) rfl
                    have f21 : gt a 165 = .bool true := hI.val 21 _ rfl e21
                    unfold gt at f21
                    clear hall
                    clear ho
                    refine wpOp_step (o := _) rfl (fun K' hK' => ?_)
                    go_simp
                    exact hK' _ _ (hI.put 22 rfl (by decide) HND.out HLS.out  (Ch.refl _ _) rfl hI.wld)
                  · simp at ho
                    have q14 := (hI.fixed 14 (by simp)).trans F14.out
                    have eg : lg L 22 = true := by unfold lg; simpa using hall ⟨22, .guard⟩ (by rw [← ho]; simp) rfl
                    have fg0 : gt a 166 = .bool true := hI.val 22 _ rfl eg
                    have fg := guard_of fg0 (by rw [hI.size]; decide)
                    clear eg fg0
                    unfold gt at q14
                    clear hall
                    clear ho
                    refine wpOp_step (o := _) rfl (fun K' hK' => ?_)
                    go_simp
                    exact hK' _ _ (hI.put 23 rfl (by decide) HND.out HLS.out  (Ch.refl _ _) rfl hI.wld)
                  · simp at ho
                    have e23 : lg L 23 = true := by unfold lg; simpa using hall ⟨23, .data⟩ (by rw [← ho]; simp) rfl
                    have f23 : gt a 167 = xg := hI.val 23 _ rfl e23
                    have eg : lg L 22 = true := by unfold lg; simpa using hall ⟨22, .guard⟩ (by rw [← ho]; simp) rfl
                    have fg0 : gt a 166 = .bool true := hI.val 22 _ rfl eg
                    have fg := guard_of fg0 (by rw [hI.size]; decide)
                    clear eg fg0
                    unfold gt at f23
                    clear hall
                    clear ho
                    have HCT := Go.Lib.hid (mwrite_no xg none 0 0 w' (HX.out.ch hI.wld))
                    refine wpOp_step (o := _) rfl (fun K' hK' => ?_)
                    go_simp
                    refine HCT.out.mono ?_
                    rintro e w3 ⟨rfl, rfl⟩
                    exact hK' _ _ (hI.put 24 rfl (by decide) HND.out HLS.out (Ch.refl _ _) rfl hI.wld)
                  · simp at ho
                    have e24 : lg L 24 = true := by unfold lg; simpa using hall ⟨24, .data⟩ (by rw [← ho]; simp) rfl
                    have f24 : gt a 168 = .int .i64 1 := hI.val 24 _ rfl e24
                    have eg : lg L 22 = true := by unfold lg; simpa using hall ⟨22, .guard⟩ (by rw [← ho]; simp) rfl
                    have fg0 : gt a 166 = .bool true := hI.val 22 _ rfl eg
                    have fg := guard_of fg0 (by rw [hI.size]; decide)
                    clear eg fg0
                    unfold gt at f24
                    clear hall
                    clear ho
                    have HCT := Go.Lib.hid (num17 1 w')
                    refine wpOp_step (o := _) rfl (fun K' hK' => ?_)
                    go_simp
                    refine HCT.out.mono ?_
                    rintro e w3 ⟨rfl, rfl⟩
                    exact hK' _ _ (hI.put 25 rfl (by decide) HND.out HLS.out (Ch.refl _ _) rfl hI.wld)
                  · simp at ho
                    have e25 : lg L 25 = true := by unfold lg; simpa using hall ⟨25, .data⟩ (by rw [← ho]; simp) rfl
                    have f25 : gt a 169 = .int .i64 1 := hI.val 25 _ rfl e25
                    have eg : lg L 22 = true := by unfold lg; simpa using hall ⟨22, .guard⟩ (by rw [← ho]; simp) rfl
                    have fg0 : gt a 166 = .bool true := hI.val 22 _ rfl eg
                    have fg := guard_of fg0 (by rw [hI.size]; decide)
                    clear eg fg0
                    unfold gt at f25
                    clear hall
                    clear ho
                    refine wpOp_step (o := _) rfl (fun K' hK' => ?_)
                    go_simp
                    exact hK' _ _ (hI.put 26 rfl (by decide) HND.out HLS.out  (Ch.refl _ _) rfl hI.wld)
                  · simp at ho
                    have e22 : lg L 22 = true := by unfold lg; simpa using hall ⟨22, .data⟩ (by rw [← ho]; simp) rfl
                    have f22 : gt a 166 = .bool true := hI.val 22 _ rfl e22
                    have e26 : lg L 26 = true := by unfold lg; simpa using hall ⟨26, .data⟩ (by rw [← ho]; simp) rfl
                    have f26 : gt a 170 = .bool true := hI.val 26 _ rfl e26
                    unfold gt at f22 f26
                    clear hall
                    clear ho
                    refine wpOp_step (o := _) rfl (fun K' hK' => ?_)
                    go_simp
                    exact hK' _ _ (hI.put 27 rfl (by decide) HND.out HLS.out  (Ch.refl _ _) rfl hI.wld)
                  · simp at ho
                    have e27 : lg L 27 = true := by unfold lg; simpa using hall ⟨27, .data⟩ (by rw [← ho]; simp) rfl
                    have f27 : gt a 171 = .bool true := hI.val 27 _ rfl e27
                    unfold gt at f27
                    clear hall
                    clear ho
                    refine wpOp_step (o := _) rfl (fun K' hK' => ?_)
                    go_simp
                    exact hK' _ _ (hI.put 28 rfl (by decide) HND.out HLS.out  (Ch.refl _ _) rfl hI.wld)
                  · simp at ho
                    have q14 := (hI.fixed 14 (by simp)).trans F14.out
                    have eg : lg L 28 = true := by unfold lg; simpa using hall ⟨28, .guard⟩ (by rw [← ho]; simp) rfl
                    have fg0 : gt a 172 = .bool true := hI.val 28 _ rfl eg
                    have fg := guard_of fg0 (by rw [hI.size]; decide)
                    clear eg fg0
                    unfold gt at q14
                    clear hall
                    clear ho
                    refine wpOp_step (o := _) rfl (fun K' hK' => ?_)
                    go_simp
                    exact hK' _ _ (hI.put 29 rfl (by decide) HND.out HLS.out  (Ch.refl _ _) rfl hI.wld)
                  · simp at ho
                    have e29 : lg L 29 = true := by unfold lg; simpa using hall ⟨29, .data⟩ (by rw [← ho]; simp) rfl
                    have f29 : gt a 173 = xg := hI.val 29 _ rfl e29
                    have eg : lg L 28 = true := by unfold lg; simpa using hall ⟨28, .guard⟩ (by rw [← ho]; simp) rfl
                    have fg0 : gt a 172 = .bool true := hI.val 28 _ rfl eg
                    have fg := guard_of fg0 (by rw [hI.size]; decide)
                    clear eg fg0
                    unfold gt at f29
                    clear hall
                    clear ho
                    have HCT := Go.Lib.hid (mtag_no xg w' (HX.out.ch hI.wld))
                    refine wpOp_step (o := _) rfl (fun K' hK' => ?_)
                    go_simp
                    refine HCT.out.mono ?_
                    rintro e w3 ⟨rfl, hc⟩
                    exact hK' _ _ (hI.put 30 rfl (by decide) HND.out HLS.out  hc rfl (hI.wld.trans hc))
                  · simp at ho
                    have eg : lg L 28 = true := by unfold lg; simpa using hall ⟨28, .guard⟩ (by rw [← ho]; simp) rfl
                    have fg0 : gt a 172 = .bool true := hI.val 28 _ rfl eg
                    have fg := guard_of fg0 (by rw [hI.size]; decide)
                    clear eg fg0
                    clear hall
                    clear ho
                    refine wpOp_step (o := _) rfl (fun K' hK' => ?_)
                    go_simp
                    exact hK' _ _ (hI.put 31 rfl (by decide) HND.out HLS.out  (Ch.refl _ _) rfl hI.wld)
                  · simp at ho
                    have e30 : lg L 30 = true := by unfold lg; simpa using hall ⟨30, .data⟩ (by rw [← ho]; simp) rfl
                    have f30 : gt a 174 = .agg (hv fun _ => 0) := hI.val 30 _ rfl e30
                    have e31 : lg L 31 = true := by unfold lg; simpa using hall ⟨31, .data⟩ (by rw [← ho]; simp) rfl
                    have f31 : gt a 175 = .agg (hv fun _ => 0) := hI.val 31 _ rfl e31
                    have eg : lg L 28 = true := by unfold lg; simpa using hall ⟨28, .guard⟩ (by rw [← ho]; simp) rfl
                    have fg0 : gt a 172 = .bool true := hI.val 28 _ rfl eg
                    have fg := guard_of fg0 (by rw [hI.size]; decide)
                    clear eg fg0
                    unfold gt at f30 f31
                    clear hall
                    clear ho
                    refine wpOp_step (o := _) rfl (fun K' hK' => ?_)
                    rw [if_pos (by simp [Region.wanted, yielded, fg])]
                    exact wp_eql (.tmp 174) (.tmp 175) 28 28 rfl (hv fun _ => 0) (hv fun _ => 0) (by simpa [Act.eval] using f30) (by simpa [Act.eval] using f31) eqg28 (HEZ.out _) (hK' _ _ (hI.put 32 rfl (by decide) HND.out HLS.out  (Ch.refl _ _) rfl hI.wld))
                  · simp at ho
                    have e28 : lg L 28 = true := by unfold lg; simpa using hall ⟨28, .data⟩ (by rw [← ho]; simp) rfl
                    have f28 : gt a 172 = .bool true := hI.val 28 _ rfl e28
                    have e32 : lg L 32 = true := by unfold lg; simpa using hall ⟨32, .data⟩ (by rw [← ho]; simp) rfl
                    have f32 : gt a 176 = .bool true := hI.val 32 _ rfl e32
                    unfold gt at f28 f32
                    clear hall
                    clear ho
                    refine wpOp_step (o := _) rfl (fun K' hK' => ?_)
                    go_simp
                    exact hK' _ _ (hI.put 33 rfl (by decide) HND.out HLS.out  (Ch.refl _ _) rfl hI.wld)
                  · simp at ho
                    have e33 : lg L 33 = true := by unfold lg; simpa using hall ⟨33, .data⟩ (by rw [← ho]; simp) rfl
                    have f33 : gt a 177 = .bool true := hI.val 33 _ rfl e33
                    unfold gt at f33
                    clear hall
                    clear ho
                    refine wpOp_step (o := _) rfl (fun K' hK' => ?_)
                    go_simp
                    exact hK' _ _ (hI.put 34 rfl (by decide) HND.out HLS.out  (Ch.refl _ _) rfl hI.wld)
                  · simp at ho
                    have q14 := (hI.fixed 14 (by simp)).trans F14.out
                    have eg : lg L 34 = true := by unfold lg; simpa using hall ⟨34, .guard⟩ (by rw [← ho]; simp) rfl
                    have fg0 : gt a 178 = .bool true := hI.val 34 _ rfl eg
                    have fg := guard_of fg0 (by rw [hI.size]; decide)
                    clear eg fg0
                    unfold gt at q14
                    clear hall
                    clear ho
                    refine wpOp_step (o := _) rfl (fun K' hK' => ?_)
                    go_simp
                    exact hK' _ _ (hI.put 35 rfl (by decide) HND.out HLS.out  (Ch.refl _ _) rfl hI.wld)
                  · simp at ho
                    have e35 : lg L 35 = true := by unfold lg; simpa using hall ⟨35, .data⟩ (by rw [← ho]; simp) rfl
                    have f35 : gt a 179 = xg := hI.val 35 _ rfl e35
                    have eg : lg L 34 = true := by unfold lg; simpa using hall ⟨34, .guard⟩ (by rw [← ho]; simp) rfl
                    have fg0 : gt a 178 = .bool true := hI.val 34 _ rfl eg
                    have fg := guard_of fg0 (by rw [hI.size]; decide)
                    clear eg fg0
                    unfold gt at f35
                    clear hall
                    clear ho
                    have HCT := Go.Lib.hid (mcopy_no xg w' (HX.out.ch hI.wld))
                    refine wpOp_step (o := _) rfl (fun K' hK' => ?_)
                    go_simp
                    refine HCT.out.mono ?_
                    rintro e w3 ⟨rfl, rfl⟩
                    exact hK' _ _ (hI.put 36 rfl (by decide) HND.out HLS.out (Ch.refl _ _) rfl hI.wld)
                  · simp at ho
                    have e36 : lg L 36 = true := by unfold lg; simpa using hall ⟨36, .data⟩ (by rw [← ho]; simp) rfl
                    have f36 : gt a 180 = .pointer none := hI.val 36 _ rfl e36
                    have eg : lg L 34 = true := by unfold lg; simpa using hall ⟨34, .guard⟩ (by rw [← ho]; simp) rfl
                    have fg0 : gt a 178 = .bool true := hI.val 34 _ rfl eg
                    have fg := guard_of fg0 (by rw [hI.size]; decide)
                    clear eg fg0
                    unfold gt at f36
                    clear hall
                    clear ho
                    refine wpOp_step (o := _) rfl (fun K' hK' => ?_)
                    go_simp
                    exact hK' _ _ (hI.put 37 rfl (by decide) HND.out HLS.out  (Ch.refl _ _) rfl hI.wld)
                  · simp at ho
                    have e34 : lg L 34 = true := by unfold lg; simpa using hall ⟨34, .data⟩ (by rw [← ho]; simp) rfl
                    have f34 : gt a 178 = .bool true := hI.val 34 _ rfl e34
                    have e37 : lg L 37 = true := by unfold lg; simpa using hall ⟨37, .data⟩ (by rw [← ho]; simp) rfl
                    have f37 : gt a 181 = .bool true := hI.val 37 _ rfl e37
                    unfold gt at f34 f37
                    clear hall
                    clear ho
                    refine wpOp_step (o := _) rfl (fun K' hK' => ?_)
                    go_simp
                    exact hK' _ _ (hI.put 38 rfl (by decide) HND.out HLS.out  (Ch.refl _ _) rfl hI.wld)
                  · simp at ho
                    have e38 : lg L 38 = true := by unfold lg; simpa using hall ⟨38, .data⟩ (by rw [← ho]; simp) rfl
                    have f38 : gt a 182 = .bool true := hI.val 38 _ rfl e38
                    unfold gt at f38
                    clear hall
                    clear ho
                    refine wpOp_step (o := _) rfl (fun K' hK' => ?_)
                    go_simp
                    exact hK' _ _ (hI.put 39 rfl (by decide) HND.out HLS.out  (Ch.refl _ _) rfl hI.wld)
                  · simp at ho
                    have eg : lg L 39 = true := by unfold lg; simpa using hall ⟨39, .guard⟩ (by rw [← ho]; simp) rfl
                    have fg0 : gt a 183 = .bool true := hI.val 39 _ rfl eg
                    have fg := guard_of fg0 (by rw [hI.size]; decide)
                    clear eg fg0
                    clear hall
                    clear ho
                    have HCT := Go.Lib.hid (HW.out w' (HC.out.trans (HC2.out.trans hI.wld)))
                    refine wpOp_step (o := _) rfl (fun K' hK' => ?_)
                    go_simp
                    refine HCT.out.mono ?_
                    rintro e w3 ⟨rfl, hc⟩
                    exact hK' _ _ (hI.put 40 rfl (by decide) HND.out HLS.out  hc rfl (hI.wld.trans hc))
                  · simp at ho
                    have e39 : lg L 39 = true := by unfold lg; simpa using hall ⟨39, .data⟩ (by rw [← ho]; simp) rfl
                    have f39 : gt a 183 = .bool true := hI.val 39 _ rfl e39
                    have e40 : lg L 40 = true := by unfold lg; simpa using hall ⟨40, .data⟩ (by rw [← ho]; simp) rfl
                    have f40 : gt a 184 = .bool true := hI.val 40 _ rfl e40
                    unfold gt at f39 f40
                    clear hall
                    clear ho
                    refine wpOp_step (o := _) rfl (fun K' hK' => ?_)
                    go_simp
                    exact hK' _ _ (hI.put 41 rfl (by decide) HND.out HLS.out  (Ch.refl _ _) rfl hI.wld)
                · intro L a w' hI hal
                  have hfr := hI.frame HSZ.out (by simp) (fun i hi => hal i hi)
                  have k0 : gt a 144 = .slice (some ⟨Mb, 0, none⟩) 2 2 := hI.val 0 _ rfl (hal 0 (by decide))
                  have k1 : gt a 145 = .pointer (some ⟨Mb, 0, none⟩) := hI.val 1 _ rfl (hal 1 (by decide))
                  have k2 : gt a 146 = .pointer (some ⟨b 0, 0, none⟩) := hI.val 2 _ rfl (hal 2 (by decide))
                  have k3 : gt a 147 = .agg R0 := hI.val 3 _ rfl (hal 3 (by decide))
                  have k4 : gt a 148 = .pointer (some ⟨Kb, 0, none⟩) := hI.val 4 _ rfl (hal 4 (by decide))
                  have k5 : gt a 149 = .slice (kp 0) (kn 0) (kc 0) := hI.val 5 _ rfl (hal 5 (by decide))
                  have k6 : gt a 150 = .pointer (some ⟨Ab, 0, none⟩) := hI.val 6 _ rfl (hal 6 (by decide))
                  have k7 : gt a 151 = .slice (q 0) (le 0) (c 0) := hI.val 7 _ rfl (hal 7 (by decide))
                  have k8 : gt a 152 = .agg R0 := hI.val 8 _ rfl (hal 8 (by decide))
                  have k9 : gt a 153 = .bool true := hI.val 9 _ rfl (hal 9 (by decide))
                  have k10 : gt a 154 = .bool true := hI.val 10 _ rfl (hal 10 (by decide))
                  have k11 : gt a 155 = .slice (some ⟨Mb, 0, none⟩) 2 2 := hI.val 11 _ rfl (hal 11 (by decide))
                  have k12 : gt a 156 = .pointer (some ⟨Mb, 1, none⟩) := hI.val 12 _ rfl (hal 12 (by decide))
                  have k13 : gt a 157 = .pointer (some ⟨b 1, 0, none⟩) := hI.val 13 _ rfl (hal 13 (by decide))
                  have k14 : gt a 158 = .agg R1 := hI.val 14 _ rfl (hal 14 (by decide))
                  have k15 : gt a 159 = .pointer (some ⟨Kb, 1, none⟩) := hI.val 15 _ rfl (hal 15 (by decide))
                  have k16 : gt a 160 = .slice (kp 1) (kn 1) (kc 1) := hI.val 16 _ rfl (hal 16 (by decide))
                  have k17 : gt a 161 = .pointer (some ⟨Ab, 1, none⟩) := hI.val 17 _ rfl (hal 17 (by decide))
                  have k18 : gt a 162 = .slice (q 1) (le 1) (c 1) := hI.val 18 _ rfl (hal 18 (by decide))
                  have k19 : gt a 163 = .agg R1 := hI.val 19 _ rfl (hal 19 (by decide))
                  have k20 : gt a 164 = .bool true := hI.val 20 _ rfl (hal 20 (by decide))
                  have k21 : gt a 165 = .bool true := hI.val 21 _ rfl (hal 21 (by decide))
                  have k22 : gt a 166 = .bool true := hI.val 22 _ rfl (hal 22 (by decide))
                  have k23 : gt a 167 = xg := hI.val 23 _ rfl (hal 23 (by decide))
                  have k24 : gt a 168 = .int .i64 1 := hI.val 24 _ rfl (hal 24 (by decide))
                  have k25 : gt a 169 = .int .i64 1 := hI.val 25 _ rfl (hal 25 (by decide))
                  have k26 : gt a 170 = .bool true := hI.val 26 _ rfl (hal 26 (by decide))
                  have k27 : gt a 171 = .bool true := hI.val 27 _ rfl (hal 27 (by decide))
                  have k28 : gt a 172 = .bool true := hI.val 28 _ rfl (hal 28 (by decide))
                  have k29 : gt a 173 = xg := hI.val 29 _ rfl (hal 29 (by decide))
                  have k30 : gt a 174 = .agg (hv fun _ => 0) := hI.val 30 _ rfl (hal 30 (by decide))
                  have k31 : gt a 175 = .agg (hv fun _ => 0) := hI.val 31 _ rfl (hal 31 (by decide))
                  have k32 : gt a 176 = .bool true := hI.val 32 _ rfl (hal 32 (by decide))
                  have k33 : gt a 177 = .bool true := hI.val 33 _ rfl (hal 33 (by decide))
                  have k34 : gt a 178 = .bool true := hI.val 34 _ rfl (hal 34 (by decide))
                  have k35 : gt a 179 = xg := hI.val 35 _ rfl (hal 35 (by decide))
                  have k36 : gt a 180 = .pointer none := hI.val 36 _ rfl (hal 36 (by decide))
                  have k37 : gt a 181 = .bool true := hI.val 37 _ rfl (hal 37 (by decide))
                  have k38 : gt a 182 = .bool true := hI.val 38 _ rfl (hal 38 (by decide))
                  have k39 : gt a 183 = .bool true := hI.val 39 _ rfl (hal 39 (by decide))
                  have k40 : gt a 184 = .bool true := hI.val 40 _ rfl (hal 40 (by decide))
                  have k41 : gt a 185 = .bool true := hI.val 41 _ rfl (hal 41 (by decide))
                  rw [hfr, ← HAX.out]
                  have HCR := Go.Lib.hid hI.wld
                  simp only [List.map_cons, List.map_nil, List.foldl_cons, List.foldl_nil, k0, k1, k2, k3, k4, k5, k6, k7, k8, k9, k10, k11, k12, k13, k14, k15, k16, k17, k18, k19, k20, k21, k22, k23, k24, k25, k26, k27, k28, k29, k30, k31, k32, k33, k34, k35, k36, k37, k38, k39, k40, k41, List.setIfInBounds_toArray, List.set_cons_succ, List.set_cons_zero]
                  clear hfr hI hal k0 k1 k2 k3 k4 k5 k6 k7 k8 k9 k10 k11 k12 k13 k14 k15 k16 k17 k18 k19 k20 k21 k22 k23 k24 k25 k26 k27 k28 k29 k30 k31 k32 k33 k34 k35 k36 k37 k38 k39 k40 k41  HSZ HND HLS HAX F8 F10 F11 F14
                  simp only [List.drop_succ_cons, List.drop_zero]
                  have HCZ := Go.Lib.hid (HC.out.trans (HC2.out.trans HCR.out))
                  clear HCR
                  go_wp2_with fail
                  go_ret
                  exact ⟨rfl, HCZ.out⟩
end Go.Proofs.YtikdpiedjkailaaDoor
