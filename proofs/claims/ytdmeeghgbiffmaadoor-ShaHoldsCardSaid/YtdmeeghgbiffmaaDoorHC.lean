/- ShaHolds: the function. -/
import Derived.Test.YtdmeeghgbiffmaaDoorHB
import Derived.Test.YtdmeeghgbiffmaaDoorF2
import Derived.Test.YtdmeeghgbiffmaaDoorR9
import Derived.Test.YtdmeeghgbiffmaaDoorRegP
namespace Go.Proofs.YtdmeeghgbiffmaaDoor
open Go Go.RowKit

theorem holds_out (p : Option Addr) (n c : Nat) (pc : Int) (gx gy : Nat → UInt8) (s : ByteArray) (w : World) (h : 600 < n ∨ 200 < s.size) (hK : KAt w) :
    Calls Tryd.prog 9 #[.slice p n c, .int .u8 pc, .agg (hv gx), .agg (hv gy), .string s] w fun e w' => e = .returned (.bool true) ∧ Ch (fun _ => False) w w' := by
  have HW := Go.Lib.hid (fun W (hc : Ch (fun _ => False) w W) => works_any W (hK.ch hc id))
  clear hK
  by_cases g0 : 600 < n
  · have g0' : (600 : Int) < (n : Int) := by omega
    go_enter Tryd.func9, Tryd.ntmps9
    go_wp2_with fail
    refine (HW.out _ (((Ch.refl _ w).alloc _).alloc _)).mono ?_
    rintro e w2 ⟨rfl, hc2⟩
    have HC := Go.Lib.hid ((((Ch.refl (fun _ => False) w).alloc _).alloc _).trans hc2)
    clear hc2
    go_wp2_with fail
    go_ret
    exact ⟨rfl, HC.out⟩
  · have g0' : ¬ (600 : Int) < (n : Int) := by omega
    have g1' : (200 : Int) < (s.size : Int) := by omega
    go_enter Tryd.func9, Tryd.ntmps9
    go_wp2_with fail
    refine (HW.out _ (((Ch.refl _ w).alloc _).alloc _)).mono ?_
    rintro e w2 ⟨rfl, hc2⟩
    have HC := Go.Lib.hid ((((Ch.refl (fun _ => False) w).alloc _).alloc _).trans hc2)
    clear hc2
    go_wp2_with fail
    go_ret
    exact ⟨rfl, HC.out⟩

set_option maxRecDepth 100000 in
set_option maxHeartbeats 16000000 in
theorem holds_in (p : Option Addr) (n c : Nat) (f : Nat → UInt8) (pc : Nat) (gx gy : Nat → UInt8) (s : ByteArray) (w : World) (hpc : pc < 256) (hn : n ≤ 600) (hs : s.size ≤ 200) (hb : BytesAt w p n c f) (hK : KAt w) :
    Calls Tryd.prog 9 #[.slice p n c, .int .u8 (pc : Int), .agg (hv gx), .agg (hv gy), .string s] w fun e w' => e = .returned (.bool true) ∧ Ch (fun _ => False) w w' := by
  have HK := Go.Lib.hid hK
  have HSU := Go.Lib.hid (fun (W : World) (a : Nat) (hc : Ch (fun _ => False) w W) (ha : W.cell? ⟨a, 0, none⟩ = some (.slice p n c)) => sum_one p n c a f W (by omega) (hb.ch hc (fun _ _ => id)) ha (hK.ch hc id))
  have HPD := Go.Lib.hid (fun (W : World) (hc : Ch (fun _ => False) w W) => padded_any p n c f W (by omega) (hb.ch hc (fun _ _ => id)))
  obtain ⟨x, y, hx1, hx2, hx3⟩ : ∃ x y, ((p = some ⟨x, y, none⟩ ∧ n ≤ c) ∨ n = 0) ∧ x < w.heap.size ∧ ∀ j, j < n → w.cell? ⟨x, y + j, none⟩ = some (.int .u8 ((f j).toNat : Int)) := by
    rcases hb with ⟨x, y, rfl, h1, h2⟩ | ⟨rfl, rfl, rfl⟩
    · by_cases h0 : n = 0
      · subst h0; exact ⟨0, 0, .inr rfl, cell_lt (hK 0 (by omega)), fun j hj => by omega⟩
      · exact ⟨x, y, .inl ⟨rfl, h1⟩, cell_lt (h2 0 (by omega)), h2⟩
    · exact ⟨0, 0, .inr rfl, cell_lt (hK 0 (by omega)), fun j hj => by omega⟩
  have HX1 := Go.Lib.hid hx1; have HX2 := Go.Lib.hid hx2; have HX3 := Go.Lib.hid hx3
  have hn' : ¬ (600 : Int) < (n : Int) := by omega
  have hs' : ¬ (200 : Int) < (s.size : Int) := by omega
  have HW := Go.Lib.hid (fun W (hc : Ch (fun _ => False) w W) => works_any W (hK.ch hc id))
  have HKW := Go.Lib.hid (fun W (hc : Ch (fun _ => False) w W) => hK.ch hc id)
  have hw0 : 0 < w.heap.size := cell_lt (hK 0 (by omega))
  have HW0 := Go.Lib.hid hw0
  clear hK hb hx1 hx2 hx3 hw0
  have HV1 := Go.Lib.hid (hv_info (hashB f n)); have HV2 := Go.Lib.hid (hv_all (hashB f n)); have HV3 := Go.Lib.hid (show (arr 32 fun _ => (.int .u8 0 : Value)).size = (hv (hashB f n)).size by rw [arr_size]; exact (arr_size _ _).symm)
  have HVR := Go.Lib.hid (eq_self' (hashB f n))
  have HSR := Go.Lib.hid (fun b W (h : RunAt W b f n) (hc : Ch (fun _ => False) w W) => sumr_any b n f W (by omega) h (HKW.out W hc))
  have HPS := Go.Lib.hid (fun a off N cap sp P L C W (h : sp = some ⟨a, off, none⟩ ∨ N = 0) (hN : N ≤ 1000) (e : upto L N = n) (hP : PartsAt W a off N P L C f) (hc : Ch (fun _ => False) w W) => e ▸ sum_any a off N cap sp P L C f W h (by omega) (by omega) hP (HKW.out W hc))
  have HTO := Go.Lib.hid (fun W => (show Calls Tryd.prog 16 #[.agg (stN (padF f n) ((n + gap n + 8) / 64)).cells] W fun e w' => e = .returned (.agg (hv (hashB f n))) ∧ Ch (fun _ => False) W w' from told_any _ W))
  generalize hv (hashB f n) = RH at *
  have HXI := Go.Lib.hid (hv_info gx); have HYI := Go.Lib.hid (hv_info gy)
  go_enter Tryd.func9, Tryd.ntmps9
  go_upto_region 3 with (fail)
  generalize hW0 : World.alloc (World.alloc w _) _ = W0
  have hg0 : W0.heap[w.heap.size]? = some (.cells (hv gx) 31) := by
    rw [← hW0]; exact Ch.heap ((Ch.refl (fun _ => False) _).alloc _) (World.alloc_heap_new w _) id
  have hg1 : W0.heap[w.heap.size + 1]? = some (.cells (hv gy) 31) := by
    rw [← hW0]; rw [← World.size_alloc w]; exact World.alloc_heap_new _ _
  have HC0 := Go.Lib.hid (show Ch (fun _ => False) w W0 by rw [← hW0]; exact ((Ch.refl _ w).alloc _).alloc _)
  have HG0 := Go.Lib.hid hg0; have HG1 := Go.Lib.hid hg1
  clear hW0 hg0 hg1
  generalize hA : w.heap.size = A at *
  go_upto_region 4 with (first
    | (go_at_call 17; refine (HSU.out _ _ (HC0.out.alloc _) ((cell_fresh _ _ _ 0).trans rfl)).mono ?_; rintro e w1 ⟨rfl, hc1⟩; have HC1 := Go.Lib.hid ((HC0.out.alloc _).trans hc1); have HG01 := Go.Lib.hid (((Ch.refl _ W0).alloc _).trans hc1); clear hc1)
    | (refine wpList_store_row rfl 31 (.tmp 11) (.tmp 36) rfl w1.heap.size RH rfl rfl 31 (arr 32 fun _ => .int .u8 0) (World.alloc_heap_new w1 _) HV1.out HV3.out HV2.out ?_))
  generalize hW2 : World.setRow _ w1.heap.size RH = W2
  have hr2 : W2.heap[w1.heap.size]? = some (.cells RH 31) := by rw [← hW2]; exact heap_setRow (World.alloc_heap_new w1 _)
  have hc2 : Ch (fun _ => False) w1 W2 := by rw [← hW2]; exact ((Ch.refl _ _).alloc _).setRow (fun h => absurd h (Nat.lt_irrefl _)) _
  have HR2 := Go.Lib.hid hr2; have HC2 := Go.Lib.hid (HC1.out.trans hc2); have HA2 := Go.Lib.hid ((HG01.out.trans hc2).heap HG0.out id); have HB2 := Go.Lib.hid ((HG01.out.trans hc2).heap HG1.out id)
  clear hW2 hr2 hc2 HC1 HG01 HC0 HG0 HG1 HSU
  generalize w1.heap.size = Hs at *
  go_wp2_with fail
  refine (new_any _).mono ?_
  rintro e w3 ⟨b0, rfl, hb1, hb2, hb3, hb4⟩
  have HC3 := Go.Lib.hid (HC2.out.trans hb4); have HR3 := Go.Lib.hid (hb4.heap HR2.out id); have HA3 := Go.Lib.hid (hb4.heap HA2.out id); have HB3 := Go.Lib.hid (hb4.heap HB2.out id)
  have HB0 := Go.Lib.hid (show W2.heap.size ≤ b0 ∧ b0 < w3.heap.size from ⟨hb1, hb2⟩); have HRN := Go.Lib.hid (hb3 f)
  have HWS := Go.Lib.hid HC2.out.size
  clear hb1 hb2 hb3 hb4 HC2 HR2 HA2 HB2
  go_wp2_with fail
  go_loopw [12, 13, 14, 15, 16] (fun run parts i _ _ wr => ∃ k B, run = .pointer (some ⟨B, 0, none⟩) ∧ i = .int .i64 ((k * (pc + 1) : Nat) : Int) ∧ k * (pc + 1) < n + 256 ∧ k ≤ n ∧ wr.ownsRow w3.heap.size 34 1 parts k (cutR x y n c (pc + 1) k) ∧ (∀ q, parts.ownBlock = some q → q < B) ∧ RunAt wr B f (min n (k * (pc + 1))) ∧ W2.heap.size ≤ B ∧ Ch (fun _ => False) w3 wr) (fun _ _ i _ _ _ => n + 256 - (intOf i).toNat)
  case atStart => exact ⟨0, b0, rfl, by simp, by omega, by omega, ⟨by simp [cutR], .inl ⟨rfl, rfl⟩⟩, fun q hq => (by cases hq), by simpa using HRN.out, HB0.out.1, Ch.refl _ _⟩
  case round =>
    obtain ⟨k, B, rfl, rfl, hk1, hk2, hown, hob, hrun, hB, hC⟩ := hrel
    have HOWN := Go.Lib.hid hown; have HOB := Go.Lib.hid hob; have HC := Go.Lib.hid hC; have HBB := Go.Lib.hid hB
    have HO1 := Go.Lib.hid (show (k + 1) * (pc + 1) = k * (pc + 1) + pc + 1 by rw [Nat.succ_mul]; omega)
    have HBL := Go.Lib.hid (cell_lt hrun.cnt)
    by_cases hlt : k * (pc + 1) < n
    · obtain ⟨rfl, hnc⟩ := HX1.out.resolve_right (by omega)
      rw [Nat.min_eq_right (Nat.le_of_lt hlt)] at hrun
      have HRUN := Go.Lib.hid hrun
      have HCV := Go.Lib.hid (show cutV x y n c (pc + 1) k = .slice (some ⟨x, y + k * (pc + 1), none⟩) (min n (k * (pc + 1) + pc + 1) - k * (pc + 1)) (c - k * (pc + 1)) by unfold cutV cutL; rw [HO1.out])
      have HKO := Go.Lib.hid (show k ≤ k * (pc + 1) from Nat.le_mul_of_pos_right k (by omega))
      clear hown hob hrun hB hC
      generalize k * (pc + 1) = o at *
      have hoc : o < c := by omega
      have hoi : (o : Int) < (n : Int) := by omega
      obtain ⟨hi, hhi⟩ : ∃ hi, min n (o + pc + 1) = hi := ⟨_, rfl⟩
      rw [hhi] at HCV
      have HHI := Go.Lib.hid hhi
      have hh1 : o < hi := by omega
      have hh2 : hi ≤ n := by omega
      have hmin : (if (o : Int) + 1 + (pc : Int) < (n : Int) then (o : Int) + 1 + (pc : Int) else (n : Int)) = (hi : Int) := by split <;> omega
      clear hhi
      go_upto_region 10 with (fail)
      obtain ⟨i0, hi0, hz0, hz1, hz2⟩ := info_parts34 info34
      have hbase : w3.heap.size ≤ wr.heap.size := HC.out.size
      go_upto_region 11 with (at_builtin; refine wpList_append_own _ rfl (.tmp 58) (.tmp 60) 55 rfl w3.heap.size 34 i0 (.slice none 0 0) 1 24 Tryd.underlying55 hi0 hz0 hz1 hz2 rfl (by decide) _ _ _ rfl (HOWN.out.alloc _) ⟨wr.heap.size, 0, none⟩ 1 1 [.slice (some ⟨x, y + o, none⟩) (hi - o) (c - o)] rfl rfl (one_at wr _ _) (by simp [Value.oneCell']) (by simp [maxLen]; omega) (by omega) (by simp; omega) ?_; intro v' w4 hown' hgrow hx; clear hx; rw [← HCV.out, ← cutR_succ] at hown'; have HO4 := Go.Lib.hid hown'; have HG4 := Go.Lib.hid hgrow; clear hown' hgrow)
      clear hi0 hz0 hz1 hz2
      have HC4 := Go.Lib.hid (show Ch (fun _ => False) w3 w4 from Ch.grown (HC.out.alloc _) HG4.out (fun q hq hlt => absurd (HOWN.out.lt q hq).1 (by omega)))
      have HR4 := Go.Lib.hid (HRUN.out.ch (Ch.grown (S := fun t => u13.ownBlock = some t) ((Ch.refl _ wr).alloc _) HG4.out (fun q hq hlt => hq)) (fun e => absurd (HOB.out B e) (by omega)))
      have hz4 : wr.heap.size < w4.heap.size := by have := HG4.out.size; simp at this; omega
      have HZ4 := Go.Lib.hid hz4
      clear hz4 HG4 HRUN
      go_wp2_with fail
      refine (copy_any B o f w4 HR4.out).mono ?_
      rintro e w5 ⟨b', rfl, hb1, hb2, hr5, hc5⟩
      have HC5 := Go.Lib.hid (HC4.out.trans hc5); have HO5 := Go.Lib.hid (own34_ch HO4.out hc5 (fun _ _ => id)); have HR5 := Go.Lib.hid hr5; have HB5 := Go.Lib.hid (And.intro hb1 hb2)
      clear hb1 hb2 hr5 hc5
      have HWR := Go.Lib.hid (write_any b' o (hi - o) (c - o) x (y + o) (some ⟨x, y + o, none⟩) f w5 (.inl rfl) (by have := HX2.out; have := HC3.out.size; have := HC4.out.size; have := HB5.out; omega) (by have := HW0.out; have := HC3.out.size; have := HC4.out.size; have := HB5.out; omega) (by omega) HR5.out (HKW.out _ (HC3.out.trans HC5.out))
        (fun j hj => by rw [Nat.add_assoc]; exact (HC3.out.trans HC5.out).get (HX3.out (o + j) (by omega)) id))
      go_wp2_with fail
      refine HWR.out.mono ?_
      rintro e w6 ⟨rfl, hc6, hr6⟩
      have HR6 := Go.Lib.hid hr6
      have HC6 := Go.Lib.hid (show Ch (fun _ => False) w3 w6 from HC5.out.then hc6 (fun q hq e => by subst e; have := HB5.out; have := HC4.out.size; omega))
      have HO6 := Go.Lib.hid (own34_ch HO5.out hc6 (fun q hq e => by subst e; have := HO4.out.lt q hq; have := HB5.out; omega))
      clear hc6 hr6 HWR
      go_wp2_with (go_at_call 26; refine (num_any _ _).mono ?_; rintro e w' ⟨rfl, rfl⟩)
      go_roundw
      case rel =>
        refine ⟨k + 1, b', rfl, by rw [HO1.out]; congr 1; push_cast; omega, by rw [HO1.out]; omega, by have := HKO.out; omega, HO6.out, fun q hq => by have := HO4.out.lt q hq; have := HB5.out; omega, ?_, by have := HB5.out; have := HBB.out; have := HBL.out; have := HZ4.out; omega, HC6.out⟩
        rw [HO1.out, HHI.out]
        have h := HR6.out
        rw [show o + (hi - o) = hi by omega] at h
        exact h
      case measure => simp [intOf]; omega
    · rw [Nat.min_eq_left (Nat.le_of_not_lt hlt)] at hrun
      have HRUN := Go.Lib.hid hrun
      have HUP := Go.Lib.hid (show upto (cutL n (pc + 1)) k = n by rw [upto_cut]; exact Nat.min_eq_left (Nat.le_of_not_lt hlt))
      obtain ⟨sp, pcap, pa, hsv, hsp, hP⟩ := cut_parts (c := c) (f := f) hown (by have := HX2.out; have := HC3.out.size; have := hC.size; omega) (fun j hj => (HC3.out.trans hC).get (HX3.out j hj) id)
      subst hsv
      have HPT := Go.Lib.hid (fun W (hc : Ch (fun _ => False) wr W) => HPS.out pa 0 k pcap sp _ _ _ W hsp (by omega) HUP.out (hP.ch hc (fun _ _ => id)) ((HC3.out.trans hC).trans hc))
      have HRT := Go.Lib.hid (fun W (hc : Ch (fun _ => False) wr W) => HSR.out B W (hrun.ch hc id) ((HC3.out.trans hC).trans hc))
      have HCW := Go.Lib.hid (HC3.out.trans hC); have HRW := Go.Lib.hid (hC.heap HR3.out id); have HAW := Go.Lib.hid (hC.heap HA3.out id); have HBW := Go.Lib.hid (hC.heap HB3.out id)
      have hoi : ¬ ((k * (pc + 1) : Nat) : Int) < (n : Int) := by omega
      obtain ⟨wy, hwy⟩ : ∃ x, x = wr := ⟨_, rfl⟩
      subst hwy
      clear hown hob hrun hB hC HOWN HOB HC HBB HBL HO1 hsp hP HPS HSR HUP HRUN HC3 HR3 HA3 HB3 HB0 HRN HX1 HX3 hk1 hk2 hlt
      generalize k * (pc + 1) = o at *
      generalize hS0 : (#[wv st0.a, wv st0.b, wv st0.c, wv st0.d, wv st0.e, wv st0.f, wv st0.g, wv st0.h] : Array Value) = S0
      have HF := Go.Lib.hid (fun W => hS0 ▸ first_any W)
      have HS0 := Go.Lib.hid hS0
      have HS1 := Go.Lib.hid (show (Tryd.prog.info? 26).map (·.size) = some S0.size by rw [← hS0]; exact info26)
      have HS2 := Go.Lib.hid (show 8 = S0.size by rw [← hS0]; rfl)
      have HS3 := Go.Lib.hid (show S0.all (·.oneCell') = true by rw [← hS0]; exact st_cells_all st0)
      clear hS0
      have HQ := Go.Lib.hid (show n + gap n + 8 = 64 * ((n + gap n + 8) / 64) by have := gap_mod n; omega)
      generalize padF f n = F at *
      generalize hq : (n + gap n + 8) / 64 = q at *
      clear hq
      go_wp2_with fail
      refine (HF.out _).mono ?_
      rintro e w4 ⟨rfl, hw4⟩
      have HC4 := Go.Lib.hid (show Ch (fun _ => False) wy w4 by rw [hw4]; exact (Ch.refl _ wy).alloc _)
      clear hw4 HF
      go_upto_region 16 with (refine wpList_store_row rfl 26 (.tmp 17) (.tmp 70) rfl w4.heap.size S0 rfl rfl 26 #[.int .u32 0, .int .u32 0, .int .u32 0, .int .u32 0, .int .u32 0, .int .u32 0, .int .u32 0, .int .u32 0] (World.alloc_heap_new w4 _) HS1.out HS2.out HS3.out ?_)
      generalize hW5 : (w4.alloc _).setRow w4.heap.size S0 = W5
      have hx5 : W5.heap[w4.heap.size]? = some (.cells S0 26) := by rw [← hW5]; exact heap_setRow (World.alloc_heap_new w4 _)
      have hc5 : Ch (fun _ => False) w4 W5 := by rw [← hW5]; exact ((Ch.refl _ _).alloc _).setRow (fun h => absurd h (Nat.lt_irrefl _)) _
      have HX5 := Go.Lib.hid hx5; have HC5 := Go.Lib.hid (HC4.out.trans hc5)
      have HZ5 := Go.Lib.hid (show wy.heap.size ≤ w4.heap.size ∧ w4.heap.size < W5.heap.size from ⟨HC4.out.size, (Array.getElem?_eq_some_iff.1 hx5).1⟩)
      clear hW5 hx5 hc5 HC4
      generalize w4.heap.size = X at *
      go_wp2_with fail
      refine (HPD.out _ (HCW.out.trans HC5.out)).mono ?_
      rintro e w6 ⟨v, rfl, hown, hc6⟩
      rw [HQ.out] at hown
      have HX6 := Go.Lib.hid (hc6.heap HX5.out id); have HC6 := Go.Lib.hid (HC5.out.trans hc6)
      have hq0 : 0 < q := by have := HQ.out; omega
      obtain ⟨hlen, h0 | ⟨g, cap, cur, rfl, hbg, hg, hnc, hcm, hcs, htake⟩⟩ := hown
      · exact absurd h0.2 (by omega)
      have HG := Go.Lib.hid hg
      have HCU := Go.Lib.hid (fun j (hj : j < 64 * q) => fL_cur htake j hj)
      have HGX := Go.Lib.hid (show g ≠ X by have := HZ5.out; omega)
      have HCAP := Go.Lib.hid hnc
      have HQN := Go.Lib.hid (show q ≤ 20 by have := HQ.out; have := gap_le n; omega)
      clear hlen hbg hg hcs htake hc6 HX5 HC5 HPD hnc hcm
      go_wp2_with fail
      go_loopw [18] (fun v wz => ∃ (i : Nat) (ad : Addr) (cp : Nat), i ≤ q ∧ v = .slice (some ad) (64 * (q - i)) cp ∧ (i < q → ad = ⟨g, 64 * i, none⟩ ∧ 64 * (q - i) ≤ cp) ∧ wz.heap[X]? = some (.cells (stN F i).cells 26) ∧ Ch (fun k => k = X) w6 wz) (fun v _ => len4 v)
      case atStart => exact ⟨0, _, cap, by omega, rfl, fun _ => ⟨rfl, HCAP.out⟩, by rw [← HS0.out] at HX6; exact HX6.out, Ch.refl _ _⟩
      case round =>
        obtain ⟨i, ad, cp, hi, rfl, had, hh, hC⟩ := hrel
        have HH := Go.Lib.hid hh; have HC := Go.Lib.hid hC
        have HWZ := Go.Lib.hid (show Ch (fun _ => False) wy _ from HC6.out.then hC (fun i hi h => by have := HZ5.out; omega))
        clear hh hC
        by_cases hlt : i < q
        · as_aux_lemma =>
          obtain ⟨rfl, hcp⟩ := had hlt
          clear had
          have HPR := Go.Lib.hid (fun W hK => press_any (stN F i) (fun j => F (64 * i + j)) W hK)
          have HPE := Go.Lib.hid (show press1 (stN F i) (wordOf (fun j => F (64 * i + j)) 0) = stN F (i + 1) by rw [wordOf_at]; rfl)
          have HCB := Go.Lib.hid (fun j (hj : j < 64) (W : World) (h : Ch (fun k => k = X) w6 W) => (show W.cell? ⟨g, 64 * i + j, none⟩ = some (.int .u8 ((F (64 * i + j)).toNat : Int)) from (cell_of_heap (h.heap HG.out HGX.out) _).trans (HCU.out _ (by omega))))
          have hL : 64 ≤ 64 * (q - i) := by omega
          have HL1 := Go.Lib.hid (show 64 * (q - i) - 64 = 64 * (q - (i + 1)) by omega)
          have HO1 := Go.Lib.hid (show 64 * i + 64 = 64 * (i + 1) by omega)
          have HLQ := Go.Lib.hid (show 64 * (q - i) = 64 → i + 1 = q by omega)
          generalize hpp : press1 (stN F i) (wordOf (fun j => F (64 * i + j)) 0) = S' at *
          clear hpp
          generalize stN F i = T at *
          generalize hLL : 64 * (q - i) = L at *
          generalize 64 * i = o2 at *
          clear hLL
          have c0 : wr.cell? ⟨X, 0, none⟩ = some (wv T.a) := cell_of_heap HH.out 0
          have c1 : wr.cell? ⟨X, 1, none⟩ = some (wv T.b) := cell_of_heap HH.out 1
          have c2 : wr.cell? ⟨X, 2, none⟩ = some (wv T.c) := cell_of_heap HH.out 2
          have c3 : wr.cell? ⟨X, 3, none⟩ = some (wv T.d) := cell_of_heap HH.out 3
          have c4 : wr.cell? ⟨X, 4, none⟩ = some (wv T.e) := cell_of_heap HH.out 4
          have c5 : wr.cell? ⟨X, 5, none⟩ = some (wv T.f) := cell_of_heap HH.out 5
          have c6 : wr.cell? ⟨X, 6, none⟩ = some (wv T.g) := cell_of_heap HH.out 6
          have c7 : wr.cell? ⟨X, 7, none⟩ = some (wv T.h) := cell_of_heap HH.out 7
          have l0 : (0 : Int) < (L : Int) := by omega
          have l1 : (64 : Int) ≤ (L : Int) := by omega
          have l2 : (64 : Int) ≤ (cp : Int) := by omega
          have l3 : 64 ≤ cp := by omega
          go_upto_region 19 with (fail)
          refine wp_region_quiet_tail 5 (by kernel_rfl) (by kernel_rfl) ?_
          simp only [List.take_succ_cons, List.take_zero, List.drop_succ_cons, List.drop_zero]
          have hcv := fun (W : World) => array_at (some ⟨g, o2, none⟩) cp W
          repeat (quiet_step (fail))
          clear hcv
          refine wpQuiet_load rfl 22 (.tmp 81) rfl ⟨g, o2, none⟩ rfl (.agg (arr 64 fun j => .int .u8 ((F (o2 + j)).toNat : Int))) (fun W hW => ?_) ?_
          · obtain ⟨q0, rfl⟩ := hW
            refine run_loadVar_part _ _ 22 _ _ (fun j v hv => ?_) Tryd.underlying22 rfl (by rw [arr_size]; exact info22)
            have hj : j < 64 := by
              have := (List.getElem?_eq_some_iff.1 hv).1
              rw [Array.length_toList, arr_size] at this; exact this
            rw [Array.getElem?_toList, arr_get _ _ _ hj] at hv
            cases hv
            rw [show (⟨g, o2, none⟩ : Addr).add j = ⟨g, o2 + j, none⟩ by simp [Addr.add]]
            exact HCB.out j hj _ (HC.out.drewN q0)
          refine wpQuiet_nil ?_
          intro _ hw'
          obtain ⟨q1, rfl⟩ := hw'
          have HC1 := Go.Lib.hid (HC.out.drewN q1); have HWZ1 := Go.Lib.hid (HWZ.out.drewN q1)
          have HH1 := Go.Lib.hid (show (wr.drewN q1).heap[X]? = some (.cells T.cells 26) from HH.out)
          clear c0 c1 c2 c3 c4 c5 c6 c7 HH HC HWZ
          generalize wr.drewN q1 = wq at *
          go_wp2_with fail
          refine (HPR.out _ (HKW.out _ (HCW.out.trans HWZ1.out))).mono ?_; rintro e w7 ⟨rfl, hw7⟩
          have HC7 := Go.Lib.hid (HC1.out.then hw7 (fun _ _ h => h.elim)); have HH7 := Go.Lib.hid (hw7.heap HH1.out id)
          clear hw7 HC1 HH1 HPR HWZ1
          have hsv : S'.val = .agg S'.cells := rfl
          rw [hsv]
          have HP1 := Go.Lib.hid (cells_info S')
          have HP2 := Go.Lib.hid (cells_same T S')
          have HP3 := Go.Lib.hid (st_cells_all S')
          have HP4 := Go.Lib.hid (show S'.cells = (stN F (i + 1)).cells by rw [HPE.out])
          clear hsv HPE
          generalize S'.cells = pc' at *
          go_upto_region 18 with (refine wpList_store_row rfl 26 (.tmp 17) (.tmp 83) rfl X pc' rfl rfl 26 T.cells HH7.out HP1.out HP2.out HP3.out ?_)
          have HH5 := Go.Lib.hid (show (w7.setRow X pc').heap[X]? = some (.cells (stN F (i + 1)).cells 26) by rw [← HP4.out]; exact heap_setRow HH7.out)
          have HC5 := Go.Lib.hid (HC7.out.setRow (fun _ => rfl) pc')
          clear HH7 HC7
          generalize w7.setRow X pc' = w8 at *
          by_cases h64 : cp = 64
          · subst h64
            go_wp2_with fail
            go_roundw
            case rel => exact ⟨i + 1, _, 0, by omega, by rw [show 64 * (q - (i + 1)) = 0 by have := HL1.out; omega], fun h => absurd h (by have := HLQ.out; omega), HH5.out, HC5.out⟩
            case measure => simp [len4]; omega
          · go_wp2_with fail
            go_roundw
            case rel => exact ⟨i + 1, _, cp - 64, by omega, by rw [HL1.out], fun h => ⟨by rw [← HO1.out], by have := HL1.out; omega⟩, HH5.out, HC5.out⟩
            case measure => simp [len4]; omega
        · obtain rfl : i = q := by omega
          clear had hlt
          rw [Nat.sub_self, Nat.mul_zero]
          obtain ⟨wz, hwz⟩ : ∃ x, x = wr := ⟨_, rfl⟩
          subst hwz
          have HP1 := Go.Lib.hid (cells_info (stN F i))
          have HXZ := Go.Lib.hid HH.out
          have HRZ := Go.Lib.hid (HWZ.out.heap HRW.out id); have HAZ := Go.Lib.hid (HWZ.out.heap HAW.out id); have HBZ := Go.Lib.hid (HWZ.out.heap HBW.out id)
          have HCZ := Go.Lib.hid (HCW.out.trans HWZ.out)
          have HPZ := Go.Lib.hid (fun W hc => HPT.out W (HWZ.out.trans hc)); have HQZ := Go.Lib.hid (fun W hc => HRT.out W (HWZ.out.trans hc))
          have HLT := Go.Lib.hid (text_less gx gy); have HSM := Go.Lib.hid (text_same gx gy)
          have HCVX := Go.Lib.hid (fun W h => conv_arr gx A W h); have HCVY := Go.Lib.hid (fun W h => conv_arr gy (A + 1) W h)
          have HTX := Go.Lib.hid (fun W => text_any gx W); have HTY := Go.Lib.hid (fun W => text_any gy W)
          have HXY := Go.Lib.hid (fun W => eq_hv gx gy W)
          have HXX := Go.Lib.hid (fun W => eq_self' gx W)
          have HPX := Go.Lib.hid (fun W => (show Calls Tryd.prog 24 #[.string (hexB gx)] W fun e w' => e = .returned (.tuple #[.agg (hv gx), .int .i64 0]) ∧ Ch (fun _ => False) W w' by
            have h := parse_any (hexB gx) W
            rw [(text_parse gx).1, hv_cong (text_parse gx).2] at h
            exact h))
          have HXA := Go.Lib.hid (hv_all gx); have HXS := Go.Lib.hid (show (arr 32 fun _ => (.int .u8 0 : Value)).size = (hv gx).size by rw [arr_size]; exact (arr_size _ _).symm)
          have HPS2 := Go.Lib.hid (fun W => parse_any s W)
          have HTS := Go.Lib.hid (fun (h : perr s = 0) W => (show Calls Tryd.prog 27 #[.agg (hv (parsed s))] W fun e w' => e = .returned (.string s) ∧ Ch (fun _ => False) W w' by
            have h2 := text_any (parsed s) W
            rw [parse_text s h] at h2
            exact h2))
          have HZ1 := Go.Lib.hid (hv_info (parsed s)); have HZ2 := Go.Lib.hid (hv_all (parsed s)); have HZ3 := Go.Lib.hid (show (arr 32 fun _ => (.int .u8 0 : Value)).size = (hv (parsed s)).size by rw [arr_size]; exact (arr_size _ _).symm)
          clear HH HC HWZ HRW HAW HBW HPT HRT HKW HC6 HX6 HG HCU HGX HCAP
          generalize ((List.range 32).map gx == (List.range 32).map gy) = SB at *
          generalize (stN F i).cells = pcs at *
          generalize hexB gx = tx at *
          generalize hexB gy = ty at *
          generalize byB gx = zx at *
          generalize byB gy = zy at *
          generalize hv gx = RX at *
          generalize hv gy = RY at *
          generalize hv (parsed s) = RP at *
          generalize perr s = pe at *
          have HC := Go.Lib.hid (Ch.refl (fun _ => False) wz)
          have hb0 : ∀ b : Bool, (b != b) = false := fun b => by cases b <;> rfl
          go_upto_region 20 with (fail)
          refine wp_region_any (by kernel_rfl) ?_
          generalize hwx : World.mk _ _ _ _ _ = wx
          have HCX := Go.Lib.hid (show Ch (fun _ => False) wz wx by rw [← hwx]; exact HC.out.drew)
          clear hwx HC
          generalize hax : Act.mk _ _ = ax
          have HSZ := Go.Lib.hid (show ax.tmps.size = 154 by rw [← hax]; rfl)
          have F11 := Go.Lib.hid (show gt ax 11 = .pointer (some ⟨Hs, 0, none⟩) by rw [← hax]; rfl)
          have F12 := Go.Lib.hid (show gt ax 12 = .pointer (some ⟨B, 0, none⟩) by rw [← hax]; rfl)
          have F13 := Go.Lib.hid (show gt ax 13 = .slice sp k pcap by rw [← hax]; rfl)
          have F17 := Go.Lib.hid (show gt ax 17 = .pointer (some ⟨X, 0, none⟩) by rw [← hax]; rfl)
          have HAX := Go.Lib.hid hax
          clear hax
          have HND := Go.Lib.hid (show ([84, 85, 86, 87, 88, 89, 90, 91, 92, 93, 94, 95, 96, 97, 98, 99] : List Nat).Nodup by decide)
          have HLS : Hid (Lasts [(84, fun x _ => x = .slice sp k pcap), (85, fun x _ => x = .agg RH), (86, fun x _ => x = .agg RH), (87, fun x _ => x = .bool false), (88, fun x _ => x = .bool false), (89, fun x _ => x = .pointer (some ⟨B, 0, none⟩)), (90, fun x _ => x = .agg RH), (91, fun x _ => x = .agg RH), (92, fun x _ => x = .bool false), (93, fun x _ => x = .bool false), (94, fun x _ => x = .bool false), (95, fun x _ => x = .agg pcs), (96, fun x _ => x = .agg RH), (97, fun x _ => x = .agg RH), (98, fun x _ => x = .bool false), (99, fun x _ => x = .bool false)]) := Go.Lib.hid (by
            intro p hp v w1 w2 hc h
            simp only [List.mem_cons, List.not_mem_nil, or_false] at hp
            rcases hp with rfl | rfl | rfl | rfl | rfl | rfl | rfl | rfl | rfl | rfl | rfl | rfl | rfl | rfl | rfl | rfl
            all_goals first | exact h | (obtain ⟨g, h1, h2⟩ := h; exact ⟨g, h1, hc.heap h2 id⟩) | (obtain ⟨g, c, h1, h2⟩ := h; exact ⟨g, c, h1, h2.ch hc (fun _ _ h => h)⟩))
          refine wpAny_inv (InvP 154 [(84, fun x _ => x = .slice sp k pcap), (85, fun x _ => x = .agg RH), (86, fun x _ => x = .agg RH), (87, fun x _ => x = .bool false), (88, fun x _ => x = .bool false), (89, fun x _ => x = .pointer (some ⟨B, 0, none⟩)), (90, fun x _ => x = .agg RH), (91, fun x _ => x = .agg RH), (92, fun x _ => x = .bool false), (93, fun x _ => x = .bool false), (94, fun x _ => x = .bool false), (95, fun x _ => x = .agg pcs), (96, fun x _ => x = .agg RH), (97, fun x _ => x = .agg RH), (98, fun x _ => x = .bool false), (99, fun x _ => x = .bool false)] (fun _ w' => Ch (fun _ => False) wz w') ax) ?_ ?_ _ _ _ _ rfl (by decide) (InvP.start (by simp) HSZ.out HCX.out)
          · intro L a w' i hI hr
            obtain ⟨h1, o, ho, hall⟩ := mem_ready.1 hr
            have hlt : i < 16 := (Array.getElem?_eq_some_iff.1 ho).1
            have hsplit : i = 0 ∨ i = 1 ∨ i = 2 ∨ i = 3 ∨ i = 4 ∨ i = 5 ∨ i = 6 ∨ i = 7 ∨ i = 8 ∨ i = 9 ∨ i = 10 ∨ i = 11 ∨ i = 12 ∨ i = 13 ∨ i = 14 ∨ i = 15 := by omega
            clear hlt h1 hr
            rcases hsplit with rfl | rfl | rfl | rfl | rfl | rfl | rfl | rfl | rfl | rfl | rfl | rfl | rfl | rfl | rfl | rfl
            · have q13 := (hI.fixed 13 (by simp)).trans F13.out
              unfold gt at q13
              clear hall
              refine wpOp_step (o := _) rfl (fun K' hK' => ?_)
              go_simp
              exact hK' _ _ (hI.put 0 rfl (by decide) HND.out HLS.out  (Ch.refl _ _) rfl hI.wld)
            · simp at ho
              have e0 : lg L 0 = true := by unfold lg; simpa using hall ⟨0, .data⟩ (by rw [← ho]; simp) rfl
              have f0 : gt a 84 = .slice sp k pcap := hI.val 0 _ rfl e0
              unfold gt at f0
              clear hall
              clear ho
              have HCT := Go.Lib.hid (HPZ.out w' hI.wld)
              refine wpOp_step (o := _) rfl (fun K' hK' => ?_)
              go_simp
              refine HCT.out.mono ?_
              rintro e w3 ⟨rfl, hc⟩
              exact hK' _ _ (hI.put 1 rfl (by decide) HND.out HLS.out  hc rfl (hI.wld.trans hc))
            · have q11 := (hI.fixed 11 (by simp)).trans F11.out
              unfold gt at q11
              clear hall
              refine wpOp_step (o := _) rfl (fun K' hK' => ?_)
              exact wp_load_row 31 (.tmp 11) rfl Hs (by simpa [Act.eval] using q11) 31 RH (0, 0) _ (hI.wld.heap HRZ.out id) Tryd.underlying31 rfl HV1.out (hK' _ _ (hI.put 2 rfl (by decide) HND.out HLS.out  (Ch.refl _ _) rfl hI.wld))
            · simp at ho
              have e1 : lg L 1 = true := by unfold lg; simpa using hall ⟨1, .data⟩ (by rw [← ho]; simp) rfl
              have f1 : gt a 85 = .agg RH := hI.val 1 _ rfl e1
              have e2 : lg L 2 = true := by unfold lg; simpa using hall ⟨2, .data⟩ (by rw [← ho]; simp) rfl
              have f2 : gt a 86 = .agg RH := hI.val 2 _ rfl e2
              unfold gt at f1 f2
              clear hall
              clear ho
              refine wpOp_step (o := _) rfl (fun K' hK' => ?_)
              exact wp_neqH (.tmp 85) (.tmp 86) 31 31 rfl RH RH (by simpa [Act.eval] using f1) (by simpa [Act.eval] using f2) eqg31 (HVR.out _) (hK' _ _ (hI.put 3 rfl (by decide) HND.out HLS.out  (Ch.refl _ _) rfl hI.wld))
            · simp at ho
              have e3 : lg L 3 = true := by unfold lg; simpa using hall ⟨3, .data⟩ (by rw [← ho]; simp) rfl
              have f3 : gt a 87 = .bool false := hI.val 3 _ rfl e3
              unfold gt at f3
              clear hall
              clear ho
              refine wpOp_step (o := _) rfl (fun K' hK' => ?_)
              go_simp
              exact hK' _ _ (hI.put 4 rfl (by decide) HND.out HLS.out  (Ch.refl _ _) rfl hI.wld)
            · simp at ho
              have q12 := (hI.fixed 12 (by simp)).trans F12.out
              have eg : lg L 4 = true := by unfold lg; simpa using hall ⟨4, .guard⟩ (by rw [← ho]; simp) rfl
              have fg0 : gt a 88 = .bool false := hI.val 4 _ rfl eg
              have fg := guard_of fg0 (by rw [hI.size]; decide)
              clear eg fg0
              unfold gt at q12
              clear hall
              clear ho
              refine wpOp_step (o := _) rfl (fun K' hK' => ?_)
              go_simp
              exact hK' _ _ (hI.put 5 rfl (by decide) HND.out HLS.out  (Ch.refl _ _) rfl hI.wld)
            · simp at ho
              have e5 : lg L 5 = true := by unfold lg; simpa using hall ⟨5, .data⟩ (by rw [← ho]; simp) rfl
              have f5 : gt a 89 = .pointer (some ⟨B, 0, none⟩) := hI.val 5 _ rfl e5
              have eg : lg L 4 = true := by unfold lg; simpa using hall ⟨4, .guard⟩ (by rw [← ho]; simp) rfl
              have fg0 : gt a 88 = .bool false := hI.val 4 _ rfl eg
              have fg := guard_of fg0 (by rw [hI.size]; decide)
              clear eg fg0
              unfold gt at f5
              clear hall
              clear ho
              have HCT := Go.Lib.hid (HQZ.out w' hI.wld)
              refine wpOp_step (o := _) rfl (fun K' hK' => ?_)
              go_simp
              refine HCT.out.mono ?_
              rintro e w3 ⟨rfl, hc⟩
              exact hK' _ _ (hI.put 6 rfl (by decide) HND.out HLS.out  hc rfl (hI.wld.trans hc))
            · simp at ho
              have q11 := (hI.fixed 11 (by simp)).trans F11.out
              have eg : lg L 4 = true := by unfold lg; simpa using hall ⟨4, .guard⟩ (by rw [← ho]; simp) rfl
              have fg0 : gt a 88 = .bool false := hI.val 4 _ rfl eg
              have fg := guard_of fg0 (by rw [hI.size]; decide)
              clear eg fg0
              unfold gt at q11
              clear hall
              clear ho
              refine wpOp_step (o := _) rfl (fun K' hK' => ?_)
              rw [if_pos (by simp [Region.wanted, yielded, fg])]
              exact wp_load_row 31 (.tmp 11) rfl Hs (by simpa [Act.eval] using q11) 31 RH (0, 0) _ (hI.wld.heap HRZ.out id) Tryd.underlying31 rfl HV1.out (hK' _ _ (hI.put 7 rfl (by decide) HND.out HLS.out  (Ch.refl _ _) rfl hI.wld))
            · simp at ho
              have e6 : lg L 6 = true := by unfold lg; simpa using hall ⟨6, .data⟩ (by rw [← ho]; simp) rfl
              have f6 : gt a 90 = .agg RH := hI.val 6 _ rfl e6
              have e7 : lg L 7 = true := by unfold lg; simpa using hall ⟨7, .data⟩ (by rw [← ho]; simp) rfl
              have f7 : gt a 91 = .agg RH := hI.val 7 _ rfl e7
              have eg : lg L 4 = true := by unfold lg; simpa using hall ⟨4, .guard⟩ (by rw [← ho]; simp) rfl
              have fg0 : gt a 88 = .bool false := hI.val 4 _ rfl eg
              have fg := guard_of fg0 (by rw [hI.size]; decide)
              clear eg fg0
              unfold gt at f6 f7
              clear hall
              clear ho
              refine wpOp_step (o := _) rfl (fun K' hK' => ?_)
              rw [if_pos (by simp [Region.wanted, yielded, fg])]
              exact wp_neqH (.tmp 90) (.tmp 91) 31 31 rfl RH RH (by simpa [Act.eval] using f6) (by simpa [Act.eval] using f7) eqg31 (HVR.out _) (hK' _ _ (hI.put 8 rfl (by decide) HND.out HLS.out  (Ch.refl _ _) rfl hI.wld))
            · simp at ho
              have e4 : lg L 4 = true := by unfold lg; simpa using hall ⟨4, .data⟩ (by rw [← ho]; simp) rfl
              have f4 : gt a 88 = .bool false := hI.val 4 _ rfl e4
              have e8 : lg L 8 = true := by unfold lg; simpa using hall ⟨8, .data⟩ (by rw [← ho]; simp) rfl
              have f8 : gt a 92 = .bool false := hI.val 8 _ rfl e8
              unfold gt at f4 f8
              clear hall
              clear ho
              refine wpOp_step (o := _) rfl (fun K' hK' => ?_)
              go_simp
              exact hK' _ _ (hI.put 9 rfl (by decide) HND.out HLS.out  (Ch.refl _ _) rfl hI.wld)
            · simp at ho
              have e9 : lg L 9 = true := by unfold lg; simpa using hall ⟨9, .data⟩ (by rw [← ho]; simp) rfl
              have f9 : gt a 93 = .bool false := hI.val 9 _ rfl e9
              unfold gt at f9
              clear hall
              clear ho
              refine wpOp_step (o := _) rfl (fun K' hK' => ?_)
              go_simp
              exact hK' _ _ (hI.put 10 rfl (by decide) HND.out HLS.out  (Ch.refl _ _) rfl hI.wld)
            · simp at ho
              have q17 := (hI.fixed 17 (by simp)).trans F17.out
              have eg : lg L 10 = true := by unfold lg; simpa using hall ⟨10, .guard⟩ (by rw [← ho]; simp) rfl
              have fg0 : gt a 94 = .bool false := hI.val 10 _ rfl eg
              have fg := guard_of fg0 (by rw [hI.size]; decide)
              clear eg fg0
              unfold gt at q17
              clear hall
              clear ho
              refine wpOp_step (o := _) rfl (fun K' hK' => ?_)
              rw [if_pos (by simp [Region.wanted, yielded, fg])]
              exact wp_load_row 26 (.tmp 17) rfl X (by simpa [Act.eval] using q17) 26 pcs (0, 0) _ (hI.wld.heap HXZ.out id) Tryd.underlying26 rfl HP1.out (hK' _ _ (hI.put 11 rfl (by decide) HND.out HLS.out  (Ch.refl _ _) rfl hI.wld))
            · simp at ho
              have e11 : lg L 11 = true := by unfold lg; simpa using hall ⟨11, .data⟩ (by rw [← ho]; simp) rfl
              have f11 : gt a 95 = .agg pcs := hI.val 11 _ rfl e11
              have eg : lg L 10 = true := by unfold lg; simpa using hall ⟨10, .guard⟩ (by rw [← ho]; simp) rfl
              have fg0 : gt a 94 = .bool false := hI.val 10 _ rfl eg
              have fg := guard_of fg0 (by rw [hI.size]; decide)
              clear eg fg0
              unfold gt at f11
              clear hall
              clear ho
              have HCT := Go.Lib.hid (HTO.out w')
              refine wpOp_step (o := _) rfl (fun K' hK' => ?_)
              go_simp
              refine HCT.out.mono ?_
              rintro e w3 ⟨rfl, hc⟩
              exact hK' _ _ (hI.put 12 rfl (by decide) HND.out HLS.out  hc rfl (hI.wld.trans hc))
            · simp at ho
              have q11 := (hI.fixed 11 (by simp)).trans F11.out
              have eg : lg L 10 = true := by unfold lg; simpa using hall ⟨10, .guard⟩ (by rw [← ho]; simp) rfl
              have fg0 : gt a 94 = .bool false := hI.val 10 _ rfl eg
              have fg := guard_of fg0 (by rw [hI.size]; decide)
              clear eg fg0
              unfold gt at q11
              clear hall
              clear ho
              refine wpOp_step (o := _) rfl (fun K' hK' => ?_)
              rw [if_pos (by simp [Region.wanted, yielded, fg])]
              exact wp_load_row 31 (.tmp 11) rfl Hs (by simpa [Act.eval] using q11) 31 RH (0, 0) _ (hI.wld.heap HRZ.out id) Tryd.underlying31 rfl HV1.out (hK' _ _ (hI.put 13 rfl (by decide) HND.out HLS.out  (Ch.refl _ _) rfl hI.wld))
            · simp at ho
              have e12 : lg L 12 = true := by unfold lg; simpa using hall ⟨12, .data⟩ (by rw [← ho]; simp) rfl
              have f12 : gt a 96 = .agg RH := hI.val 12 _ rfl e12
              have e13 : lg L 13 = true := by unfold lg; simpa using hall ⟨13, .data⟩ (by rw [← ho]; simp) rfl
              have f13 : gt a 97 = .agg RH := hI.val 13 _ rfl e13
              have eg : lg L 10 = true := by unfold lg; simpa using hall ⟨10, .guard⟩ (by rw [← ho]; simp) rfl
              have fg0 : gt a 94 = .bool false := hI.val 10 _ rfl eg
              have fg := guard_of fg0 (by rw [hI.size]; decide)
              clear eg fg0
              unfold gt at f12 f13
              clear hall
              clear ho
              refine wpOp_step (o := _) rfl (fun K' hK' => ?_)
              rw [if_pos (by simp [Region.wanted, yielded, fg])]
              exact wp_neqH (.tmp 96) (.tmp 97) 31 31 rfl RH RH (by simpa [Act.eval] using f12) (by simpa [Act.eval] using f13) eqg31 (HVR.out _) (hK' _ _ (hI.put 14 rfl (by decide) HND.out HLS.out  (Ch.refl _ _) rfl hI.wld))
            · simp at ho
              have e10 : lg L 10 = true := by unfold lg; simpa using hall ⟨10, .data⟩ (by rw [← ho]; simp) rfl
              have f10 : gt a 94 = .bool false := hI.val 10 _ rfl e10
              have e14 : lg L 14 = true := by unfold lg; simpa using hall ⟨14, .data⟩ (by rw [← ho]; simp) rfl
              have f14 : gt a 98 = .bool false := hI.val 14 _ rfl e14
              unfold gt at f10 f14
              clear hall
              clear ho
              refine wpOp_step (o := _) rfl (fun K' hK' => ?_)
              go_simp
              exact hK' _ _ (hI.put 15 rfl (by decide) HND.out HLS.out  (Ch.refl _ _) rfl hI.wld)
          · intro L a w' hI hr
            have hal := all_listed' (md := .any) (by kernel_rfl) hI.lsize hr
            have hfr := hI.frame HSZ.out (by simp) (fun i hi => hal i hi)
            have k0 : gt a 84 = .slice sp k pcap := hI.val 0 _ rfl (hal 0 (by decide))
            have k1 : gt a 85 = .agg RH := hI.val 1 _ rfl (hal 1 (by decide))
            have k2 : gt a 86 = .agg RH := hI.val 2 _ rfl (hal 2 (by decide))
            have k3 : gt a 87 = .bool false := hI.val 3 _ rfl (hal 3 (by decide))
            have k4 : gt a 88 = .bool false := hI.val 4 _ rfl (hal 4 (by decide))
            have k5 : gt a 89 = .pointer (some ⟨B, 0, none⟩) := hI.val 5 _ rfl (hal 5 (by decide))
            have k6 : gt a 90 = .agg RH := hI.val 6 _ rfl (hal 6 (by decide))
            have k7 : gt a 91 = .agg RH := hI.val 7 _ rfl (hal 7 (by decide))
            have k8 : gt a 92 = .bool false := hI.val 8 _ rfl (hal 8 (by decide))
            have k9 : gt a 93 = .bool false := hI.val 9 _ rfl (hal 9 (by decide))
            have k10 : gt a 94 = .bool false := hI.val 10 _ rfl (hal 10 (by decide))
            have k11 : gt a 95 = .agg pcs := hI.val 11 _ rfl (hal 11 (by decide))
            have k12 : gt a 96 = .agg RH := hI.val 12 _ rfl (hal 12 (by decide))
            have k13 : gt a 97 = .agg RH := hI.val 13 _ rfl (hal 13 (by decide))
            have k14 : gt a 98 = .bool false := hI.val 14 _ rfl (hal 14 (by decide))
            have k15 : gt a 99 = .bool false := hI.val 15 _ rfl (hal 15 (by decide))
            rw [hfr, ← HAX.out]
            have HC := Go.Lib.hid hI.wld
            simp only [List.map_cons, List.map_nil, List.foldl_cons, List.foldl_nil, k0, k1, k2, k3, k4, k5, k6, k7, k8, k9, k10, k11, k12, k13, k14, k15, List.setIfInBounds_toArray, List.set_cons_succ, List.set_cons_zero]
            clear hfr hI hal hr k0 k1 k2 k3 k4 k5 k6 k7 k8 k9 k10 k11 k12 k13 k14 k15   HSZ HND HLS HAX HCX F11 F12 F13 F17
            go_upto_region 22 with (fail)
            refine wp_region_any (by kernel_rfl) ?_
            generalize hwx : World.mk _ _ _ _ _ = wx
            have HCX := Go.Lib.hid (show Ch (fun _ => False) wz wx by rw [← hwx]; exact HC.out.drew)
            clear hwx HC
            generalize hax : Act.mk _ _ = ax
            have HSZ := Go.Lib.hid (show ax.tmps.size = 154 by rw [← hax]; rfl)
            have F7 := Go.Lib.hid (show gt ax 7 = .pointer (some ⟨A, 0, none⟩) by rw [← hax]; rfl)
            have F8 := Go.Lib.hid (show gt ax 8 = .pointer (some ⟨A + 1, 0, none⟩) by rw [← hax]; rfl)
            have HAX := Go.Lib.hid hax
            clear hax
            have HND := Go.Lib.hid (show ([100, 101, 102, 103, 19, 20] : List Nat).Nodup by decide)
            have HLS : Hid (Lasts [(100, fun x _ => x = .agg RX), (101, fun x _ => x = .string tx), (102, fun x _ => x = .agg RY), (103, fun x _ => x = .string ty), (19, fun x _ => x = .string tx), (20, fun x _ => x = .string ty)]) := Go.Lib.hid (by
              intro p hp v w1 w2 hc h
              simp only [List.mem_cons, List.not_mem_nil, or_false] at hp
              rcases hp with rfl | rfl | rfl | rfl | rfl | rfl
              all_goals first | exact h | (obtain ⟨g, h1, h2⟩ := h; exact ⟨g, h1, hc.heap h2 id⟩) | (obtain ⟨g, c, h1, h2⟩ := h; exact ⟨g, c, h1, h2.ch hc (fun _ _ h => h)⟩))
            refine wpAny_inv (InvP 154 [(100, fun x _ => x = .agg RX), (101, fun x _ => x = .string tx), (102, fun x _ => x = .agg RY), (103, fun x _ => x = .string ty), (19, fun x _ => x = .string tx), (20, fun x _ => x = .string ty)] (fun _ w' => Ch (fun _ => False) wz w') ax) ?_ ?_ _ _ _ _ rfl (by decide) (InvP.start (by simp) HSZ.out HCX.out)
            · intro L a w' i hI hr
              obtain ⟨h1, o, ho, hall⟩ := mem_ready.1 hr
              have hlt : i < 6 := (Array.getElem?_eq_some_iff.1 ho).1
              have hsplit : i = 0 ∨ i = 1 ∨ i = 2 ∨ i = 3 ∨ i = 4 ∨ i = 5 := by omega
              clear hlt h1 hr
              rcases hsplit with rfl | rfl | rfl | rfl | rfl | rfl
              · have q7 := (hI.fixed 7 (by simp)).trans F7.out
                unfold gt at q7
                clear hall
                refine wpOp_step (o := _) rfl (fun K' hK' => ?_)
                exact wp_load_row 31 (.tmp 7) rfl A (by simpa [Act.eval] using q7) 31 RX (0, 0) _ (hI.wld.heap HAZ.out id) Tryd.underlying31 rfl HXI.out (hK' _ _ (hI.put 0 rfl (by decide) HND.out HLS.out  (Ch.refl _ _) rfl hI.wld))
              · simp at ho
                have e0 : lg L 0 = true := by unfold lg; simpa using hall ⟨0, .data⟩ (by rw [← ho]; simp) rfl
                have f0 : gt a 100 = .agg RX := hI.val 0 _ rfl e0
                unfold gt at f0
                clear hall
                clear ho
                have HCT := Go.Lib.hid (HTX.out w')
                refine wpOp_step (o := _) rfl (fun K' hK' => ?_)
                go_simp
                refine HCT.out.mono ?_
                rintro e w3 ⟨rfl, hc⟩
                exact hK' _ _ (hI.put 1 rfl (by decide) HND.out HLS.out  hc rfl (hI.wld.trans hc))
              · have q8 := (hI.fixed 8 (by simp)).trans F8.out
                unfold gt at q8
                clear hall
                refine wpOp_step (o := _) rfl (fun K' hK' => ?_)
                exact wp_load_row 31 (.tmp 8) rfl (A + 1) (by simpa [Act.eval] using q8) 31 RY (0, 0) _ (hI.wld.heap HBZ.out id) Tryd.underlying31 rfl HYI.out (hK' _ _ (hI.put 2 rfl (by decide) HND.out HLS.out  (Ch.refl _ _) rfl hI.wld))
              · simp at ho
                have e2 : lg L 2 = true := by unfold lg; simpa using hall ⟨2, .data⟩ (by rw [← ho]; simp) rfl
                have f2 : gt a 102 = .agg RY := hI.val 2 _ rfl e2
                unfold gt at f2
                clear hall
                clear ho
                have HCT := Go.Lib.hid (HTY.out w')
                refine wpOp_step (o := _) rfl (fun K' hK' => ?_)
                go_simp
                refine HCT.out.mono ?_
                rintro e w3 ⟨rfl, hc⟩
                exact hK' _ _ (hI.put 3 rfl (by decide) HND.out HLS.out  hc rfl (hI.wld.trans hc))
              · simp at ho
                have e1 : lg L 1 = true := by unfold lg; simpa using hall ⟨1, .data⟩ (by rw [← ho]; simp) rfl
                have f1 : gt a 101 = .string tx := hI.val 1 _ rfl e1
                unfold gt at f1
                clear hall
                clear ho
                refine wpOp_step (o := _) rfl (fun K' hK' => ?_)
                go_simp
                exact hK' _ _ (hI.put 4 rfl (by decide) HND.out HLS.out  (Ch.refl _ _) rfl hI.wld)
              · simp at ho
                have e3 : lg L 3 = true := by unfold lg; simpa using hall ⟨3, .data⟩ (by rw [← ho]; simp) rfl
                have f3 : gt a 103 = .string ty := hI.val 3 _ rfl e3
                unfold gt at f3
                clear hall
                clear ho
                refine wpOp_step (o := _) rfl (fun K' hK' => ?_)
                go_simp
                exact hK' _ _ (hI.put 5 rfl (by decide) HND.out HLS.out  (Ch.refl _ _) rfl hI.wld)
            · intro L a w' hI hr
              have hal := all_listed' (md := .any) (by kernel_rfl) hI.lsize hr
              have hfr := hI.frame HSZ.out (by simp) (fun i hi => hal i hi)
              have k0 : gt a 100 = .agg RX := hI.val 0 _ rfl (hal 0 (by decide))
              have k1 : gt a 101 = .string tx := hI.val 1 _ rfl (hal 1 (by decide))
              have k2 : gt a 102 = .agg RY := hI.val 2 _ rfl (hal 2 (by decide))
              have k3 : gt a 103 = .string ty := hI.val 3 _ rfl (hal 3 (by decide))
              have k4 : gt a 19 = .string tx := hI.val 4 _ rfl (hal 4 (by decide))
              have k5 : gt a 20 = .string ty := hI.val 5 _ rfl (hal 5 (by decide))
              rw [hfr, ← HAX.out]
              have HC := Go.Lib.hid hI.wld
              simp only [List.map_cons, List.map_nil, List.foldl_cons, List.foldl_nil, k0, k1, k2, k3, k4, k5, List.setIfInBounds_toArray, List.set_cons_succ, List.set_cons_zero]
              clear hfr hI hal hr k0 k1 k2 k3 k4 k5   HSZ HND HLS HAX HCX F7 F8
              go_upto_region 23 with (fail)
              refine wp_region_any (by kernel_rfl) ?_
              generalize hwx : World.mk _ _ _ _ _ = wx
              have HCX := Go.Lib.hid (show Ch (fun _ => False) wz wx by rw [← hwx]; exact HC.out.drew)
              clear hwx HC
              generalize hax : Act.mk _ _ = ax
              have HSZ := Go.Lib.hid (show ax.tmps.size = 154 by rw [← hax]; rfl)
              have F7 := Go.Lib.hid (show gt ax 7 = .pointer (some ⟨A, 0, none⟩) by rw [← hax]; rfl)
              have F8 := Go.Lib.hid (show gt ax 8 = .pointer (some ⟨A + 1, 0, none⟩) by rw [← hax]; rfl)
              have F19 := Go.Lib.hid (show gt ax 19 = .string tx by rw [← hax]; rfl)
              have F20 := Go.Lib.hid (show gt ax 20 = .string ty by rw [← hax]; rfl)
              have HAX := Go.Lib.hid hax
              clear hax
              have HND := Go.Lib.hid (show ([104, 105, 106, 107, 108, 109, 110, 111, 112, 113, 114, 115, 116, 117, 118, 119, 120, 121] : List Nat).Nodup by decide)
              have HLS : Hid (Lasts [(104, fun x _ => x = .string tx), (105, fun x _ => x = .string ty), (106, fun x _ => x = .bool (Op.bytesLess zx.toList zy.toList)), (107, fun x _ => x = .slice (some ⟨A, 0, none⟩) 32 32), (108, fun x _ => x = .string zx), (109, fun x _ => x = .slice (some ⟨A + 1, 0, none⟩) 32 32), (110, fun x _ => x = .string zy), (111, fun x _ => x = .bool (Op.bytesLess zx.toList zy.toList)), (112, fun x _ => x = .bool false), (113, fun x _ => x = .bool false), (114, fun x _ => x = .string tx), (115, fun x _ => x = .string ty), (116, fun x _ => x = .bool SB), (117, fun x _ => x = .agg RX), (118, fun x _ => x = .agg RY), (119, fun x _ => x = .bool SB), (120, fun x _ => x = .bool false), (121, fun x _ => x = .bool false)]) := Go.Lib.hid (by
                intro p hp v w1 w2 hc h
                simp only [List.mem_cons, List.not_mem_nil, or_false] at hp
                rcases hp with rfl | rfl | rfl | rfl | rfl | rfl | rfl | rfl | rfl | rfl | rfl | rfl | rfl | rfl | rfl | rfl | rfl | rfl
                all_goals first | exact h | (obtain ⟨g, h1, h2⟩ := h; exact ⟨g, h1, hc.heap h2 id⟩) | (obtain ⟨g, c, h1, h2⟩ := h; exact ⟨g, c, h1, h2.ch hc (fun _ _ h => h)⟩))
              refine wpAny_inv (InvP 154 [(104, fun x _ => x = .string tx), (105, fun x _ => x = .string ty), (106, fun x _ => x = .bool (Op.bytesLess zx.toList zy.toList)), (107, fun x _ => x = .slice (some ⟨A, 0, none⟩) 32 32), (108, fun x _ => x = .string zx), (109, fun x _ => x = .slice (some ⟨A + 1, 0, none⟩) 32 32), (110, fun x _ => x = .string zy), (111, fun x _ => x = .bool (Op.bytesLess zx.toList zy.toList)), (112, fun x _ => x = .bool false), (113, fun x _ => x = .bool false), (114, fun x _ => x = .string tx), (115, fun x _ => x = .string ty), (116, fun x _ => x = .bool SB), (117, fun x _ => x = .agg RX), (118, fun x _ => x = .agg RY), (119, fun x _ => x = .bool SB), (120, fun x _ => x = .bool false), (121, fun x _ => x = .bool false)] (fun _ w' => Ch (fun _ => False) wz w') ax) ?_ ?_ _ _ _ _ rfl (by decide) (InvP.start (by simp) HSZ.out HCX.out)
              · intro L a w' i hI hr
                obtain ⟨h1, o, ho, hall⟩ := mem_ready.1 hr
                have hlt : i < 18 := (Array.getElem?_eq_some_iff.1 ho).1
                have hsplit : i = 0 ∨ i = 1 ∨ i = 2 ∨ i = 3 ∨ i = 4 ∨ i = 5 ∨ i = 6 ∨ i = 7 ∨ i = 8 ∨ i = 9 ∨ i = 10 ∨ i = 11 ∨ i = 12 ∨ i = 13 ∨ i = 14 ∨ i = 15 ∨ i = 16 ∨ i = 17 := by omega
                clear hlt h1 hr
                rcases hsplit with rfl | rfl | rfl | rfl | rfl | rfl | rfl | rfl | rfl | rfl | rfl | rfl | rfl | rfl | rfl | rfl | rfl | rfl
                · have q19 := (hI.fixed 19 (by simp)).trans F19.out
                  unfold gt at q19
                  clear hall
                  refine wpOp_step (o := _) rfl (fun K' hK' => ?_)
                  go_simp
                  exact hK' _ _ (hI.put 0 rfl (by decide) HND.out HLS.out  (Ch.refl _ _) rfl hI.wld)
                · have q20 := (hI.fixed 20 (by simp)).trans F20.out
                  unfold gt at q20
                  clear hall
                  refine wpOp_step (o := _) rfl (fun K' hK' => ?_)
                  go_simp
                  exact hK' _ _ (hI.put 1 rfl (by decide) HND.out HLS.out  (Ch.refl _ _) rfl hI.wld)
                · simp at ho
                  have e0 : lg L 0 = true := by unfold lg; simpa using hall ⟨0, .data⟩ (by rw [← ho]; simp) rfl
                  have f0 : gt a 104 = .string tx := hI.val 0 _ rfl e0
                  have e1 : lg L 1 = true := by unfold lg; simpa using hall ⟨1, .data⟩ (by rw [← ho]; simp) rfl
                  have f1 : gt a 105 = .string ty := hI.val 1 _ rfl e1
                  have hlt := HLT.out
                  unfold gt at f0 f1
                  clear hall
                  clear ho
                  refine wpOp_step (o := _) rfl (fun K' hK' => ?_)
                  go_simp
                  exact hK' _ _ (hI.put 2 rfl (by decide) HND.out HLS.out  (Ch.refl _ _) rfl hI.wld)
                · have q7 := (hI.fixed 7 (by simp)).trans F7.out
                  unfold gt at q7
                  clear hall
                  refine wpOp_step (o := _) rfl (fun K' hK' => ?_)
                  go_simp
                  exact hK' _ _ (hI.put 3 rfl (by decide) HND.out HLS.out  (Ch.refl _ _) rfl hI.wld)
                · simp at ho
                  have e3 : lg L 3 = true := by unfold lg; simpa using hall ⟨3, .data⟩ (by rw [← ho]; simp) rfl
                  have f3 : gt a 107 = .slice (some ⟨A, 0, none⟩) 32 32 := hI.val 3 _ rfl e3
                  have hcv := HCVX.out w' (hI.wld.heap HAZ.out id)
                  unfold gt at f3
                  clear hall
                  clear ho
                  refine wpOp_step (o := _) rfl (fun K' hK' => ?_)
                  go_simp
                  exact hK' _ _ (hI.put 4 rfl (by decide) HND.out HLS.out  (Ch.refl _ _) rfl hI.wld)
                · have q8 := (hI.fixed 8 (by simp)).trans F8.out
                  unfold gt at q8
                  clear hall
                  refine wpOp_step (o := _) rfl (fun K' hK' => ?_)
                  go_simp
                  exact hK' _ _ (hI.put 5 rfl (by decide) HND.out HLS.out  (Ch.refl _ _) rfl hI.wld)
                · simp at ho
                  have e5 : lg L 5 = true := by unfold lg; simpa using hall ⟨5, .data⟩ (by rw [← ho]; simp) rfl
                  have f5 : gt a 109 = .slice (some ⟨A + 1, 0, none⟩) 32 32 := hI.val 5 _ rfl e5
                  have hcv := HCVY.out w' (hI.wld.heap HBZ.out id)
                  unfold gt at f5
                  clear hall
                  clear ho
                  refine wpOp_step (o := _) rfl (fun K' hK' => ?_)
                  go_simp
                  exact hK' _ _ (hI.put 6 rfl (by decide) HND.out HLS.out  (Ch.refl _ _) rfl hI.wld)
                · simp at ho
                  have e4 : lg L 4 = true := by unfold lg; simpa using hall ⟨4, .data⟩ (by rw [← ho]; simp) rfl
                  have f4 : gt a 108 = .string zx := hI.val 4 _ rfl e4
                  have e6 : lg L 6 = true := by unfold lg; simpa using hall ⟨6, .data⟩ (by rw [← ho]; simp) rfl
                  have f6 : gt a 110 = .string zy := hI.val 6 _ rfl e6
                  unfold gt at f4 f6
                  clear hall
                  clear ho
                  refine wpOp_step (o := _) rfl (fun K' hK' => ?_)
                  go_simp
                  exact hK' _ _ (hI.put 7 rfl (by decide) HND.out HLS.out  (Ch.refl _ _) rfl hI.wld)
                · simp at ho
                  have e2 : lg L 2 = true := by unfold lg; simpa using hall ⟨2, .data⟩ (by rw [← ho]; simp) rfl
                  have f2 : gt a 106 = .bool (Op.bytesLess zx.toList zy.toList) := hI.val 2 _ rfl e2
                  have e7 : lg L 7 = true := by unfold lg; simpa using hall ⟨7, .data⟩ (by rw [← ho]; simp) rfl
                  have f7 : gt a 111 = .bool (Op.bytesLess zx.toList zy.toList) := hI.val 7 _ rfl e7
                  unfold gt at f2 f7
                  clear hall
                  clear ho
                  refine wpOp_step (o := _) rfl (fun K' hK' => ?_)
                  go_simp
                  exact hK' _ _ (hI.put 8 rfl (by decide) HND.out HLS.out  (Ch.refl _ _) rfl hI.wld)
                · simp at ho
                  have e8 : lg L 8 = true := by unfold lg; simpa using hall ⟨8, .data⟩ (by rw [← ho]; simp) rfl
                  have f8 : gt a 112 = .bool false := hI.val 8 _ rfl e8
                  unfold gt at f8
                  clear hall
                  clear ho
                  refine wpOp_step (o := _) rfl (fun K' hK' => ?_)
                  go_simp
                  exact hK' _ _ (hI.put 9 rfl (by decide) HND.out HLS.out  (Ch.refl _ _) rfl hI.wld)
                · simp at ho
                  have q19 := (hI.fixed 19 (by simp)).trans F19.out
                  have eg : lg L 9 = true := by unfold lg; simpa using hall ⟨9, .guard⟩ (by rw [← ho]; simp) rfl
                  have fg0 : gt a 113 = .bool false := hI.val 9 _ rfl eg
                  have fg := guard_of fg0 (by rw [hI.size]; decide)
                  clear eg fg0
                  unfold gt at q19
                  clear hall
                  clear ho
                  refine wpOp_step (o := _) rfl (fun K' hK' => ?_)
                  go_simp
                  exact hK' _ _ (hI.put 10 rfl (by decide) HND.out HLS.out  (Ch.refl _ _) rfl hI.wld)
                · simp at ho
                  have q20 := (hI.fixed 20 (by simp)).trans F20.out
                  have eg : lg L 9 = true := by unfold lg; simpa using hall ⟨9, .guard⟩ (by rw [← ho]; simp) rfl
                  have fg0 : gt a 113 = .bool false := hI.val 9 _ rfl eg
                  have fg := guard_of fg0 (by rw [hI.size]; decide)
                  clear eg fg0
                  unfold gt at q20
                  clear hall
                  clear ho
                  refine wpOp_step (o := _) rfl (fun K' hK' => ?_)
                  go_simp
                  exact hK' _ _ (hI.put 11 rfl (by decide) HND.out HLS.out  (Ch.refl _ _) rfl hI.wld)
                · simp at ho
                  have e10 : lg L 10 = true := by unfold lg; simpa using hall ⟨10, .data⟩ (by rw [← ho]; simp) rfl
                  have f10 : gt a 114 = .string tx := hI.val 10 _ rfl e10
                  have e11 : lg L 11 = true := by unfold lg; simpa using hall ⟨11, .data⟩ (by rw [← ho]; simp) rfl
                  have f11 : gt a 115 = .string ty := hI.val 11 _ rfl e11
                  have eg : lg L 9 = true := by unfold lg; simpa using hall ⟨9, .guard⟩ (by rw [← ho]; simp) rfl
                  have fg0 : gt a 113 = .bool false := hI.val 9 _ rfl eg
                  have fg := guard_of fg0 (by rw [hI.size]; decide)
                  clear eg fg0
                  have hsm := HSM.out
                  unfold gt at f10 f11
                  clear hall
                  clear ho
                  refine wpOp_step (o := _) rfl (fun K' hK' => ?_)
                  go_simp
                  exact hK' _ _ (hI.put 12 rfl (by decide) HND.out HLS.out  (Ch.refl _ _) rfl hI.wld)
                · simp at ho
                  have q7 := (hI.fixed 7 (by simp)).trans F7.out
                  have eg : lg L 9 = true := by unfold lg; simpa using hall ⟨9, .guard⟩ (by rw [← ho]; simp) rfl
                  have fg0 : gt a 113 = .bool false := hI.val 9 _ rfl eg
                  have fg := guard_of fg0 (by rw [hI.size]; decide)
                  clear eg fg0
                  unfold gt at q7
                  clear hall
                  clear ho
                  refine wpOp_step (o := _) rfl (fun K' hK' => ?_)
                  rw [if_pos (by simp [Region.wanted, yielded, fg])]
                  exact wp_load_row 31 (.tmp 7) rfl A (by simpa [Act.eval] using q7) 31 RX (0, 0) _ (hI.wld.heap HAZ.out id) Tryd.underlying31 rfl HXI.out (hK' _ _ (hI.put 13 rfl (by decide) HND.out HLS.out  (Ch.refl _ _) rfl hI.wld))
                · simp at ho
                  have q8 := (hI.fixed 8 (by simp)).trans F8.out
                  have eg : lg L 9 = true := by unfold lg; simpa using hall ⟨9, .guard⟩ (by rw [← ho]; simp) rfl
                  have fg0 : gt a 113 = .bool false := hI.val 9 _ rfl eg
                  have fg := guard_of fg0 (by rw [hI.size]; decide)
                  clear eg fg0
                  unfold gt at q8
                  clear hall
                  clear ho
                  refine wpOp_step (o := _) rfl (fun K' hK' => ?_)
                  rw [if_pos (by simp [Region.wanted, yielded, fg])]
                  exact wp_load_row 31 (.tmp 8) rfl (A + 1) (by simpa [Act.eval] using q8) 31 RY (0, 0) _ (hI.wld.heap HBZ.out id) Tryd.underlying31 rfl HYI.out (hK' _ _ (hI.put 14 rfl (by decide) HND.out HLS.out  (Ch.refl _ _) rfl hI.wld))
                · simp at ho
                  have e13 : lg L 13 = true := by unfold lg; simpa using hall ⟨13, .data⟩ (by rw [← ho]; simp) rfl
                  have f13 : gt a 117 = .agg RX := hI.val 13 _ rfl e13
                  have e14 : lg L 14 = true := by unfold lg; simpa using hall ⟨14, .data⟩ (by rw [← ho]; simp) rfl
                  have f14 : gt a 118 = .agg RY := hI.val 14 _ rfl e14
                  have eg : lg L 9 = true := by unfold lg; simpa using hall ⟨9, .guard⟩ (by rw [← ho]; simp) rfl
                  have fg0 : gt a 113 = .bool false := hI.val 9 _ rfl eg
                  have fg := guard_of fg0 (by rw [hI.size]; decide)
                  clear eg fg0
                  unfold gt at f13 f14
                  clear hall
                  clear ho
                  refine wpOp_step (o := _) rfl (fun K' hK' => ?_)
                  rw [if_pos (by simp [Region.wanted, yielded, fg])]
                  exact wp_eqlH (.tmp 117) (.tmp 118) 31 31 rfl RX RY (by simpa [Act.eval] using f13) (by simpa [Act.eval] using f14) eqg31 (HXY.out _) (hK' _ _ (hI.put 15 rfl (by decide) HND.out HLS.out  (Ch.refl _ _) rfl hI.wld))
                · simp at ho
                  have e12 : lg L 12 = true := by unfold lg; simpa using hall ⟨12, .data⟩ (by rw [← ho]; simp) rfl
                  have f12 : gt a 116 = .bool SB := hI.val 12 _ rfl e12
                  have e15 : lg L 15 = true := by unfold lg; simpa using hall ⟨15, .data⟩ (by rw [← ho]; simp) rfl
                  have f15 : gt a 119 = .bool SB := hI.val 15 _ rfl e15
                  have eg : lg L 9 = true := by unfold lg; simpa using hall ⟨9, .guard⟩ (by rw [← ho]; simp) rfl
                  have fg0 : gt a 113 = .bool false := hI.val 9 _ rfl eg
                  have fg := guard_of fg0 (by rw [hI.size]; decide)
                  clear eg fg0
                  unfold gt at f12 f15
                  clear hall
                  clear ho
                  refine wpOp_step (o := _) rfl (fun K' hK' => ?_)
                  go_simp
                  exact hK' _ _ (hI.put 16 rfl (by decide) HND.out HLS.out  (Ch.refl _ _) rfl hI.wld)
                · simp at ho
                  have e9 : lg L 9 = true := by unfold lg; simpa using hall ⟨9, .data⟩ (by rw [← ho]; simp) rfl
                  have f9 : gt a 113 = .bool false := hI.val 9 _ rfl e9
                  have e16 : lg L 16 = true := by unfold lg; simpa using hall ⟨16, .data⟩ (by rw [← ho]; simp) rfl
                  have f16 : gt a 120 = .bool false := hI.val 16 _ rfl e16
                  unfold gt at f9 f16
                  clear hall
                  clear ho
                  refine wpOp_step (o := _) rfl (fun K' hK' => ?_)
                  go_simp
                  exact hK' _ _ (hI.put 17 rfl (by decide) HND.out HLS.out  (Ch.refl _ _) rfl hI.wld)
              · intro L a w' hI hr
                have hal := all_listed' (md := .any) (by kernel_rfl) hI.lsize hr
                have hfr := hI.frame HSZ.out (by simp) (fun i hi => hal i hi)
                have k0 : gt a 104 = .string tx := hI.val 0 _ rfl (hal 0 (by decide))
                have k1 : gt a 105 = .string ty := hI.val 1 _ rfl (hal 1 (by decide))
                have k2 : gt a 106 = .bool (Op.bytesLess zx.toList zy.toList) := hI.val 2 _ rfl (hal 2 (by decide))
                have k3 : gt a 107 = .slice (some ⟨A, 0, none⟩) 32 32 := hI.val 3 _ rfl (hal 3 (by decide))
                have k4 : gt a 108 = .string zx := hI.val 4 _ rfl (hal 4 (by decide))
                have k5 : gt a 109 = .slice (some ⟨A + 1, 0, none⟩) 32 32 := hI.val 5 _ rfl (hal 5 (by decide))
                have k6 : gt a 110 = .string zy := hI.val 6 _ rfl (hal 6 (by decide))
                have k7 : gt a 111 = .bool (Op.bytesLess zx.toList zy.toList) := hI.val 7 _ rfl (hal 7 (by decide))
                have k8 : gt a 112 = .bool false := hI.val 8 _ rfl (hal 8 (by decide))
                have k9 : gt a 113 = .bool false := hI.val 9 _ rfl (hal 9 (by decide))
                have k10 : gt a 114 = .string tx := hI.val 10 _ rfl (hal 10 (by decide))
                have k11 : gt a 115 = .string ty := hI.val 11 _ rfl (hal 11 (by decide))
                have k12 : gt a 116 = .bool SB := hI.val 12 _ rfl (hal 12 (by decide))
                have k13 : gt a 117 = .agg RX := hI.val 13 _ rfl (hal 13 (by decide))
                have k14 : gt a 118 = .agg RY := hI.val 14 _ rfl (hal 14 (by decide))
                have k15 : gt a 119 = .bool SB := hI.val 15 _ rfl (hal 15 (by decide))
                have k16 : gt a 120 = .bool false := hI.val 16 _ rfl (hal 16 (by decide))
                have k17 : gt a 121 = .bool false := hI.val 17 _ rfl (hal 17 (by decide))
                rw [hfr, ← HAX.out]
                have HC := Go.Lib.hid hI.wld
                simp only [List.map_cons, List.map_nil, List.foldl_cons, List.foldl_nil, k0, k1, k2, k3, k4, k5, k6, k7, k8, k9, k10, k11, k12, k13, k14, k15, k16, k17, List.setIfInBounds_toArray, List.set_cons_succ, List.set_cons_zero]
                clear hfr hI hal hr k0 k1 k2 k3 k4 k5 k6 k7 k8 k9 k10 k11 k12 k13 k14 k15 k16 k17   HSZ HND HLS HAX HCX F7 F8 F19 F20
                clear HPZ HQZ HXZ HRZ HBZ HTX HTY HCVX HCVY HLT HSM HXY HVR HTO HV1 HV2 HV3 HYI HP1
                go_upto_region 26 with (first
                  | (go_at_call 24; refine (HPX.out _).mono ?_; rintro e w7 ⟨rfl, hc7⟩; have HC7 := Go.Lib.hid (HC.out.trans hc7); clear hc7)
                  | (refine wpList_store_row rfl 31 (.tmp 21) (.tmp 125) rfl w7.heap.size RX rfl rfl 31 (arr 32 fun _ => .int .u8 0) (World.alloc_heap_new w7 _) HXI.out HXS.out HXA.out ?_))
                generalize hW8 : World.setRow _ w7.heap.size RX = W8
                have hr8 : W8.heap[w7.heap.size]? = some (.cells RX 31) := by rw [← hW8]; exact heap_setRow (World.alloc_heap_new w7 _)
                have hc8 : Ch (fun _ => False) w7 W8 := by rw [← hW8]; exact ((Ch.refl _ _).alloc _).setRow (fun h => absurd h (Nat.lt_irrefl _)) _
                have HR8 := Go.Lib.hid hr8; have HC8 := Go.Lib.hid (HC7.out.trans hc8)
                clear hW8 hr8 hc8 HC7 HC HPX
                generalize w7.heap.size = H21 at *
                go_upto_region 27 with (first
                  | (go_at_call 24; refine (HPS2.out _).mono ?_; rintro e w9 ⟨rfl, hc9⟩; have HC9 := Go.Lib.hid (HC8.out.trans hc9); have HR9 := Go.Lib.hid (hc9.heap HR8.out id); clear hc9)
                  | (refine wpList_store_row rfl 31 (.tmp 23) (.tmp 130) rfl w9.heap.size RP rfl rfl 31 (arr 32 fun _ => .int .u8 0) (World.alloc_heap_new w9 _) HZ1.out HZ3.out HZ2.out ?_))
                generalize hW10 : World.setRow _ w9.heap.size RP = W10
                have hr10 : W10.heap[w9.heap.size]? = some (.cells RP 31) := by rw [← hW10]; exact heap_setRow (World.alloc_heap_new w9 _)
                have hc10 : Ch (fun _ => False) w9 W10 := by rw [← hW10]; exact ((Ch.refl _ _).alloc _).setRow (fun h => absurd h (Nat.lt_irrefl _)) _
                have HQ10 := Go.Lib.hid hr10; have HR10 := Go.Lib.hid (hc10.heap HR9.out id); have HC10 := Go.Lib.hid (HCZ.out.trans (HC9.out.trans hc10)); have HA10 := Go.Lib.hid ((HC9.out.trans hc10).heap HAZ.out id)
                clear hW10 hr10 hc10 HC9 HR9 HC8 HR8 HPS2 HCZ HAZ
                generalize w9.heap.size = H23 at *
                have hss : (s.toList == s.toList) = true := by simp
                by_cases hpe : pe = 0
                · subst hpe
                  have HTS2 := Go.Lib.hid (HTS.out rfl)
                  go_wp2_with (first
                    | (go_at_call 26; refine (num_any _ _).mono ?_; rintro e w' ⟨rfl, rfl⟩)
                    | (refine wpList_load_row_wanted (by first | rfl | simp [Region.wanted, yielded]) 31 (.tmp 21) rfl H21 rfl 31 RX (0, 0) _ HR10.out Tryd.underlying31 rfl HXI.out ?_)
                    | (refine wpList_load_row_wanted (by first | rfl | simp [Region.wanted, yielded]) 31 (.tmp 7) rfl A rfl 31 RX (0, 0) _ HA10.out Tryd.underlying31 rfl HXI.out ?_)
                    | (refine wpList_load_row_wanted (by first | rfl | simp [Region.wanted, yielded]) 31 (.tmp 23) rfl H23 rfl 31 RP (0, 0) _ HQ10.out Tryd.underlying31 rfl HZ1.out ?_)
                    | (refine wpList_eql_wanted (by first | rfl | simp [Region.wanted, yielded]) (.tmp 136) (.tmp 137) 31 31 rfl RX RX rfl rfl eqg31 (b := true) (HXX.out _) ?_)
                    | (go_at_call 27; refine (HTS2.out _).mono ?_; rintro e w11 ⟨rfl, hc11⟩; have HC11 := Go.Lib.hid (HC10.out.trans hc11); clear hc11)
                    | (go_at_call 15; refine (HW.out _ HC11.out).mono ?_; rintro e w12 ⟨rfl, hc12⟩; have HC12 := Go.Lib.hid (HC11.out.trans hc12); clear hc12))
                  go_ret
                  exact ⟨rfl, HC12.out⟩
                · have hne : (pe == 0) = false := by rw [beq_eq_false_iff_ne]; exact hpe
                  go_wp2_with (first
                    | (go_at_call 26; refine (num_any _ _).mono ?_; rintro e w' ⟨rfl, rfl⟩)
                    | (refine wpList_load_row_wanted (by first | rfl | simp [Region.wanted, yielded]) 31 (.tmp 21) rfl H21 rfl 31 RX (0, 0) _ HR10.out Tryd.underlying31 rfl HXI.out ?_)
                    | (refine wpList_load_row_wanted (by first | rfl | simp [Region.wanted, yielded]) 31 (.tmp 7) rfl A rfl 31 RX (0, 0) _ HA10.out Tryd.underlying31 rfl HXI.out ?_)
                    | (refine wpList_eql_wanted (by first | rfl | simp [Region.wanted, yielded]) (.tmp 136) (.tmp 137) 31 31 rfl RX RX rfl rfl eqg31 (b := true) (HXX.out _) ?_)
                    | (go_at_call 15; refine (HW.out _ HC10.out).mono ?_; rintro e w12 ⟨rfl, hc12⟩; have HC12 := Go.Lib.hid (HC10.out.trans hc12); clear hc12))
                  go_ret
                  exact ⟨rfl, HC12.out⟩
end Go.Proofs.YtdmeeghgbiffmaaDoor
