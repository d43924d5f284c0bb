/- What holds while WireReads' region comes up that asks and lays the answer into a new box. -/
import Derived.Test.YtljllfdigfojdaaR16
import Derived.Test.YtljllfdigfojdaaRU
import Derived.Test.YtljllfdigfojdaaLaw3
import Derived.Test.YtljllfdigfojdaaV13
namespace Go.Proofs.Ytljllfdigfojdaa
open Go Go.RowKit

/-- Both readers have alike left. -/
def OutR (r x0 y0 n : Nat) (u : World) (m : Nat) (g : Nat → UInt8) (bad : Bool) (q : Option Addr) (d : Nat) : Prop :=
  m ≤ n ∧ (∃ p c, RdAt u r x0 p m c g bad) ∧ BytesAt u q m d g ∧ ∀ ad, q = some ad → ad.block = y0
theorem OutR.ch {r x0 y0 n m d : Nat} {u u' : World} {g : Nat → UInt8} {bad : Bool} {q : Option Addr} {S : Nat → Prop} (h : OutR r x0 y0 n u m g bad q d) (hc : Ch S u u') (h1 : ¬ S r) (h2 : ¬ S x0) (h3 : ¬ S y0) : OutR r x0 y0 n u' m g bad q d := by
  obtain ⟨a, ⟨p, c, b⟩, e, f⟩ := h
  exact ⟨a, ⟨p, c, b.ch hc h1 h2⟩, e.but2 hc f (fun _ => h3), f⟩
structure IR (W : World) (r : Nat) (L : Array Bool) (u : World) : Prop where
  size : L.size = 13
  pre : lg L 6 = false → Ch (fun _ => False) W u
  ord : lg L 6 = false → lg L 7 = false ∧ lg L 8 = false
  ch : Ch (fun q => q = r) W u
section
variable {W u u' : World} {r : Nat} {L : Array Bool}
theorem IR.start : IR W r (Array.replicate 13 false) { W with drawn := W.drawn + 1 } :=
  ⟨by simp, fun _ => (Ch.refl _ W).drew, fun _ => ⟨by cases e : lg (Array.replicate 13 false) 7 with | false => rfl | true => exact (lg_none' _ _ e).elim, by cases e : lg (Array.replicate 13 false) 8 with | false => rfl | true => exact (lg_none' _ _ e).elim⟩, (Ch.refl _ W).drew⟩
theorem IR.step (h : IR W r L u) (j : Nat) (hj : j < 13) (h6 : j ≠ 6) (h7 : j ≠ 7) (h8 : j ≠ 8) (hc : Ch (fun _ => False) u u') : IR W r (L.setIfInBounds j true) u' := by
  have g := fun k => lg_set L j k (by rw [h.size]; exact hj)
  refine ⟨by simpa using h.size, fun e => ?_, fun e => ?_, h.ch.trans (hc.mono (fun _ _ e => e.elim))⟩
  · rw [g, if_neg (Ne.symm h6)] at e; exact (h.pre e).trans hc
  · rw [g, if_neg (Ne.symm h6)] at e
    rw [g, g, if_neg (Ne.symm h7), if_neg (Ne.symm h8)]
    exact h.ord e
theorem IR.step7 (h : IR W r L u) (j : Nat) (hj : j < 13) (h6 : j ≠ 6) (e6 : lg L 6 = true) (hc : Ch (fun _ => False) u u') : IR W r (L.setIfInBounds j true) u' := by
  have g := fun k => lg_set L j k (by rw [h.size]; exact hj)
  refine ⟨by simpa using h.size, fun e => ?_, fun e => ?_, h.ch.trans (hc.mono (fun _ _ e => e.elim))⟩
  · rw [g, if_neg (Ne.symm h6), e6] at e; cases e
  · rw [g, if_neg (Ne.symm h6), e6] at e; cases e
theorem IR.call (h : IR W r L u) (hc : Ch (fun q => q = r) u u') : IR W r (L.setIfInBounds 6 true) u' := by
  have g : lg (L.setIfInBounds 6 true) 6 = true := by rw [lg_set L 6 6 (by rw [h.size]; decide), if_pos rfl]
  exact ⟨by simpa using h.size, fun e => (by rw [g] at e; cases e), fun e => (by rw [g] at e; cases e), h.ch.trans hc⟩
theorem IR.store (h : IR W r L u) (e6 : lg L 6 = true) {G : Nat} (hG : W.heap.size ≤ G) (x y : Value) : IR W r (L.setIfInBounds 11 true) ((u.setCell ⟨G, 0, none⟩ x).setCell ⟨G, 1, none⟩ y) := by
  have g : lg (L.setIfInBounds 11 true) 6 = true := by rw [lg_set L 11 6 (by rw [h.size]; decide), if_neg (by decide)]; exact e6
  exact ⟨by simpa using h.size, fun e => (by rw [g] at e; cases e), fun e => (by rw [g] at e; cases e), ch_two h.ch (fun e => absurd e (by omega)) _ _⟩
end
/-- Behind the store: what lies in the new box. -/
def XR (W : World) (r x0 y0 n : Nat) (L : Array Bool) (a : Act) (u : World) : Prop :=
  lg L 11 = true → (∀ k, k < 11 → k ≠ 9 → lg L k = true) ∧ ∃ G m g bad q d, gt a 10 = .pointer (some ⟨G, 0, none⟩) ∧ W.heap.size ≤ G ∧ u.heap[G]? = some (.cells #[.slice q m d, .bool bad] 51) ∧ OutR r x0 y0 n u m g bad q d
theorem XR.step {W : World} {r x0 y0 n : Nat} {L : Array Bool} {a a' : Act} {u u' : World} (h : XR W r x0 y0 n L a u) {j : Nat} (hun : lg L j = false) (hj : j < 11) (h9 : j ≠ 9) (hs : L.size = 13) : XR W r x0 y0 n (L.setIfInBounds j true) a' u' := by
  intro e
  rw [lg_set L j 11 (by omega), if_neg (by omega)] at e
  rw [(h e).1 j hj h9] at hun
  cases hun
theorem XR.put9 {W : World} {r x0 y0 n : Nat} {L : Array Bool} {a : Act} {u u' : World} (h : XR W r x0 y0 n L a u) (hs : L.size = 13) {d : Nat} {v : Value} (hd : d < a.tmps.size) (hd10 : 10 ≠ d) (hc : Ch (fun _ => False) u u') : XR W r x0 y0 n (L.setIfInBounds 9 true) (a.put (some d) v) u' := by
  intro e
  rw [lg_set L 9 11 (by omega), if_neg (by omega)] at e
  obtain ⟨h1, G, m, g, bad, q, dd, h2, h3, h4, h5⟩ := h e
  refine ⟨fun k hk hk9 => by rw [lg_set L 9 k (by omega), if_neg hk9]; exact h1 k hk hk9, G, m, g, bad, q, dd, ?_, h3, hc.heap h4 id, h5.ch hc id id id⟩
  rw [gt_put a d 10 v hd, if_neg hd10]; exact h2
theorem XR.store {W : World} {r x0 y0 n : Nat} {L : Array Bool} {a : Act} {u : World} (hs : L.size = 13) (hall : ∀ k, k < 11 → k ≠ 9 → lg L k = true) {G m d : Nat} {g : Nat → UInt8} {bad : Bool} {q : Option Addr} {c0 c1 : Value} (hg : gt a 10 = .pointer (some ⟨G, 0, none⟩)) (hG : W.heap.size ≤ G) (hrow : u.heap[G]? = some (.cells #[c0, c1] 51))
    (ho : OutR r x0 y0 n u m g bad q d) (hr : r < W.heap.size) (hx : x0 < W.heap.size) (hy : y0 < W.heap.size) : XR W r x0 y0 n (L.setIfInBounds 11 true) a ((u.setCell ⟨G, 0, none⟩ (.slice q m d)).setCell ⟨G, 1, none⟩ (.bool bad)) := by
  intro _
  refine ⟨fun k hk hk9 => by rw [lg_set L 11 k (by omega), if_neg (by omega)]; exact hall k hk hk9, G, m, g, bad, q, d, hg, hG, set_two hrow _ _, ?_⟩
  exact ho.ch (ch_two (Ch.refl (fun q => q = G) u) (fun _ => rfl) _ _) (show ¬ r = G by omega) (show ¬ x0 = G by omega) (show ¬ y0 = G by omega)
end Go.Proofs.Ytljllfdigfojdaa
/- WireReads. -/
namespace Go.Proofs.Ytljllfdigfojdaa
open Go Go.RowKit

theorem own_some {w : World} {base n : Nat} {p : Option Addr} {c : Nat} {f : Nat → UInt8} (h : w.ownsRow base 5 1 (.slice p n c) n (fL f n)) (h0 : 0 < n) : ∃ g, base ≤ g ∧ p = some ⟨g, 0, none⟩ ∧ n ≤ c := by
  rcases h.2 with ⟨e, rfl⟩ | ⟨g, cap, cur, e, hb, hg, hnc, _⟩
  · omega
  · cases e; exact ⟨g, hb, rfl, hnc⟩
theorem own_last {w : World} {base n g c : Nat} {z : Int} {F : Nat → UInt8} (h : w.ownsRow base 5 1 (.slice (some ⟨g, 0, none⟩) (n + 1) c) (n + 1) (fL F (n + 1))) (hz : z = ((F n).toNat : Int)) : w.cell? ⟨g, n, none⟩ = some (.int .u8 z) := by
  rcases h.2 with ⟨e, _⟩ | ⟨g', cap, cur, e, hb, hg, hnc, _, _, htake⟩
  · cases e
  · cases e
    rw [hz]
    exact (cell_of_heap hg n).trans (fL_cur htake n (Nat.lt_succ_self n))
theorem own_empty (w : World) (F : Nat → UInt8) : (w.alloc (.cells #[] 5)).ownsRow w.heap.size 5 1 (.slice (some ⟨w.heap.size, 0, none⟩) 0 0) 0 (fL F 0) :=
  ⟨rfl, .inr ⟨w.heap.size, 0, _, rfl, Nat.le_refl _, World.alloc_heap_new w _, by omega, by simp [maxLen], rfl, rfl⟩⟩
set_option maxRecDepth 100000 in
set_option maxHeartbeats 4000000 in
theorem reads_law (p : Option Addr) (n c : Nat) (f : Nat → UInt8) (sp : Option Addr) (N cap : Nat) (K M : Nat → Int) (w : World) (hb : BytesAt w p n c f) (hsp : ∀ ad, p = some ad → ad.block < w.heap.size) (hA : AsksAt w sp N K M) :
    Calls Try.prog 4 #[.slice p n c, .slice sp N cap] w fun e w' => e = .returned (.bool true) ∧ Ch (fun _ => False) w w' := by
  have HB := Go.Lib.hid hb; have HSP := Go.Lib.hid hsp; have HA := Go.Lib.hid hA
  clear hb hsp hA
  by_cases hn : 500 < n
  · have hn' : (500 : Int) < (n : Int) := by omega
    clear hn
    go_enter Try.func4, Try.ntmps4
    go_wp2_with (go_at_call 10; refine (wworks_any _).mono ?_; rintro e w2 ⟨rfl, hc⟩; have HC := Go.Lib.hid hc; clear hc)
    go_ret
    exact ⟨rfl, HC.out⟩
  have hn' : ¬ (500 : Int) < (n : Int) := by omega
  by_cases hN : 30 < N
  · have hN' : (30 : Int) < (N : Int) := by omega
    clear hn hN
    go_enter Try.func4, Try.ntmps4
    go_wp2_with (go_at_call 10; refine (wworks_any _).mono ?_; rintro e w2 ⟨rfl, hc⟩; have HC := Go.Lib.hid hc; clear hc)
    go_ret
    exact ⟨rfl, HC.out⟩
  have hN' : ¬ (30 : Int) < (N : Int) := by omega
  have HNN := Go.Lib.hid (show n ≤ 500 ∧ N ≤ 30 from ⟨by omega, by omega⟩)
  clear hn hN
  go_enter Try.func4, Try.ntmps4
  have hF0 : ∀ j, j < n → (fun j => if j < n then f j else 77) (0 + j) = f j := fun j hj => by
    show (if 0 + j < n then f (0 + j) else 77) = f j
    rw [Nat.zero_add, if_pos hj]
  have hFn : (77 : Int) = ((((fun j => if j < n then f j else 77) n : UInt8)).toNat : Int) := by
    show (77 : Int) = (((if n < n then f n else 77) : UInt8).toNat : Int)
    rw [if_neg (Nat.lt_irrefl n)]; rfl
  have HF0 := Go.Lib.hid hF0; have HFN := Go.Lib.hid hFn
  clear hF0 hFn
  generalize (fun j => if j < n then f j else 77) = F at *
  have HE := Go.Lib.hid (own_empty w F); have HAL := Go.Lib.hid ((Ch.refl (fun _ => False) w).alloc (.cells #[] 5))
  have HS0 := Go.Lib.hid (World.size_alloc w (.cells #[] 5))
  go_wp2_with (first
    | (at_builtin; refine wpList_append_more rfl (.tmp 30) (.tmp 31) rfl w.heap.size 0 n _ F f rfl HE.out p c rfl (HB.out.ch HAL.out (fun _ _ => id)) HF0.out (by have := HNN.out; omega) (by have := HS0.out; omega) ?_; intro v1 w1 ho1 hg1; obtain ⟨p1, c1, rfl, -⟩ := own_bytes ho1; rw [Nat.zero_add] at ho1; have HO1 := Go.Lib.hid ho1; have HG1 := Go.Lib.hid hg1; clear ho1 hg1)
    | (at_builtin; refine wpList_append_byte rfl (.tmp 32) (.tmp 33) rfl w.heap.size (.slice p1 n c1) n F rfl (own_ch1 HO1.out ((Ch.refl (fun _ => False) w1).alloc _) (fun _ _ => id)) w1.heap.size 77 rfl (cell_new w1 _ 5) HFN.out (by have := HNN.out; omega) (by have := HG1.out.ch.size; have := HS0.out; have := World.size_alloc w1 (.cells #[.int .u8 77] 5); omega) ?_; intro v2 w2 ho2 hg2; obtain ⟨p2, c2, rfl, hb2⟩ := own_bytes ho2; obtain ⟨gm, hgm, rfl, hnc2⟩ : ∃ gm, w.heap.size ≤ gm ∧ p2 = some ⟨gm, 0, none⟩ ∧ n + 1 ≤ c2 := own_some ho2 (Nat.succ_pos n); have HO2 := Go.Lib.hid ho2; have HG2 := Go.Lib.hid hg2; have HB2 := Go.Lib.hid hb2; have HGM := Go.Lib.hid hgm; have hcn : (n : Int) ≤ (c2 : Int) := (by omega); clear ho2 hg2 hb2 hgm))
  have HNC := Go.Lib.hid hnc2
  clear hcn hnc2
  have HC2 := Go.Lib.hid (show Ch (fun _ => False) w w2 from (HAL.out.then HG1.out.ch (fun g hg e => by have e' : (Value.slice (some ⟨w.heap.size, 0, none⟩) 0 0).ownBlock = some g := e; simp [Value.ownBlock] at e'; omega)).then ((((Ch.refl (fun _ => False) w1).alloc (.cells #[.int .u8 77] 5)).mono (fun _ _ e => e.elim)).trans HG2.out.ch) (fun g hg e => by have := (HO1.out.lt g e).1; omega))
  have HB3 := Go.Lib.hid (show BytesAt w2 (some ⟨gm, 0, none⟩) n c2 F from by
    rcases HB2.out with ⟨x, y, e, h1, h2, h3⟩ | ⟨h1, _⟩
    · exact .inl ⟨x, y, e, by omega, h2, fun j hj => h3 j (by omega)⟩
    · omega)
  have h0 : 0 < w2.heap.size := by have := (HO2.out.lt gm rfl).2; omega
  refine (read_any (some ⟨gm, 0, none⟩) n c2 F w2 HB3.out (by have := HNN.out; omega) h0).mono ?_
  rintro e w3 ⟨r, x0, p3, c3, rfl, hr, hrs, hx0, hc3⟩
  have HR := Go.Lib.hid hr; have HRS := Go.Lib.hid hrs; have HX0 := Go.Lib.hid hx0; have HC3 := Go.Lib.hid (HC2.out.trans hc3)
  have HO3 := Go.Lib.hid (own_ch1 HO2.out hc3 (fun _ _ => id)); have HBM := Go.Lib.hid (HB3.out.ch hc3 (fun _ _ => id)); have HB4 := Go.Lib.hid (HB.out.ch HC3.out (fun _ _ => id))
  have HGL := Go.Lib.hid (HO2.out.lt gm rfl).2
  clear hr hrs hx0 hc3 h0 HE HAL HS0 HG1 HO1 HG2 HB2 HO2 HB3 HC2
  have hcv1 := conv_bytes HBM.out
  have hcv2 := conv_bytes HB4.out
  have hbs : bS F n = bS f n := bS_congr fun j hj => by have := HF0.out j hj; rwa [Nat.zero_add] at this
  rw [hbs] at hcv1
  have hcell : w3.cell? ⟨gm, n, none⟩ = some (.int .u8 77) := own_last HO3.out HFN.out
  clear hbs
  generalize bS f n = sg at *
  have hss : (sg.toList != sg.toList) = false := by simp
  have hcn : (n : Int) + 1 ≤ (c2 : Int) := by have := HNC.out; omega
  go_wp2_with fail
  clear hss hcn hcv1 hcv2 hcell
  have HRU := Go.Lib.hid (show n = 0 ∨ RowU w3 gm n from by
    rcases own_rowU HO3.out with ⟨g, c', e, ⟨cur, h1, h2⟩, _⟩ | ⟨e, _⟩
    · cases e; exact .inr ⟨cur, h1, fun j hj => h2 j (by omega)⟩
    · cases e)
  have HX1 := Go.Lib.hid (show n ≠ 0 → x0 ≠ gm from fun hn0 e => by
    have h1 := HX0.out; have h2 := HGL.out; have h3 := HGM.out
    rcases HB.out with ⟨x, y, _, _, h4, _⟩ | ⟨h4, _⟩ <;> omega)
  clear HO3 HBM HFN
  go_loopw [7] (fun ix wr => ∃ j : Nat, j ≤ n ∧ ix = .int .i64 j ∧ (n = 0 ∨ RowU wr gm n) ∧ RdAt wr r x0 p3 n c3 F false ∧ Ch (fun t => t = gm) w3 wr) (fun ix _ => n - (intOf ix).toNat)
  case atStart => exact ⟨0, by omega, rfl, HRU.out, HR.out, Ch.refl _ _⟩
  case round =>
    obtain ⟨w5, hw5'⟩ : ∃ x, x = wr := ⟨_, rfl⟩
    subst hw5'
    obtain ⟨j, hj, rfl, hru, hrd, hC⟩ := hrel
    have HC := Go.Lib.hid hC; have HRW := Go.Lib.hid hru; have HRD := Go.Lib.hid hrd
    clear hC hru hrd
    by_cases hin : j < n
    · obtain ⟨cur, hcur, hby⟩ := HRW.out.resolve_left (by omega)
      obtain ⟨z, hz⟩ := hby j hin
      have hcell : w5.cell? ⟨gm, j, none⟩ = some (.int .u8 (z.toNat : Int)) := (cell_of_heap hcur j).trans hz
      have hfr : w5.frozen? ⟨gm, j, none⟩ = false := frozen_of_heap hcur j
      have HZ := Go.Lib.hid (show ((z.toNat : Int) + 1) % 256 = ((z + 1).toNat : Int) by
        rw [UInt8.toNat_add, show (1 : UInt8).toNat = 1 from rfl]; have := z.toNat_lt; omega)
      have HST := Go.Lib.hid ((show RowU w5 gm n from ⟨cur, hcur, hby⟩).set (z + 1) hin)
      have HXN := Go.Lib.hid (show x0 ≠ gm from HX1.out (by omega)); have HRN := Go.Lib.hid (show r ≠ gm by have h1 := HRS.out; have h2 := HGL.out; omega)
      rw [← HZ.out] at HST
      clear hcur hby hz HZ
      go_wp2_with fail
      go_roundw
      case rel =>
        have hst : ∀ v, Ch (fun t => t = gm) w5 (w5.setCell ⟨gm, j, none⟩ v) := fun v => Ch.setCell (S := fun t => t = gm) (Ch.refl _ _) (p := ⟨gm, j, none⟩) (fun _ => rfl) v
        exact ⟨j + 1, by omega, by go_num, .inr HST.out, HRD.out.ch (hst _) HRN.out HXN.out, HC.out.trans (hst _)⟩
      case measure => simp [intOf]; omega
    · obtain rfl : n = j := by omega
      have HC5 := Go.Lib.hid (show Ch (fun _ => False) w w5 from HC3.out.then HC.out (fun g hg e => by have h1 := HGM.out; have e' : g = gm := e; omega))
      obtain ⟨y0, hy, hyl⟩ : ∃ y0, (∀ ad, p = some ad → ad.block = y0) ∧ y0 < w2.heap.size := by
        cases hp : p with
        | none => exact ⟨gm, fun ad e => (by cases e), HGL.out⟩
        | some ad => exact ⟨ad.block, fun ad' e => by cases e; rfl, by have h1 := HSP.out ad hp; have h2 := HGM.out; have h3 := HGL.out; omega⟩
      have HYR := Go.Lib.hid (show y0 ≠ r by have := HRS.out; omega)
      have HRW5 := Go.Lib.hid (show w.heap.size ≤ r ∧ r < w5.heap.size ∧ x0 < w5.heap.size ∧ y0 < w5.heap.size from ⟨by have h1 := HRS.out; have h2 := HGM.out; have h3 := HGL.out; omega, row_lt HRD.out.row, HRD.out.old, by have h1 := HRS.out; have h2 := row_lt HRD.out.row; omega⟩)
      have HO5 := Go.Lib.hid (show OutR r x0 y0 n w5 n f false p c from ⟨Nat.le_refl _, ⟨p3, c3, HRD.out.row, HRD.out.bytes.congr (fun j hj => by have := HF0.out j hj; rwa [Nat.zero_add] at this), HRD.out.ne, HRD.out.blk, HRD.out.old⟩, HB.out.ch HC5.out (fun _ _ => id), hy⟩)
      clear HC HRW HRU HX1 HR HB HC3 HB4 HX0 HGL HGM HRD HF0 HRS HSP hy hyl HNC
      go_wp2_with fail
      have HALW := Go.Lib.hid ((Ch.refl (fun _ => False) w5).alloc (.cells #[.slice p n c, .bool false] 51))
      have HWB5 := Go.Lib.hid (World.alloc_heap_new w5 (.cells #[.slice p n c, .bool false] 51))
      have HWS := Go.Lib.hid (World.size_alloc w5 (.cells #[.slice p n c, .bool false] 51))
      generalize w5.alloc (.cells #[.slice p n c, .bool false] 51) = w5' at *
      generalize hWB : w5.heap.size = WB at *
      have HWBE := Go.Lib.hid hWB
      clear hWB
      go_loopw [9] (fun ix wr => ∃ i : Nat, i ≤ N ∧ ix = .int .i64 (i : Int) ∧ ∃ m g bad q d, wr.heap[WB]? = some (.cells #[.slice q m d, .bool bad] 51) ∧ OutR r x0 y0 n wr m g bad q d ∧ Ch (fun _ => False) w wr) (fun ix _ => N - (intOf ix).toNat)
      case atStart => exact ⟨0, by omega, rfl, n, f, false, p, c, HWB5.out, HO5.out.ch HALW.out id id id, HC5.out.trans HALW.out⟩
      case round =>
        obtain ⟨w6, hw6'⟩ : ∃ x, x = wr := ⟨_, rfl⟩
        subst hw6'
        obtain ⟨ii, hi, rfl, m, g, bad, q, d, hwb, ho, hc⟩ := hrel
        have HWB := Go.Lib.hid hwb; have HC6 := Go.Lib.hid hc; have HO6 := Go.Lib.hid ho
        have hwl := row_lt hwb
        have HWR := Go.Lib.hid (show ¬ WB = r by have := HRW5.out; omega)
        have HRR := Go.Lib.hid (show r < w6.heap.size by have := HRW5.out; omega)
        have HXX := Go.Lib.hid (show x0 < w6.heap.size by have := HRW5.out; omega)
        have HYY := Go.Lib.hid (show y0 < w6.heap.size by have := HRW5.out; omega)
        clear hwb ho hc hwl
        by_cases hlt : ii < N
        · obtain ⟨ab, ao, rfl, ha, hcells⟩ := HA.out.resolve_right (by omega)
          obtain ⟨hm, ⟨pp, cc, hrd⟩, hbq, hbl⟩ := HO6.out
          have HLT := Go.Lib.hid (show (ii : Int) < (N : Int) by omega); have HMN := Go.Lib.hid hm
          have HLD := Go.Lib.hid (fun W (hc : Ch (fun q => q = r) w6 W) => run_loadVar_part (P := Try.prog) W ⟨ab, ao + ii * 2, none⟩ 55 #[.int .i64 (K ii), .int .i64 (M ii)] _ (fun j u hj => by rw [add_at]; exact hc.get (HC6.out.get (hcells ii hlt j u (by rw [← Array.getElem?_toList]; exact hj)) id) (show ¬ ab = r by have := HRW5.out; omega)) Try.underlying55 rfl (by kernel_rfl))
          have HASK := Go.Lib.hid (fun W (hc : Ch (fun _ => False) w6 W) => ask_any r x0 y0 pp q m cc d g bad (K ii) (M ii) W (hrd.ch hc id id) (hbq.ch hc (fun _ _ => id)) hbl HYR.out (Nat.lt_of_lt_of_le HYY.out hc.size) (by have := HNN.out; omega))
          unfold AskTold at HASK
          clear hm hrd hbq hbl ha hcells
          go_upto_region 15 with (fail)
          generalize hax : Act.mk _ _ = ax
          have HSZ := Go.Lib.hid (show ax.tmps.size = 156 by rw [← hax]; rfl)
          have F6 := Go.Lib.hid (show gt ax 6 = .pointer (some ⟨r, 0, none⟩) by rw [← hax]; rfl)
          have F8 := Go.Lib.hid (show gt ax 8 = .pointer (some ⟨WB, 0, none⟩) by rw [← hax]; rfl)
          have F1 := Go.Lib.hid (show gt ax 1 = .slice (some ⟨ab, ao, none⟩) N cap by rw [← hax]; rfl)
          have F9 := Go.Lib.hid (show gt ax 9 = .int .i64 (ii : Int) by rw [← hax]; rfl)
          have HAX := Go.Lib.hid hax
          clear hax
          have HND := Go.Lib.hid (show ([78, 79, 80, 81, 82, 83, 84, 77, 85, 86, 10] : List Nat).Nodup by decide)
          have HLS : Hid (Lasts [(78, fun x _ => x = .pointer (some ⟨r, 0, none⟩)), (79, fun x _ => x = .agg #[.slice q m d, .bool bad]), (80, fun x _ => x = .slice (some ⟨ab, ao, none⟩) N cap), (81, fun x _ => x = .int .i64 (ii : Int)), (82, fun x _ => x = .pointer (some ⟨ab, ao + ii * 2, none⟩)), (83, fun x _ => x = .agg #[.int .i64 (K ii), .int .i64 (M ii)]), (84, fun x u => ∃ (m2 : Nat) (g2 : Nat → UInt8) (b2 : Bool) (q2 : Option Addr) (d2 : Nat), x = .tuple #[.agg #[.slice q2 m2 d2, .bool b2], .bool true] ∧ OutR r x0 y0 n u m2 g2 b2 q2 d2), (77, fun x u => ∃ (m2 : Nat) (g2 : Nat → UInt8) (b2 : Bool) (q2 : Option Addr) (d2 : Nat), x = .tuple #[.agg #[.slice q2 m2 d2, .bool b2], .bool true] ∧ OutR r x0 y0 n u m2 g2 b2 q2 d2), (85, fun x u => ∃ (m2 : Nat) (g2 : Nat → UInt8) (b2 : Bool) (q2 : Option Addr) (d2 : Nat), x = .agg #[.slice q2 m2 d2, .bool b2] ∧ OutR r x0 y0 n u m2 g2 b2 q2 d2), (86, fun x _ => x = .bool true), (10, fun x u => ∃ (G : Nat) (c0 c1 : Value), x = .pointer (some ⟨G, 0, none⟩) ∧ w6.heap.size ≤ G ∧ u.heap[G]? = some (.cells #[c0, c1] 51))]) := Go.Lib.hid (by
            intro q hq v w1 w2 hc h
            simp only [List.mem_cons, List.not_mem_nil, or_false] at hq
            rcases hq with rfl | rfl | rfl | rfl | rfl | rfl | rfl | rfl | rfl | rfl | rfl
            · exact h
            · exact h
            · exact h
            · exact h
            · exact h
            · exact h
            · obtain ⟨m2, g2, b2, q2, d2, e, h2⟩ := h; exact ⟨m2, g2, b2, q2, d2, e, h2.ch hc id id id⟩
            · obtain ⟨m2, g2, b2, q2, d2, e, h2⟩ := h; exact ⟨m2, g2, b2, q2, d2, e, h2.ch hc id id id⟩
            · obtain ⟨m2, g2, b2, q2, d2, e, h2⟩ := h; exact ⟨m2, g2, b2, q2, d2, e, h2.ch hc id id id⟩
            · exact h
            · obtain ⟨G, c0, c1, e, h1, h2⟩ := h; exact ⟨G, c0, c1, e, h1, hc.heap h2 id⟩)
          refine wp_region_open_tail 12 (fun L a u => InvQ 156 [(78, fun x _ => x = .pointer (some ⟨r, 0, none⟩)), (79, fun x _ => x = .agg #[.slice q m d, .bool bad]), (80, fun x _ => x = .slice (some ⟨ab, ao, none⟩) N cap), (81, fun x _ => x = .int .i64 (ii : Int)), (82, fun x _ => x = .pointer (some ⟨ab, ao + ii * 2, none⟩)), (83, fun x _ => x = .agg #[.int .i64 (K ii), .int .i64 (M ii)]), (84, fun x u => ∃ (m2 : Nat) (g2 : Nat → UInt8) (b2 : Bool) (q2 : Option Addr) (d2 : Nat), x = .tuple #[.agg #[.slice q2 m2 d2, .bool b2], .bool true] ∧ OutR r x0 y0 n u m2 g2 b2 q2 d2), (77, fun x u => ∃ (m2 : Nat) (g2 : Nat → UInt8) (b2 : Bool) (q2 : Option Addr) (d2 : Nat), x = .tuple #[.agg #[.slice q2 m2 d2, .bool b2], .bool true] ∧ OutR r x0 y0 n u m2 g2 b2 q2 d2), (85, fun x u => ∃ (m2 : Nat) (g2 : Nat → UInt8) (b2 : Bool) (q2 : Option Addr) (d2 : Nat), x = .agg #[.slice q2 m2 d2, .bool b2] ∧ OutR r x0 y0 n u m2 g2 b2 q2 d2), (86, fun x _ => x = .bool true), (10, fun x u => ∃ (G : Nat) (c0 c1 : Value), x = .pointer (some ⟨G, 0, none⟩) ∧ w6.heap.size ≤ G ∧ u.heap[G]? = some (.cells #[c0, c1] 51))] (IR w6 r) ax L a u ∧ XR w6 r x0 y0 n L a u) (by kernel_rfl) (by kernel_rfl) (⟨InvQ.start (by simp) HSZ.out (IR.start), (fun e => (lg_none' _ _ e).elim)⟩) ?_ ?_
          · intro L a w' i hJ hr hlt
            obtain ⟨hI, hX⟩ := hJ
            obtain ⟨h1, o, ho, hall⟩ := mem_ready.1 hr
            have hls : L.size = 13 := hI.wld.size
            have hun : lg L i = false := by
              have h2 : i < L.size := by rw [hls]; omega
              unfold lg; simp [h2] at h1 ⊢; exact h1
            have hsplit : i = 0 ∨ i = 1 ∨ i = 2 ∨ i = 3 ∨ i = 4 ∨ i = 5 ∨ i = 6 ∨ i = 7 ∨ i = 8 ∨ i = 9 ∨ i = 10 ∨ i = 11 := by omega
            clear hlt h1 hr
            rcases hsplit with rfl | rfl | rfl | rfl | rfl | rfl | rfl | rfl | rfl | rfl | rfl | rfl
            · have q6 := (hI.fixed 6 (by simp)).trans F6.out
              unfold gt at q6
              clear hall
              refine wpOp_step (o := _) rfl (fun K' hK' => ?_)
              go_simp
              exact hK' _ _ (⟨hI.put 0 rfl (by decide) HND.out HLS.out (Ch.refl _ _) rfl (hI.wld.step 0 (by decide) (by decide) (by decide) (by decide) (Ch.refl _ _)), hX.step hun (by decide) (by decide) hls⟩)
            · have q8 := (hI.fixed 8 (by simp)).trans F8.out
              have hD := hI.wld.ch.heap HWB.out HWR.out
              have hcl0 : w'.cell? ⟨WB, 0, none⟩ = some (.slice q m d) := (cell_of_heap hD 0).trans rfl
              have hcl1 : w'.cell? ⟨WB, 1, none⟩ = some (.bool bad) := (cell_of_heap hD 1).trans rfl
              clear hD
              unfold gt at q8
              clear hall
              refine wpOp_step (o := _) rfl (fun K' hK' => ?_)
              go_simp
              exact hK' _ _ (⟨hI.put 1 rfl (by decide) HND.out HLS.out (Ch.refl _ _) rfl (hI.wld.step 1 (by decide) (by decide) (by decide) (by decide) (Ch.refl _ _)), hX.step hun (by decide) (by decide) hls⟩)
            · have q1 := (hI.fixed 1 (by simp)).trans F1.out
              unfold gt at q1
              clear hall
              refine wpOp_step (o := _) rfl (fun K' hK' => ?_)
              go_simp
              exact hK' _ _ (⟨hI.put 2 rfl (by decide) HND.out HLS.out (Ch.refl _ _) rfl (hI.wld.step 2 (by decide) (by decide) (by decide) (by decide) (Ch.refl _ _)), hX.step hun (by decide) (by decide) hls⟩)
            · have q9 := (hI.fixed 9 (by simp)).trans F9.out
              unfold gt at q9
              clear hall
              refine wpOp_step (o := _) rfl (fun K' hK' => ?_)
              go_simp
              exact hK' _ _ (⟨hI.put 3 rfl (by decide) HND.out HLS.out (Ch.refl _ _) rfl (hI.wld.step 3 (by decide) (by decide) (by decide) (by decide) (Ch.refl _ _)), hX.step hun (by decide) (by decide) hls⟩)
            · simp at ho
              have e2 : lg L 2 = true := by unfold lg; simpa using hall ⟨2, .data⟩ (by rw [← ho]; simp) rfl
              have f2 : gt a 80 = .slice (some ⟨ab, ao, none⟩) N cap := hI.val 2 _ rfl e2
              have e3 : lg L 3 = true := by unfold lg; simpa using hall ⟨3, .data⟩ (by rw [← ho]; simp) rfl
              have f3 : gt a 81 = .int .i64 (ii : Int) := hI.val 3 _ rfl e3
              have hlt2 := HLT.out
              have hge : (0 : Int) ≤ (ii : Int) := Int.natCast_nonneg ii
              unfold gt at f2 f3
              clear hall
              clear ho
              refine wpOp_step (o := _) rfl (fun K' hK' => ?_)
              go_simp
              exact hK' _ _ (⟨hI.put 4 rfl (by decide) HND.out HLS.out (Ch.refl _ _) rfl (hI.wld.step 4 (by decide) (by decide) (by decide) (by decide) (Ch.refl _ _)), hX.step hun (by decide) (by decide) hls⟩)
            · simp at ho
              have e4 : lg L 4 = true := by unfold lg; simpa using hall ⟨4, .data⟩ (by rw [← ho]; simp) rfl
              have f4 : gt a 82 = .pointer (some ⟨ab, ao + ii * 2, none⟩) := hI.val 4 _ rfl e4
              unfold gt at f4
              clear hall
              clear ho
              refine wpOp_step (o := _) rfl (fun K' hK' => ?_)
              exact wp_load_at 55 (.tmp 82) rfl ⟨ab, ao + ii * 2, none⟩ (by simpa [Act.eval] using f4) _ (HLD.out w' hI.wld.ch) (hK' _ _ (⟨hI.put 5 rfl (by decide) HND.out HLS.out (Ch.refl _ _) rfl (hI.wld.step 5 (by decide) (by decide) (by decide) (by decide) (Ch.refl _ _)), hX.step hun (by decide) (by decide) hls⟩))
            · simp at ho
              have e0 : lg L 0 = true := by unfold lg; simpa using hall ⟨0, .data⟩ (by rw [← ho]; simp) rfl
              have f0 : gt a 78 = .pointer (some ⟨r, 0, none⟩) := hI.val 0 _ rfl e0
              have e1 : lg L 1 = true := by unfold lg; simpa using hall ⟨1, .data⟩ (by rw [← ho]; simp) rfl
              have f1 : gt a 79 = .agg #[.slice q m d, .bool bad] := hI.val 1 _ rfl e1
              have e5 : lg L 5 = true := by unfold lg; simpa using hall ⟨5, .data⟩ (by rw [← ho]; simp) rfl
              have f5 : gt a 83 = .agg #[.int .i64 (K ii), .int .i64 (M ii)] := hI.val 5 _ rfl e5
              unfold gt at f0 f1 f5
              clear hall
              clear ho
              have HCT := Go.Lib.hid (HASK.out w' (hI.wld.pre hun))
              refine wpOp_step (o := _) rfl (fun K' hK' => ?_)
              go_simp
              refine HCT.out.mono ?_
              rintro e w3 ⟨hc, m2, g2, b2, q2, d2, p2, c2, hm2, rfl, hr2, hb2, hl2⟩
              have hord := hI.wld.ord hun
              exact hK' _ _ ⟨hI.putX 6 rfl (by decide) HND.out (fun k p hp hk hl h => by
                    have hk10 : k < 11 := (List.getElem?_eq_some_iff.1 hp).1
                    obtain rfl | rfl | rfl | rfl | rfl | rfl | rfl | rfl | rfl | rfl | rfl : k = 0 ∨ k = 1 ∨ k = 2 ∨ k = 3 ∨ k = 4 ∨ k = 5 ∨ k = 6 ∨ k = 7 ∨ k = 8 ∨ k = 9 ∨ k = 10 := by omega
                    · cases hp; exact h
                    · cases hp; exact h
                    · cases hp; exact h
                    · cases hp; exact h
                    · cases hp; exact h
                    · cases hp; exact h
                    · exact absurd rfl hk
                    · rw [hord.1] at hl; cases hl
                    · rw [hord.2] at hl; cases hl
                    · cases hp; exact h
                    · cases hp; obtain ⟨G, c0, c1, e, h1, h2⟩ := h; exact ⟨G, c0, c1, e, h1, hc.heap h2 (show ¬ G = r by have := HRR.out; omega)⟩) ⟨m2, g2, b2, q2, d2, rfl, Nat.le_trans hm2 HMN.out, ⟨p2, c2, hr2⟩, hb2, hl2⟩ (hI.wld.call hc), hX.step hun (by decide) (by decide) hls⟩
            · simp at ho
              have e6 : lg L 6 = true := by unfold lg; simpa using hall ⟨6, .data⟩ (by rw [← ho]; simp) rfl
              obtain ⟨m6, g6, b6, q6, d6, f6, hh6⟩ : (fun x u => ∃ (m2 : Nat) (g2 : Nat → UInt8) (b2 : Bool) (q2 : Option Addr) (d2 : Nat), x = .tuple #[.agg #[.slice q2 m2 d2, .bool b2], .bool true] ∧ OutR r x0 y0 n u m2 g2 b2 q2 d2) (gt a 84) w' := hI.val 6 _ rfl e6
              unfold gt at f6
              clear hall
              clear ho
              refine wpOp_step (o := _) rfl (fun K' hK' => ?_)
              go_simp
              exact hK' _ _ (⟨hI.put 7 rfl (by decide) HND.out HLS.out (Ch.refl _ _) ⟨m6, g6, b6, q6, d6, rfl, hh6⟩ (hI.wld.step7 7 (by decide) (by decide) e6 (Ch.refl _ _)), hX.step hun (by decide) (by decide) hls⟩)
            · simp at ho
              have e7 : lg L 7 = true := by unfold lg; simpa using hall ⟨7, .data⟩ (by rw [← ho]; simp) rfl
              obtain ⟨m7, g7, b7, q7, d7, f7, hh7⟩ : (fun x u => ∃ (m2 : Nat) (g2 : Nat → UInt8) (b2 : Bool) (q2 : Option Addr) (d2 : Nat), x = .tuple #[.agg #[.slice q2 m2 d2, .bool b2], .bool true] ∧ OutR r x0 y0 n u m2 g2 b2 q2 d2) (gt a 77) w' := hI.val 7 _ rfl e7
              unfold gt at f7
              clear hall
              clear ho
              refine wpOp_step (o := _) rfl (fun K' hK' => ?_)
              go_simp
              exact hK' _ _ (⟨hI.put 8 rfl (by decide) HND.out HLS.out (Ch.refl _ _) ⟨m7, g7, b7, q7, d7, rfl, hh7⟩ (hI.wld.step7 8 (by decide) (by decide) (by cases h6 : lg L 6 with | true => rfl | false => exact absurd e7 (by rw [(hI.wld.ord h6).1]; decide)) (Ch.refl _ _)), hX.step hun (by decide) (by decide) hls⟩)
            · simp at ho
              have e7 : lg L 7 = true := by unfold lg; simpa using hall ⟨7, .data⟩ (by rw [← ho]; simp) rfl
              obtain ⟨m7, g7, b7, q7, d7, f7, hh7⟩ : (fun x u => ∃ (m2 : Nat) (g2 : Nat → UInt8) (b2 : Bool) (q2 : Option Addr) (d2 : Nat), x = .tuple #[.agg #[.slice q2 m2 d2, .bool b2], .bool true] ∧ OutR r x0 y0 n u m2 g2 b2 q2 d2) (gt a 77) w' := hI.val 7 _ rfl e7
              unfold gt at f7
              clear hall
              clear ho
              refine wpOp_step (o := _) rfl (fun K' hK' => ?_)
              go_simp
              exact hK' _ _ (⟨hI.put 9 rfl (by decide) HND.out HLS.out (Ch.refl _ _) rfl (hI.wld.step 9 (by decide) (by decide) (by decide) (by decide) (Ch.refl _ _)), hX.put9 hls (by rw [hI.size]; decide) (by decide) (Ch.refl _ _)⟩)
            · clear hall
              refine wpOp_step (o := _) rfl (fun K' hK' => ?_)
              go_simp
              exact hK' _ _ (⟨hI.put 10 rfl (by decide) HND.out HLS.out ((Ch.refl _ _).alloc _) ⟨_, _, _, rfl, hI.wld.ch.size, World.alloc_heap_new w' _⟩ (hI.wld.step 10 (by decide) (by decide) (by decide) (by decide) ((Ch.refl _ _).alloc _)), hX.step hun (by decide) (by decide) hls⟩)
            · simp at ho
              have e10 : lg L 10 = true := by unfold lg; simpa using hall ⟨10, .data⟩ (by rw [← ho]; simp) rfl
              obtain ⟨G10, ca10, cb10, f10, hh10, hh10b⟩ : (fun x u => ∃ (G : Nat) (c0 c1 : Value), x = .pointer (some ⟨G, 0, none⟩) ∧ w6.heap.size ≤ G ∧ u.heap[G]? = some (.cells #[c0, c1] 51)) (gt a 10) w' := hI.val 10 _ rfl e10
              have e8 : lg L 8 = true := by unfold lg; simpa using hall ⟨8, .data⟩ (by rw [← ho]; simp) rfl
              obtain ⟨m8, g8, b8, q8, d8, f8, hh8⟩ : (fun x u => ∃ (m2 : Nat) (g2 : Nat → UInt8) (b2 : Bool) (q2 : Option Addr) (d2 : Nat), x = .agg #[.slice q2 m2 d2, .bool b2] ∧ OutR r x0 y0 n u m2 g2 b2 q2 d2) (gt a 85) w' := hI.val 8 _ rfl e8
              have e0 : lg L 0 = true := by unfold lg; simpa using hall ⟨0, .phase⟩ (by rw [← ho]; simp) rfl
              have e1 : lg L 1 = true := by unfold lg; simpa using hall ⟨1, .phase⟩ (by rw [← ho]; simp) rfl
              have e2 : lg L 2 = true := by unfold lg; simpa using hall ⟨2, .phase⟩ (by rw [← ho]; simp) rfl
              have e3 : lg L 3 = true := by unfold lg; simpa using hall ⟨3, .phase⟩ (by rw [← ho]; simp) rfl
              have e4 : lg L 4 = true := by unfold lg; simpa using hall ⟨4, .phase⟩ (by rw [← ho]; simp) rfl
              have e5 : lg L 5 = true := by unfold lg; simpa using hall ⟨5, .phase⟩ (by rw [← ho]; simp) rfl
              have e6 : lg L 6 = true := by unfold lg; simpa using hall ⟨6, .phase⟩ (by rw [← ho]; simp) rfl
              have e7 : lg L 7 = true := by unfold lg; simpa using hall ⟨7, .phase⟩ (by rw [← ho]; simp) rfl
              have hXX := XR.store (W := w6) (r := r) (x0 := x0) (y0 := y0) (n := n) hls (fun k hk hk9 => by
                    obtain rfl | rfl | rfl | rfl | rfl | rfl | rfl | rfl | rfl | rfl : k = 0 ∨ k = 1 ∨ k = 2 ∨ k = 3 ∨ k = 4 ∨ k = 5 ∨ k = 6 ∨ k = 7 ∨ k = 8 ∨ k = 10 := by omega
                    all_goals assumption) f10 hh10 hh10b hh8 HRR.out HXX.out HYY.out
              have hst : Ch (fun q => q = G10) w' ((w'.setCell ⟨G10, 0, none⟩ (.slice q8 m8 d8)).setCell ⟨G10, 1, none⟩ (.bool b8)) := ch_two (S := fun q => q = G10) (Ch.refl _ w') (fun _ => rfl) _ _
              have hrG : ¬ r = G10 := by have := HRR.out; omega
              have hxG : ¬ x0 = G10 := by have := HXX.out; omega
              have hyG : ¬ y0 = G10 := by have := HYY.out; omega
              have hcl0 := (cell_of_heap hh10b 0).trans rfl
              have hcl1 := (cell_of_heap hh10b 1).trans rfl
              have hfz0 := frozen_of_heap hh10b 0
              have hfz1 := frozen_of_heap hh10b 1
              unfold gt at f10 f8
              clear hall
              clear ho
              refine wpOp_step (o := _) rfl (fun K' hK' => ?_)
              go_simp
              exact hK' _ _ (⟨hI.skipX 11 (Nat.le_of_ble_eq_true rfl) (by rw [hls]; decide) (fun k p hp hl h => by
                    have hk10 : k < 11 := (List.getElem?_eq_some_iff.1 hp).1
                    obtain rfl | rfl | rfl | rfl | rfl | rfl | rfl | rfl | rfl | rfl | rfl : k = 0 ∨ k = 1 ∨ k = 2 ∨ k = 3 ∨ k = 4 ∨ k = 5 ∨ k = 6 ∨ k = 7 ∨ k = 8 ∨ k = 9 ∨ k = 10 := by omega
                    · cases hp; exact h
                    · cases hp; exact h
                    · cases hp; exact h
                    · cases hp; exact h
                    · cases hp; exact h
                    · cases hp; exact h
                    · cases hp; obtain ⟨m2, g2, b2, q2, d2, e, h2⟩ := h; exact ⟨m2, g2, b2, q2, d2, e, h2.ch hst hrG hxG hyG⟩
                    · cases hp; obtain ⟨m2, g2, b2, q2, d2, e, h2⟩ := h; exact ⟨m2, g2, b2, q2, d2, e, h2.ch hst hrG hxG hyG⟩
                    · cases hp; obtain ⟨m2, g2, b2, q2, d2, e, h2⟩ := h; exact ⟨m2, g2, b2, q2, d2, e, h2.ch hst hrG hxG hyG⟩
                    · cases hp; exact h
                    · cases hp; obtain ⟨G2, c2, c3, e, h1, h2⟩ := h; exact (if eg : G2 = G10 then ⟨G10, _, _, eg ▸ e, hh10, set_two hh10b _ _⟩ else ⟨G2, c2, c3, e, h1, hst.heap h2 eg⟩)) (hI.wld.store e6 hh10 _ _), hXX⟩)
          · intro L a w' hJ hal
            obtain ⟨hI, hX⟩ := hJ
            have hfr := hI.frame HSZ.out (by simp) (fun i hi => hal i (by have h10 : i < 11 := hi; omega))
            have k0 : gt a 78 = .pointer (some ⟨r, 0, none⟩) := hI.val 0 _ rfl (hal 0 (by decide))
            have k1 : gt a 79 = .agg #[.slice q m d, .bool bad] := hI.val 1 _ rfl (hal 1 (by decide))
            have k2 : gt a 80 = .slice (some ⟨ab, ao, none⟩) N cap := hI.val 2 _ rfl (hal 2 (by decide))
            have k3 : gt a 81 = .int .i64 (ii : Int) := hI.val 3 _ rfl (hal 3 (by decide))
            have k4 : gt a 82 = .pointer (some ⟨ab, ao + ii * 2, none⟩) := hI.val 4 _ rfl (hal 4 (by decide))
            have k5 : gt a 83 = .agg #[.int .i64 (K ii), .int .i64 (M ii)] := hI.val 5 _ rfl (hal 5 (by decide))
            obtain ⟨m6, g6, b6, q6, d6, k6, hh6⟩ : (fun x u => ∃ (m2 : Nat) (g2 : Nat → UInt8) (b2 : Bool) (q2 : Option Addr) (d2 : Nat), x = .tuple #[.agg #[.slice q2 m2 d2, .bool b2], .bool true] ∧ OutR r x0 y0 n u m2 g2 b2 q2 d2) (gt a 84) w' := hI.val 6 _ rfl (hal 6 (by decide))
            obtain ⟨m7, g7, b7, q7, d7, k7, hh7⟩ : (fun x u => ∃ (m2 : Nat) (g2 : Nat → UInt8) (b2 : Bool) (q2 : Option Addr) (d2 : Nat), x = .tuple #[.agg #[.slice q2 m2 d2, .bool b2], .bool true] ∧ OutR r x0 y0 n u m2 g2 b2 q2 d2) (gt a 77) w' := hI.val 7 _ rfl (hal 7 (by decide))
            obtain ⟨m8, g8, b8, q8, d8, k8, hh8⟩ : (fun x u => ∃ (m2 : Nat) (g2 : Nat → UInt8) (b2 : Bool) (q2 : Option Addr) (d2 : Nat), x = .agg #[.slice q2 m2 d2, .bool b2] ∧ OutR r x0 y0 n u m2 g2 b2 q2 d2) (gt a 85) w' := hI.val 8 _ rfl (hal 8 (by decide))
            have k9 : gt a 86 = .bool true := hI.val 9 _ rfl (hal 9 (by decide))
            obtain ⟨G10, ca10, cb10, k10, hh10, hh10b⟩ : (fun x u => ∃ (G : Nat) (c0 c1 : Value), x = .pointer (some ⟨G, 0, none⟩) ∧ w6.heap.size ≤ G ∧ u.heap[G]? = some (.cells #[c0, c1] 51)) (gt a 10) w' := hI.val 10 _ rfl (hal 10 (by decide))
            obtain ⟨_, GG, m9, g9, b9, q9, d9, k10', hG9, hrow9, ho9⟩ := hX (hal 11 (by decide))
            have HCW := Go.Lib.hid hI.wld.ch
            rw [k10] at k10'
            obtain rfl : G10 = GG := by cases k10'; rfl
            have HG9 := Go.Lib.hid hG9; have HROW9 := Go.Lib.hid hrow9; have HO9 := Go.Lib.hid ho9
            clear hX k10' hG9 hrow9 ho9
            rw [hfr, ← HAX.out]
            simp only [List.map_cons, List.map_nil, List.foldl_cons, List.foldl_nil, k0, k1, k2, k3, k4, k5, k6, k7, k8, k9, k10, List.setIfInBounds_toArray, List.set_cons_succ, List.set_cons_zero]
            clear hfr hI hal k0 k1 k2 k3 k4 k5 k6 k7 k8 k9 k10 hh6 hh7 hh8 hh10 hh10b HSZ HND HLS HAX F6 F8 F1 F9 
            simp only [List.drop_succ_cons, List.drop_zero]
            have HWB7a := Go.Lib.hid (HCW.out.heap HWB.out HWR.out)
            have hwl := row_lt HWB.out; have hg9 := HG9.out
            have hcl0 : w'.cell? ⟨G10, 0, none⟩ = some (.slice q9 m9 d9) := (cell_of_heap HROW9.out 0).trans rfl
            have hcl1 : w'.cell? ⟨G10, 1, none⟩ = some (.bool b9) := (cell_of_heap HROW9.out 1).trans rfl
            have hcm0 := (cell_of_heap HWB7a.out 0).trans rfl
            have hcm1 := (cell_of_heap HWB7a.out 1).trans rfl
            have hfz0 := frozen_of_heap HWB7a.out 0
            have hfz1 := frozen_of_heap HWB7a.out 1
            have HWXY := Go.Lib.hid (show ¬ r = WB ∧ ¬ x0 = WB ∧ ¬ y0 = WB from by have h1 := HRW5.out; have h2 := HWBE.out; exact ⟨by omega, by omega, by omega⟩)
            have hst : ∀ x y, Ch (fun q => q = WB) w' ((w'.setCell ⟨WB, 0, none⟩ x).setCell ⟨WB, 1, none⟩ y) := fun x y => ch_two (S := fun q => q = WB) (Ch.refl _ w') (fun _ => rfl) x y
            have HWB7 := Go.Lib.hid (set_two HWB7a.out (.slice q9 m9 d9) (.bool b9))
            have HO7 := Go.Lib.hid (HO9.out.ch (hst (.slice q9 m9 d9) (.bool b9)) HWXY.out.1 HWXY.out.2.1 HWXY.out.2.2)
            have HC7 := Go.Lib.hid (show Ch (fun _ => False) w ((w'.setCell ⟨WB, 0, none⟩ (.slice q9 m9 d9)).setCell ⟨WB, 1, none⟩ (.bool b9)) from (HC6.out.then HCW.out (fun t ht e => by have := HRW5.out; have e' : t = r := e; omega)).then (hst _ _) (fun t ht e => by have h1 := HRW5.out; have h2 := HWBE.out; have e' : t = WB := e; omega))
            clear hst hwl hg9
            go_upto_region 17 with (fail)
            clear hcl0 hcl1 hcm0 hcm1 hfz0 hfz1
            generalize (w'.setCell ⟨WB, 0, none⟩ (.slice q9 m9 d9)).setCell ⟨WB, 1, none⟩ (.bool b9) = w8 at *
            have HLEFT := Go.Lib.hid (show ∀ W, Ch (fun _ => False) w8 W → Calls Try.prog 21 #[.pointer (some ⟨r, 0, none⟩)] W fun e w' => e = .returned (.int .i64 (m9 : Int)) ∧ W = w' from by
              obtain ⟨_, ⟨pp, cc, hrd⟩, _, _⟩ := HO7.out
              exact fun W hc => left_any r x0 pp m9 cc g9 b9 W (hrd.ch hc id id))
            generalize hax : Act.mk _ _ = ax
            have HSZ := Go.Lib.hid (show ax.tmps.size = 156 by rw [← hax]; rfl)
            have F11 := Go.Lib.hid (show gt ax 11 = .bool true by rw [← hax]; rfl)
            have F6 := Go.Lib.hid (show gt ax 6 = .pointer (some ⟨r, 0, none⟩) by rw [← hax]; rfl)
            have F8 := Go.Lib.hid (show gt ax 8 = .pointer (some ⟨WB, 0, none⟩) by rw [← hax]; rfl)
            have HAX := Go.Lib.hid hax
            clear hax
            have HND := Go.Lib.hid (show ([88, 89, 90, 91, 92, 93, 94, 95, 96] : List Nat).Nodup by decide)
            have HLS : Hid (Lasts [(88, fun x _ => x = .bool true), (89, fun x _ => x = .bool false), (90, fun x _ => x = .bool false), (91, fun x _ => x = .pointer (some ⟨r, 0, none⟩)), (92, fun x _ => x = .int .i64 (m9 : Int)), (93, fun x _ => x = .pointer (some ⟨WB, 0, none⟩)), (94, fun x _ => x = .slice q9 m9 d9), (95, fun x _ => x = .int .i64 (m9 : Int)), (96, fun x _ => x = .bool false)]) := Go.Lib.hid (by
              intro p hp v w1 w2 hc h
              simp only [List.mem_cons, List.not_mem_nil, or_false] at hp
              rcases hp with rfl | rfl | rfl | rfl | rfl | rfl | rfl | rfl | rfl
              all_goals first | exact h | (obtain ⟨g, h1, h2⟩ := h; exact ⟨g, h1, hc.heap h2 id⟩) | (obtain ⟨g, c, h1, h2⟩ := h; exact ⟨g, c, h1, h2.ch hc (fun _ _ h => h)⟩))
            refine wp_region_open_tail 9 (InvQ 156 [(88, fun x _ => x = .bool true), (89, fun x _ => x = .bool false), (90, fun x _ => x = .bool false), (91, fun x _ => x = .pointer (some ⟨r, 0, none⟩)), (92, fun x _ => x = .int .i64 (m9 : Int)), (93, fun x _ => x = .pointer (some ⟨WB, 0, none⟩)), (94, fun x _ => x = .slice q9 m9 d9), (95, fun x _ => x = .int .i64 (m9 : Int)), (96, fun x _ => x = .bool false)] (fun _ w' => Ch (fun _ => False) w8 w') ax) (by kernel_rfl) (by kernel_rfl) (InvQ.start (by simp) HSZ.out (Ch.refl _ _).drew) ?_ ?_
            · intro L a w' i hI hr hlt
              obtain ⟨h1, o, ho, hall⟩ := mem_ready.1 hr
              have hsplit : i = 0 ∨ i = 1 ∨ i = 2 ∨ i = 3 ∨ i = 4 ∨ i = 5 ∨ i = 6 ∨ i = 7 ∨ i = 8 := by omega
              clear hlt h1 hr
              rcases hsplit with rfl | rfl | rfl | rfl | rfl | rfl | rfl | rfl | rfl
              · have q11 := (hI.fixed 11 (by simp)).trans F11.out
                unfold gt at q11
                clear hall
                refine wpOp_step (o := _) rfl (fun K' hK' => ?_)
                go_simp
                exact hK' _ _ (hI.put 0 rfl (by decide) HND.out HLS.out  (Ch.refl _ _) rfl hI.wld)
              · simp at ho
                have e0 : lg L 0 = true := by unfold lg; simpa using hall ⟨0, .data⟩ (by rw [← ho]; simp) rfl
                have f0 : gt a 88 = .bool true := hI.val 0 _ rfl e0
                unfold gt at f0
                clear hall
                clear ho
                refine wpOp_step (o := _) rfl (fun K' hK' => ?_)
                go_simp
                exact hK' _ _ (hI.put 1 rfl (by decide) HND.out HLS.out  (Ch.refl _ _) rfl hI.wld)
              · simp at ho
                have e1 : lg L 1 = true := by unfold lg; simpa using hall ⟨1, .data⟩ (by rw [← ho]; simp) rfl
                have f1 : gt a 89 = .bool false := hI.val 1 _ rfl e1
                unfold gt at f1
                clear hall
                clear ho
                refine wpOp_step (o := _) rfl (fun K' hK' => ?_)
                go_simp
                exact hK' _ _ (hI.put 2 rfl (by decide) HND.out HLS.out  (Ch.refl _ _) rfl hI.wld)
              · simp at ho
                have q6 := (hI.fixed 6 (by simp)).trans F6.out
                have eg : lg L 2 = true := by unfold lg; simpa using hall ⟨2, .guard⟩ (by rw [← ho]; simp) rfl
                have fg0 : gt a 90 = .bool false := hI.val 2 _ rfl eg
                have fg := guard_of fg0 (by rw [hI.size]; decide)
                clear eg fg0
                unfold gt at q6
                clear hall
                clear ho
                refine wpOp_step (o := _) rfl (fun K' hK' => ?_)
                go_simp
                exact hK' _ _ (hI.put 3 rfl (by decide) HND.out HLS.out  (Ch.refl _ _) rfl hI.wld)
              · simp at ho
                have e3 : lg L 3 = true := by unfold lg; simpa using hall ⟨3, .data⟩ (by rw [← ho]; simp) rfl
                have f3 : gt a 91 = .pointer (some ⟨r, 0, none⟩) := hI.val 3 _ rfl e3
                have eg : lg L 2 = true := by unfold lg; simpa using hall ⟨2, .guard⟩ (by rw [← ho]; simp) rfl
                have fg0 : gt a 90 = .bool false := hI.val 2 _ rfl eg
                have fg := guard_of fg0 (by rw [hI.size]; decide)
                clear eg fg0
                unfold gt at f3
                clear hall
                clear ho
                have HCT := Go.Lib.hid (HLEFT.out w' hI.wld)
                refine wpOp_step (o := _) rfl (fun K' hK' => ?_)
                go_simp
                refine HCT.out.mono ?_
                rintro e w3 ⟨rfl, rfl⟩
                exact hK' _ _ (hI.put 4 rfl (by decide) HND.out HLS.out (Ch.refl _ _) rfl hI.wld)
              · simp at ho
                have q8 := (hI.fixed 8 (by simp)).trans F8.out
                have eg : lg L 2 = true := by unfold lg; simpa using hall ⟨2, .guard⟩ (by rw [← ho]; simp) rfl
                have fg0 : gt a 90 = .bool false := hI.val 2 _ rfl eg
                have fg := guard_of fg0 (by rw [hI.size]; decide)
                clear eg fg0
                unfold gt at q8
                clear hall
                clear ho
                refine wpOp_step (o := _) rfl (fun K' hK' => ?_)
                go_simp
                exact hK' _ _ (hI.put 5 rfl (by decide) HND.out HLS.out  (Ch.refl _ _) rfl hI.wld)
              · simp at ho
                have e5 : lg L 5 = true := by unfold lg; simpa using hall ⟨5, .data⟩ (by rw [← ho]; simp) rfl
                have f5 : gt a 93 = .pointer (some ⟨WB, 0, none⟩) := hI.val 5 _ rfl e5
                have eg : lg L 2 = true := by unfold lg; simpa using hall ⟨2, .guard⟩ (by rw [← ho]; simp) rfl
                have fg0 : gt a 90 = .bool false := hI.val 2 _ rfl eg
                have fg := guard_of fg0 (by rw [hI.size]; decide)
                clear eg fg0
                have hD := hI.wld.heap HWB7.out id
                have hcl0 : w'.cell? ⟨WB, 0, none⟩ = some (.slice q9 m9 d9) := (cell_of_heap hD 0).trans rfl
                clear hD
                unfold gt at f5
                clear hall
                clear ho
                refine wpOp_step (o := _) rfl (fun K' hK' => ?_)
                go_simp
                exact hK' _ _ (hI.put 6 rfl (by decide) HND.out HLS.out  (Ch.refl _ _) rfl hI.wld)
              · simp at ho
                have e6 : lg L 6 = true := by unfold lg; simpa using hall ⟨6, .data⟩ (by rw [← ho]; simp) rfl
                have f6 : gt a 94 = .slice q9 m9 d9 := hI.val 6 _ rfl e6
                have eg : lg L 2 = true := by unfold lg; simpa using hall ⟨2, .guard⟩ (by rw [← ho]; simp) rfl
                have fg0 : gt a 90 = .bool false := hI.val 2 _ rfl eg
                have fg := guard_of fg0 (by rw [hI.size]; decide)
                clear eg fg0
                unfold gt at f6
                clear hall
                clear ho
                refine wpOp_step (o := _) rfl (fun K' hK' => ?_)
                go_simp
                exact hK' _ _ (hI.put 7 rfl (by decide) HND.out HLS.out  (Ch.refl _ _) rfl hI.wld)
              · simp at ho
                have e4 : lg L 4 = true := by unfold lg; simpa using hall ⟨4, .data⟩ (by rw [← ho]; simp) rfl
                have f4 : gt a 92 = .int .i64 (m9 : Int) := hI.val 4 _ rfl e4
                have e7 : lg L 7 = true := by unfold lg; simpa using hall ⟨7, .data⟩ (by rw [← ho]; simp) rfl
                have f7 : gt a 95 = .int .i64 (m9 : Int) := hI.val 7 _ rfl e7
                have eg : lg L 2 = true := by unfold lg; simpa using hall ⟨2, .guard⟩ (by rw [← ho]; simp) rfl
                have fg0 : gt a 90 = .bool false := hI.val 2 _ rfl eg
                have fg := guard_of fg0 (by rw [hI.size]; decide)
                clear eg fg0
                unfold gt at f4 f7
                clear hall
                clear ho
                refine wpOp_step (o := _) rfl (fun K' hK' => ?_)
                go_simp
                exact hK' _ _ (hI.put 8 rfl (by decide) HND.out HLS.out  (Ch.refl _ _) rfl hI.wld)
            · intro L a w' hI hal
              have hfr := hI.frame HSZ.out (by simp) (fun i hi => hal i hi)
              have k0 : gt a 88 = .bool true := hI.val 0 _ rfl (hal 0 (by decide))
              have k1 : gt a 89 = .bool false := hI.val 1 _ rfl (hal 1 (by decide))
              have k2 : gt a 90 = .bool false := hI.val 2 _ rfl (hal 2 (by decide))
              have k3 : gt a 91 = .pointer (some ⟨r, 0, none⟩) := hI.val 3 _ rfl (hal 3 (by decide))
              have k4 : gt a 92 = .int .i64 (m9 : Int) := hI.val 4 _ rfl (hal 4 (by decide))
              have k5 : gt a 93 = .pointer (some ⟨WB, 0, none⟩) := hI.val 5 _ rfl (hal 5 (by decide))
              have k6 : gt a 94 = .slice q9 m9 d9 := hI.val 6 _ rfl (hal 6 (by decide))
              have k7 : gt a 95 = .int .i64 (m9 : Int) := hI.val 7 _ rfl (hal 7 (by decide))
              have k8 : gt a 96 = .bool false := hI.val 8 _ rfl (hal 8 (by decide))
              rw [hfr, ← HAX.out]
              have HCR := Go.Lib.hid hI.wld
              simp only [List.map_cons, List.map_nil, List.foldl_cons, List.foldl_nil, k0, k1, k2, k3, k4, k5, k6, k7, k8, List.setIfInBounds_toArray, List.set_cons_succ, List.set_cons_zero]
              clear hfr hI hal k0 k1 k2 k3 k4 k5 k6 k7 k8  HSZ HND HLS HAX F11 F6 F8
              simp only [List.drop_succ_cons, List.drop_zero]
              have HC8 := Go.Lib.hid (HC7.out.trans HCR.out); have HWB8 := Go.Lib.hid (HCR.out.heap HWB7.out id); have HO8 := Go.Lib.hid (HO7.out.ch HCR.out id id id)
              clear HCR
              go_wp2_with fail
              go_roundw
              case rel => exact ⟨ii + 1, by omega, by go_num, m9, g9, b9, q9, d9, HWB8.out, HO8.out, HC8.out⟩
              case measure => simp [intOf]; omega
        · obtain rfl : N = ii := by omega
          have HCN := Go.Lib.hid HC6.out
          clear HC6 HWB HO6 HWR HRR HXX HYY HA HNN HYR HRW5 HO5 HC5 HALW HWB5 HWS HWBE
          by_cases hodd : N % 2 = 1
          · have hr2 : Int.tmod (N : Int) 2 = 1 := by rw [Int.tmod_eq_emod_of_nonneg (by omega)]; omega
            clear hodd
            go_upto_region 22 with fail
            have hx9 : NoneR (w6.alloc (.cells #[.slice none 0 0, .bool false, .bool false] 59)) (.pointer (some ⟨w6.heap.size, 0, none⟩)) := .inr ⟨_, rfl, World.alloc_heap_new _ _⟩
            have HC9 := Go.Lib.hid (HCN.out.alloc (.cells #[.slice none 0 0, .bool false, .bool false] 59))
            generalize w6.alloc (.cells #[.slice none 0 0, .bool false, .bool false] 59) = w9 at *
            generalize Value.pointer (some ⟨w6.heap.size, 0, none⟩) = xg at *
            have HX := Go.Lib.hid hx9
            clear hx9
            go_wp2_with (first
              | (go_at_call 22; refine (nr22 xg _ HX.out).mono ?_; rintro e w10 ⟨rfl, hc⟩; have HX1 := Go.Lib.hid (HX.out.ch hc); have HC10 := Go.Lib.hid (HC9.out.trans hc); clear hc HX HC9)
              | (go_at_call 23; refine (nr23 xg _ HX1.out).mono ?_; rintro e w11 ⟨rfl, hc⟩; have HX2 := Go.Lib.hid (HX1.out.ch hc); have HC11 := Go.Lib.hid (HC10.out.trans hc); clear hc HX1 HC10)
              | (go_at_call 24; refine (nr24 xg _ HX2.out).mono ?_; rintro e w12 ⟨rfl, hc⟩; have HX3 := Go.Lib.hid (HX2.out.ch hc); have HC12 := Go.Lib.hid (HC11.out.trans hc); clear hc HX2 HC11)
              | (refine wpList_store_row rfl 44 (.tmp 17) (.tmp 117) rfl w12.heap.size zH rfl rfl 44 _ (World.alloc_heap_new w12 _) zH_info (by rw [zH_size]; rfl) zH_all ?_; have hc13 : Ch (fun _ => False) w12 ((w12.alloc (.cells #[.int .u8 0, .int .u8 0, .int .u8 0, .int .u8 0, .int .u8 0, .int .u8 0, .int .u8 0, .int .u8 0, .int .u8 0, .int .u8 0, .int .u8 0, .int .u8 0, .int .u8 0, .int .u8 0, .int .u8 0, .int .u8 0, .int .u8 0, .int .u8 0, .int .u8 0, .int .u8 0, .int .u8 0, .int .u8 0, .int .u8 0, .int .u8 0, .int .u8 0, .int .u8 0, .int .u8 0, .int .u8 0, .int .u8 0, .int .u8 0, .int .u8 0, .int .u8 0] 44)).setRow w12.heap.size zH) := ((Ch.refl _ w12).alloc _).setRow (g := w12.heap.size) (fun h => absurd h (Nat.lt_irrefl _)) _; generalize (w12.alloc (.cells #[.int .u8 0, .int .u8 0, .int .u8 0, .int .u8 0, .int .u8 0, .int .u8 0, .int .u8 0, .int .u8 0, .int .u8 0, .int .u8 0, .int .u8 0, .int .u8 0, .int .u8 0, .int .u8 0, .int .u8 0, .int .u8 0, .int .u8 0, .int .u8 0, .int .u8 0, .int .u8 0, .int .u8 0, .int .u8 0, .int .u8 0, .int .u8 0, .int .u8 0, .int .u8 0, .int .u8 0, .int .u8 0, .int .u8 0, .int .u8 0, .int .u8 0, .int .u8 0] 44)).setRow w12.heap.size zH = w13 at *; have HX4 := Go.Lib.hid (HX3.out.ch hc13); have HC13 := Go.Lib.hid (HC12.out.trans hc13); clear hc13 HX3 HC12)
              | (go_at_call 25; refine (nr25 xg _ HX4.out).mono ?_; rintro e w14 ⟨rfl, hc⟩; have HX5 := Go.Lib.hid (HX4.out.ch hc); have HC14 := Go.Lib.hid (HC13.out.trans hc); clear hc HX4 HC13)
              | (go_at_call 14; refine (num_any _ _).mono ?_; rintro e w' ⟨rfl, rfl⟩)
              | (go_at_call 21; refine (nr21 xg _ HX5.out).mono ?_; rintro e w' ⟨rfl, rfl⟩)
              | (go_at_call 26; refine (nr26 xg _ HX5.out).mono ?_; rintro e w15 ⟨rfl, hc⟩; have HC15 := Go.Lib.hid (HC14.out.trans hc); clear hc HX5 HC14)
              | (go_at_call 10; refine (wworks_any _).mono ?_; rintro e w16 ⟨rfl, hc⟩; have HC16 := Go.Lib.hid (HC15.out.trans hc); clear hc HC15))
            go_ret
            exact ⟨rfl, HC16.out⟩
          · have hr2 : Int.tmod (N : Int) 2 = 0 := by rw [Int.tmod_eq_emod_of_nonneg (by omega)]; omega
            clear hodd
            go_upto_region 22 with fail
            have hx9 : NoneR w6 (.pointer none) := .inl rfl
            have HC9 := Go.Lib.hid HCN.out
            generalize Value.pointer none = xg at *
            have HX := Go.Lib.hid hx9
            clear hx9
            go_wp2_with (first
              | (go_at_call 22; refine (nr22 xg _ HX.out).mono ?_; rintro e w10 ⟨rfl, hc⟩; have HX1 := Go.Lib.hid (HX.out.ch hc); have HC10 := Go.Lib.hid (HC9.out.trans hc); clear hc HX HC9)
              | (go_at_call 23; refine (nr23 xg _ HX1.out).mono ?_; rintro e w11 ⟨rfl, hc⟩; have HX2 := Go.Lib.hid (HX1.out.ch hc); have HC11 := Go.Lib.hid (HC10.out.trans hc); clear hc HX1 HC10)
              | (go_at_call 24; refine (nr24 xg _ HX2.out).mono ?_; rintro e w12 ⟨rfl, hc⟩; have HX3 := Go.Lib.hid (HX2.out.ch hc); have HC12 := Go.Lib.hid (HC11.out.trans hc); clear hc HX2 HC11)
              | (refine wpList_store_row rfl 44 (.tmp 17) (.tmp 117) rfl w12.heap.size zH rfl rfl 44 _ (World.alloc_heap_new w12 _) zH_info (by rw [zH_size]; rfl) zH_all ?_; have hc13 : Ch (fun _ => False) w12 ((w12.alloc (.cells #[.int .u8 0, .int .u8 0, .int .u8 0, .int .u8 0, .int .u8 0, .int .u8 0, .int .u8 0, .int .u8 0, .int .u8 0, .int .u8 0, .int .u8 0, .int .u8 0, .int .u8 0, .int .u8 0, .int .u8 0, .int .u8 0, .int .u8 0, .int .u8 0, .int .u8 0, .int .u8 0, .int .u8 0, .int .u8 0, .int .u8 0, .int .u8 0, .int .u8 0, .int .u8 0, .int .u8 0, .int .u8 0, .int .u8 0, .int .u8 0, .int .u8 0, .int .u8 0] 44)).setRow w12.heap.size zH) := ((Ch.refl _ w12).alloc _).setRow (g := w12.heap.size) (fun h => absurd h (Nat.lt_irrefl _)) _; generalize (w12.alloc (.cells #[.int .u8 0, .int .u8 0, .int .u8 0, .int .u8 0, .int .u8 0, .int .u8 0, .int .u8 0, .int .u8 0, .int .u8 0, .int .u8 0, .int .u8 0, .int .u8 0, .int .u8 0, .int .u8 0, .int .u8 0, .int .u8 0, .int .u8 0, .int .u8 0, .int .u8 0, .int .u8 0, .int .u8 0, .int .u8 0, .int .u8 0, .int .u8 0, .int .u8 0, .int .u8 0, .int .u8 0, .int .u8 0, .int .u8 0, .int .u8 0, .int .u8 0, .int .u8 0] 44)).setRow w12.heap.size zH = w13 at *; have HX4 := Go.Lib.hid (HX3.out.ch hc13); have HC13 := Go.Lib.hid (HC12.out.trans hc13); clear hc13 HX3 HC12)
              | (go_at_call 25; refine (nr25 xg _ HX4.out).mono ?_; rintro e w14 ⟨rfl, hc⟩; have HX5 := Go.Lib.hid (HX4.out.ch hc); have HC14 := Go.Lib.hid (HC13.out.trans hc); clear hc HX4 HC13)
              | (go_at_call 14; refine (num_any _ _).mono ?_; rintro e w' ⟨rfl, rfl⟩)
              | (go_at_call 21; refine (nr21 xg _ HX5.out).mono ?_; rintro e w' ⟨rfl, rfl⟩)
              | (go_at_call 26; refine (nr26 xg _ HX5.out).mono ?_; rintro e w15 ⟨rfl, hc⟩; have HC15 := Go.Lib.hid (HC14.out.trans hc); clear hc HX5 HC14)
              | (go_at_call 10; refine (wworks_any _).mono ?_; rintro e w16 ⟨rfl, hc⟩; have HC16 := Go.Lib.hid (HC15.out.trans hc); clear hc HC15))
            go_ret
            exact ⟨rfl, HC16.out⟩
end Go.Proofs.Ytljllfdigfojdaa
