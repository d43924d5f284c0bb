/- The law's lay: numbers, truths, hashes. -/
import Derived.Test.YtljllfdigfojdaaL3
namespace Go.Proofs.Ytljllfdigfojdaa
open Go Go.RowKit

theorem own_none (w : World) (base : Nat) (G : Nat → UInt8) : w.ownsRow base 5 1 (.slice none 0 0) 0 (fL G 0) := ⟨rfl, .inl ⟨rfl, rfl⟩⟩
theorem WrAt.away {P : Nat → Nat → Prop} {w : World} {b k B : Nat} {v : Value} {F : Nat → UInt8} (hw : WrAt w b v k F) (hB : B ≤ b) {p : Option Addr} {N : Nat} (h : (∃ a o, p = some ⟨a, o, none⟩ ∧ a < B ∧ P a o) ∨ N = 0) :
    ∃ a o, (p = some ⟨a, o, none⟩ ∨ N = 0) ∧ (N = 0 ∨ P a o) ∧ a ≠ b ∧ v.ownBlock ≠ some a ∧ (N = 0 ∨ a < w.heap.size) := by
  have hb := row_lt hw.row
  rcases h with ⟨a, o, e, ha, hp⟩ | h
  · exact ⟨a, o, .inl e, .inr hp, by omega, fun e => by have := (hw.own.lt _ e).1; omega, .inr (by omega)⟩
  · exact ⟨w.heap.size, 0, .inr h, .inl h, by omega, fun e => by have := (hw.own.lt _ e).2; omega, .inl h⟩
theorem numL_pos (n : Nat) : 0 < numL n := by unfold numL; split <;> omega
theorem upto_at (L : Nat → Nat) (i : Nat) : upto L (i + 1) = upto L i + L i := rfl
theorem upto9 (nums : Nat → Nat) : ∀ i, upto (lenOf nums) i ≤ 9 * i
  | 0 => Nat.le_refl _
  | i + 1 => by
    have := upto9 nums i
    have h2 := numL_le (nums i)
    rw [upto_at]
    show _ + numL (nums i) ≤ _
    omega
set_option maxRecDepth 100000 in
set_option maxHeartbeats 2000000 in
theorem lay_nums (b k B : Nat) (v : Value) (F G : Nat → UInt8) (zp : Option Addr) (zN zC : Nat) (bp : Option Addr) (bN bC : Nat) (hp : Option Addr) (hN hC : Nat) (s : ByteArray) (w : World) (hw : WrAt w b v k F) (hB : B ≤ b) (hk : k ≤ 100000000)
    (z : Nat → Int) (hz : (∃ a o, zp = some ⟨a, o, none⟩ ∧ a < B ∧ ∀ i, i < zN → w.cell? ⟨a, o + i, none⟩ = some (.int .i64 (z i))) ∨ zN = 0) (hN10 : zN ≤ 10) (nums : Nat → Nat) (hgood : ∀ i, i < zN → z i = (nums i : Int) ∧ nums i ≤ 4611686018427387904)
    (hG : ∀ i, i < zN → ∀ j, j < numL (nums i) → G (upto (lenOf nums) i + j) = numB (nums i) j) (hFG : ∀ j, j < upto (lenOf nums) zN → F (k + j) = G j) :
    Calls Try.prog 12 #[.pointer (some ⟨b, 0, none⟩), .agg #[.int .i64 0, .slice zp zN zC, .slice bp bN bC, .slice hp hN hC, .string s]] w fun e w' => ∃ v' q c, e = .returned (.tuple #[.int .i64 0, .slice q (upto (lenOf nums) zN) c, .int .i64 0]) ∧ WrAt w' b v' (k + upto (lenOf nums) zN) F ∧ Gb b w w' v v' ∧ BytesAt w' q (upto (lenOf nums) zN) c G := by
  obtain ⟨CS, hCS⟩ : ∃ CS, (#[.int .i64 0, .slice zp zN zC, .slice bp bN bC, .slice hp hN hC, .string s] : Array Value) = CS := ⟨_, rfl⟩
  have hx1 := (Ch.refl (fun _ => False) w).alloc (.cells CS 35)
  have hbw := row_lt hw.row
  have HVO := Go.Lib.hid (fun q e => (hw.own.lt q e).2)
  obtain ⟨a, o, hsp, hP, ha, hva, hav⟩ := hw.away hB hz
  have hw1 := hw.ch hx1 id (fun _ _ => id)
  have HUP := Go.Lib.hid (upto9 nums)
  have HLT := Go.Lib.hid (fun i (hi : i < zN) j (hj : j < numL (nums i)) => (show upto (lenOf nums) i + j < upto (lenOf nums) zN from by
    have := upto_le (lenOf nums) (show i + 1 ≤ zN by omega)
    rw [upto_at] at this
    have h2 : lenOf nums i = numL (nums i) := rfl
    omega))
  have HN := Go.Lib.hid (number_ok b a o zN zC k zp v F nums (w.alloc (.cells CS 35)) hsp hw1 (fun i hi => hx1.get ((hgood i hi).1 ▸ hP.resolve_left (by omega) i hi) id) ⟨ha, hva⟩ (fun i hi => (hgood i hi).2) (by omega) (fun i hi j hj => by
    rw [Nat.add_assoc, hFG _ (HLT.out i hi j hj)]
    exact hG i hi j hj))
  have HGOOD := Go.Lib.hid hgood; have HG := Go.Lib.hid hG
  clear hgood hG hFG
  subst hCS
  have HBW := Go.Lib.hid hbw; have HSP := Go.Lib.hid hsp; have HP := Go.Lib.hid hP; have HA := Go.Lib.hid (And.intro ha hva)
  clear hw hz hbw hx1 hw1 hP ha hva hsp hav
  go_enter Try.func12, Try.ntmps12
  go_wp2_with fail
  refine HN.out.mono ?_
  rintro e w1 ⟨rfl, v1, hw1, hg1⟩
  have HW1 := Go.Lib.hid hw1
  have HX1 := Go.Lib.hid (hg1.ch.heap (World.alloc_heap_new w _) (by
    have h1 := HBW.out; have h2 := HVO.out
    rintro (e | e)
    · omega
    · have := h2 _ e; omega))
  have HG1 := Go.Lib.hid (show Gb b w w1 v v1 from ⟨((Ch.refl _ w).alloc _).trans hg1.ch, fun g e => (hg1.own g e).imp id (fun h => by simp at h; omega)⟩)
  have hcx1 : w1.cell? ⟨w.heap.size, 1, none⟩ = some (.slice zp zN zC) := (cell_of_heap HX1.out 1).trans rfl
  clear hw1 hg1
  have HR := Go.Lib.hid (right_any a o zN zC zp z w1 HSP.out (fun i hi => HG1.out.ch.get (HP.out.resolve_left (by omega) i hi) (by
    rintro (e | e)
    · exact HA.out.1 e
    · exact HA.out.2 e)) (by omega))
  go_wp2_with (go_at_call 27; refine HR.out.mono ?_; rintro e w' ⟨rfl, hh⟩; obtain rfl : e = .returned (.bool true) := by
    { rcases hh with ⟨h1, _⟩ | ⟨_, i, hi, h2⟩
      · exact h1
      · exact (h2 ((HGOOD.out i hi).1 ▸ good_nat _ (HGOOD.out i hi).2)).elim })
  go_loopw [7, 9] (fun out ix wr => ∃ i : Nat, i ≤ zN ∧ ix = .int .i64 i ∧ ∃ p c, out = .slice p (upto (lenOf nums) i) c ∧ wr.ownsRow w1.heap.size 5 1 out (upto (lenOf nums) i) (fL G (upto (lenOf nums) i)) ∧ Ch (fun _ => False) w1 wr) (fun _ ix _ => zN - (intOf ix).toNat)
  case atStart => exact ⟨0, by omega, rfl, none, 0, rfl, own_none _ _ _, Ch.refl _ _⟩
  case round =>
    obtain ⟨i, hi, rfl, p1, c1, rfl, ho, hc⟩ := hrel
    have HO := Go.Lib.hid ho; have HC := Go.Lib.hid hc
    clear ho hc
    have hcx : wr.cell? ⟨w.heap.size, 1, none⟩ = some (.slice zp zN zC) := HC.out.get ((cell_of_heap HX1.out 1).trans rfl) id
    clear hcx1
    by_cases hlt : i < zN
    · obtain rfl := HSP.out.resolve_right (by omega)
      have HHAV := Go.Lib.hid (fun q (e : q = a) => (show ¬ (q = b ∨ v.ownBlock = some q) from by
        subst e
        rintro (e | e)
        · exact HA.out.1 e
        · exact HA.out.2 e))
      have hcell : wr.cell? ⟨a, o + i, none⟩ = some (.int .i64 (nums i : Int)) := (HGOOD.out i hlt).1 ▸ HC.out.get (HG1.out.ch.get (HP.out.resolve_left (by omega) i hlt) (HHAV.out _ rfl)) id
      have HRN := Go.Lib.hid (rnum_any (nums i) wr (HGOOD.out i hlt).2)
      have HGI := Go.Lib.hid (HG.out i hlt)
      have hui := HUP.out i
      have HPOS := Go.Lib.hid (numL_pos (nums i))
      have hnl := numL_le (nums i)
      go_wp2_with fail
      refine HRN.out.mono ?_
      rintro e w4 ⟨v4, rfl, ho4, hc4⟩
      obtain ⟨p4, c4, rfl, hb4⟩ := own_bytes ho4
      have HB4 := Go.Lib.hid hb4; have HO4 := Go.Lib.hid (own_ch1 HO.out hc4 (fun _ _ => id)); have HC4 := Go.Lib.hid (HC.out.trans hc4)
      have hsz := HC4.out.size
      clear ho4 hb4 hc4
      go_wp2_with (at_builtin; refine wpList_append_row rfl (.tmp 34) (.tmp 40) rfl w1.heap.size (upto (lenOf nums) i) (numL (nums i)) (.slice p1 (upto (lenOf nums) i) c1) G (numB (nums i)) rfl HO4.out p4 c4 rfl HB4.out HPOS.out HGI.out (by omega) hsz ?_; intro v5 w5 ho5 hg5; obtain ⟨p5, c5, rfl, -⟩ := own_bytes ho5; have HO5 := Go.Lib.hid ho5; have HC5 := Go.Lib.hid (HC4.out.then hg5.ch (fun q hq e => by have := (HO4.out.lt q e).1; omega)); clear ho5 hg5)
      go_roundw
      case rel => exact ⟨i + 1, by omega, by go_num, p5, c5, by rfl, HO5.out, HC5.out⟩
      case measure => simp [intOf]; omega
    · obtain rfl : i = zN := by omega
      have HW2 := Go.Lib.hid (HW1.out.ch HC.out id (fun _ _ => id))
      have HG2 := Go.Lib.hid (show Gb b w wr v v1 from ⟨HG1.out.ch.then HC.out (fun _ _ h => h.elim), HG1.out.own⟩)
      have hb1 := own_bytes HO.out
      obtain ⟨p2, c2, e2, hb2⟩ := hb1
      cases e2
      have HB2 := Go.Lib.hid hb2
      clear hb2
      go_wp2_with fail
      refine bodyPost_ret (v := .tuple #[.int .i64 0, .slice p1 (upto (lenOf nums) i) c1, .int .i64 0]) (by simp [results, Try.results12, go_sem]) rfl ⟨v1, p1, c1, rfl, HW2.out, HG2.out, HB2.out⟩
set_option maxRecDepth 100000 in
set_option maxHeartbeats 2000000 in
theorem lay_truths (b k B : Nat) (v : Value) (F G : Nat → UInt8) (zp : Option Addr) (zN zC : Nat) (bp : Option Addr) (bN bC : Nat) (hp : Option Addr) (hN hC : Nat) (s : ByteArray) (w : World) (hw : WrAt w b v k F) (hB : B ≤ b) (hk : k ≤ 100000000)
    (t : Nat → Bool) (hz : (∃ a o, bp = some ⟨a, o, none⟩ ∧ a < B ∧ ∀ i, i < bN → w.cell? ⟨a, o + i, none⟩ = some (.bool (t i))) ∨ bN = 0) (hN10 : bN ≤ 10)
    (hG : ∀ i, i < bN → G i = if t i then 1 else 0) (hFG : ∀ j, j < bN → F (k + j) = G j) :
    Calls Try.prog 12 #[.pointer (some ⟨b, 0, none⟩), .agg #[.int .i64 1, .slice zp zN zC, .slice bp bN bC, .slice hp hN hC, .string s]] w fun e w' => ∃ v' q c, e = .returned (.tuple #[.int .i64 0, .slice q (bN) c, .int .i64 0]) ∧ WrAt w' b v' (k + bN) F ∧ Gb b w w' v v' ∧ BytesAt w' q (bN) c G := by
  obtain ⟨CS, hCS⟩ : ∃ CS, (#[.int .i64 1, .slice zp zN zC, .slice bp bN bC, .slice hp hN hC, .string s] : Array Value) = CS := ⟨_, rfl⟩
  have hx1 := (Ch.refl (fun _ => False) w).alloc (.cells CS 35)
  have hbw := row_lt hw.row
  have HVO := Go.Lib.hid (fun q e => (hw.own.lt q e).2)
  obtain ⟨a, o, hsp, hP, ha, hva, hav⟩ := hw.away hB hz
  have hw1 := hw.ch hx1 id (fun _ _ => id)
  have HN := Go.Lib.hid (wTruth_any b a o bN bC k bp v F t (w.alloc (.cells CS 35)) hsp hw1 (fun i hi => hx1.get (hP.resolve_left (by omega) i hi) id) ⟨ha, hva⟩ (by omega) (fun i hi => (hFG i hi).trans (hG i hi)))
  have HG := Go.Lib.hid hG
  clear hG hFG
  subst hCS
  have HBW := Go.Lib.hid hbw; have HSP := Go.Lib.hid hsp; have HP := Go.Lib.hid hP; have HA := Go.Lib.hid (And.intro ha hva)
  clear hw hz hbw hx1 hw1 hP ha hva hsp hav
  go_enter Try.func12, Try.ntmps12
  go_wp2_with fail
  refine HN.out.mono ?_
  rintro e w1 ⟨rfl, v1, hw1, hg1⟩
  have HW1 := Go.Lib.hid hw1
  have HX1 := Go.Lib.hid (hg1.ch.heap (World.alloc_heap_new w _) (by
    have h1 := HBW.out; have h2 := HVO.out
    rintro (e | e)
    · omega
    · have := h2 _ e; omega))
  have HG1 := Go.Lib.hid (show Gb b w w1 v v1 from ⟨((Ch.refl _ w).alloc _).trans hg1.ch, fun g e => (hg1.own g e).imp id (fun h => by simp at h; omega)⟩)
  have hcx1 : w1.cell? ⟨w.heap.size, 2, none⟩ = some (.slice bp bN bC) := (cell_of_heap HX1.out 2).trans rfl
  clear hw1 hg1
  go_wp2_with fail
  go_loopw [7, 11] (fun out ix wr => ∃ i : Nat, i ≤ bN ∧ ix = .int .i64 i ∧ ∃ p c, out = .slice p (i) c ∧ wr.ownsRow w1.heap.size 5 1 out (i) (fL G (i)) ∧ Ch (fun _ => False) w1 wr) (fun _ ix _ => bN - (intOf ix).toNat)
  case atStart => exact ⟨0, by omega, rfl, none, 0, rfl, own_none _ _ _, Ch.refl _ _⟩
  case round =>
    obtain ⟨i, hi, rfl, p1, c1, rfl, ho, hc⟩ := hrel
    have HO := Go.Lib.hid ho; have HC := Go.Lib.hid hc
    clear ho hc
    have hcx : wr.cell? ⟨w.heap.size, 2, none⟩ = some (.slice bp bN bC) := HC.out.get ((cell_of_heap HX1.out 2).trans rfl) id
    clear hcx1
    by_cases hlt : i < bN
    · obtain rfl := HSP.out.resolve_right (by omega)
      have HHAV := Go.Lib.hid (fun q (e : q = a) => (show ¬ (q = b ∨ v.ownBlock = some q) from by
        subst e
        rintro (e | e)
        · exact HA.out.1 e
        · exact HA.out.2 e))
      have hcell : wr.cell? ⟨a, o + i, none⟩ = some (.bool (t i)) := HC.out.get (HG1.out.ch.get (HP.out.resolve_left (by omega) i hlt) (HHAV.out _ rfl)) id
      have HRN := Go.Lib.hid (rtruth_any (t i) wr)
      have HGI := Go.Lib.hid (show ∀ j, j < 1 → G (i + j) = if t i then 1 else 0 from fun j hj => by
        obtain rfl : j = 0 := by omega
        exact HG.out i hlt)
      go_wp2_with fail
      refine HRN.out.mono ?_
      rintro e w4 ⟨v4, rfl, ho4, hc4⟩
      obtain ⟨p4, c4, rfl, hb4⟩ := own_bytes ho4
      have HB4 := Go.Lib.hid hb4; have HO4 := Go.Lib.hid (own_ch1 HO.out hc4 (fun _ _ => id)); have HC4 := Go.Lib.hid (HC.out.trans hc4)
      have hsz := HC4.out.size
      clear ho4 hb4 hc4
      go_wp2_with (at_builtin; refine wpList_append_row rfl (.tmp 57) (.tmp 63) rfl w1.heap.size (i) (1) (.slice p1 (i) c1) G (fun _ => if t i then 1 else 0) rfl HO4.out p4 c4 rfl HB4.out (by decide) HGI.out (by omega) hsz ?_; intro v5 w5 ho5 hg5; obtain ⟨p5, c5, rfl, -⟩ := own_bytes ho5; have HO5 := Go.Lib.hid ho5; have HC5 := Go.Lib.hid (HC4.out.then hg5.ch (fun q hq e => by have := (HO4.out.lt q e).1; omega)); clear ho5 hg5)
      go_roundw
      case rel => exact ⟨i + 1, by omega, by go_num, p5, c5, by rfl, HO5.out, HC5.out⟩
      case measure => simp [intOf]; omega
    · obtain rfl : i = bN := by omega
      have HW2 := Go.Lib.hid (HW1.out.ch HC.out id (fun _ _ => id))
      have HG2 := Go.Lib.hid (show Gb b w wr v v1 from ⟨HG1.out.ch.then HC.out (fun _ _ h => h.elim), HG1.out.own⟩)
      have hb1 := own_bytes HO.out
      obtain ⟨p2, c2, e2, hb2⟩ := hb1
      cases e2
      have HB2 := Go.Lib.hid hb2
      clear hb2
      go_wp2_with fail
      refine bodyPost_ret (v := .tuple #[.int .i64 0, .slice p1 (i) c1, .int .i64 0]) (by simp [results, Try.results12, go_sem]) rfl ⟨v1, p1, c1, rfl, HW2.out, HG2.out, HB2.out⟩
set_option maxRecDepth 100000 in
set_option maxHeartbeats 2000000 in
theorem lay_hashes (b k B : Nat) (v : Value) (F G : Nat → UInt8) (zp : Option Addr) (zN zC : Nat) (bp : Option Addr) (bN bC : Nat) (hp : Option Addr) (hN hC : Nat) (s : ByteArray) (w : World) (hw : WrAt w b v k F) (hB : B ≤ b) (hk : k ≤ 100000000)
    (hh : Nat → Nat → UInt8) (hz : (∃ a o, hp = some ⟨a, o, none⟩ ∧ a < B ∧ ∀ i, i < hN → ∀ j, j < 32 → w.cell? ⟨a, o + i * 32 + j, none⟩ = some (.int .u8 ((hh i j).toNat : Int))) ∨ hN = 0) (hN10 : hN ≤ 10)
    (hG : ∀ i, i < hN → ∀ j, j < 32 → G (32 * i + j) = hh i j) (hFG : ∀ j, j < 32 * hN → F (k + j) = G j) :
    Calls Try.prog 12 #[.pointer (some ⟨b, 0, none⟩), .agg #[.int .i64 2, .slice zp zN zC, .slice bp bN bC, .slice hp hN hC, .string s]] w fun e w' => ∃ v' q c, e = .returned (.tuple #[.int .i64 0, .slice q (32 * hN) c, .int .i64 0]) ∧ WrAt w' b v' (k + 32 * hN) F ∧ Gb b w w' v v' ∧ BytesAt w' q (32 * hN) c G := by
  obtain ⟨CS, hCS⟩ : ∃ CS, (#[.int .i64 2, .slice zp zN zC, .slice bp bN bC, .slice hp hN hC, .string s] : Array Value) = CS := ⟨_, rfl⟩
  have hx1 := (Ch.refl (fun _ => False) w).alloc (.cells CS 35)
  have hbw := row_lt hw.row
  have HVO := Go.Lib.hid (fun q e => (hw.own.lt q e).2)
  obtain ⟨a, o, hsp, hP, ha, hva, hav⟩ := hw.away hB hz
  have hw1 := hw.ch hx1 id (fun _ _ => id)
  have HN := Go.Lib.hid (wHash_any b a o hN hC k hp v F hh (w.alloc (.cells CS 35)) hsp hw1 (fun i hi j hj => hx1.get (hP.resolve_left (by omega) i hi j hj) id) ⟨ha, hva⟩ (by omega) (fun i hi j hj => by rw [Nat.add_assoc, hFG _ (by omega)]; exact hG i hi j hj))
  have HG := Go.Lib.hid hG
  have HAV := Go.Lib.hid hav
  clear hG hFG
  subst hCS
  have HBW := Go.Lib.hid hbw; have HSP := Go.Lib.hid hsp; have HP := Go.Lib.hid hP; have HA := Go.Lib.hid (And.intro ha hva)
  clear hw hz hbw hx1 hw1 hP ha hva hsp hav
  go_enter Try.func12, Try.ntmps12
  go_wp2_with fail
  refine HN.out.mono ?_
  rintro e w1 ⟨rfl, v1, hw1, hg1⟩
  have HW1 := Go.Lib.hid hw1
  have HX1 := Go.Lib.hid (hg1.ch.heap (World.alloc_heap_new w _) (by
    have h1 := HBW.out; have h2 := HVO.out
    rintro (e | e)
    · omega
    · have := h2 _ e; omega))
  have HG1 := Go.Lib.hid (show Gb b w w1 v v1 from ⟨((Ch.refl _ w).alloc _).trans hg1.ch, fun g e => (hg1.own g e).imp id (fun h => by simp at h; omega)⟩)
  have hcx1 : w1.cell? ⟨w.heap.size, 3, none⟩ = some (.slice hp hN hC) := (cell_of_heap HX1.out 3).trans rfl
  clear hw1 hg1
  go_wp2_with fail
  go_loopw [7, 13] (fun out ix wr => ∃ i : Nat, i ≤ hN ∧ ix = .int .i64 i ∧ ∃ p c, out = .slice p (32 * i) c ∧ wr.ownsRow w1.heap.size 5 1 out (32 * i) (fL G (32 * i)) ∧ Ch (fun _ => False) w1 wr) (fun _ ix _ => hN - (intOf ix).toNat)
  case atStart => exact ⟨0, by omega, rfl, none, 0, rfl, own_none _ _ _, Ch.refl _ _⟩
  case round =>
    obtain ⟨i, hi, rfl, p1, c1, rfl, ho, hc⟩ := hrel
    have HO := Go.Lib.hid ho; have HC := Go.Lib.hid hc
    clear ho hc
    have hcx : wr.cell? ⟨w.heap.size, 3, none⟩ = some (.slice hp hN hC) := HC.out.get ((cell_of_heap HX1.out 3).trans rfl) id
    clear hcx1
    by_cases hlt : i < hN
    · obtain rfl := HSP.out.resolve_right (by omega)
      have HHAV := Go.Lib.hid (fun q (e : q = a) => (show ¬ (q = b ∨ v.ownBlock = some q) from by
        subst e
        rintro (e | e)
        · exact HA.out.1 e
        · exact HA.out.2 e))
      have hcell : ∀ j, j < 32 → wr.cell? ⟨a, o + i * 32 + j, none⟩ = some (.int .u8 ((hh i j).toNat : Int)) := fun j hj => HC.out.get (HG1.out.ch.get (HP.out.resolve_left (by omega) i hlt j hj) (HHAV.out _ rfl)) id
      have HBA := Go.Lib.hid (show BytesAt wr (some ⟨a, o + i * 32, none⟩) 32 32 (hh i) from .inl ⟨a, o + i * 32, rfl, Nat.le_refl _, cell_lt (hcell 0 (by omega)), hcell⟩)
      have hc0 := hcell 0 (by omega)
      have HGI := Go.Lib.hid (HG.out i hlt)
      have hsz := HC.out.size
      clear hcell
      go_wp2_with (at_builtin; refine wpList_append_row rfl (.tmp 80) (.tmp 85) rfl w1.heap.size (32 * i) (32) (.slice p1 (32 * i) c1) G (hh i) rfl HO.out (some ⟨a, o + i * 32, none⟩) 32 rfl HBA.out (by decide) HGI.out (by omega) hsz ?_; intro v5 w5 ho5 hg5; obtain ⟨p5, c5, rfl, -⟩ := own_bytes ho5; have HO5 := Go.Lib.hid ho5; have HC5 := Go.Lib.hid (HC.out.then hg5.ch (fun q hq e => by have := (HO.out.lt q e).1; omega)); clear ho5 hg5)
      go_roundw
      case rel => exact ⟨i + 1, by omega, by go_num, p5, c5, by rfl, HO5.out, HC5.out⟩
      case measure => simp [intOf]; omega
    · obtain rfl : i = hN := by omega
      have HW2 := Go.Lib.hid (HW1.out.ch HC.out id (fun _ _ => id))
      have HG2 := Go.Lib.hid (show Gb b w wr v v1 from ⟨HG1.out.ch.then HC.out (fun _ _ h => h.elim), HG1.out.own⟩)
      have hb1 := own_bytes HO.out
      obtain ⟨p2, c2, e2, hb2⟩ := hb1
      cases e2
      have HB2 := Go.Lib.hid hb2
      clear hb2
      go_wp2_with fail
      refine bodyPost_ret (v := .tuple #[.int .i64 0, .slice p1 (32 * i) c1, .int .i64 0]) (by simp [results, Try.results12, go_sem]) rfl ⟨v1, p1, c1, rfl, HW2.out, HG2.out, HB2.out⟩
end Go.Proofs.Ytljllfdigfojdaa
