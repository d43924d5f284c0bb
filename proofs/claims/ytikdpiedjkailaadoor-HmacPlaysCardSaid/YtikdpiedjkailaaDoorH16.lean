/- The reference's Tag. -/
import Derived.Test.YtikdpiedjkailaaDoorH15
namespace Go.Proofs.YtikdpiedjkailaaDoor
open Go Go.RowKit

/-- An appended row lies where it lay, or in new memory. -/
theorem append_where {w : World} {i0 : TypeInfo} (hi : Tryd.prog.info? 5 = some i0) (hz0 : i0.zero = some (.int .u8 0)) (hz1 : i0.size = 1) (hz2 : i0.bytes = 1) {base : Nat} {v : Value} {k : Nat} {xs : List Value} (hown : w.ownsRow base 5 1 v k xs)
    (ad : Addr) (m c : Nat) (news : List Value) (hl : news.length = m) (hnews : ∀ j u, news[j]? = some u → w.cell? (ad.add j) = some u) (h1 : ∀ u ∈ news, u.oneCell' = true) (hm0 : 0 < m) (hk : k + m ≤ 100000000000000) {ty : TypeId} {v' : Value} {w' : World}
    (hr : (Builtin.append_ #[22, 22] ty #[v, .slice (some ad) m c]).run Tryd.prog w = .ok v' w') : ∀ g, v'.ownBlock = some g → v.ownBlock = some g ∨ w.heap.size ≤ g := by
  rcases hown.2 with ⟨rfl, rfl⟩ | ⟨g, cap, cur, rfl, hbg, hg, hnc, hcm, hcs, htake⟩
  · have hr2 := run_append_nil (P := Tryd.prog) w 22 ty 5 i0 (.int .u8 0) Tryd.underlying22 hi hz0 ad m c news (by rw [hz1]; omega) hnews hm0 (by omega) (by rw [hz2]; omega)
    rw [hr2] at hr
    cases hr
    intro g hg
    cases hg
    exact .inr (Nat.le_refl _)
  · by_cases hroom : k + m ≤ cap
    · obtain ⟨w2, hr2, _⟩ := run_append_fits (P := Tryd.prog) w base 22 ty 5 i0 1 Tryd.underlying22 hi hz1 g k cap xs hown ad m c news (by omega) hnews h1 hroom
      rw [hr2] at hr
      cases hr
      exact fun _ h => .inl h
    · have hr2 := run_append_grow (P := Tryd.prog) w 22 ty 5 i0 (.int .u8 0) Tryd.underlying22 hi hz0 ⟨g, 0, none⟩ k cap xs (by rw [hz1]; exact hown.1) (hown.cells (g := g) rfl) ad m c news (by rw [hz1]; omega) hnews (by omega) (by omega) (growslice_fits (by omega) (by rw [hz2]; omega))
      rw [hr2] at hr
      cases hr
      intro g' hg'
      cases hg'
      exact .inr (Nat.le_refl _)
/-- 'append(s, x)', x one byte in a row of its own. -/
theorem wpList_append_byte {w : World} {ops : Array Oper} {rest : List Oper} {o : Oper} {a : Act} {Q : Exit → Act → World → Prop} (hgd : o.guard = none) (s x : Operand)
    (ho : o.op = .call { callee := .builtin .append, args := #[s, x], argTypes := #[22, 22] }) (base : Nat) (v : Value) (k : Nat) (F : Nat → UInt8) (hs : a.eval s = v) (hown : w.ownsRow base 5 1 v k (fL F k))
    (b : Nat) (z : Int) (hx : a.eval x = .slice (some ⟨b, 0, none⟩) 1 1) (hb : w.cell? ⟨b, 0, none⟩ = some (.int .u8 z)) (hz : z = ((F k).toNat : Int)) (hk : k ≤ 10000000000) (hbase : base ≤ w.heap.size)
    (h : ∀ v' w', w'.ownsRow base 5 1 v' (k + 1) (fL F (k + 1)) → w.grownBy w' v.ownBlock → (∀ g, v'.ownBlock = some g → v.ownBlock = some g ∨ w.heap.size ≤ g) → wpList Tryd.prog ops Q rest (a.put o.dst v') w') : wpList Tryd.prog ops Q (o :: rest) a w := by
  obtain ⟨i0, hi, hz0, hz1, hz2⟩ := info_parts info5
  subst hz
  have hn : ∀ j u, [Value.int .u8 ((F k).toNat : Int)][j]? = some u → w.cell? ((⟨b, 0, none⟩ : Addr).add j) = some u := fun j u hj => by
    match j, hj with
    | 0, hj => obtain rfl : Value.int .u8 ((F k).toNat : Int) = u := by simpa using hj
               rw [show (⟨b, 0, none⟩ : Addr).add 0 = ⟨b, 0, none⟩ by simp [Addr.add]]; exact hb
  refine wpList_plain hgd fun K hK => ?_
  obtain ⟨v', w', hr, h2, h3, _⟩ := run_append_own (P := Tryd.prog) w base 22 o.type 5 i0 (.int .u8 0) 1 1 Tryd.underlying22 hi hz0 hz1 hz2 rfl (by decide) v k _ hown ⟨b, 0, none⟩ 1 1 [.int .u8 ((F k).toNat : Int)] rfl hn (by simp [Value.oneCell']) (by simp [maxLen]; omega) (by omega) hbase
  have h4 := append_where hi hz0 hz1 hz2 hown ⟨b, 0, none⟩ 1 1 [.int .u8 ((F k).toNat : Int)] rfl hn (by simp [Value.oneCell']) (by omega) (by omega) hr
  unfold Oper.wp
  simp [execOp, ho, resolve, invoke, builtin, hs, hx, hr, Result.andThen]
  exact hK _ _ (h v' w' (by rw [fL_succ]; exact h2) h3 h4)
theorem b_xor54 (t : TypeId) (c : UInt8) : binOp .xor t (.int .u8 (c.toNat : Int)) (.int .u8 54) = pure (.int .u8 ((c ^^^ 54).toNat : Int)) := b_xor8 t c 54
theorem b_xor92 (t : TypeId) (c : UInt8) : binOp .xor t (.int .u8 (c.toNat : Int)) (.int .u8 92) = pure (.int .u8 ((c ^^^ 92).toNat : Int)) := b_xor8 t c 92
attribute [local go_sem high] b_xor54 b_xor92
/-- Two rows of one's own lie apart. -/
def Apart (v u : Value) : Prop := ∀ g, v.ownBlock = some g → u.ownBlock ≠ some g
theorem apart_nil (u : Value) : Apart (.slice none 0 0) u := fun g h => nomatch h

set_option maxRecDepth 100000 in
set_option maxHeartbeats 4000000 in
theorem rtag_any (p q : Option Addr) (n c m d : Nat) (key f : Nat → UInt8) (w : World) (hn : n ≤ 1000000000) (hm : m ≤ 100000000000) (hkey : BytesAt w p n c key) (hf : BytesAt w q m d f) :
    Calls Tryd.prog 12 #[.slice p n c, .slice q m d] w fun e w' => e = .returned (.agg (hv (tagB (kb key n) f m))) ∧ Ch (fun _ => False) w w' := by
  have HKEY := Go.Lib.hid hkey; have HF := Go.Lib.hid hf
  clear hkey hf
  by_cases h64 : n ≤ 64
  · have h1 : ¬ (64 : Int) < (n : Int) := by omega
    have HKB := Go.Lib.hid (fun j (h : j < n) => (show key j = kb key n j by unfold kb; rw [if_pos h64, if_pos h]))
    have HKZ := Go.Lib.hid (fun j (h : ¬ j < n) => (show (0 : UInt8) = kb key n j by unfold kb; rw [if_pos h64, if_neg h]))
    have HT := Go.Lib.hid (show tagB (kb key n) f m = hashB (catB 64 (fun i => kb key n i ^^^ 92) (hashB (inK (kb key n) f) (64 + m))) 96 from rfl)
    generalize tagB (kb key n) f m = T at *
    have HIK := Go.Lib.hid (show inK (kb key n) f = catB 64 (fun i => kb key n i ^^^ 54) f from rfl)
    generalize inK (kb key n) f = IK at *
    generalize kb key n = kk at *
    go_enter Tryd.func12, Tryd.ntmps12
    go_wp2_with fail
    generalize hW2 : World.alloc w _ = W2
    have hc2 : Ch (fun _ => False) w W2 := by rw [← hW2]; exact (Ch.refl _ w).alloc _
    have hR2 : W2.heap[w.heap.size]? = some (.cells (hv fun _ => 0) 28) := by rw [← hW2]; exact World.alloc_heap_new w _
    have HC2 := Go.Lib.hid hc2; have HR2 := Go.Lib.hid hR2; have HQ2 := Go.Lib.hid (HKEY.out.ch hc2 (fun _ _ h => h)); have HF2 := Go.Lib.hid (HF.out.ch hc2 (fun _ _ h => h))
    have hws : w.heap.size < W2.heap.size := row_lt hR2
    clear hW2 hc2 hR2
    go_loopw [6, 7, 8] (fun vi vo ix wr => ∃ (j : Nat) (vin vout : Value), j ≤ 64 ∧ ix = .int .i64 j ∧ vin = vi ∧ vout = vo ∧ wr.ownsRow W2.heap.size 5 1 vin j (fL (fun i => kk i ^^^ 54) j) ∧ wr.ownsRow W2.heap.size 5 1 vout j (fL (fun i => kk i ^^^ 92) j) ∧ Apart vin vout ∧ Ch (fun _ => False) W2 wr) (fun _ _ ix _ => 64 - (intOf ix).toNat)
    case atStart => exact ⟨0, _, _, by omega, rfl, rfl, rfl, World.ownsRow_nil _ _ _ _, World.ownsRow_nil _ _ _ _, apart_nil _, Ch.refl _ _⟩
    case round =>
      obtain ⟨j, vin, vout, hj, rfl, rfl, rfl, ho1, ho2, hap, hC⟩ := hrel
      have HO1 := Go.Lib.hid ho1; have HO2 := Go.Lib.hid ho2; have HAP := Go.Lib.hid hap; have HC := Go.Lib.hid hC
      have hsw := hC.size
      have HQr := Go.Lib.hid (HQ2.out.ch hC (fun _ _ h => h))
      clear ho1 ho2 hap hC
      by_cases hlt : j < 64
      · by_cases hjn : j < n
        · have hkj := HKB.out j hjn
          obtain ⟨x, y, hxy, _, hcl⟩ := HQr.out.resolve_right (by rintro ⟨_, h, _⟩; omega)
          have hcell := hcl j hjn
          subst hxy
          have HKJ := Go.Lib.hid hkj
          clear hcl hkj HQr
          generalize key j = kj at *
          go_wp2_with (at_builtin; first
            | (refine wpList_append_byte rfl (.tmp 29) (.tmp 32) rfl W2.heap.size vin j (fun i => kk i ^^^ 54) rfl (HO1.out.alloc _) wr.heap.size _ rfl (cell_fresh wr _ 5 0) (by rw [← HKJ.out]; first | done | rfl) (by omega) (by simp; omega) ?_
               intro v1 w1' hown1 hgrow1 hwh1
               have HV1 := Go.Lib.hid hown1; have HG1 := Go.Lib.hid hgrow1; have HW1 := Go.Lib.hid hwh1
               have hs1 : wr.heap.size < w1'.heap.size := by have := hgrow1.size; simp at this; omega
               have hk2 := (HO2.out.alloc (.cells #[.int .u8 (((kj ^^^ 54 : UInt8).toNat : Int))] 5)).kept hgrow1 (by
                 by_cases h : vout.ownBlock = none
                 · exact .inl h
                 · refine .inr fun e => ?_
                   cases hv1 : vin.ownBlock with
                   | none => rw [hv1] at e; exact h e
                   | some g => rw [hv1] at e; exact HAP.out g hv1 e)
               have HK2 := Go.Lib.hid hk2
               clear hown1 hgrow1 hwh1 hk2)
            | (refine wpList_append_byte rfl (.tmp 34) (.tmp 37) rfl W2.heap.size vout j (fun i => kk i ^^^ 92) rfl (HK2.out.alloc _) w1'.heap.size _ rfl (cell_fresh w1' _ 5 0) (by rw [← HKJ.out]; first | done | rfl) (by omega) (by simp; omega) ?_
               intro v2 w2' hown2 hgrow2 hwh2
               have HV2 := Go.Lib.hid hown2; have HG2 := Go.Lib.hid hgrow2; have HW2 := Go.Lib.hid hwh2
               clear hown2 hgrow2 hwh2))
          have hvo : ∀ g, v1.ownBlock = some g → g < w1'.heap.size := fun g h => (World.ownsRow.lt HV1.out g h).2
          have hne : ∀ g, v1.ownBlock = some g → vout.ownBlock ≠ some g := fun g h e => by
            rcases HW1.out g h with h2 | h2
            · exact HAP.out g h2 e
            · have h3 := (World.ownsRow.lt HO2.out g e).2
              simp at h2; omega
          have HV1' := Go.Lib.hid ((HV1.out.alloc (.cells #[.int .u8 (((kj ^^^ 92 : UInt8).toNat : Int))] 5)).kept HG2.out (by
            by_cases h : v1.ownBlock = none
            · exact .inl h
            · refine .inr fun e => ?_
              cases hv2 : vout.ownBlock with
              | none => rw [hv2] at e; exact h e
              | some g => rw [hv2] at e; exact hne g e hv2))
          have HAP' : Hid (Apart v1 v2) := Go.Lib.hid (fun g h e => by
            rcases HW2.out g e with h2 | h2
            · exact hne g h h2
            · have := hvo g h; simp at h2; omega)
          have hcA : Ch (fun _ => False) W2 w1' := Ch.grown (HC.out.alloc _) HG1.out (fun k hk hlt => by have := (World.ownsRow.lt HO1.out) k hk; omega)
          have hcB : Ch (fun _ => False) W2 w2' := Ch.grown (hcA.alloc _) HG2.out (fun k hk hlt => by have := (World.ownsRow.lt HO2.out) k hk; omega)
          have HCB := Go.Lib.hid hcB
          clear hvo hne hcA hcB
          go_roundw
          case rel => exact ⟨j + 1, v1, v2, by omega, by go_num, rfl, rfl, HV1'.out, HV2.out, HAP'.out, HCB.out⟩
          case measure => simp [intOf]; omega
        · have HKJ := Go.Lib.hid (HKZ.out j hjn)
          clear HQr
          go_wp2_with (at_builtin; first
            | (refine wpList_append_byte rfl (.tmp 29) (.tmp 32) rfl W2.heap.size vin j (fun i => kk i ^^^ 54) rfl (HO1.out.alloc _) wr.heap.size _ rfl (cell_fresh wr _ 5 0) (by rw [← HKJ.out]; first | done | rfl) (by omega) (by simp; omega) ?_
               intro v1 w1' hown1 hgrow1 hwh1
               have HV1 := Go.Lib.hid hown1; have HG1 := Go.Lib.hid hgrow1; have HW1 := Go.Lib.hid hwh1
               have hs1 : wr.heap.size < w1'.heap.size := by have := hgrow1.size; simp at this; omega
               have hk2 := (HO2.out.alloc (.cells #[.int .u8 (54)] 5)).kept hgrow1 (by
                 by_cases h : vout.ownBlock = none
                 · exact .inl h
                 · refine .inr fun e => ?_
                   cases hv1 : vin.ownBlock with
                   | none => rw [hv1] at e; exact h e
                   | some g => rw [hv1] at e; exact HAP.out g hv1 e)
               have HK2 := Go.Lib.hid hk2
               clear hown1 hgrow1 hwh1 hk2)
            | (refine wpList_append_byte rfl (.tmp 34) (.tmp 37) rfl W2.heap.size vout j (fun i => kk i ^^^ 92) rfl (HK2.out.alloc _) w1'.heap.size _ rfl (cell_fresh w1' _ 5 0) (by rw [← HKJ.out]; first | done | rfl) (by omega) (by simp; omega) ?_
               intro v2 w2' hown2 hgrow2 hwh2
               have HV2 := Go.Lib.hid hown2; have HG2 := Go.Lib.hid hgrow2; have HW2 := Go.Lib.hid hwh2
               clear hown2 hgrow2 hwh2))
          have hvo : ∀ g, v1.ownBlock = some g → g < w1'.heap.size := fun g h => (World.ownsRow.lt HV1.out g h).2
          have hne : ∀ g, v1.ownBlock = some g → vout.ownBlock ≠ some g := fun g h e => by
            rcases HW1.out g h with h2 | h2
            · exact HAP.out g h2 e
            · have h3 := (World.ownsRow.lt HO2.out g e).2
              simp at h2; omega
          have HV1' := Go.Lib.hid ((HV1.out.alloc (.cells #[.int .u8 (92)] 5)).kept HG2.out (by
            by_cases h : v1.ownBlock = none
            · exact .inl h
            · refine .inr fun e => ?_
              cases hv2 : vout.ownBlock with
              | none => rw [hv2] at e; exact h e
              | some g => rw [hv2] at e; exact hne g e hv2))
          have HAP' : Hid (Apart v1 v2) := Go.Lib.hid (fun g h e => by
            rcases HW2.out g e with h2 | h2
            · exact hne g h h2
            · have := hvo g h; simp at h2; omega)
          have hcA : Ch (fun _ => False) W2 w1' := Ch.grown (HC.out.alloc _) HG1.out (fun k hk hlt => by have := (World.ownsRow.lt HO1.out) k hk; omega)
          have hcB : Ch (fun _ => False) W2 w2' := Ch.grown (hcA.alloc _) HG2.out (fun k hk hlt => by have := (World.ownsRow.lt HO2.out) k hk; omega)
          have HCB := Go.Lib.hid hcB
          clear hvo hne hcA hcB
          go_roundw
          case rel => exact ⟨j + 1, v1, v2, by omega, by go_num, rfl, rfl, HV1'.out, HV2.out, HAP'.out, HCB.out⟩
          case measure => simp [intOf]; omega
      · obtain rfl : j = 64 := by omega
        clear HQr
        obtain ⟨qi, ci, rfl, hbi⟩ := own_nil HO1.out
        obtain ⟨qo, co, rfl, hbo⟩ := own_nil HO2.out
        have HBI := Go.Lib.hid hbi; have HBO := Go.Lib.hid hbo
        have HFr := Go.Lib.hid (HF2.out.ch HC.out (fun _ _ h => h)); have HRr := Go.Lib.hid (HC.out.heap HR2.out id); have HCw := Go.Lib.hid (HC2.out.trans HC.out)
        clear hbi hbo HO1 HO2 HAP HC
        go_wp2_with fail
        refine (join_any qi q 64 m ci d _ f wr HBI.out HFr.out (by omega) (by omega)).mono ?_
        rintro e w3 ⟨r3, k3, rfl, hb3, hc3⟩
        rw [← HIK.out] at hb3
        have HB3 := Go.Lib.hid hb3; have HC3 := Go.Lib.hid hc3
        clear hb3 hc3
        go_wp2_with fail
        refine (rsum_any r3 (64 + m) k3 IK w3 (by omega) HB3.out).mono ?_
        rintro e w4 ⟨rfl, hc4⟩
        have HC4 := Go.Lib.hid (HC3.out.trans hc4)
        generalize hIH : hashB IK (64 + m) = IH at *
        clear hc4 HB3 HC3
        have HHI := Go.Lib.hid (hv_info IH); have HHA := Go.Lib.hid (hv_all IH)
        have HHZ := Go.Lib.hid (show (hv fun _ => 0).size = (hv IH).size by rw [show (hv fun _ => 0).size = 32 from arr_size _ _]; exact (arr_size _ _).symm)
        have HIH := Go.Lib.hid hIH
        clear hIH
        go_wp2_with (refine wpList_store_row rfl 28 (.tmp 10) (.tmp 42) rfl w4.heap.size (hv IH) rfl rfl 28 (hv fun _ => 0) (World.alloc_heap_new w4 _) HHI.out HHZ.out HHA.out ?_)
        generalize hW5 : World.setRow _ w4.heap.size (hv IH) = W5
        have hcx : Ch (fun _ => False) w4 W5 := by rw [← hW5]; exact ((Ch.refl _ _).alloc _).setRow (fun h => absurd h (Nat.lt_irrefl _)) _
        have hx5 : W5.heap[w4.heap.size]? = some (.cells (hv IH) 28) := by rw [← hW5]; exact heap_setRow (World.alloc_heap_new w4 _)
        have HC5 := Go.Lib.hid (HC4.out.trans hcx)
        have hbh : BytesAt W5 (some ⟨w4.heap.size, 0, none⟩) 32 32 IH := .inl ⟨w4.heap.size, 0, rfl, Nat.le_refl _, fun j hj => by rw [Nat.zero_add]; exact (cell_of_heap hx5 _).trans (arr_get 32 _ j hj)⟩
        have HBH := Go.Lib.hid hbh
        clear hW5 hcx hx5 hbh HC4 HHI HHA HHZ
        refine (join_any qo (some ⟨w4.heap.size, 0, none⟩) 64 32 co 32 _ IH W5 (HBO.out.ch HC5.out (fun _ _ h => h)) HBH.out (by omega) (by omega)).mono ?_
        rintro e w6 ⟨r6, k6, rfl, hb6, hc6⟩
        have HB6 := Go.Lib.hid hb6; have HC6 := Go.Lib.hid (HC5.out.trans hc6)
        clear hb6 hc6
        go_wp2_with fail
        refine (rsum_any r6 (64 + 32) k6 _ w6 (by omega) HB6.out).mono ?_
        rintro e w7 ⟨rfl, hc7⟩
        have HC7 := Go.Lib.hid (HC6.out.trans hc7)
        have HR7 := Go.Lib.hid (HC7.out.heap HRr.out id)
        rw [show 64 + 32 = 96 from rfl, ← HT.out]
        have HHI := Go.Lib.hid (hv_info T); have HHA := Go.Lib.hid (hv_all T)
        have HHZ := Go.Lib.hid (show (hv fun _ => 0).size = (hv T).size by rw [show (hv fun _ => 0).size = 32 from arr_size _ _]; exact (arr_size _ _).symm)
        clear hc7 HB6
        go_wp2_with (refine wpList_store_row rfl 28 (.tmp 4) (.tmp 46) rfl w.heap.size (hv T) rfl rfl 28 (hv fun _ => 0) HR7.out HHI.out HHZ.out HHA.out ?_)
        refine bodyPost_ret (results_cell_row (h := Tryd.results12) _ _ w.heap.size 28 _ (0, 0) _ rfl (heap_setRow HR7.out) Tryd.underlying28 rfl HHI.out) rfl ⟨rfl, ?_⟩
        exact (HCw.out.trans HC7.out).setRow (fun h => absurd h (Nat.lt_irrefl _)) _
  · have h1 : (64 : Int) < (n : Int) := by omega
    have HKB := Go.Lib.hid (fun j (h : j < 32) => (show hashB key n j = kb key n j by unfold kb; rw [if_neg h64, if_pos h]))
    have HKZ := Go.Lib.hid (fun j (h : ¬ j < 32) => (show (0 : UInt8) = kb key n j by unfold kb; rw [if_neg h64, if_neg h]))
    have HT := Go.Lib.hid (show tagB (kb key n) f m = hashB (catB 64 (fun i => kb key n i ^^^ 92) (hashB (inK (kb key n) f) (64 + m))) 96 from rfl)
    generalize tagB (kb key n) f m = T at *
    have HIK := Go.Lib.hid (show inK (kb key n) f = catB 64 (fun i => kb key n i ^^^ 54) f from rfl)
    generalize inK (kb key n) f = IK at *
    generalize kb key n = kk at *
    have HS := Go.Lib.hid (fun W (hc : Ch (fun _ => False) w W) => rsum_any p n c key W (by omega) (HKEY.out.ch hc (fun _ _ h => h)))
    generalize hashB key n = hk at *
    go_enter Tryd.func12, Tryd.ntmps12
    go_wp2_with fail
    refine (HS.out _ ((Ch.refl _ w).alloc _)).mono ?_
    rintro e w1 ⟨rfl, hc1⟩
    have HC1 := Go.Lib.hid (((Ch.refl _ w).alloc _).trans hc1)
    have HR1 : Hid (w1.heap[w.heap.size]? = some (.cells (hv fun _ => 0) 28)) := Go.Lib.hid (hc1.heap (World.alloc_heap_new w _) id)
    clear hc1 HS
    have HHI := Go.Lib.hid (hv_info hk); have HHA := Go.Lib.hid (hv_all hk)
    have HHZ := Go.Lib.hid (show (hv fun _ => 0).size = (hv hk).size by rw [show (hv fun _ => 0).size = 32 from arr_size _ _]; exact (arr_size _ _).symm)
    go_wp2_with (refine wpList_store_row rfl 28 (.tmp 5) (.tmp 15) rfl w1.heap.size (hv hk) rfl rfl 28 (hv fun _ => 0) (World.alloc_heap_new w1 _) HHI.out HHZ.out HHA.out ?_)
    generalize hW2 : World.setRow _ w1.heap.size (hv hk) = W2
    have hcx : Ch (fun _ => False) w1 W2 := by rw [← hW2]; exact ((Ch.refl _ _).alloc _).setRow (fun h => absurd h (Nat.lt_irrefl _)) _
    have hx2 : W2.heap[w1.heap.size]? = some (.cells (hv hk) 28) := by rw [← hW2]; exact heap_setRow (World.alloc_heap_new w1 _)
    have HC2 := Go.Lib.hid (HC1.out.trans hcx); have HR2 := Go.Lib.hid (hcx.heap HR1.out id); have HF2 := Go.Lib.hid (HF.out.ch (HC1.out.trans hcx) (fun _ _ h => h))
    have HQ2 := Go.Lib.hid (show BytesAt W2 (some ⟨w1.heap.size, 0, none⟩) 32 32 hk from .inl ⟨w1.heap.size, 0, rfl, Nat.le_refl _, fun j hj => by rw [Nat.zero_add]; exact (cell_of_heap hx2 _).trans (arr_get 32 _ j hj)⟩)
    have hws : w.heap.size < W2.heap.size := row_lt (hcx.heap HR1.out id)
    clear hW2 hcx hx2 HC1 HR1 HHI HHA HHZ
    generalize w1.heap.size = X at *
    go_loopw [6, 7, 8] (fun vi vo ix wr => ∃ (j : Nat) (vin vout : Value), j ≤ 64 ∧ ix = .int .i64 j ∧ vin = vi ∧ vout = vo ∧ wr.ownsRow W2.heap.size 5 1 vin j (fL (fun i => kk i ^^^ 54) j) ∧ wr.ownsRow W2.heap.size 5 1 vout j (fL (fun i => kk i ^^^ 92) j) ∧ Apart vin vout ∧ Ch (fun _ => False) W2 wr) (fun _ _ ix _ => 64 - (intOf ix).toNat)
    case atStart => exact ⟨0, _, _, by omega, rfl, rfl, rfl, World.ownsRow_nil _ _ _ _, World.ownsRow_nil _ _ _ _, apart_nil _, Ch.refl _ _⟩
    case round =>
      obtain ⟨j, vin, vout, hj, rfl, rfl, rfl, ho1, ho2, hap, hC⟩ := hrel
      have HO1 := Go.Lib.hid ho1; have HO2 := Go.Lib.hid ho2; have HAP := Go.Lib.hid hap; have HC := Go.Lib.hid hC
      have hsw := hC.size
      have HQr := Go.Lib.hid (HQ2.out.ch hC (fun _ _ h => h))
      clear ho1 ho2 hap hC
      by_cases hlt : j < 64
      · by_cases hjn : j < 32
        · have hkj := HKB.out j hjn
          obtain ⟨x, y, hxy, _, hcl⟩ := HQr.out.resolve_right (by rintro ⟨_, h, _⟩; omega)
          have hcell := hcl j hjn
          cases hxy
          rw [Nat.zero_add] at hcell
          have HKJ := Go.Lib.hid hkj
          clear hcl hkj HQr
          generalize hk j = kj at *
          go_wp2_with (at_builtin; first
            | (refine wpList_append_byte rfl (.tmp 29) (.tmp 32) rfl W2.heap.size vin j (fun i => kk i ^^^ 54) rfl (HO1.out.alloc _) wr.heap.size _ rfl (cell_fresh wr _ 5 0) (by rw [← HKJ.out]; first | done | rfl) (by omega) (by simp; omega) ?_
               intro v1 w1' hown1 hgrow1 hwh1
               have HV1 := Go.Lib.hid hown1; have HG1 := Go.Lib.hid hgrow1; have HW1 := Go.Lib.hid hwh1
               have hs1 : wr.heap.size < w1'.heap.size := by have := hgrow1.size; simp at this; omega
               have hk2 := (HO2.out.alloc (.cells #[.int .u8 (((kj ^^^ 54 : UInt8).toNat : Int))] 5)).kept hgrow1 (by
                 by_cases h : vout.ownBlock = none
                 · exact .inl h
                 · refine .inr fun e => ?_
                   cases hv1 : vin.ownBlock with
                   | none => rw [hv1] at e; exact h e
                   | some g => rw [hv1] at e; exact HAP.out g hv1 e)
               have HK2 := Go.Lib.hid hk2
               clear hown1 hgrow1 hwh1 hk2)
            | (refine wpList_append_byte rfl (.tmp 34) (.tmp 37) rfl W2.heap.size vout j (fun i => kk i ^^^ 92) rfl (HK2.out.alloc _) w1'.heap.size _ rfl (cell_fresh w1' _ 5 0) (by rw [← HKJ.out]; first | done | rfl) (by omega) (by simp; omega) ?_
               intro v2 w2' hown2 hgrow2 hwh2
               have HV2 := Go.Lib.hid hown2; have HG2 := Go.Lib.hid hgrow2; have HW2 := Go.Lib.hid hwh2
               clear hown2 hgrow2 hwh2))
          have hvo : ∀ g, v1.ownBlock = some g → g < w1'.heap.size := fun g h => (World.ownsRow.lt HV1.out g h).2
          have hne : ∀ g, v1.ownBlock = some g → vout.ownBlock ≠ some g := fun g h e => by
            rcases HW1.out g h with h2 | h2
            · exact HAP.out g h2 e
            · have h3 := (World.ownsRow.lt HO2.out g e).2
              simp at h2; omega
          have HV1' := Go.Lib.hid ((HV1.out.alloc (.cells #[.int .u8 (((kj ^^^ 92 : UInt8).toNat : Int))] 5)).kept HG2.out (by
            by_cases h : v1.ownBlock = none
            · exact .inl h
            · refine .inr fun e => ?_
              cases hv2 : vout.ownBlock with
              | none => rw [hv2] at e; exact h e
              | some g => rw [hv2] at e; exact hne g e hv2))
          have HAP' : Hid (Apart v1 v2) := Go.Lib.hid (fun g h e => by
            rcases HW2.out g e with h2 | h2
            · exact hne g h h2
            · have := hvo g h; simp at h2; omega)
          have hcA : Ch (fun _ => False) W2 w1' := Ch.grown (HC.out.alloc _) HG1.out (fun k hk hlt => by have := (World.ownsRow.lt HO1.out) k hk; omega)
          have hcB : Ch (fun _ => False) W2 w2' := Ch.grown (hcA.alloc _) HG2.out (fun k hk hlt => by have := (World.ownsRow.lt HO2.out) k hk; omega)
          have HCB := Go.Lib.hid hcB
          clear hvo hne hcA hcB
          go_roundw
          case rel => exact ⟨j + 1, v1, v2, by omega, by go_num, rfl, rfl, HV1'.out, HV2.out, HAP'.out, HCB.out⟩
          case measure => simp [intOf]; omega
        · have HKJ := Go.Lib.hid (HKZ.out j hjn)
          clear HQr
          go_wp2_with (at_builtin; first
            | (refine wpList_append_byte rfl (.tmp 29) (.tmp 32) rfl W2.heap.size vin j (fun i => kk i ^^^ 54) rfl (HO1.out.alloc _) wr.heap.size _ rfl (cell_fresh wr _ 5 0) (by rw [← HKJ.out]; first | done | rfl) (by omega) (by simp; omega) ?_
               intro v1 w1' hown1 hgrow1 hwh1
               have HV1 := Go.Lib.hid hown1; have HG1 := Go.Lib.hid hgrow1; have HW1 := Go.Lib.hid hwh1
               have hs1 : wr.heap.size < w1'.heap.size := by have := hgrow1.size; simp at this; omega
               have hk2 := (HO2.out.alloc (.cells #[.int .u8 (54)] 5)).kept hgrow1 (by
                 by_cases h : vout.ownBlock = none
                 · exact .inl h
                 · refine .inr fun e => ?_
                   cases hv1 : vin.ownBlock with
                   | none => rw [hv1] at e; exact h e
                   | some g => rw [hv1] at e; exact HAP.out g hv1 e)
               have HK2 := Go.Lib.hid hk2
               clear hown1 hgrow1 hwh1 hk2)
            | (refine wpList_append_byte rfl (.tmp 34) (.tmp 37) rfl W2.heap.size vout j (fun i => kk i ^^^ 92) rfl (HK2.out.alloc _) w1'.heap.size _ rfl (cell_fresh w1' _ 5 0) (by rw [← HKJ.out]; first | done | rfl) (by omega) (by simp; omega) ?_
               intro v2 w2' hown2 hgrow2 hwh2
               have HV2 := Go.Lib.hid hown2; have HG2 := Go.Lib.hid hgrow2; have HW2 := Go.Lib.hid hwh2
               clear hown2 hgrow2 hwh2))
          have hvo : ∀ g, v1.ownBlock = some g → g < w1'.heap.size := fun g h => (World.ownsRow.lt HV1.out g h).2
          have hne : ∀ g, v1.ownBlock = some g → vout.ownBlock ≠ some g := fun g h e => by
            rcases HW1.out g h with h2 | h2
            · exact HAP.out g h2 e
            · have h3 := (World.ownsRow.lt HO2.out g e).2
              simp at h2; omega
          have HV1' := Go.Lib.hid ((HV1.out.alloc (.cells #[.int .u8 (92)] 5)).kept HG2.out (by
            by_cases h : v1.ownBlock = none
            · exact .inl h
            · refine .inr fun e => ?_
              cases hv2 : vout.ownBlock with
              | none => rw [hv2] at e; exact h e
              | some g => rw [hv2] at e; exact hne g e hv2))
          have HAP' : Hid (Apart v1 v2) := Go.Lib.hid (fun g h e => by
            rcases HW2.out g e with h2 | h2
            · exact hne g h h2
            · have := hvo g h; simp at h2; omega)
          have hcA : Ch (fun _ => False) W2 w1' := Ch.grown (HC.out.alloc _) HG1.out (fun k hk hlt => by have := (World.ownsRow.lt HO1.out) k hk; omega)
          have hcB : Ch (fun _ => False) W2 w2' := Ch.grown (hcA.alloc _) HG2.out (fun k hk hlt => by have := (World.ownsRow.lt HO2.out) k hk; omega)
          have HCB := Go.Lib.hid hcB
          clear hvo hne hcA hcB
          go_roundw
          case rel => exact ⟨j + 1, v1, v2, by omega, by go_num, rfl, rfl, HV1'.out, HV2.out, HAP'.out, HCB.out⟩
          case measure => simp [intOf]; omega
      · obtain rfl : j = 64 := by omega
        clear HQr
        obtain ⟨qi, ci, rfl, hbi⟩ := own_nil HO1.out
        obtain ⟨qo, co, rfl, hbo⟩ := own_nil HO2.out
        have HBI := Go.Lib.hid hbi; have HBO := Go.Lib.hid hbo
        have HFr := Go.Lib.hid (HF2.out.ch HC.out (fun _ _ h => h)); have HRr := Go.Lib.hid (HC.out.heap HR2.out id); have HCw := Go.Lib.hid (HC2.out.trans HC.out)
        clear hbi hbo HO1 HO2 HAP HC
        go_wp2_with fail
        refine (join_any qi q 64 m ci d _ f wr HBI.out HFr.out (by omega) (by omega)).mono ?_
        rintro e w3 ⟨r3, k3, rfl, hb3, hc3⟩
        rw [← HIK.out] at hb3
        have HB3 := Go.Lib.hid hb3; have HC3 := Go.Lib.hid hc3
        clear hb3 hc3
        go_wp2_with fail
        refine (rsum_any r3 (64 + m) k3 IK w3 (by omega) HB3.out).mono ?_
        rintro e w4 ⟨rfl, hc4⟩
        have HC4 := Go.Lib.hid (HC3.out.trans hc4)
        generalize hIH : hashB IK (64 + m) = IH at *
        clear hc4 HB3 HC3
        have HHI := Go.Lib.hid (hv_info IH); have HHA := Go.Lib.hid (hv_all IH)
        have HHZ := Go.Lib.hid (show (hv fun _ => 0).size = (hv IH).size by rw [show (hv fun _ => 0).size = 32 from arr_size _ _]; exact (arr_size _ _).symm)
        have HIH := Go.Lib.hid hIH
        clear hIH
        go_wp2_with (refine wpList_store_row rfl 28 (.tmp 10) (.tmp 42) rfl w4.heap.size (hv IH) rfl rfl 28 (hv fun _ => 0) (World.alloc_heap_new w4 _) HHI.out HHZ.out HHA.out ?_)
        generalize hW5 : World.setRow _ w4.heap.size (hv IH) = W5
        have hcx : Ch (fun _ => False) w4 W5 := by rw [← hW5]; exact ((Ch.refl _ _).alloc _).setRow (fun h => absurd h (Nat.lt_irrefl _)) _
        have hx5 : W5.heap[w4.heap.size]? = some (.cells (hv IH) 28) := by rw [← hW5]; exact heap_setRow (World.alloc_heap_new w4 _)
        have HC5 := Go.Lib.hid (HC4.out.trans hcx)
        have hbh : BytesAt W5 (some ⟨w4.heap.size, 0, none⟩) 32 32 IH := .inl ⟨w4.heap.size, 0, rfl, Nat.le_refl _, fun j hj => by rw [Nat.zero_add]; exact (cell_of_heap hx5 _).trans (arr_get 32 _ j hj)⟩
        have HBH := Go.Lib.hid hbh
        clear hW5 hcx hx5 hbh HC4 HHI HHA HHZ
        refine (join_any qo (some ⟨w4.heap.size, 0, none⟩) 64 32 co 32 _ IH W5 (HBO.out.ch HC5.out (fun _ _ h => h)) HBH.out (by omega) (by omega)).mono ?_
        rintro e w6 ⟨r6, k6, rfl, hb6, hc6⟩
        have HB6 := Go.Lib.hid hb6; have HC6 := Go.Lib.hid (HC5.out.trans hc6)
        clear hb6 hc6
        go_wp2_with fail
        refine (rsum_any r6 (64 + 32) k6 _ w6 (by omega) HB6.out).mono ?_
        rintro e w7 ⟨rfl, hc7⟩
        have HC7 := Go.Lib.hid (HC6.out.trans hc7)
        have HR7 := Go.Lib.hid (HC7.out.heap HRr.out id)
        rw [show 64 + 32 = 96 from rfl, ← HT.out]
        have HHI := Go.Lib.hid (hv_info T); have HHA := Go.Lib.hid (hv_all T)
        have HHZ := Go.Lib.hid (show (hv fun _ => 0).size = (hv T).size by rw [show (hv fun _ => 0).size = 32 from arr_size _ _]; exact (arr_size _ _).symm)
        clear hc7 HB6
        go_wp2_with (refine wpList_store_row rfl 28 (.tmp 4) (.tmp 46) rfl w.heap.size (hv T) rfl rfl 28 (hv fun _ => 0) HR7.out HHI.out HHZ.out HHA.out ?_)
        refine bodyPost_ret (results_cell_row (h := Tryd.results12) _ _ w.heap.size 28 _ (0, 0) _ rfl (heap_setRow HR7.out) Tryd.underlying28 rfl HHI.out) rfl ⟨rfl, ?_⟩
        exact (HCw.out.trans HC7.out).setRow (fun h => absurd h (Nat.lt_irrefl _)) _
end Go.Proofs.YtikdpiedjkailaaDoor
