/- Seal. -/
import Derived.Test.YtljllfdigfojdaaT6
namespace Go.Proofs.Ytljllfdigfojdaa
open Go Go.RowKit
attribute [local go_sem high] b_add b_xor b_and b_or b_shr b_shl not32 wrap_un beq32 neg32 b_and1 b_andC b_xor8 lowB_wrap xor_u8

/-- The sum of n bytes of f. -/
def sumF (f : Nat → UInt8) (n : Nat) : BitVec 32 := ~~~(cw (~~~0#32) f n)
/-- Sealed bytes. -/
def sealF (f : Nat → UInt8) (n j : Nat) : UInt8 := if j < n then f j else sumB (sumF f n) (j - n)
theorem fL_add (f g : Nat → UInt8) (n m : Nat) : fL f n ++ fL g m = fL (fun j => if j < n then f j else g (j - n)) (n + m) := by
  unfold fL
  apply List.ext_getElem?
  intro j
  by_cases h : j < n
  · rw [List.getElem?_append_left (by simpa using h)]
    simp [h, show j < n + m by omega]
  · rw [List.getElem?_append_right (by simp; omega)]
    by_cases h2 : j < n + m
    · simp [h, h2, show j - n < m by omega]
    · simp [h2, show ¬ j - n < m by omega]
theorem fL_seal (f : Nat → UInt8) (n : Nat) : fL f n ++ fL (sumB (sumF f n)) 4 = fL (sealF f n) (n + 4) := by
  rw [fL_add]; rfl
theorem fL_part (f : Nat → UInt8) (u l : Nat) : fL f u ++ fL (fun j => f (u + j)) l = fL f (u + l) := by
  rw [fL_add]
  exact fL_congr _ (fun j hj => by
    by_cases h : j < u
    · rw [if_pos h]
    · rw [if_neg h, show u + (j - u) = j by omega])
theorem fL_cur {f : Nat → UInt8} {n : Nat} {cur : Array Value} (h : cur.toList.take (n * 1) = fL f n) (j : Nat) (hj : j < n) : cur[j]? = some (.int .u8 ((f j).toNat : Int)) := by
  have : (cur.toList.take (n * 1))[j]? = some (.int .u8 ((f j).toNat : Int)) := by
    rw [h]; simp [fL, hj]
  rw [List.getElem?_take] at this
  split at this
  · simpa using this
  · cases this
/-- A row of one's own as a single part. -/
theorem own_part {w : World} {base n : Nat} {v : Value} {f : Nat → UInt8} (h : w.ownsRow base 5 1 v n (fL f n)) : ∃ p c, v = .slice p n c ∧ (∃ x y, (p = some ⟨x, y, none⟩ ∨ (n = 0 ∧ (p = none → c = 0))) ∧ (p = none → x = 0) ∧ (p ≠ none → x < w.heap.size) ∧ ∀ j, j < n → w.cell? ⟨x, y + j, none⟩ = some (.int .u8 ((f j).toNat : Int))) := by
  rcases h.2 with ⟨rfl, rfl⟩ | ⟨g, cap, cur, rfl, _, hg, hnc, _, _, htake⟩
  · exact ⟨none, 0, rfl, 0, 0, .inr ⟨rfl, fun _ => rfl⟩, fun _ => rfl, fun h => absurd rfl h, fun j hj => by omega⟩
  · refine ⟨some ⟨g, 0, none⟩, cap, rfl, g, 0, .inl rfl, ?_, fun _ => (Array.getElem?_eq_some_iff.1 hg).1, fun j hj => ?_⟩
    · intro h; cases h
    rw [Nat.zero_add]
    exact (cell_of_heap hg _).trans (fL_cur htake j hj)
/-- ... in a row of one slice. -/
theorem parts_own {w : World} {base n a : Nat} {v : Value} {f : Nat → UInt8} (h : w.ownsRow base 5 1 v n (fL f n)) (ha : w.cell? ⟨a, 0, none⟩ = some v) : ∃ p c, PartsAt w a 0 1 (fun _ => p) (fun _ => n) (fun _ => c) f := by
  obtain ⟨p, c, rfl, x, y, h1, h2, h3, h4⟩ := own_part h
  refine ⟨p, c, fun i hi => ?_, fun i hi => ?_⟩
  · obtain rfl : i = 0 := by omega
    exact ha
  · obtain rfl : i = 0 := by omega
    refine ⟨x, y, h1, ?_, fun j hj => by rw [show upto (fun _ => n) 0 + j = j by simp [upto]]; exact h4 j hj⟩
    by_cases hp : p = none
    · rw [h2 hp]; exact Nat.lt_of_le_of_lt (Nat.zero_le _) (cell_lt ha)
    · exact h3 hp

set_option maxRecDepth 100000 in
set_option maxHeartbeats 1000000 in
theorem seal_any (a off N cap : Nat) (sp : Option Addr) (P : Nat → Option Addr) (L C : Nat → Nat) (f : Nat → UInt8) (w : World) (hsp : sp = some ⟨a, off, none⟩ ∨ N = 0)
    (hP : PartsAt w a off N P L C f) (hN : N ≤ 1000000) (hn : upto L N ≤ 1000000000000) :
    Calls Try.prog 68 #[.slice sp N cap] w fun e w' => ∃ v, e = .returned v ∧ w'.ownsRow w.heap.size 5 1 v (upto L N + 4) (fL (sealF f (upto L N)) (upto L N + 4)) ∧ Ch (fun _ => False) w w' := by
  obtain ⟨i0, hi, hz0, hz1, hz2⟩ := info_parts info5
  have HP := Go.Lib.hid hP; have HSP := Go.Lib.hid hsp; have HNN := Go.Lib.hid hn
  clear hP hsp hn
  go_enter Try.func68, Try.ntmps68
  go_wp2
  go_loop [3, 5, 11] (fun z _ i => ∃ k m : Nat, k ≤ N ∧ i = .int .i64 k ∧ z = .int .i64 (m : Int) ∧ m = 4 + upto L k) (fun _ _ i => N - (intOf i).toNat)
  case atStart => exact ⟨0, 4, by omega, rfl, rfl, rfl⟩
  case round =>
    obtain ⟨k, m, hk, rfl, rfl, hm⟩ := hrel
    have HM := Go.Lib.hid hm
    clear hm
    by_cases hkN : k < N
    · obtain rfl : sp = some ⟨a, off, none⟩ := HSP.out.resolve_right (by omega)
      have hcell : w.cell? ⟨a, off + k, none⟩ = some (.slice (P k) (L k) (C k)) := HP.out.row k hkN
      have HU := Go.Lib.hid (show upto L (k + 1) = upto L k + L k from rfl)
      have hup : upto L k + L k ≤ upto L N := upto_le L (show k + 1 ≤ N by omega)
      have hb1 : m + L k ≤ 1000000000004 := by have := HM.out; have := HNN.out; omega
      clear hup
      generalize L k = l at *
      generalize P k = pk at *
      go_wp2
      go_round
      case rel => exact ⟨k + 1, m + l, by omega, by go_num, by go_num, by have := HM.out; have := HU.out; omega⟩
      case measure => simp [intOf]; omega
    · obtain rfl : k = N := by omega
      have hm1 : m ≤ 1000000000004 := by have := HM.out; have := HNN.out; omega
      obtain ⟨w0, hr0, ho0, hg0⟩ := run_make_own (P := Try.prog) w w.heap.size 27 5 i0 (.int .u8 0) 1 Try.underlying27 hi hz0 hz1 .i64 .i64 m (by rw [hz2]; omega) (by simp [maxLen]; omega) (Nat.le_refl _)
      have HO0 := Go.Lib.hid ho0
      have HC0 := Go.Lib.hid (Ch.grown (Ch.refl (fun _ => False) w) hg0 (fun k hk => by cases hk))
      clear ho0 hg0
      go_wp2
      clear hr0
      go_loopw [6, 8, 24] (fun v _ i wr => ∃ t : Nat, t ≤ k ∧ i = .int .i64 t ∧ wr.ownsRow w.heap.size 5 1 v (upto L t) (fL f (upto L t)) ∧ Ch (fun _ => False) w wr) (fun _ _ i _ => k - (intOf i).toNat)
      case atStart => exact ⟨0, by omega, rfl, HO0.out, HC0.out⟩
      case round =>
        obtain ⟨t, ht, rfl, hown, hC⟩ := hrel
        have HC := Go.Lib.hid hC; have HOW := Go.Lib.hid hown
        have HOB := Go.Lib.hid hown.lt
        clear hC hown
        by_cases htk : t < k
        · obtain rfl : sp = some ⟨a, off, none⟩ := HSP.out.resolve_right (by omega)
          have hcell : wr.cell? ⟨a, off + t, none⟩ = some (.slice (P t) (L t) (C t)) := HC.out.get (HP.out.row t htk) id
          obtain ⟨x, y, hx, _, hxb⟩ := HP.out.bytes t htk
          have HX := Go.Lib.hid hx
          have hnew : ∀ j u, (fL (fun j => f (upto L t + j)) (L t))[j]? = some u → wr.cell? ((⟨x, y, none⟩ : Addr).add j) = some u := fun j u h => by
            obtain ⟨h1, rfl⟩ := fL_get _ _ j u h
            rw [show (⟨x, y, none⟩ : Addr).add j = ⟨x, y + j, none⟩ by simp [Addr.add]]
            exact HC.out.get (hxb j h1) id
          have HNW := Go.Lib.hid hnew
          have hup : upto L t + L t ≤ upto L k := upto_le L (show t + 1 ≤ k by omega)
          have HUP := Go.Lib.hid (show upto L t + L t ≤ 1000000000000 by have := HNN.out; omega)
          have HFP := Go.Lib.hid (show fL f (upto L t) ++ fL (fun j => f (upto L t + j)) (L t) = fL f (upto L (t + 1)) from fL_part f _ _)
          have HU := Go.Lib.hid (show upto L (t + 1) = upto L t + L t from rfl)
          have hsz : w.heap.size ≤ wr.heap.size := HC.out.size
          clear hx hxb hnew hup
          generalize upto L t = u at *
          generalize hll : L t = l at *
          generalize P t = pk at *
          cases pk with
          | some ad =>
            have hnew2 : ∀ j u', (fL (fun j => f (u + j)) l)[j]? = some u' → wr.cell? (ad.add j) = some u' := fun j u' h => by
              rcases HX.out with hx | ⟨hl0, _⟩
              · cases hx; exact HNW.out j u' h
              · subst hl0; have := (fL_get _ _ j u' h).1; omega
            have HN2 := Go.Lib.hid hnew2
            clear hnew2
            go_wp2_with (at_builtin; refine wpList_append_own _ rfl (.tmp 28) (.tmp 29) 27 rfl w.heap.size 5 i0 (.int .u8 0) 1 1 Try.underlying27 hi hz0 hz1 hz2 rfl (by decide) _ _ _ rfl HOW.out ad l (C t) _ rfl (by rw [fL_len]; omega) HN2.out (fL_one _ _) (by have := HUP.out; simp [maxLen]; omega) (by have := HUP.out; omega) (by omega) ?_; intro v' w1 hown' hgrow hx; clear hx; have HO1 := Go.Lib.hid hown'; have HG := Go.Lib.hid hgrow; clear hown' hgrow)
            go_roundw
            case rel =>
              refine ⟨t + 1, by omega, by go_num, ?_, Ch.grown HC.out HG.out (fun j hj hlt => absurd (HOB.out j hj).1 (by omega))⟩
              rw [HU.out, ← HU.out, ← HFP.out, HU.out]
              exact HO1.out
            case measure => simp [intOf]; omega
          | none =>
            obtain ⟨hl0, hcc⟩ := HX.out.resolve_left (fun h => by cases h)
            have hcc' := hcc rfl
            subst hl0
            rw [hcc'] at hcell
            clear hcc
            go_wp2_with (at_builtin; refine wpList_append_own_none rfl (.tmp 28) (.tmp 29) 27 rfl w.heap.size 5 i0 1 Try.underlying27 hi _ _ _ rfl HOW.out rfl ?_)
            go_roundw
            case rel =>
              refine ⟨t + 1, by omega, by go_num, ?_, HC.out⟩
              rw [← HFP.out, HU.out]
              simpa [fL] using HOW.out
            case measure => simp [intOf]; omega
        · obtain rfl : t = k := by omega
          have hsz : w.heap.size ≤ wr.heap.size := HC.out.size
          have HSZ := Go.Lib.hid hsz
          have hob := HOB.out
          obtain ⟨p, c, rfl, _⟩ := own_part HOW.out
          have hgt : (wr.alloc (.cells #[.slice p (upto L t) c] 27)).cell? ⟨wr.heap.size, 0, none⟩ = some (.slice p (upto L t) c) := cell_fresh wr _ 27 0
          obtain ⟨p1, c1, hpa⟩ := parts_own (HOW.out.alloc (.cells #[.slice p (upto L t) c] 27)) hgt
          have hca : Ch (fun _ => False) w (wr.alloc (.cells #[.slice p (upto L t) c] 27)) := HC.out.alloc _
          have HOA := Go.Lib.hid (HOW.out.alloc (.cells #[.slice p (upto L t) c] 27))
          have HCA := Go.Lib.hid hca
          have HS := Go.Lib.hid (show Calls Try.prog 89 #[.slice (some ⟨wr.heap.size, 0, none⟩) 1 1] (wr.alloc (.cells #[.slice p (upto L t) c] 27)) fun e w' => e = .returned (.int .u32 (un (sumF f (upto L t)))) ∧ Ch (fun _ => False) (wr.alloc (.cells #[.slice p (upto L t) c] 27)) w' from by
            have := sum_any wr.heap.size 0 1 1 _ _ _ _ f _ (.inl rfl) hpa (by omega) (by have := HNN.out; simp [upto]; omega)
            rw [show upto (fun _ => upto L t) 1 = upto L t by simp [upto]] at this
            exact this)
          have HLD := Go.Lib.hid (fun W (h : W.ownsRow w.heap.size 5 1 (.slice p (upto L t) c) (upto L t) (fL f (upto L t))) (hb : w.heap.size ≤ W.heap.size) => laid_any w.heap.size _ _ _ (sumF f (upto L t)) W h hb (by have := HNN.out; omega))
          rw [fL_seal] at HLD
          have HB := Go.Lib.hid (fun k hk => hob k hk)
          clear hgt hpa hca hob HC HOW HP HM HC0 HO0
          go_wp2_with fail
          refine HS.out.mono ?_
          rintro e w2 ⟨rfl, hc2⟩
          have HO2 := Go.Lib.hid (HOA.out.kept (w' := w2) (row := none) ⟨hc2.os, hc2.tape, hc2.output, hc2.size, fun k hk _ => hc2.block k hk id⟩ (by cases p <;> simp [Value.ownBlock]))
          have HC2 := Go.Lib.hid (HCA.out.trans hc2)
          clear hc2 HS HOA HCA
          go_wp2_with fail
          refine (HLD.out w2 HO2.out HC2.out.size).mono ?_
          rintro e w3 ⟨v3, rfl, ho3, hc3⟩
          have HO3 := Go.Lib.hid ho3
          have HC3 := Go.Lib.hid (HC2.out.then hc3 (fun i hi h => by omega))
          clear ho3 hc3 HLD
          go_wp2_with fail
          go_ret
          exact ⟨_, rfl, HO3.out, HC3.out⟩
end Go.Proofs.Ytljllfdigfojdaa
