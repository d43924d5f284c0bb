/- CrcSums: the function. -/
import Derived.Test.YthbpfgcgfhlmnaaT18
namespace Go.Proofs.Ythbpfgcgfhlmnaa
open Go Go.RowKit
attribute [local go_sem high] b_add b_xor b_and b_or b_shr b_shl not32 wrap_un beq32 neg32 b_turn lowB_wrap

/-- What is left of a row when bytes are taken off its front, one by one. -/
theorem fronts {w : World} {base T : Nat} {v : Value} {f : Nat → UInt8} (h : w.ownsRow base 5 1 v T (fL f T)) : ∃ av : Nat → Value, av 0 = v ∧ ∀ u, u < T → ∃ g s d, s ≤ d ∧ g < w.heap.size ∧ av u = .slice (some ⟨g, u, none⟩) (s + 1) (d + 1) ∧ av (u + 1) = .slice (if d = 0 then some ⟨g, u, none⟩ else some ⟨g, u + 1, none⟩) s d ∧ w.cell? ⟨g, u, none⟩ = some (.int .u8 ((f u).toNat : Int)) := by
  rcases h.2 with ⟨rfl, rfl⟩ | ⟨g, cap, cur, rfl, _, hg, hnc, _, _, htake⟩
  · exact ⟨fun _ => .slice none 0 0, rfl, fun u hu => by omega⟩
  · refine ⟨fun u => .slice (if u = cap ∧ 0 < u then some ⟨g, u - 1, none⟩ else some ⟨g, u, none⟩) (T - u) (cap - u), ?_, fun u hu => ⟨g, T - (u + 1), cap - (u + 1), by omega, (Array.getElem?_eq_some_iff.1 hg).1, ?_, ?_, (cell_of_heap hg _).trans (fL_cur htake u hu)⟩⟩
    · show Value.slice (if _ then _ else _) _ _ = _
      rw [if_neg (by omega)]; rfl
    · show Value.slice (if _ then _ else _) (T - u) (cap - u) = _
      rw [if_neg (by omega), show T - u = T - (u + 1) + 1 by omega, show cap - u = cap - (u + 1) + 1 by omega]
    · show Value.slice (if u + 1 = cap ∧ 0 < u + 1 then some ⟨g, u + 1 - 1, none⟩ else _) _ _ = _
      by_cases e : cap - (u + 1) = 0
      · rw [if_pos (by omega), if_pos e]; rfl
      · rw [if_neg (by omega), if_neg e]
set_option maxRecDepth 100000 in
set_option maxHeartbeats 2000000 in
theorem crcSums_any (a off N cap : Nat) (sp : Option Addr) (P : Nat → Option Addr) (L C : Nat → Nat) (f : Nat → UInt8) (x : BitVec 32) (w : World) (hsp : sp = some ⟨a, off, none⟩ ∨ N = 0)
    (hP : PartsAt w a off N P L C f) (hLC : ∀ i, i < N → L i ≤ C i) :
    Calls Try.prog 3 #[.slice sp N cap, .int .u32 (un x)] w fun e w' => e = .returned (.bool true) ∧ Ch (fun _ => False) w w' := by
  have HFEW := Go.Lib.hid (fun (w' : World) (h : Ch (fun _ => False) w w') => few_any a off N cap sp P L C f w' hsp (hP.row_keep h) hLC)
  have HSUM := Go.Lib.hid (fun (w' : World) (h : Ch (fun _ => False) w w') (hf : fits N L) => sum_any a off N cap sp P L C f w' hsp (hP.row_keep h) (by have := hf.1; omega) (by have := upto_bound L N hf.2; have := hf.1; omega))
  have HMORE := Go.Lib.hid (fun (w' : World) (h : Ch (fun _ => False) w w') (hf : fits N L) => more_any a off N cap sp P L C f x w' hsp (hP.row_keep h) (by have := hf.1; omega) (by have := upto_bound L N hf.2; have := hf.1; omega))
  have HP := Go.Lib.hid hP; have HSP := Go.Lib.hid hsp
  clear hP hsp hLC
  go_enter Try.func3, Try.ntmps3
  go_wp2_with fail
  refine (HFEW.out w (Ch.refl _ _)).mono ?_
  rintro e w1 ⟨hc1, v, ⟨rfl, hf⟩ | ⟨rfl, hf, ho⟩⟩
  · have HC1 := Go.Lib.hid hc1
    clear hc1 hf
    go_wp2_with (go_at_call 11; refine (works_any _).mono ?_; rintro e w3 ⟨rfl, hw3⟩; have HC3 := Go.Lib.hid hw3; clear hw3)
    go_ret
    exact ⟨rfl, HC1.out.trans HC3.out⟩
  · have HC1 := Go.Lib.hid hc1; have HF := Go.Lib.hid hf; have HO := Go.Lib.hid ho
    clear hc1 hf ho
    go_wp2_with fail
    refine (HSUM.out w1 HC1.out HF.out).mono ?_
    rintro e w2 ⟨rfl, hc2⟩
    have HC2 := Go.Lib.hid (HC1.out.trans hc2)
    have HO2 := Go.Lib.hid (HO.out.kept (w' := w2) (row := none) ⟨hc2.os, hc2.tape, hc2.output, hc2.size, fun k hk _ => hc2.block k hk id⟩ (by cases v.ownBlock <;> simp))
    clear hc2 HO
    go_wp2_with fail
    refine (HMORE.out w2 HC2.out HF.out).mono ?_
    rintro e w3 ⟨rfl, hc3⟩
    have HC3 := Go.Lib.hid (HC2.out.trans hc3)
    have HO3 := Go.Lib.hid (HO2.out.kept (w' := w3) (row := none) ⟨hc3.os, hc3.tape, hc3.output, hc3.size, fun k hk _ => hc3.block k hk id⟩ (by cases v.ownBlock <;> simp))
    clear hc3 HO2 HC1 HC2
    obtain ⟨av, h0, hav⟩ := fronts HO3.out
    have HAV := Go.Lib.hid hav
    rw [← h0]
    have HUB := Go.Lib.hid (show upto L N ≤ 4000 by have := upto_bound L N HF.out.2; have := HF.out.1; omega)
    have HT := Go.Lib.hid (show ∀ i, i < N → upto L i + L i ≤ upto L N from fun i hi => upto_le L (show i + 1 ≤ N by omega))
    have HLB := Go.Lib.hid HF.out.2
    have hN20 : N ≤ 20 := HF.out.1
    clear h0 hav HO3
    generalize hA : ~~~(cw (~~~0#32) f (upto L N)) = sA
    generalize hB : ~~~(cw (~~~x) f (upto L N)) = sB
    have HA := Go.Lib.hid hA; have HB := Go.Lib.hid hB
    clear hA hB
    go_wp2_with fail
    go_loopw [5, 9, 10] (fun s i _ wr => ∃ k : Nat, k ≤ N ∧ i = .int .i64 k ∧ s = av (upto L k) ∧ Ch (fun _ => False) w3 wr) (fun _ i _ _ => N - (intOf i).toNat)
    case atStart => exact ⟨0, by omega, rfl, rfl, Ch.refl _ _⟩
    case round =>
      obtain ⟨k, hk, rfl, rfl, hC⟩ := hrel
      have HC := Go.Lib.hid hC
      clear hC
      by_cases hkN : k < N
      · obtain rfl : sp = some ⟨a, off, none⟩ := HSP.out.resolve_right (by omega)
        obtain ⟨xb, y, hx, _, hxb⟩ := HP.out.bytes k hkN
        have HX := Go.Lib.hid hx; have HXB := Go.Lib.hid hxb
        have HROW := Go.Lib.hid (HP.out.row k hkN)
        have HTk := Go.Lib.hid (HT.out k hkN)
        have HU := Go.Lib.hid (show upto L (k + 1) = upto L k + L k from rfl)
        have hl2 : L k ≤ 200 := HLB.out k hkN
        clear hx hxb
        generalize upto L k = u at *
        generalize L k = l at *
        generalize P k = pk at *
        generalize C k = ck at *
        go_wp2_with fail
        go_loopw [5, 10] (fun s j wt => ∃ t : Nat, t ≤ l ∧ j = .int .i64 t ∧ s = av (u + t) ∧ Ch (fun _ => False) w3 wt) (fun _ j _ => l - (intOf j).toNat)
        case atStart => exact ⟨0, by omega, rfl, rfl, HC.out⟩
        case round =>
          obtain ⟨t, ht, rfl, rfl, hC2⟩ := hrel
          have HC2 := Go.Lib.hid hC2
          clear hC2
          have hcell : wr.cell? ⟨a, off + k, none⟩ = some (.slice pk l ck) := (HC3.out.trans HC2.out).get HROW.out id
          by_cases htl : t < l
          · obtain rfl : pk = some ⟨xb, y, none⟩ := HX.out.resolve_right (fun h => by omega)
            obtain ⟨g, s, d, hsd, _, e1, e2, e3⟩ := HAV.out (u + t) (by have := HTk.out; omega)
            have hbyte : wr.cell? ⟨xb, y + t, none⟩ = some (.int .u8 ((f (u + t)).toNat : Int)) := (HC3.out.trans HC2.out).get (HXB.out t htl) id
            have hall : wr.cell? ⟨g, u + t, none⟩ = some (.int .u8 ((f (u + t)).toNat : Int)) := HC2.out.get e3 id
            have E2 := Go.Lib.hid (show av (u + (t + 1)) = .slice (if d = 0 then some ⟨g, u + t, none⟩ else some ⟨g, u + t + 1, none⟩) s d from e2)
            rw [e1]
            clear e1 e2 e3
            generalize f (u + t) = c at *
            generalize u + t = ut at *
            go_upto_region 11 with (fail)
            go_quiet (fail)
            have HC4 := Go.Lib.hid (HC2.out.drewN nq)
            clear hcell hbyte hall
            go_wp2_with fail
            go_roundw
            case rel => exact ⟨t + 1, by omega, by go_num, by rw [E2.out], HC4.out⟩
            case measure => simp [intOf]; omega
          · obtain rfl : t = l := by omega
            go_wp2_with fail
            go_roundw
            case rel => exact ⟨k + 1, by omega, by go_num, by rw [HU.out], HC2.out⟩
            case measure => simp [intOf]; omega
      · obtain rfl : k = N := by omega
        have HC4 := Go.Lib.hid (HC3.out.trans HC.out)
        clear HC HAV
        go_wp2_with fail
        refine (HFEW.out wr HC4.out).mono ?_
        rintro e w4 ⟨hc4, v2, ⟨rfl, hf⟩ | ⟨rfl, hf, ho⟩⟩
        · exact absurd HF.out hf
        · obtain ⟨q, d, rfl, hq⟩ := own_bytes ho
          have HRS := Go.Lib.hid (fun w' (h : Ch (fun _ => False) w4 w') => rsum_any q (upto L k) d f w' (hq.ch h (fun _ _ h => h)) (by have := HUB.out; omega))
          have HRM := Go.Lib.hid (fun w' (h : Ch (fun _ => False) w4 w') => rmore_any x q (upto L k) d f w' (hq.ch h (fun _ _ h => h)) (by have := HUB.out; omega))
          rw [show sumF f (upto L k) = sA from HA.out] at HRS
          rw [HB.out] at HRM
          have HC5 := Go.Lib.hid (HC4.out.trans hc4)
          clear hc4 hf ho hq HFEW HSUM HMORE
          go_wp2_with (first | (go_at_call 14; refine (HRS.out _ (Ch.refl _ _)).mono ?_; rintro e w' ⟨rfl, rfl⟩) | (go_at_call 15; refine (HRM.out _ (Ch.refl _ _)).mono ?_; rintro e w' ⟨rfl, rfl⟩) | (go_at_call 11; refine (works_any _).mono ?_; rintro e w6 ⟨rfl, hw6⟩; have HC6 := Go.Lib.hid hw6; clear hw6))
          go_ret
          exact ⟨rfl, HC5.out.trans HC6.out⟩
end Go.Proofs.Ythbpfgcgfhlmnaa
