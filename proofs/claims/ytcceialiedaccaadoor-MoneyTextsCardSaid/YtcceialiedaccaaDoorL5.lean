/- The reference's Text. -/
import Derived.Test.YtcceialiedaccaaDoorX2
namespace Go.Proofs.YtcceialiedaccaaDoor
open Go Go.RowKit

set_option maxRecDepth 100000 in
set_option maxHeartbeats 1000000 in
theorem rtext_any (a : Int) (w : World) (hV : Vs w) :
    Calls Tryd.prog 33 #[.int .i64 a] w fun e w' => e = .returned (.tuple #[.string (textS a), .int .i64 (textE a)]) ∧ Ch (fun _ => False) w w' := by
  have HA := Go.Lib.hid (right_any a w)
  have HV := Go.Lib.hid hV
  clear hV
  unfold textS textE
  cases hr : rightB a <;> rw [hr] at HA
  case false =>
    clear hr
    go_enter Tryd.func33, Tryd.ntmps33
    go_wp2_with (go_at_call 16; refine HA.out.mono ?_; rintro e w' ⟨rfl, rfl⟩)
    refine bodyPost_ret (v := .tuple #[.string (tB []), .int .i64 2]) (by simp [results, Tryd.results33, go_sem, tB]) rfl ⟨rfl, Ch.refl _ _⟩
  case true =>
    obtain ⟨h0, h1⟩ := right_true hr
    clear hr
    have hq : a.tdiv 100000000 = a / 100000000 := Int.tdiv_eq_ediv_of_nonneg h0
    have hm : a.tmod 100000000 = a % 100000000 := Int.tmod_eq_emod_of_nonneg h0
    have hq0 : 0 ≤ a / 100000000 := by omega
    have hq1 : a / 100000000 ≤ 11258999 := by omega
    have hm0 : 0 ≤ a % 100000000 := by omega
    have hm1 : a % 100000000 < 100000000 := by omega
    have hw1 : wrap64 (a / 100000000) = a / 100000000 := by unfold wrap64; omega
    have hw2 : wrap64 (a % 100000000) = a % 100000000 := by unfold wrap64; omega
    have HT := Go.Lib.hid (show textL a = if a % 100000000 = 0 then Lib.itoa (a / 100000000) else Lib.itoa (a / 100000000) ++ 46 :: unitsL (a % 100000000) from rfl)
    have HF1 := Go.Lib.hid (fun W (h : Vs W) => fmt_any (a / 100000000) hq0 (by omega) W h)
    have HF2 := Go.Lib.hid (fun W (h : Vs W) => fmt_any (100000000 + a % 100000000) (by omega) (by omega) W h)
    have HUC := Go.Lib.hid (units_cut (a % 100000000))
    have HEA := Go.Lib.hid (eight_all (a % 100000000) hm0 hm1)
    go_enter Tryd.func33, Tryd.ntmps33
    go_wp2_with (go_at_call 16; refine HA.out.mono ?_; rintro e w' ⟨rfl, rfl⟩)
    refine (HF1.out _ HV.out).mono ?_
    rintro e w1 ⟨rfl, hc1⟩
    have HC1 := Go.Lib.hid hc1
    have HL1 := Go.Lib.hid (show (tB (Lib.itoa (a / 100000000))).size ≤ 21 by rw [tB_size]; exact (itoa_len _ hq0 (by omega)).2)
    generalize hT1 : tB (Lib.itoa (a / 100000000)) = T1 at *
    have HT1 := Go.Lib.hid hT1
    clear hc1 HA hT1 HF1
    generalize a / 100000000 = qq at *
    generalize hmm : a % 100000000 = u at *
    clear hmm hw1 hq0 hq1
    by_cases hu : u = 0
    · subst hu
      go_wp2_with fail
      have e : tB (textL a) = T1 := by rw [← HT1.out, HT.out]; simp
      refine bodyPost_ret (v := .tuple #[.string T1, .int .i64 0]) (by simp [results, Tryd.results33, go_sem]) rfl ⟨by rw [e], HC1.out⟩
    · have hu0 : 0 < u := by omega
      have hw3 : wrap64 (100000000 + u) = 100000000 + u := by unfold wrap64; omega
      have hne : (u == 0) = false := by rw [beq_eq_false_iff_ne]; exact hu
      go_wp2_with fail
      refine (HF2.out _ (HV.out.ch HC1.out)).mono ?_
      rintro e w2 ⟨rfl, hc2⟩
      have HC2 := Go.Lib.hid (HC1.out.trans hc2)
      have hl2 : 1 ≤ (tB (Lib.itoa (100000000 + u))).size := by rw [tB_size]; exact (itoa_len _ (by omega) (by omega)).1
      have hl3 : (tB (Lib.itoa (100000000 + u))).size ≤ 21 := by rw [tB_size]; exact (itoa_len _ (by omega) (by omega)).2
      have HD := Go.Lib.hid (show (tB (Lib.itoa (100000000 + u))).extract 1 (tB (Lib.itoa (100000000 + u))).size = tB (eightL u) from tB_drop (Lib.itoa (100000000 + u)) 1)
      generalize hT2 : tB (Lib.itoa (100000000 + u)) = T2 at *
      have HT2 := Go.Lib.hid hT2
      clear hc2 HC1 hT2 HF2
      obtain ⟨m, hm1', hm8, hcut, hall, hlast⟩ := HUC.out hu0 hm1
      have HCUT := Go.Lib.hid hcut; have HALL := Go.Lib.hid hall; have HLAST := Go.Lib.hid hlast
      have HE8 := Go.Lib.hid HEA.out.2.1
      clear hcut hall hlast HUC HEA
      go_wp2_with fail
      go_loopw [6] (fun d wr => ∃ k : Nat, m ≤ k ∧ k ≤ 8 ∧ d = .string (tB ((eightL u).take k)) ∧ wr = w2) (fun d _ => match d with | .string s => s.size | _ => 0)
      case atStart => exact ⟨8, by omega, by omega, by rw [HD.out, List.take_of_length_le (by have := HE8.out; omega)], rfl⟩
      case round =>
        obtain ⟨k, hk, hk8, rfl, rfl⟩ := hrel
        have hsz : (tB ((eightL u).take k)).size = k := by rw [tB_size, List.length_take]; have := HE8.out; omega
        have HSZ := Go.Lib.hid hsz
        obtain ⟨k', rfl⟩ : ∃ k', k = k' + 1 := ⟨k - 1, by omega⟩
        have hk1 : wrap64 (((k' + 1 : Nat) : Int) - 1) = (k' : Int) := by unfold wrap64; omega
        have hb : ∀ (c : UInt8), (eightL u)[k']? = some c → ∀ h, (tB ((eightL u).take (k' + 1)))[k']'h = c := fun c hc h => by
          have h1 := Lib.getElem_mk ((eightL u).take (k' + 1)) k' h
          rw [List.getElem?_take, if_pos (by omega), hc] at h1
          exact (Option.some.inj h1).symm
        have hex : ((tB ((eightL u).take (k' + 1))).extract 0 k') = tB ((eightL u).take k') := by
          rw [extract_upto', tB_toList, List.take_take, show min k' (k' + 1) = k' by omega]
        obtain ⟨c, hc⟩ : ∃ c, (eightL u)[k']? = some c := ⟨_, List.getElem?_eq_getElem (by have := HE8.out; omega)⟩
        have hbc := hb c hc
        have HEX := Go.Lib.hid hex
        have HC := Go.Lib.hid hc
        have hT1 := HL1.out
        clear hb hc hex
        by_cases hkm : m ≤ k'
        · obtain rfl : c = 48 := HALL.out k' c hkm HC.out
          have h48 : (((48 : UInt8).toNat : Int) == 48) = true := by decide
          generalize tB ((eightL u).take (k' + 1)) = D at *
          go_wp2_with fail
          case roundEnd => exact ⟨⟨k', hkm, by omega, by rw [HEX.out], trivial⟩, by rw [HEX.out]; show (tB ((eightL u).take k')).size < D.size; rw [hsz, tB_size, List.length_take]; omega⟩
        · obtain rfl : m = k' + 1 := by omega
          have hcn : c ≠ 48 := HLAST.out c (by rw [Nat.add_sub_cancel]; exact HC.out)
          have hcf : ((c.toNat : Int) == 48) = false := by
            rw [beq_eq_false_iff_ne]
            intro h
            exact hcn (UInt8.toNat_inj.1 (by show c.toNat = 48; omega))
          have hE : (T1 ++ ⟨#[46]⟩) ++ tB ((eightL u).take (k' + 1)) = tB (textL a) := by
            rw [← HT1.out, HT.out, ← HCUT.out, show (⟨#[46]⟩ : ByteArray) = tB [46] from rfl, tB_append, tB_append]; simp [hu]
          have HE := Go.Lib.hid hE
          clear hE hcn
          have hdot : (T1 ++ (⟨#[46]⟩ : ByteArray)).size ≤ 22 := by
            rw [ByteArray.size_append]; have : (⟨#[46]⟩ : ByteArray).size = 1 := rfl
            omega
          generalize tB ((eightL u).take (k' + 1)) = D at *
          go_wp2_with fail
          refine bodyPost_ret (v := .tuple #[.string (tB (textL a)), .int .i64 0]) (by simp [results, Tryd.results33, go_sem]; exact HE.out) rfl ⟨rfl, HC2.out⟩
end Go.Proofs.YtcceialiedaccaaDoor
