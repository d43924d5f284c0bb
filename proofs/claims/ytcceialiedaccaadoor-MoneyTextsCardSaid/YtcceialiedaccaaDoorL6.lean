/- The reference's Parse. -/
import Derived.Test.YtcceialiedaccaaDoorX3
import Derived.Test.YtcceialiedaccaaDoorL5
namespace Go.Proofs.YtcceialiedaccaaDoor
open Go Go.RowKit

theorem u8_sub48 (c : UInt8) (h : 48 ≤ c.toNat) : IntKind.u8.wrap ((c.toNat : Int) - 48) = ((c.toNat - 48 : Nat) : Int) := by
  have := c.toNat_lt
  rw [IntKind.wrap_u8]
  omega
theorem rtext_bad {a : Int} {s : ByteArray} (hno : isText a s.data.toList = false) : textE a ≠ 0 ∨ ((textS a).toList == s.toList) = false := by
  unfold textE textS
  cases hr : rightB a
  · left; decide
  · right
    simp only [if_true]
    rw [ByteArray.toList_eq, ByteArray.toList_eq, tB_toList, beq_eq_false_iff_ne]
    intro h
    have := (isText_iff a s.data.toList).2 ⟨hr, h⟩
    rw [this] at hno; cases hno

set_option maxRecDepth 100000 in
set_option maxHeartbeats 2000000 in
theorem rparse_no (s : ByteArray) (w : World) (hV : Vs w) (hs : s.size ≤ 60) (hno : ∀ a, isText a s.data.toList = false) :
    Calls Tryd.prog 35 #[.string s] w fun e w' => e = .returned (.tuple #[.int .i64 0, .int .i64 152]) ∧ Ch (fun _ => False) w w' := by
  have HNO := Go.Lib.hid hno
  have HT := Go.Lib.hid (fun a => rtext_any a w hV)
  clear hno hV
  by_cases h30 : 30 < (s.size : Int)
  · go_enter Tryd.func35, Tryd.ntmps35
    go_wp2_with fail
    refine bodyPost_ret (v := .tuple #[.int .i64 0, .int .i64 152]) (by simp [results, Tryd.results35, go_sem]) rfl ⟨rfl, Ch.refl _ _⟩
  · go_enter Tryd.func35, Tryd.ntmps35
    go_wp2_with fail
    go_loopw [4, 5, 6] (fun n t i wr => ∃ (k : Nat) (nn tt : Int), k ≤ s.size ∧ i = .int .i64 k ∧ n = .int .i64 nn ∧ t = .int .i64 tt ∧ -1 ≤ tt ∧ tt ≤ 60 ∧ wr = w) (fun _ _ i _ => s.size - (intOf i).toNat)
    case atStart => exact ⟨0, 0, -1, by omega, rfl, rfl, rfl, by omega, by omega, rfl⟩
    case round =>
      obtain ⟨k, nn, tt, hk, rfl, rfl, rfl, ht0, ht1, rfl⟩ := hrel
      by_cases hks : k < s.size
      · have hb : ∀ (c : UInt8), s.data.toList[k]? = some c → ∀ h, s[k]'h = c := fun c hc h => by
          have h1 : s.data.toList[k]? = some (s[k]'h) := by
            rw [List.getElem?_eq_getElem (by rw [Array.length_toList]; exact h)]; rfl
          rw [h1] at hc
          exact Option.some.inj hc
        obtain ⟨c, hc⟩ : ∃ c, s.data.toList[k]? = some c := ⟨_, List.getElem?_eq_getElem (by rw [Array.length_toList]; exact hks)⟩
        have hbc := hb c hc
        have HC := Go.Lib.hid hc
        have HW := Go.Lib.hid (u8_sub48 c)
        have hc255 := c.toNat_lt
        clear hb hc
        go_wp2_with fail
        all_goals first
          | (refine bodyPost_ret (v := .tuple #[.int .i64 0, .int .i64 152]) (by simp [results, Tryd.results35, go_sem]) rfl ⟨rfl, Ch.refl _ _⟩)
          | exact ⟨⟨k + 1, _, _, by omega, by go_num, rfl, rfl, by omega, by omega, trivial⟩, by simp [intOf]; omega⟩
      · obtain rfl : k = s.size := by omega
        clear hk
        go_wp2_with fail
        all_goals
          go_loopw [4, 7] (fun n m wz => ∃ nn mo : Int, n = .int .i64 nn ∧ m = .int .i64 mo ∧ mo ≤ 100 ∧ wz = wr) (fun _ m _ => (intOf m).toNat)
          case atStart => exact ⟨_, _, rfl, rfl, by go_num, rfl⟩
          case round =>
            obtain ⟨nn, mo, rfl, rfl, hmo, rfl⟩ := hrel
            by_cases hm : 0 < mo
            · have hwm : wrap64 (mo - 1) = mo - 1 := by unfold wrap64; omega
              go_wp2_with fail
              all_goals first
                | (refine bodyPost_ret (v := .tuple #[.int .i64 0, .int .i64 152]) (by simp [results, Tryd.results35, go_sem]) rfl ⟨rfl, Ch.refl _ _⟩)
                | exact ⟨⟨_, _, rfl, rfl, by omega, trivial⟩, by simp [intOf]; omega⟩
            · have HTN := Go.Lib.hid (HT.out nn)
              have HBD := Go.Lib.hid (rtext_bad (HNO.out nn))
              clear HT
              generalize textS nn = ts at *
              generalize textE nn = te at *
              by_cases hte : te = 0
              · subst hte
                have hbd := HBD.out.resolve_left (fun h => h rfl)
                have hbn : (ts.toList != s.toList) = true := by rw [bne, hbd]; rfl
                go_wp2_with fail
                refine HTN.out.mono ?_
                rintro e w2 ⟨rfl, hc2⟩
                have HC2 := Go.Lib.hid hc2
                clear hc2
                go_wp2_with fail
                refine bodyPost_ret (v := .tuple #[.int .i64 0, .int .i64 152]) (by simp [results, Tryd.results35, go_sem]) rfl ⟨rfl, HC2.out⟩
              · have hne : (te != 0) = true := by rw [bne_iff_ne]; exact hte
                go_wp2_with fail
                refine HTN.out.mono ?_
                rintro e w2 ⟨rfl, hc2⟩
                have HC2 := Go.Lib.hid hc2
                clear hc2
                go_wp2_with fail
                refine bodyPost_ret (v := .tuple #[.int .i64 0, .int .i64 152]) (by simp [results, Tryd.results35, go_sem]) rfl ⟨rfl, HC2.out⟩

set_option maxRecDepth 100000 in
set_option maxHeartbeats 2000000 in
theorem rparse_yes (a : Int) (s : ByteArray) (w : World) (hV : Vs w) (ht : isText a s.data.toList = true) :
    Calls Tryd.prog 35 #[.string s] w fun e w' => e = .returned (.tuple #[.int .i64 a, .int .i64 0]) ∧ Ch (fun _ => False) w w' := by
  obtain ⟨hr, htl⟩ := (isText_iff a _).1 ht
  obtain ⟨ha0, ha1⟩ := right_true hr
  obtain ⟨N, T, M, hsp⟩ := text_spelled a hr
  have hlen := text_len a hr
  rw [htl] at hsp hlen
  have hls : s.data.toList.length = s.size := Array.length_toList
  rw [hls] at hlen
  have HT := Go.Lib.hid (show Calls Tryd.prog 33 #[.int .i64 a] w (fun e w' => e = .returned (.tuple #[.string s, .int .i64 0]) ∧ Ch (fun _ => False) w w') from by
    have h := rtext_any a w hV
    unfold textS textE at h
    rw [hr, if_pos rfl, if_pos rfl, htl, tB_eta] at h
    exact h)
  have HST := Go.Lib.hid hsp.step
  have HBN := Go.Lib.hid hsp.bound
  have HTB := Go.Lib.hid hsp.tb
  have HFIN := Go.Lib.hid (show N s.size * 10 ^ M = a.toNat by rw [← hls]; exact hsp.fin)
  have HMO := Go.Lib.hid (show M ≤ 8 ∧ ((T s.size < 0 ∧ M = 8) ∨ (0 ≤ T s.size ∧ 8 - ((s.size : Int) - T s.size - 1) = (M : Int))) by rw [← hls]; exact hsp.more)
  have HN0 := Go.Lib.hid hsp.n0; have HT0 := Go.Lib.hid hsp.t0
  have h30 : (s.size : Int) ≤ 30 := by omega
  clear hsp ht htl hr hls hV
  go_enter Tryd.func35, Tryd.ntmps35
  go_wp2_with fail
  go_loopw [4, 5, 6] (fun n t i wr => ∃ k : Nat, k ≤ s.size ∧ i = .int .i64 k ∧ n = .int .i64 (N k : Int) ∧ t = .int .i64 (T k) ∧ wr = w) (fun _ _ i _ => s.size - (intOf i).toNat)
  case atStart => exact ⟨0, by omega, rfl, by rw [HN0.out]; rfl, by rw [HT0.out], rfl⟩
  case round =>
    obtain ⟨k, hk, rfl, rfl, rfl, rfl⟩ := hrel
    have hb0 := HBN.out k
    have htb := HTB.out k
    by_cases hks : k < s.size
    · have hb : ∀ (c : UInt8), s.data.toList[k]? = some c → ∀ h, s[k]'h = c := fun c hc h => by
        have h1 : s.data.toList[k]? = some (s[k]'h) := by
          rw [List.getElem?_eq_getElem (by rw [Array.length_toList]; exact h)]; rfl
        rw [h1] at hc
        exact Option.some.inj hc
      obtain ⟨c, hc⟩ : ∃ c, s.data.toList[k]? = some c := ⟨_, List.getElem?_eq_getElem (by rw [Array.length_toList]; exact hks)⟩
      have hbc := hb c hc
      rcases HST.out k c hc with ⟨rfl, h1, h2, h3⟩ | ⟨h1, h2, h3, h4⟩
      · have H2 := Go.Lib.hid h2; have H3 := Go.Lib.hid h3
        have hd46 : (((46 : UInt8).toNat : Int) == 46) = true := by decide
        clear hb hc h2 h3
        generalize T k = tk at *
        generalize N k = nk at *
        go_wp2_with fail
        case roundEnd => exact ⟨⟨k + 1, by omega, by go_num, by rw [H2.out], by rw [H3.out], trivial⟩, by simp [intOf]; omega⟩
      · have hn46 : ((c.toNat : Int) == 46) = false := by rw [beq_eq_false_iff_ne]; omega
        have hu8 : IntKind.u8.wrap ((c.toNat : Int) - 48) = (c.toNat : Int) - 48 := by rw [u8_sub48 c h1]; omega
        have hw1 : wrap64 (10 * (N k : Int)) = 10 * (N k : Int) := by unfold wrap64; omega
        have hw2 : wrap64 (10 * (N k : Int) + ((c.toNat : Int) - 48)) = 10 * (N k : Int) + ((c.toNat : Int) - 48) := by unfold wrap64; omega
        have hl1 : 48 ≤ (c.toNat : Int) := by omega
        have hl2 : (c.toNat : Int) ≤ 57 := by omega
        have hl3 : (N k : Int) ≤ 1125899906842624 := by omega
        have H3 := Go.Lib.hid h3; have H4 := Go.Lib.hid h4
        clear hb hc h3 h4
        generalize T k = tk at *
        generalize N k = nk at *
        go_wp2_with fail
        case roundEnd => exact ⟨⟨k + 1, by omega, by go_num, by rw [H3.out]; congr 1; omega, by rw [H4.out], trivial⟩, by simp [intOf]; omega⟩
    · obtain rfl : k = s.size := by omega
      have hM8 := HMO.out.1
      have HIV := Go.Lib.hid (fun t (ht : t ≤ M) => show ((N s.size * 10 ^ t : Nat) : Int) ≤ 1125899906842624 by
        have h1 : N s.size * 10 ^ t ≤ N s.size * 10 ^ M := Nat.mul_le_mul_left _ (Nat.pow_le_pow_right (by omega) ht)
        rw [HFIN.out] at h1
        omega)
      have HNX := Go.Lib.hid (fun t => show ((N s.size * 10 ^ (t + 1) : Nat) : Int) = 10 * ((N s.size * 10 ^ t : Nat) : Int) by
        rw [Nat.pow_succ, ← Nat.mul_assoc]; omega)
      have HZ0 := Go.Lib.hid (show ((N s.size * 10 ^ 0 : Nat) : Int) = (N s.size : Int) by simp)
      have HEND := Go.Lib.hid (show ((N s.size * 10 ^ M : Nat) : Int) = a by rw [HFIN.out]; omega)
      generalize hG : (fun t => ((N s.size * 10 ^ t : Nat) : Int)) = G
      have HIV2 : Hid (∀ t, t ≤ M → G t ≤ 1125899906842624) := Go.Lib.hid (fun t h => by rw [← hG]; exact HIV.out t h)
      have HNX2 : Hid (∀ t, G (t + 1) = 10 * G t) := Go.Lib.hid (fun t => by rw [← hG]; exact HNX.out t)
      have HZ2 : Hid (G 0 = (N s.size : Int)) := Go.Lib.hid (by rw [← hG]; exact HZ0.out)
      have HE2 : Hid (G M = a) := Go.Lib.hid (by rw [← hG]; exact HEND.out)
      have HG0 : Hid (∀ t, 0 ≤ G t) := Go.Lib.hid (fun t => by rw [← hG]; exact Int.natCast_nonneg _)
      clear hG HIV HNX HZ0 HEND HFIN HBN HST HN0 HT0 HTB hk
      rcases HMO.out.2 with ⟨hneg, hM⟩ | ⟨hpos, hM⟩
      all_goals
        have HM := Go.Lib.hid hM
        clear HMO hM
        generalize T s.size = tk at *
        generalize N s.size = nk at *
      · go_wp2_with fail
        go_loopw [4, 7] (fun n m wz => ∃ t : Nat, t ≤ M ∧ n = .int .i64 (G t) ∧ m = .int .i64 ((M : Int) - (t : Int)) ∧ wz = wr) (fun _ m _ => (intOf m).toNat)
        case atStart => exact ⟨0, by omega, by rw [HZ2.out], by rw [HM.out]; rfl, rfl⟩
        case round =>
          obtain ⟨t, htM, rfl, rfl, rfl⟩ := hrel
          by_cases hlt : t < M
          · have h1 := HIV2.out t htM
            have h0 := HG0.out t
            have H2 := Go.Lib.hid (HNX2.out t)
            have hwa : wrap64 (10 * G t) = 10 * G t := by unfold wrap64; omega
            have hwb : wrap64 ((M : Int) - (t : Int) - 1) = (M : Int) - (t : Int) - 1 := by unfold wrap64; omega
            have hpos2 : 0 < (M : Int) - (t : Int) := by omega
            generalize G t = gt0 at *
            go_wp2_with fail
            case roundEnd => exact ⟨⟨t + 1, by omega, by rw [H2.out], by congr 1; omega, trivial⟩, by simp [intOf]; omega⟩
          · obtain rfl : t = M := by omega
            have hz : (t : Int) - (t : Int) = 0 := by omega
            rw [hz, HE2.out]
            have hss : (s.toList != s.toList) = false := by simp
            go_wp2_with fail
            refine HT.out.mono ?_
            rintro e w2 ⟨rfl, hc2⟩
            have HC2 := Go.Lib.hid hc2
            clear hc2
            go_wp2_with fail
            refine bodyPost_ret (v := .tuple #[.int .i64 a, .int .i64 0]) (by simp [results, Tryd.results35, go_sem]) rfl ⟨rfl, HC2.out⟩
      · have hw1 : wrap64 ((s.size : Int) - tk) = (s.size : Int) - tk := by unfold wrap64; omega
        have hw2 : wrap64 ((s.size : Int) - tk - 1) = (s.size : Int) - tk - 1 := by unfold wrap64; omega
        have hw3 : wrap64 (8 - ((s.size : Int) - tk - 1)) = (M : Int) := by rw [HM.out]; unfold wrap64; omega
        go_wp2_with fail
        go_loopw [4, 7] (fun n m wz => ∃ t : Nat, t ≤ M ∧ n = .int .i64 (G t) ∧ m = .int .i64 ((M : Int) - (t : Int)) ∧ wz = wr) (fun _ m _ => (intOf m).toNat)
        case atStart => exact ⟨0, by omega, by rw [HZ2.out], by first | (congr 1; done) | (congr 1; have := HM.out; omega), rfl⟩
        case round =>
          obtain ⟨t, htM, rfl, rfl, rfl⟩ := hrel
          by_cases hlt : t < M
          · have h1 := HIV2.out t htM
            have h0 := HG0.out t
            have H2 := Go.Lib.hid (HNX2.out t)
            have hwa : wrap64 (10 * G t) = 10 * G t := by unfold wrap64; omega
            have hwb : wrap64 ((M : Int) - (t : Int) - 1) = (M : Int) - (t : Int) - 1 := by unfold wrap64; omega
            have hpos2 : 0 < (M : Int) - (t : Int) := by omega
            generalize G t = gt0 at *
            go_wp2_with fail
            case roundEnd => exact ⟨⟨t + 1, by omega, by rw [H2.out], by congr 1; omega, trivial⟩, by simp [intOf]; omega⟩
          · obtain rfl : t = M := by omega
            have hz : (t : Int) - (t : Int) = 0 := by omega
            rw [hz, HE2.out]
            have hss : (s.toList != s.toList) = false := by simp
            go_wp2_with fail
            refine HT.out.mono ?_
            rintro e w2 ⟨rfl, hc2⟩
            have HC2 := Go.Lib.hid hc2
            clear hc2
            go_wp2_with fail
            refine bodyPost_ret (v := .tuple #[.int .i64 a, .int .i64 0]) (by simp [results, Tryd.results35, go_sem]) rfl ⟨rfl, HC2.out⟩
end Go.Proofs.YtcceialiedaccaaDoor
