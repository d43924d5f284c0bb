/- The program's Parse. -/
import Derived.Test.YtcceialiedaccaaDoorA7
namespace Go.Proofs.YtcceialiedaccaaDoor
open Go Go.RowKit

def zeros8 : List UInt8 := [48, 48, 48, 48, 48, 48, 48, 48]
/-- The sign that is parsed: the coins, and the units with noughts behind them, eight of it. -/
def joinL (l : List UInt8) : List UInt8 := coinsL l ++ (unitsOf l ++ zeros8).take 8
def isText (v : Int) (l : List UInt8) : Bool := rightB v && (textL v == l)
def parE (l : List UInt8) : Int := match Lib.parseIntB 64 (joinL l) with | .ok v => if isText v l then 0 else 152 | _ => 152
def parV (l : List UInt8) : Int := match Lib.parseIntB 64 (joinL l) with | .ok v => if isText v l then v else 0 | _ => 0
theorem coins_len (l : List UInt8) : (coinsL l).length ≤ l.length := by
  unfold coinsL; split
  · exact Nat.le_refl _
  · rw [List.length_take]; exact Nat.min_le_right _ _
theorem units_len (l : List UInt8) : (unitsOf l).length ≤ l.length := by
  unfold unitsOf; split
  · simp
  · rw [List.length_drop]; omega

set_option maxRecDepth 100000 in
set_option maxHeartbeats 1000000 in
theorem parse_any (s : ByteArray) (w : World) (hV : Vs w) (hs : s.size ≤ 1000000) :
    Calls Tryd.prog 34 #[.string s] w fun e w' => e = .returned (.tuple #[.int .i64 (parV s.data.toList), .int .i64 (parE s.data.toList)]) ∧ Ch (fun _ => False) w w' := by
  have hlen : s.data.toList.length = s.size := Array.length_toList
  have hC := cut_any s w hs
  have hcl := coins_len s.data.toList
  have hul := units_len s.data.toList
  have hJ : tB (coinsL s.data.toList) ++ (tB (unitsOf s.data.toList) ++ ⟨#[48, 48, 48, 48, 48, 48, 48, 48]⟩).extract 0 8 = tB (joinL s.data.toList) := by
    rw [show (⟨#[48, 48, 48, 48, 48, 48, 48, 48]⟩ : ByteArray) = tB zeros8 from rfl, tB_append, extract_upto', tB_toList, tB_append]; rfl
  have hjs : (tB (joinL s.data.toList)).size ≤ 1000008 := by
    rw [tB_size]; unfold joinL; rw [List.length_append, List.length_take]; omega
  have hs1 : (tB (coinsL s.data.toList)).size ≤ 1000000 := by rw [tB_size]; omega
  have hs2 : (tB (unitsOf s.data.toList)).size ≤ 1000000 := by rw [tB_size]; omega
  have HV := Go.Lib.hid hV
  obtain ⟨t1, p1, hv1⟩ := hV.syn
  obtain ⟨t2, p2, hv2⟩ := hV.rng
  have HOK := Go.Lib.hid (fun (W : World) v h => Tryd.strconv_ParseInt_10_at64_ok (tB (joinL s.data.toList)) (by omega) v h W)
  have HSY := Go.Lib.hid (fun (W : World) h1 h2 hv => Tryd.strconv_ParseInt_10_at64_fault_var (tB (joinL s.data.toList)) (by omega) h1 h2 t1 p1 W hv)
  have HRA := Go.Lib.hid (fun (W : World) h hv => Tryd.strconv_ParseInt_10_at64_range_var (tB (joinL s.data.toList)) (by omega) h t2 p2 W hv)
  have HV1 := Go.Lib.hid hv1; have HV2 := Go.Lib.hid hv2
  have HCU := Go.Lib.hid hC; have HJ := Go.Lib.hid hJ
  clear hV hC hv1 hv2 hlen hcl hul hJ
  unfold parV parE
  cases hp : Lib.parseIntB 64 (joinL s.data.toList)
  · rename_i v
    have HP := Go.Lib.hid hp
    have hS1 := hs1; have hS2 := hs2
    generalize hT1 : tB (coinsL s.data.toList) = T1 at *
    generalize hT2 : tB (unitsOf s.data.toList) = T2 at *
    clear hp hT1 hT2 hs1 hs2
    go_enter Tryd.func34, Tryd.ntmps34
    go_wp2_with fail
    refine wp_scope_fwd 0 rfl ?_
    go_wp2_with fail
    refine HCU.out.mono ?_
    rintro e w1 ⟨b, rfl, hc1⟩
    have HC1 := Go.Lib.hid hc1
    clear hc1
    go_wp2_with fail
    rw [HJ.out]
    refine (HOK.out w1 v HP.out).mono ?_
    rintro e w2 ⟨rfl, hw2⟩
    have hc2 : Ch (fun _ => False) w1 w2 := by
      rcases hw2 with rfl | ⟨t, rfl⟩
      · exact Ch.refl _ _
      · exact ch_of_below (Lib.bytesWorld_below _ _ _)
    have HC2 := Go.Lib.hid (HC1.out.trans hc2)
    have HT := Go.Lib.hid (text_any v w2 (HV.out.ch HC2.out))
    clear hw2 hc2 hjs hS1 hS2
    generalize tB (joinL s.data.toList) = TJ
    unfold textS textE at HT
    have HIT := Go.Lib.hid (show isText v s.data.toList = (rightB v && (textL v == s.data.toList)) from rfl)
    cases hr : rightB v <;> rw [hr] at HT HIT
    case false =>
      clear hr
      go_wp2_with fail
      refine HT.out.mono ?_
      rintro e w3 ⟨rfl, hc3⟩
      have HC3 := Go.Lib.hid (HC2.out.trans hc3)
      clear hc3
      go_wp2_with fail
      go_step3
      go_wp2_with fail
      rw [Exit.jump_ret]
      refine bodyPost_ret (v := .tuple #[.int .i64 0, .int .i64 152]) (by simp [results, Tryd.results34, go_sem]) rfl ⟨by rw [HIT.out]; rfl, HC3.out⟩
    case true =>
      clear hr
      by_cases hts : textL v = s.data.toList
      · have es : tB (textL v) = s := by rw [hts, tB_eta]
        have HIT2 := Go.Lib.hid (show isText v s.data.toList = true by rw [HIT.out, hts]; simp)
        rw [if_pos rfl, es] at HT
        clear hts es
        go_wp2_with fail
        refine HT.out.mono ?_
        rintro e w3 ⟨rfl, hc3⟩
        have HC3 := Go.Lib.hid (HC2.out.trans hc3)
        clear hc3
        go_wp2_with fail
        rw [Exit.jump_ret]
        refine bodyPost_ret (v := .tuple #[.int .i64 v, .int .i64 0]) (by simp [results, Tryd.results34, go_sem]) rfl ⟨by rw [HIT2.out]; rfl, HC3.out⟩
      · have HIT2 := Go.Lib.hid (show isText v s.data.toList = false by rw [HIT.out, Bool.true_and, beq_eq_false_iff_ne]; exact hts)
        have es : ((tB (textL v)).toList == s.toList) = false := by
          rw [ByteArray.toList_eq, ByteArray.toList_eq, tB_toList, beq_eq_false_iff_ne]
          exact hts
        rw [if_pos rfl] at HT
        clear hts
        generalize tB (textL v) = TV at *
        go_wp2_with fail
        refine HT.out.mono ?_
        rintro e w3 ⟨rfl, hc3⟩
        have HC3 := Go.Lib.hid (HC2.out.trans hc3)
        clear hc3
        go_wp2_with fail
        go_step3
        go_wp2_with fail
        rw [Exit.jump_ret]
        refine bodyPost_ret (v := .tuple #[.int .i64 0, .int .i64 152]) (by simp [results, Tryd.results34, go_sem]) rfl ⟨by rw [HIT2.out]; rfl, HC3.out⟩
  · have HN1 := Go.Lib.hid (show ∀ v, Lib.parseIntB 64 (tB (joinL s.data.toList)).data.toList ≠ .ok v from fun v h => by rw [tB_toList, hp] at h; cases h)
    have HN2 := Go.Lib.hid (show Lib.parseIntB 64 (tB (joinL s.data.toList)).data.toList ≠ .range from fun h => by rw [tB_toList, hp] at h; cases h)
    have hS1 := hs1; have hS2 := hs2
    generalize hT1 : tB (coinsL s.data.toList) = T1 at *
    generalize hT2 : tB (unitsOf s.data.toList) = T2 at *
    clear hp hT1 hT2 hs1 hs2
    go_enter Tryd.func34, Tryd.ntmps34
    go_wp2_with fail
    refine wp_scope_fwd 0 rfl ?_
    go_wp2_with fail
    refine HCU.out.mono ?_
    rintro e w1 ⟨b, rfl, hc1⟩
    have HC1 := Go.Lib.hid hc1
    clear hc1
    go_wp2_with fail
    rw [HJ.out]
    refine (HSY.out w1 HN1.out HN2.out (var_ch HV1.out HC1.out)).mono ?_
    rintro e w2 ⟨NN, rfl, _, _, hb2⟩
    have HC2 := Go.Lib.hid (HC1.out.trans (ch_of_below hb2))
    clear hb2 hjs hS1 hS2
    generalize tB (joinL s.data.toList) = TJ
    go_wp2_with fail
    go_step3
    refine ⟨rfl, ?_⟩
    go_wp2_with fail
    rw [Exit.noGoto_ret]
    refine bodyPost_ret (v := .tuple #[.int .i64 0, .int .i64 152]) (by simp [results, Tryd.results34, go_sem]) rfl ⟨rfl, HC2.out⟩
  · have HP := Go.Lib.hid hp
    have hS1 := hs1; have hS2 := hs2
    generalize hT1 : tB (coinsL s.data.toList) = T1 at *
    generalize hT2 : tB (unitsOf s.data.toList) = T2 at *
    clear hp hT1 hT2 hs1 hs2
    go_enter Tryd.func34, Tryd.ntmps34
    go_wp2_with fail
    refine wp_scope_fwd 0 rfl ?_
    go_wp2_with fail
    refine HCU.out.mono ?_
    rintro e w1 ⟨b, rfl, hc1⟩
    have HC1 := Go.Lib.hid hc1
    clear hc1
    go_wp2_with fail
    rw [HJ.out]
    refine (HRA.out w1 HP.out (var_ch HV2.out HC1.out)).mono ?_
    rintro e w2 ⟨NN, rfl, _, _, hb2⟩
    have HC2 := Go.Lib.hid (HC1.out.trans (ch_of_below hb2))
    clear hb2 hjs hS1 hS2
    generalize tB (joinL s.data.toList) = TJ
    go_wp2_with fail
    go_step3
    refine ⟨rfl, ?_⟩
    go_wp2_with fail
    rw [Exit.noGoto_ret]
    refine bodyPost_ret (v := .tuple #[.int .i64 0, .int .i64 152]) (by simp [results, Tryd.results34, go_sem]) rfl ⟨rfl, HC2.out⟩
end Go.Proofs.YtcceialiedaccaaDoor
