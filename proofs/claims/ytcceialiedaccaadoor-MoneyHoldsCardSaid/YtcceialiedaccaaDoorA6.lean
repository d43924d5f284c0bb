/- What package-level variables hold; texts of amounts: the program's Text. -/
import Derived.Test.YtcceialiedaccaaDoorA5
import Derived.Lib.ItoaLen
namespace Go.Proofs.YtcceialiedaccaaDoor
open Go Go.RowKit

theorem var_ch {w w' : World} {name : String} {cs : Array Value} (h : w.var? Tryd.prog name = some cs) (hc : Ch (fun _ => False) w w') : w'.var? Tryd.prog name = some cs := by
  unfold World.var? at h ⊢
  cases hg : Tryd.prog.globalNamed name with
  | none => rw [hg] at h; cases h
  | some g =>
    rw [hg] at h
    simp only [Option.bind_some] at h ⊢
    cases ho : w.heap[g]? with
    | none => rw [ho] at h; cases h
    | some o => rw [hc.heap ho id]; rw [ho] at h; exact h
/-- What the law's package-level variables hold. -/
structure Vs (w : World) : Prop where
  tab : Lib.TabIs Tryd.prog w "internal/strconv.uint64pow10" .u64 Lib.pow10Tab
  syn : ∃ tp p, w.var? Tryd.prog "strconv.ErrSyntax" = some #[.iface tp p]
  rng : ∃ tp p, w.var? Tryd.prog "strconv.ErrRange" = some #[.iface tp p]
theorem Vs.ch {w w' : World} (h : Vs w) (hc : Ch (fun _ => False) w w') : Vs w' :=
  ⟨var_ch h.tab hc, h.syn.imp fun _ ⟨p, k⟩ => ⟨p, var_ch k hc⟩, h.rng.imp fun _ ⟨p, k⟩ => ⟨p, var_ch k hc⟩⟩
theorem ch_of_below {w w' : World} (h : Below w.heap.size w w') : Ch (fun _ => False) w w' := ⟨h.os, h.tape, h.output, h.size, fun k hk _ => h.block k hk⟩
theorem ch_grow (w : World) (k : Nat) (os : Array Obj) : Ch (fun _ => False) w (Sort.grow (w.drewN k) os) :=
  ⟨rfl, rfl, rfl, by simp [Sort.grow], fun j hj _ => by simp only [Sort.grow]; exact Array.getElem?_append_left hj⟩
def tB (l : List UInt8) : ByteArray := ⟨l.toArray⟩
theorem fmt_any (n : Int) (h0 : 0 ≤ n) (h1 : n ≤ 1125899906842624) (w : World) (hV : Vs w) :
    Calls Tryd.prog 44 #[.int .i64 n, .int .i64 10] w fun e w' => e = .returned (.string (tB (Lib.itoa n))) ∧ Ch (fun _ => False) w w' :=
  (Tryd.strconv_FormatInt_10 n (by omega) (by omega) w hV.tab).mono fun e w' ⟨h, k, os, hw⟩ => ⟨h, by subst hw; exact ch_grow w k os⟩
theorem tB_toList (l : List UInt8) : (tB l).data.toList = l := rfl
theorem tB_size (l : List UInt8) : (tB l).size = l.length := by simp [tB, ByteArray.size]
theorem tB_append (l m : List UInt8) : tB l ++ tB m = tB (l ++ m) := by
  apply ByteArray.ext
  simp [tB, ByteArray.data_append]
theorem tB_drop (l : List UInt8) (k : Nat) : (tB l).extract k (tB l).size = tB (l.drop k) := Lib.extract_from _ _

def unitsL (u : Int) : List UInt8 := Lib.trimRightB ((Lib.itoa (100000000 + u)).drop 1) 48
/-- An amount's text. -/
def textL (a : Int) : List UInt8 := if a % 100000000 = 0 then Lib.itoa (a / 100000000) else Lib.itoa (a / 100000000) ++ 46 :: unitsL (a % 100000000)
def textS (a : Int) : ByteArray := if rightB a then tB (textL a) else tB []
def textE (a : Int) : Int := if rightB a then 0 else 2
theorem itoa_len (n : Int) (h : 0 ≤ n) (h1 : n ≤ 1125899906842624) : 1 ≤ (Lib.itoa n).length ∧ (Lib.itoa n).length ≤ 21 := by
  refine ⟨?_, Lib.itoa_length_le n (by omega) (by omega)⟩
  unfold Lib.itoa
  rw [if_neg (by omega), Lib.decDigits_length]
  exact Lib.nDigits_pos _

set_option maxRecDepth 100000 in
set_option maxHeartbeats 1000000 in
theorem text_any (a : Int) (w : World) (hV : Vs w) :
    Calls Tryd.prog 32 #[.int .i64 a] w fun e w' => e = .returned (.tuple #[.string (textS a), .int .i64 (textE a)]) ∧ Ch (fun _ => False) w w' := by
  have hc0 : Ch (fun _ => False) w (w.alloc (.cells #[.int .i64 a] 2)) := (Ch.refl _ w).alloc _
  have HC := Go.Lib.hid (check_any (some ⟨w.heap.size, 0, none⟩) 1 1 (fun _ => a) _ (ints_new1 w a) (by omega))
  rw [bad_one] at HC
  have HC0 := Go.Lib.hid hc0
  have HV := Go.Lib.hid hV
  clear hc0 hV
  unfold textS textE
  cases hr : rightB a <;> rw [hr] at HC
  case false =>
    clear hr
    go_enter Tryd.func32, Tryd.ntmps32
    go_wp2_with (go_at_call 18; refine HC.out.mono ?_; rintro e w' ⟨rfl, rfl⟩)
    refine bodyPost_ret (v := .tuple #[.string (tB []), .int .i64 2]) (by simp [results, Tryd.results32, go_sem, tB]) rfl ⟨rfl, HC0.out⟩
  case true =>
    obtain ⟨h0, h1⟩ := right_true hr
    clear hr
    have hq : a.tdiv 100000000 = a / 100000000 := Int.tdiv_eq_ediv_of_nonneg h0
    have hm : a.tmod 100000000 = a % 100000000 := Int.tmod_eq_emod_of_nonneg h0
    have hq0 : 0 ≤ a / 100000000 := by omega
    have hq1 : a / 100000000 ≤ 11258999 := by omega
    have hm0 : 0 ≤ a % 100000000 := by omega
    have hm1 : a % 100000000 < 100000000 := by omega
    have hw1 : wrap64 (a / 100000000) = a / 100000000 := by unfold wrap64; omega
    have hw2 : wrap64 (a % 100000000) = a % 100000000 := by unfold wrap64; omega
    have HT := Go.Lib.hid (show textL a = if a % 100000000 = 0 then Lib.itoa (a / 100000000) else Lib.itoa (a / 100000000) ++ 46 :: unitsL (a % 100000000) from rfl)
    have HF1 := Go.Lib.hid (fun W (h : Vs W) => fmt_any (a / 100000000) hq0 (by omega) W h)
    have HF2 := Go.Lib.hid (fun W (h : Vs W) => fmt_any (100000000 + a % 100000000) (by omega) (by omega) W h)
    go_enter Tryd.func32, Tryd.ntmps32
    go_wp2_with (go_at_call 18; refine HC.out.mono ?_; rintro e w' ⟨rfl, rfl⟩)
    refine (HF1.out _ (HV.out.ch HC0.out)).mono ?_
    rintro e w1 ⟨rfl, hc1⟩
    have HC1 := Go.Lib.hid (HC0.out.trans hc1)
    have HL1 := Go.Lib.hid (show (tB (Lib.itoa (a / 100000000))).size ≤ 21 by rw [tB_size]; exact (itoa_len _ hq0 (by omega)).2)
    generalize hT1 : tB (Lib.itoa (a / 100000000)) = T1 at *
    have HT1 := Go.Lib.hid hT1
    clear hc1 HC HC0 hT1 HF1
    generalize a / 100000000 = qq at *
    generalize hmm : a % 100000000 = u at *
    clear hmm hw1 hq0 hq1
    by_cases hu : u = 0
    · subst hu
      go_wp2_with fail
      have e : tB (textL a) = T1 := by rw [← HT1.out, HT.out]; simp
      refine bodyPost_ret (v := .tuple #[.string T1, .int .i64 0]) (by simp [results, Tryd.results32, go_sem]) rfl ⟨by rw [e], HC1.out⟩
    · have hu0 : 0 < u := by omega
      have hw3 : wrap64 (100000000 + u) = 100000000 + u := by unfold wrap64; omega
      go_wp2_with fail
      refine (HF2.out _ (HV.out.ch HC1.out)).mono ?_
      rintro e w2 ⟨rfl, hc2⟩
      have HC2 := Go.Lib.hid (HC1.out.trans hc2)
      have hl2 : 1 ≤ (tB (Lib.itoa (100000000 + u))).size := by rw [tB_size]; exact (itoa_len _ (by omega) (by omega)).1
      have hl3 : (tB (Lib.itoa (100000000 + u))).size ≤ 21 := by rw [tB_size]; exact (itoa_len _ (by omega) (by omega)).2
      have HD := Go.Lib.hid (tB_drop (Lib.itoa (100000000 + u)) 1)
      generalize hT2 : tB (Lib.itoa (100000000 + u)) = T2 at *
      have HT2 := Go.Lib.hid hT2
      clear hc2 HC1 hT2 HF2
      go_wp2_with fail
      rw [HD.out]
      have hsz : (tB ((Lib.itoa (100000000 + u)).drop 1)).size ≤ 21 := by
        rw [← HD.out, ByteArray.size_extract]; omega
      refine (Tryd.strings_TrimRight_one (tB ((Lib.itoa (100000000 + u)).drop 1)) 48 (by decide) w2 (by omega)).mono ?_
      rintro e w3 ⟨rfl, hw3⟩
      subst hw3
      have e1 : (⟨(Lib.trimRightB (tB ((Lib.itoa (100000000 + u)).drop 1)).data.toList 48).toArray⟩ : ByteArray) = tB (unitsL u) := rfl
      have hsz2 : (tB (unitsL u)).size ≤ 21 := by
        rw [tB_size]
        rw [tB_size] at hsz
        refine Nat.le_trans ?_ hsz
        unfold unitsL Lib.trimRightB
        rw [List.length_reverse]
        exact Nat.le_trans (List.dropWhile_sublist _).length_le (by rw [List.length_reverse]; exact Nat.le_refl _)
      rw [e1]
      have e2 : T1 ++ (tB [46] ++ tB (unitsL u)) = tB (textL a) := by
        rw [← HT1.out, HT.out, tB_append, tB_append]; simp [hu]
      have HE2 := Go.Lib.hid e2
      have HL1 := HL1.out
      clear e1 e2 hsz
      generalize tB (unitsL u) = T3 at *
      go_wp2_with fail
      refine bodyPost_ret (v := .tuple #[.string (tB (textL a)), .int .i64 0]) (by simp [results, Tryd.results32, go_sem]; exact HE2.out) rfl ⟨rfl, HC2.out⟩
end Go.Proofs.YtcceialiedaccaaDoor
