/- works: the chapter's rows. -/
import Derived.Test.YtcceialiedaccaaDoorA8
import Derived.Test.YtcceialiedaccaaDoorA10
namespace Go.Proofs.YtcceialiedaccaaDoor
open Go Go.RowKit

theorem w_add : addE (two 1125899906842624 1) 2 = 150 := by kernel_rfl
theorem w_less : lessE 5 (fun _ => 6) 1 = 151 := by kernel_rfl
theorem w_share : shareV 5000 1000 = 5 ∧ shareE 5000 1000 = 0 := ⟨by kernel_rfl, by kernel_rfl⟩
theorem w_take : takeV 1 1000 5000 = 6 ∧ takeE 1 1000 5000 = 0 := ⟨by kernel_rfl, by kernel_rfl⟩
theorem w_send : sendV 1 1000 5000 = 5006 ∧ sendE 1 1000 5000 = 0 := ⟨by kernel_rfl, by kernel_rfl⟩
theorem w_text1 : textL 150000000 = [49, 46, 53] := by kernel_rfl
theorem w_text2 : textL 5 = [48, 46, 48, 48, 48, 48, 48, 48, 48, 53] := by kernel_rfl
theorem w_parse1 : parE [49, 46, 53, 48] = 152 := by kernel_rfl
theorem w_parse2 : parE [48, 46, 48, 48, 48, 48, 48, 48, 48, 53] = 0 ∧ parV [48, 46, 48, 48, 48, 48, 48, 48, 48, 53] = 5 := ⟨by kernel_rfl, by kernel_rfl⟩
def fB : Nat → Int := fun j => if j = 0 then 0 else 1
def fR : Nat → Int := fun j => if j = 0 then 0 else 1000
theorem w_route : routeE fB fR 5000 2 = 0 := by kernel_rfl
theorem w_route0 : (List.range 3).map (fun j => rtV fB fR 5000 2 (2 - j)) = [5006, 5006, 5000] := by kernel_rfl
theorem fees_new (w : World) : FeesAt (w.alloc (.cells #[.int .i64 0, .int .i64 0, .int .i64 1, .int .i64 1000] 40)) (some ⟨w.heap.size, 0, none⟩) 2 fB fR :=
  .inl ⟨w.heap.size, 0, rfl, by simp, fun j hj => by
    match j, hj with
    | 0, _ => exact ⟨cell_fresh w _ 40 0, cell_fresh w _ 40 1⟩
    | 1, _ => exact ⟨cell_fresh w _ 40 2, cell_fresh w _ 40 3⟩⟩
def z3 : Nat → Int := three 5006 5006 5000
theorem w_same : sameB (fun j => rtV fB fR 5000 2 (2 - j)) 3 z3 3 = true := by kernel_rfl
theorem route_w {e : Ending} {w : World} (h : RouteIs fB fR 5000 2 e w) : ∃ p c, e = .returned (.tuple #[.slice p 3 c, .int .i64 0]) ∧ IntsAt w p 3 (fun j => rtV fB fR 5000 2 (2 - j)) := by
  obtain ⟨p, n, c, h1, h2, h3⟩ := h
  rw [w_route] at h1
  rw [w_route, if_pos rfl] at h2
  subst h2
  exact ⟨p, c, h1, h3⟩
theorem text_w {a : Int} {l : List UInt8} {b : ByteArray} (hr : rightB a = true) (ht : textL a = l) (hb : tB l = b) (w : World) (hV : Vs w) : Calls Tryd.prog 32 #[.int .i64 a] w fun e w' => e = .returned (.tuple #[.string b, .int .i64 0]) ∧ Ch (fun _ => False) w w' := by
  have h := text_any a w hV
  unfold textS textE at h
  rw [hr, ht] at h
  subst hb
  exact h

set_option maxRecDepth 100000 in
set_option maxHeartbeats 4000000 in
theorem works_any (w : World) (hV : Vs w) : Calls Tryd.prog 11 #[] w fun e w' => e = .returned (.bool true) ∧ Ch (fun _ => False) w w' := by
  have HV := Go.Lib.hid hV
  have HADD := Go.Lib.hid (fun W => add_any _ 2 2 _ _ (ints_new2 W 1125899906842624 1) (by omega))
  have HLESS := Go.Lib.hid (fun W => less_any 5 _ 1 1 _ _ (ints_new1 W 6) (by omega))
  have HSH := Go.Lib.hid (fun W => share_any 5000 1000 W)
  have HTK := Go.Lib.hid (fun W => take_any 1 1000 5000 W)
  have HSD := Go.Lib.hid (fun W => send_any 1 1000 5000 W)
  have HRT := Go.Lib.hid (fun W => route_any 5000 _ 2 2 _ _ _ (fees_new W) (by omega))
  have HT1 := Go.Lib.hid (fun W (h : Vs W) => text_w (a := 150000000) (b := ⟨#[49, 46, 53]⟩) (by decide) w_text1 rfl W h)
  have HT2 := Go.Lib.hid (fun W (h : Vs W) => text_w (a := 5) (b := ⟨#[48, 46, 48, 48, 48, 48, 48, 48, 48, 53]⟩) (by decide) w_text2 rfl W h)
  have HP1 := Go.Lib.hid (fun W (h : Vs W) => parse_any ⟨#[49, 46, 53, 48]⟩ W h (by decide))
  have HP2 := Go.Lib.hid (fun W (h : Vs W) => parse_any ⟨#[48, 46, 48, 48, 48, 48, 48, 48, 48, 53]⟩ W h (by decide))
  rw [w_add] at HADD
  rw [w_less] at HLESS
  rw [w_share.1, w_share.2] at HSH
  rw [w_take.1, w_take.2] at HTK
  rw [w_send.1, w_send.2] at HSD
  rw [show parE (⟨#[49, 46, 53, 48]⟩ : ByteArray).data.toList = 152 from w_parse1] at HP1
  rw [show parE (⟨#[48, 46, 48, 48, 48, 48, 48, 48, 48, 53]⟩ : ByteArray).data.toList = 0 from w_parse2.1, show parV (⟨#[48, 46, 48, 48, 48, 48, 48, 48, 48, 53]⟩ : ByteArray).data.toList = 5 from w_parse2.2] at HP2
  clear hV
  go_enter Tryd.func11, Tryd.ntmps11
  go_wp2_with fail
  refine (HADD.out _).mono ?_
  rintro e w1 ⟨rfl, rfl⟩
  generalize hW : World.alloc w _ = W1
  have HC1 := Go.Lib.hid (show Ch (fun _ => False) w W1 by rw [← hW]; exact (Ch.refl _ w).alloc _)
  clear hW
  go_wp2_with fail
  refine (HLESS.out _).mono ?_
  rintro e w2 ⟨rfl, hc2⟩
  have HC2 := Go.Lib.hid (HC1.out.trans (((Ch.refl (fun _ => False) W1).alloc _).trans hc2))
  clear hc2 HC1
  go_wp2_with fail
  refine (HSH.out _).mono ?_
  rintro e w3 ⟨rfl, hc3⟩
  have HC3 := Go.Lib.hid (HC2.out.trans hc3)
  clear hc3 HC2
  go_upto_region 5 with (fail)
  generalize hW : World.alloc w3 _ = W4
  have hr4 : W4.heap[w3.heap.size]? = some (.cells #[.int .i64 1, .int .i64 1000] 40) := by rw [← hW]; exact World.alloc_heap_new w3 _
  have HC4 := Go.Lib.hid (HC3.out.trans (show Ch (fun _ => False) w3 W4 by rw [← hW]; exact (Ch.refl _ w3).alloc _))
  generalize w3.heap.size = F at *
  have HR4 := Go.Lib.hid hr4
  have d0 : W4.cell? ⟨F, 0, none⟩ = some (.int .i64 1) := cell_of_heap hr4 0
  have d1 : W4.cell? ⟨F, 1, none⟩ = some (.int .i64 1000) := cell_of_heap hr4 1
  clear hW hr4 HC3
  go_wp2_with fail
  refine (HTK.out _).mono ?_
  rintro e w5 ⟨rfl, hc5⟩
  have HC5 := Go.Lib.hid (HC4.out.trans hc5)
  have HR5 := Go.Lib.hid (hc5.heap HR4.out id)
  clear d0 d1 hc5 HC4 HR4
  have d0 : w5.cell? ⟨F, 0, none⟩ = some (.int .i64 1) := cell_of_heap HR5.out 0
  have d1 : w5.cell? ⟨F, 1, none⟩ = some (.int .i64 1000) := cell_of_heap HR5.out 1
  go_wp2_with fail
  refine (HSD.out _).mono ?_
  rintro e w6 ⟨rfl, hc6⟩
  have HC6 := Go.Lib.hid (HC5.out.trans hc6)
  have HR6 := Go.Lib.hid (hc6.heap HR5.out id)
  clear d0 d1 hc6 HC5 HR5
  have d0 : w6.cell? ⟨F, 0, none⟩ = some (.int .i64 1) := cell_of_heap HR6.out 0
  have d1 : w6.cell? ⟨F, 1, none⟩ = some (.int .i64 1000) := cell_of_heap HR6.out 1
  go_wp2_with fail
  refine (HRT.out _).mono ?_
  rintro e w7 ⟨hri, hc7⟩
  obtain ⟨rp, rc, rfl, hint⟩ := route_w hri
  have HC7 := Go.Lib.hid (HC6.out.trans (((Ch.refl (fun _ => False) w6).alloc _).trans hc7))
  have HI7 := Go.Lib.hid hint
  clear d0 d1 hc7 HC6 HR6 hri hint
  go_wp2_with fail
  refine (HT1.out _ (HV.out.ch HC7.out)).mono ?_
  rintro e w8 ⟨rfl, hc8⟩
  have HC8 := Go.Lib.hid (HC7.out.trans hc8)
  have HI8 := Go.Lib.hid (HI7.out.ch hc8)
  clear hc8 HC7 HI7
  go_wp2_with fail
  refine (HT2.out _ (HV.out.ch HC8.out)).mono ?_
  rintro e w9 ⟨rfl, hc9⟩
  have HC9 := Go.Lib.hid (HC8.out.trans hc9)
  have HI9 := Go.Lib.hid (HI8.out.ch hc9)
  clear hc9 HC8 HI8
  go_wp2_with fail
  refine (HP1.out _ (HV.out.ch HC9.out)).mono ?_
  rintro e w10 ⟨rfl, hc10⟩
  have HC10 := Go.Lib.hid (HC9.out.trans hc10)
  have HI10 := Go.Lib.hid (HI9.out.ch hc10)
  clear hc10 HC9 HI9
  go_wp2_with fail
  refine (HP2.out _ (HV.out.ch HC10.out)).mono ?_
  rintro e w11 ⟨rfl, hc11⟩
  have HC11 := Go.Lib.hid (HC10.out.trans hc11)
  have HI11 := Go.Lib.hid (HI10.out.ch hc11)
  have HSM := Go.Lib.hid (same_any rp _ 3 rc 3 3 _ _ _ (HI11.out.ch ((Ch.refl (fun _ => False) w11).alloc _)) (ints_new3 w11 5006 5006 5000) (by omega) (by omega))
  rw [show sameB (fun j => rtV fB fR 5000 2 (2 - j)) 3 (three 5006 5006 5000) 3 = true from w_same] at HSM
  clear hc11 HC10 HI10
  go_wp2_with (first | (go_at_call 17; refine (num_any _ _).mono ?_; rintro e w' ⟨rfl, rfl⟩) | (go_at_call 19; refine HSM.out.mono ?_; rintro e w12 ⟨rfl, hc12⟩; have HC12 := Go.Lib.hid (HC11.out.trans (((Ch.refl (fun _ => False) w11).alloc _).trans hc12)); clear hc12))
  go_ret
  exact ⟨rfl, HC12.out⟩
end Go.Proofs.YtcceialiedaccaaDoor
