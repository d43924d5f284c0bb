/- For any bytes, any size of pieces, any two hashes and any text ShaHolds returns true, and its arguments read behind the call as they read before; the table of package sha is as the program's text lays it. -/
import Derived.Test.YtdmeeghgbiffmaaDoorCard0
import Derived.Test.YtdmeeghgbiffmaaDoorCard2
import Derived.Test.YtdmeeghgbiffmaaDoorHC
namespace Go.Proofs.YtdmeeghgbiffmaaDoor
namespace shaHolds
open Go.ChangeShapes Go.WideShapes Go.ChangeAt Go.RowKit Go.ChangeMaps

set_option maxRecDepth 100000 in
theorem contract (H : Type) (enc : TypeId × Value → H) (W : World) (base : Nat) (args : Array Value) (ds gs : List (DataW H)) (before : List MemPlace)
    (hval : ∀ (j : Nat) t v, Tryd.f9.params[j]? = some t → args[j]? = some v → Value.okWide Tryd.prog W .any base t v)
    (hW : DataW.Whole enc Tryd.prog Tryd.f9.params.toList Rows.shaHoldsSpec.vars false W args.toList ds gs before) (hL : laidMetH Tryd.prog Rows.shaHoldsRow.laid W) :
    Calls Tryd.prog 9 args W fun e W' => ∃ v, e = .returned v ∧ Rows.shaHoldsSpec.post enc Tryd.prog Tryd.f9 false true false false W args v W' := by
  have hW' := hW
  obtain ⟨p, q, hA0, hV, rfl, hfz, hnd⟩ := hW
  have hA : DataW.TrodAll enc Tryd.prog W 0 (fun _ => true) true Tryd.f9.params.toList args.toList ds p := hA0
  rw [Tryd.params9] at hA hval
  obtain ⟨v0, vs0, d0, ds0, p0, q0, hargs, rfl, rfl, h0, r0⟩ := trodAll_cons hA
  obtain ⟨v1, vs1, d1, ds1, p1, q1, rfl, rfl, rfl, h1, r1⟩ := trodAll_cons r0
  obtain ⟨v2, vs2, d2, ds2, p2, q2, rfl, rfl, rfl, h2, r2⟩ := trodAll_cons r1
  obtain ⟨v3, vs3, d3, ds3, p3, q3, rfl, rfl, rfl, h3, r3⟩ := trodAll_cons r2
  obtain ⟨v4, vs4, d4, ds4, p4, q4, rfl, rfl, rfl, h4, r4⟩ := trodAll_cons r3
  obtain ⟨rfl, rfl, rfl⟩ := trodAll_nil r4
  obtain rfl : args = #[v0, v1, v2, v3, v4] := by cases args; simp_all
  obtain ⟨rfl, rfl⟩ := trodVars_none hV
  have hk0 := h0
  obtain ⟨q0', n0, c0, f0, rfl, hb0⟩ := open_bytes (hval 0 34 v0 rfl rfl) h0
  obtain ⟨x1, rfl, rfl, rfl, hw1⟩ := open_int Tryd.underlying5 (hval 1 5 v1 rfl rfl) h1
  obtain ⟨x2, rfl, rfl, rfl⟩ := open_hash' (hval 2 31 v2 rfl rfl) h2
  obtain ⟨x3, rfl, rfl, rfl⟩ := open_hash' (hval 3 31 v3 rfl rfl) h3
  obtain ⟨x4, rfl, rfl, rfl, hw4⟩ := open_string Tryd.underlying9 (hval 4 9 v4 rfl rfl) h4
  clear hA0 hA
  simp only [List.append_nil] at hW'
  have hK := kat_of_laid hL
  have walk : Calls Tryd.prog 9 #[.slice q0' n0 c0, .int .u8 x1, .agg (hv x2), .agg (hv x3), .string x4] W fun e w' => e = .returned (.bool true) ∧ Ch (fun _ => False) W w' := by
    obtain ⟨u0, u1⟩ := wf_u8 hw1
    obtain ⟨pc, rfl⟩ : ∃ pc : Nat, x1 = (pc : Int) := ⟨x1.toNat, by omega⟩
    by_cases h : 600 < n0 ∨ 200 < x4.size
    · exact holds_out q0' n0 c0 _ x2 x3 x4 W h hK
    · exact holds_in q0' n0 c0 f0 pc x2 x3 x4 W (by omega) (by omega) (by omega) hb0 hK
  refine walk.mono fun e W' ⟨he, hg⟩ => ?_
  subst he
  exact ⟨_, rfl, post_of_ch2 (pv := []) hW' (fun _ _ _ => trodAll_cons_mk (shut_bool Tryd.underlying4 _) trodAll_mk0)
    (trodAll_cons_mk (Below.trod laidOut (by kernel_rfl) (of_decide_eq_true (by kernel_rfl)) hk0 hg.below (fun x hx => hW'.lt x (by simp [hx]))) (trodAll_cons_mk (shut_int Tryd.underlying5 hw1) (trodAll_cons_mk (shut_hash x2) (trodAll_cons_mk (shut_hash x3) (trodAll_cons_mk (shut_string Tryd.underlying9 hw4) trodAll_mk0)))))
    rfl hg⟩

def wargs : Array Value := #[.slice none 0 0, .int .u8 0, .agg (hv fun _ => 0), .agg (hv fun _ => 0), .string ⟨#[]⟩]
theorem laid_met (os : Os) : laidMet Tryd.prog Rows.shaHoldsRow.laid ((laidWorld os).forCall (fun _ _ => 0) ⟨#[], wargs, []⟩).memory :=
  laidMet_of_run' 8 (by kernel_rfl) (by kernel_rfl)
theorem reads (os : Os) {H : Type} (enc : TypeId × Value → H) : ∃ places, DataW.whole enc Tryd.prog ((laidWorld os).forCall (fun _ _ => 0) ⟨#[], wargs, []⟩).memory Tryd.f9.params.toList Rows.shaHoldsSpec.vars false wargs.toList 8 = some ([.nil, .lit (.int .u8 0), hashData fun _ => 0, hashData fun _ => 0, .lit (.string [])], [], places) :=
  ⟨[], by kernel_rfl⟩

set_option maxRecDepth 100000 in
theorem lifted (os : Os) (started : os.Started) (H : Type) (enc : TypeId × Value → H) (F : Stop.Interp) :
    ReturnsInHanded {} Tryd.checked os 9 .any ((OpenSpec.ofChange Rows.shaHoldsSpec).preRow enc Tryd.prog Tryd.f9 Rows.shaHoldsRow.domain false Rows.shaHoldsRow.laid) (((OpenSpec.ofChange Rows.shaHoldsSpec).at F).post enc Tryd.prog Tryd.f9 false true false false) := by
  obtain ⟨places, hx⟩ := reads os enc
  refine returnsInHanded_of_row (C := Tryd.checked) (s := OpenSpec.ofChange Rows.shaHoldsSpec) own started (by kernel_rfl) Tryd.func9
    (witness_row_at (enc := enc) (C := Tryd.checked) false (laidWorld os) wargs rfl (by kernel_rfl) (by kernel_rfl) (by kernel_rfl)
      (OpenSpec.preRow_of_cond 8 hx (by kernel_rfl) (fun k hk => by cases hk) (by kernel_rfl) (laid_met os))) ?_
  intro W base args ds gs before hval hW _ _ _ hL _ _
  exact contract H enc W base args ds gs before hval hW hL

theorem said : Rows.ShaHoldsSaid :=
  OpenClaim.holds_of_cond 9 Tryd.f9 rfl rfl rfl rfl rfl rfl rfl ⟨rfl, rfl, rfl, rfl, rfl⟩ rfl rfl rfl rfl rfl (by kernel_rfl) Tryd.func9 (by kernel_rfl)
    (of_decide_eq_true (by kernel_rfl)) (by unfold Func.isWrapper; first | (rw [if_pos (by decide +kernel)]; kernel_rfl) | (rw [if_neg (by decide +kernel)]; exact ⟨rfl, rfl⟩))
    (fun os started H enc _ F => by rw [OpenClaim.pre_eq_preRow]; exact lifted os started H enc F)

theorem plain (f : FuncId) (fn : Func) (hf : Tryd.pinned.checked.prog.funcNamed "tallystick/tallysticklaw01.ShaHolds" = some f) (hfn : Tryd.pinned.checked.prog.funcs[f]? = some fn) :
    false = Tryd.pinned.checked.prog.looks [] ∧ ∀ (j : Nat) t, fn.params[j]? = some t → Tryd.pinned.checked.prog.wantsStandIn t = false := by
  obtain rfl : f = 9 := Option.some.inj ((show Tryd.prog.funcNamed "tallystick/tallysticklaw01.ShaHolds" = some 9 by kernel_rfl).symm.trans hf) |>.symm
  obtain rfl : fn = Tryd.f9 := (Option.some.inj (Tryd.func9.symm.trans hfn)).symm
  refine ⟨by kernel_rfl, fun j t ht => ?_⟩
  rw [Tryd.params9] at ht
  match j, ht with
  | 0, ht => obtain rfl : 34 = t := by simpa using ht
             exact (show Tryd.prog.wantsStandIn 34 = false by kernel_rfl)
  | 1, ht => obtain rfl : 5 = t := by simpa using ht
             exact (show Tryd.prog.wantsStandIn 5 = false by kernel_rfl)
  | 2, ht => obtain rfl : 31 = t := by simpa using ht
             exact (show Tryd.prog.wantsStandIn 31 = false by kernel_rfl)
  | 3, ht => obtain rfl : 31 = t := by simpa using ht
             exact (show Tryd.prog.wantsStandIn 31 = false by kernel_rfl)
  | 4, ht => obtain rfl : 9 = t := by simpa using ht
             exact (show Tryd.prog.wantsStandIn 9 = false by kernel_rfl)

end shaHolds
theorem shaHolds_card : Rows.ShaHoldsCardSaid :=
  Claim7.holds_tied_plain_at .later [] _ _ _ _ shaHolds.said (fun _ h => by cases h) (by kernel_rfl) (fun _ h => by cases h) shaHolds_row_tie rfl ⟨rfl, rfl⟩ (by kernel_rfl) rfl shaHolds.plain (by kernel_rfl)
end Go.Proofs.YtdmeeghgbiffmaaDoor
