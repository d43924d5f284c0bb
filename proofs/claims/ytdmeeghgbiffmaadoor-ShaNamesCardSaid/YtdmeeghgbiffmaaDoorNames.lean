/- For every name, every hash and any bytes ShaNames returns true, and the bytes read behind the call as they read before; the table of package sha is as the program's text lays it. -/
import Derived.Test.YtdmeeghgbiffmaaDoorCard0
import Derived.Test.YtdmeeghgbiffmaaDoorCard2
import Derived.Test.YtdmeeghgbiffmaaDoorN3
namespace Go.Proofs.YtdmeeghgbiffmaaDoor
namespace shaNames
open Go.ChangeShapes Go.WideShapes Go.ChangeAt Go.RowKit Go.ChangeMaps

theorem contract (H : Type) (enc : TypeId × Value → H) (W : World) (base : Nat) (args : Array Value) (ds gs : List (DataW H)) (before : List MemPlace)
    (hval : ∀ (j : Nat) t v, Tryd.f6.params[j]? = some t → args[j]? = some v → Value.okWide Tryd.prog W .any base t v)
    (hW : DataW.Whole enc Tryd.prog Tryd.f6.params.toList Rows.shaNamesSpec.vars false W args.toList ds gs before) (hL : laidMetH Tryd.prog Rows.shaNamesRow.laid W) :
    Calls Tryd.prog 6 args W fun e W' => ∃ v, e = .returned v ∧ Rows.shaNamesSpec.post enc Tryd.prog Tryd.f6 false true false false W args v W' := by
  have hW' := hW
  obtain ⟨p, q, hA0, hV, rfl, hfz, hnd⟩ := hW
  have hA : DataW.TrodAll enc Tryd.prog W 0 (fun _ => true) true Tryd.f6.params.toList args.toList ds p := hA0
  rw [Tryd.params6] at hA hval
  obtain ⟨v0, vs0, d0, ds0, p0, q0, hargs, rfl, rfl, h0, r0⟩ := trodAll_cons hA
  obtain ⟨v1, vs1, d1, ds1, p1, q1, rfl, rfl, rfl, h1, r1⟩ := trodAll_cons r0
  obtain ⟨v2, vs2, d2, ds2, p2, q2, rfl, rfl, rfl, h2, r2⟩ := trodAll_cons r1
  obtain ⟨rfl, rfl, rfl⟩ := trodAll_nil r2
  obtain rfl : args = #[v0, v1, v2] := by cases args; simp_all
  obtain ⟨rfl, rfl⟩ := trodVars_none hV
  obtain ⟨x0, rfl, rfl, rfl, hw0⟩ := open_string Tryd.underlying9 (hval 0 9 v0 rfl rfl) h0
  obtain ⟨x1, rfl, rfl, rfl⟩ := open_hash' (hval 1 31 v1 rfl rfl) h1
  have hk2 := h2
  obtain ⟨q2', n2, c2, f2, rfl, hb2⟩ := open_bytes (hval 2 34 v2 rfl rfl) h2
  clear hA0 hA
  simp only [List.append_nil] at hW'
  have hK := kat_of_laid hL
  have walk : Calls Tryd.prog 6 #[.string x0, .agg (hv x1), .slice q2' n2 c2] W fun e w' => e = .returned (.bool true) ∧ Ch (fun _ => False) W w' := by
    by_cases h : 200 < x0.size ∨ 300 < n2
    · exact names_out x0 x1 q2' n2 c2 W hK h
    · exact names_in x0 x1 q2' n2 c2 f2 W hK (by omega) (by omega) hb2
  refine walk.mono fun e W' ⟨he, hg⟩ => ?_
  subst he
  exact ⟨_, rfl, post_of_ch2 (pv := []) hW' (fun _ _ _ => trodAll_cons_mk (shut_bool Tryd.underlying4 _) trodAll_mk0)
    (trodAll_cons_mk (shut_string Tryd.underlying9 hw0) (trodAll_cons_mk (shut_hash x1) (trodAll_cons_mk (Below.trod laidOut (by kernel_rfl) (of_decide_eq_true (by kernel_rfl)) hk2 hg.below (fun x hx => hW'.lt x (by simp [hx]))) trodAll_mk0)))
    rfl hg⟩

def wargs : Array Value := #[.string ⟨#[]⟩, .agg (hv fun _ => 0), .slice none 0 0]
theorem laid_met (os : Os) : laidMet Tryd.prog Rows.shaNamesRow.laid ((laidWorld os).forCall (fun _ _ => 0) ⟨#[], wargs, []⟩).memory :=
  laidMet_of_run' 8 (by kernel_rfl) (by kernel_rfl)
theorem reads (os : Os) {H : Type} (enc : TypeId × Value → H) : ∃ places, DataW.whole enc Tryd.prog ((laidWorld os).forCall (fun _ _ => 0) ⟨#[], wargs, []⟩).memory Tryd.f6.params.toList Rows.shaNamesSpec.vars false wargs.toList 8 = some ([.lit (.string []), hashData fun _ => 0, .nil], [], places) :=
  ⟨[], by kernel_rfl⟩

set_option maxRecDepth 100000 in
theorem lifted (os : Os) (started : os.Started) (H : Type) (enc : TypeId × Value → H) (F : Stop.Interp) :
    ReturnsInHanded {} Tryd.checked os 6 .any ((OpenSpec.ofChange Rows.shaNamesSpec).preRow enc Tryd.prog Tryd.f6 Rows.shaNamesRow.domain false Rows.shaNamesRow.laid) (((OpenSpec.ofChange Rows.shaNamesSpec).at F).post enc Tryd.prog Tryd.f6 false true false false) := by
  obtain ⟨places, hx⟩ := reads os enc
  refine returnsInHanded_of_row (C := Tryd.checked) (s := OpenSpec.ofChange Rows.shaNamesSpec) own started (by kernel_rfl) Tryd.func6
    (witness_row_at (enc := enc) (C := Tryd.checked) false (laidWorld os) wargs rfl (by kernel_rfl) (by kernel_rfl) (by kernel_rfl)
      (OpenSpec.preRow_of_cond 8 hx (by kernel_rfl) (fun k hk => by cases hk) (by kernel_rfl) (laid_met os))) ?_
  intro W base args ds gs before hval hW _ _ _ hL _ _
  exact contract H enc W base args ds gs before hval hW hL

theorem said : Rows.ShaNamesSaid :=
  OpenClaim.holds_of_cond 6 Tryd.f6 rfl rfl rfl rfl rfl rfl rfl ⟨rfl, rfl, rfl, rfl, rfl⟩ rfl rfl rfl rfl rfl (by kernel_rfl) Tryd.func6 (by kernel_rfl)
    (of_decide_eq_true (by kernel_rfl)) (by unfold Func.isWrapper; first | (rw [if_pos (by decide +kernel)]; kernel_rfl) | (rw [if_neg (by decide +kernel)]; exact ⟨rfl, rfl⟩))
    (fun os started H enc _ F => by rw [OpenClaim.pre_eq_preRow]; exact lifted os started H enc F)

theorem plain (f : FuncId) (fn : Func) (hf : Tryd.pinned.checked.prog.funcNamed "tallystick/tallysticklaw01.ShaNames" = some f) (hfn : Tryd.pinned.checked.prog.funcs[f]? = some fn) :
    false = Tryd.pinned.checked.prog.looks [] ∧ ∀ (j : Nat) t, fn.params[j]? = some t → Tryd.pinned.checked.prog.wantsStandIn t = false := by
  obtain rfl : f = 6 := Option.some.inj ((show Tryd.prog.funcNamed "tallystick/tallysticklaw01.ShaNames" = some 6 by kernel_rfl).symm.trans hf) |>.symm
  obtain rfl : fn = Tryd.f6 := (Option.some.inj (Tryd.func6.symm.trans hfn)).symm
  refine ⟨by kernel_rfl, fun j t ht => ?_⟩
  rw [Tryd.params6] at ht
  match j, ht with
  | 0, ht => obtain rfl : 9 = t := by simpa using ht
             exact (show Tryd.prog.wantsStandIn 9 = false by kernel_rfl)
  | 1, ht => obtain rfl : 31 = t := by simpa using ht
             exact (show Tryd.prog.wantsStandIn 31 = false by kernel_rfl)
  | 2, ht => obtain rfl : 34 = t := by simpa using ht
             exact (show Tryd.prog.wantsStandIn 34 = false by kernel_rfl)

end shaNames
theorem shaNames_card : Rows.ShaNamesCardSaid :=
  Claim7.holds_tied_plain_at .later [] _ _ _ _ shaNames.said (fun _ h => by cases h) (by kernel_rfl) (fun _ h => by cases h) shaNames_row_tie rfl ⟨rfl, rfl⟩ (by kernel_rfl) rfl shaNames.plain (by kernel_rfl)
end Go.Proofs.YtdmeeghgbiffmaaDoor
