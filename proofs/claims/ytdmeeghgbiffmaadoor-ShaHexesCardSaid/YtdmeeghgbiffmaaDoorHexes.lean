/- For every text, every hash, every place and every sign ShaHexes returns true, and its arguments read behind the call as they read before; the table of package sha is as the program's text lays it. -/
import Derived.Test.YtdmeeghgbiffmaaDoorCard0
import Derived.Test.YtdmeeghgbiffmaaDoorT19
namespace Go.Proofs.YtdmeeghgbiffmaaDoor
namespace shaHexes
open Go.ChangeShapes Go.WideShapes Go.ChangeAt Go.RowKit Go.ChangeMaps

theorem contract (H : Type) (enc : TypeId × Value → H) (W : World) (base : Nat) (args : Array Value) (ds gs : List (DataW H)) (before : List MemPlace)
    (hval : ∀ (j : Nat) t v, Tryd.f7.params[j]? = some t → args[j]? = some v → Value.okWide Tryd.prog W .any base t v)
    (hW : DataW.Whole enc Tryd.prog Tryd.f7.params.toList Rows.shaHexesSpec.vars false W args.toList ds gs before) (hL : laidMetH Tryd.prog Rows.shaHexesRow.laid W) :
    Calls Tryd.prog 7 args W fun e W' => ∃ v, e = .returned v ∧ Rows.shaHexesSpec.post enc Tryd.prog Tryd.f7 false true false false W args v W' := by
  have hW' := hW
  obtain ⟨p, q, hA0, hV, rfl, hfz, hnd⟩ := hW
  have hA : DataW.TrodAll enc Tryd.prog W 0 (fun _ => true) true Tryd.f7.params.toList args.toList ds p := hA0
  rw [Tryd.params7] at hA hval
  obtain ⟨v0, vs0, d0, ds0, p0, q0, hargs, rfl, rfl, h0, r0⟩ := trodAll_cons hA
  obtain ⟨v1, vs1, d1, ds1, p1, q1, rfl, rfl, rfl, h1, r1⟩ := trodAll_cons r0
  obtain ⟨v2, vs2, d2, ds2, p2, q2, rfl, rfl, rfl, h2, r2⟩ := trodAll_cons r1
  obtain ⟨v3, vs3, d3, ds3, p3, q3, rfl, rfl, rfl, h3, r3⟩ := trodAll_cons r2
  obtain ⟨rfl, rfl, rfl⟩ := trodAll_nil r3
  obtain rfl : args = #[v0, v1, v2, v3] := by cases args; simp_all
  obtain ⟨rfl, rfl⟩ := trodVars_none hV
  obtain ⟨s, rfl, rfl, rfl, hs⟩ := open_string Tryd.underlying9 (hval 0 9 v0 rfl rfl) h0
  obtain ⟨g, rfl, rfl, rfl⟩ := open_hash' (hval 1 31 v1 rfl rfl) h1
  obtain ⟨x, rfl, rfl, rfl, hx⟩ := open_int Tryd.underlying3 (hval 2 3 v2 rfl rfl) h2
  obtain ⟨c, rfl, rfl, rfl, hc⟩ := open_int Tryd.underlying5 (hval 3 5 v3 rfl rfl) h3
  clear hA0 hA
  simp only [List.append_nil] at hW'
  have hK := kat_of_laid hL
  have walk : Calls Tryd.prog 7 #[.string s, .agg (hv g), .int .i64 x, .int .u8 c] W fun e w' => e = .returned (.bool true) ∧ Ch (fun _ => False) W w' := by
    by_cases h : 500 < s.size ∨ x < 0 ∨ 63 < x
    · exact hexes_out s g x c W hK h
    · obtain ⟨c0, c1⟩ := wf_u8 hc
      have e1 : x = ((x.toNat : Nat) : Int) := by omega
      have e2 : c = (((UInt8.ofNat c.toNat).toNat : Nat) : Int) := by
        rw [UInt8.toNat_ofNat']
        omega
      rw [e1, e2]
      exact hexes_in s g x.toNat (UInt8.ofNat c.toNat) W hK (by omega) (by omega)
  refine walk.mono fun e W' ⟨he, hg⟩ => ?_
  subst he
  exact ⟨_, rfl, post_of_ch (pa := []) (pv := []) hW' (fun _ _ _ => trodAll_cons_mk (shut_bool Tryd.underlying4 _) trodAll_mk0)
    (fun _ _ => trodAll_cons_mk (shut_string Tryd.underlying9 hs) (trodAll_cons_mk (shut_hash g) (trodAll_cons_mk (shut_int Tryd.underlying3 hx) (trodAll_cons_mk (shut_int Tryd.underlying5 hc) trodAll_mk0))))
    (fun _ _ => rfl) hg⟩

def wargs : Array Value := #[.string ⟨#[]⟩, .agg (hv fun _ => 0), .int .i64 0, .int .u8 0]
theorem laid_met (os : Os) : laidMet Tryd.prog Rows.shaHexesRow.laid ((laidWorld os).forCall (fun _ _ => 0) ⟨#[], wargs, []⟩).memory :=
  laidMet_of_run' 8 (by kernel_rfl) (by kernel_rfl)
theorem reads (os : Os) {H : Type} (enc : TypeId × Value → H) : ∃ places, DataW.whole enc Tryd.prog ((laidWorld os).forCall (fun _ _ => 0) ⟨#[], wargs, []⟩).memory Tryd.f7.params.toList Rows.shaHexesSpec.vars false wargs.toList 8 = some ([.lit (.string []), hashData fun _ => 0, .lit (.int .i64 0), .lit (.int .u8 0)], [], places) :=
  ⟨[], by kernel_rfl⟩

set_option maxRecDepth 100000 in
theorem lifted (os : Os) (started : os.Started) (H : Type) (enc : TypeId × Value → H) (F : Stop.Interp) :
    ReturnsInHanded {} Tryd.checked os 7 .any ((OpenSpec.ofChange Rows.shaHexesSpec).preRow enc Tryd.prog Tryd.f7 Rows.shaHexesRow.domain false Rows.shaHexesRow.laid) (((OpenSpec.ofChange Rows.shaHexesSpec).at F).post enc Tryd.prog Tryd.f7 false true false false) := by
  obtain ⟨places, hx⟩ := reads os enc
  refine returnsInHanded_of_row (C := Tryd.checked) (s := OpenSpec.ofChange Rows.shaHexesSpec) own started (by kernel_rfl) Tryd.func7
    (witness_row_at (enc := enc) (C := Tryd.checked) false (laidWorld os) wargs rfl (by kernel_rfl) (by kernel_rfl) (by kernel_rfl)
      (OpenSpec.preRow_of_cond 8 hx (by kernel_rfl) (fun k hk => by cases hk) (by kernel_rfl) (laid_met os))) ?_
  intro W base args ds gs before hval hW _ _ _ hL _ _
  exact contract H enc W base args ds gs before hval hW hL

theorem said : Rows.ShaHexesSaid :=
  OpenClaim.holds_of_cond 7 Tryd.f7 rfl rfl rfl rfl rfl rfl rfl ⟨rfl, rfl, rfl, rfl, rfl⟩ rfl rfl rfl rfl rfl (by kernel_rfl) Tryd.func7 (by kernel_rfl)
    (of_decide_eq_true (by kernel_rfl)) (by unfold Func.isWrapper; first | (rw [if_pos (by decide +kernel)]; kernel_rfl) | (rw [if_neg (by decide +kernel)]; exact ⟨rfl, rfl⟩))
    (fun os started H enc _ F => by rw [OpenClaim.pre_eq_preRow]; exact lifted os started H enc F)

theorem plain (f : FuncId) (fn : Func) (hf : Tryd.pinned.checked.prog.funcNamed "tallystick/tallysticklaw01.ShaHexes" = some f) (hfn : Tryd.pinned.checked.prog.funcs[f]? = some fn) :
    false = Tryd.pinned.checked.prog.looks [] ∧ ∀ (j : Nat) t, fn.params[j]? = some t → Tryd.pinned.checked.prog.wantsStandIn t = false := by
  obtain rfl : f = 7 := Option.some.inj ((show Tryd.prog.funcNamed "tallystick/tallysticklaw01.ShaHexes" = some 7 by kernel_rfl).symm.trans hf) |>.symm
  obtain rfl : fn = Tryd.f7 := (Option.some.inj (Tryd.func7.symm.trans hfn)).symm
  refine ⟨by kernel_rfl, fun j t ht => ?_⟩
  rw [Tryd.params7] at ht
  match j, ht with
  | 0, ht => obtain rfl : 9 = t := by simpa using ht
             exact (show Tryd.prog.wantsStandIn 9 = false by kernel_rfl)
  | 1, ht => obtain rfl : 31 = t := by simpa using ht
             exact (show Tryd.prog.wantsStandIn 31 = false by kernel_rfl)
  | 2, ht => obtain rfl : 3 = t := by simpa using ht
             exact (show Tryd.prog.wantsStandIn 3 = false by kernel_rfl)
  | 3, ht => obtain rfl : 5 = t := by simpa using ht
             exact (show Tryd.prog.wantsStandIn 5 = false by kernel_rfl)

end shaHexes
theorem shaHexes_card : Rows.ShaHexesCardSaid :=
  Claim7.holds_tied_plain_at .later [] _ _ _ _ shaHexes.said (fun _ h => by cases h) (by kernel_rfl) (fun _ h => by cases h) shaHexes_row_tie rfl ⟨rfl, rfl⟩ (by kernel_rfl) rfl shaHexes.plain (by kernel_rfl)
end Go.Proofs.YtdmeeghgbiffmaaDoor
