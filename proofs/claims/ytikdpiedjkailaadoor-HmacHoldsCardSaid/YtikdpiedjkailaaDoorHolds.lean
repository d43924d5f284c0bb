/- For every key, all parts, every name, every two steps and all numbers HmacHolds returns true, and the bytes read behind the call as they read before; the table of package sha is as the program's text lays it. -/
import Derived.Test.YtikdpiedjkailaaDoorCard0
import Derived.Test.YtikdpiedjkailaaDoorCard3
import Derived.Test.YtikdpiedjkailaaDoorCard5
import Derived.Test.YtikdpiedjkailaaDoorH28
namespace Go.Proofs.YtikdpiedjkailaaDoor
namespace hmacHolds
open Go.ChangeShapes Go.WideShapes Go.ChangeAt Go.RowKit Go.ChangeMaps

set_option maxRecDepth 100000 in
theorem contract (H : Type) (enc : TypeId × Value → H) (W : World) (base : Nat) (args : Array Value) (ds gs : List (DataW H)) (before : List MemPlace)
    (hval : ∀ (j : Nat) t v, Tryd.f8.params[j]? = some t → args[j]? = some v → Value.okWide Tryd.prog W .any base t v)
    (hW : DataW.Whole enc Tryd.prog Tryd.f8.params.toList Rows.hmacHoldsSpec.vars false W args.toList ds gs before) (hL : laidMetH Tryd.prog Rows.hmacHoldsRow.laid W) :
    Calls Tryd.prog 8 args W fun e W' => ∃ v, e = .returned v ∧ Rows.hmacHoldsSpec.post enc Tryd.prog Tryd.f8 false true false false W args v W' := by
  have hW' := hW
  obtain ⟨p, q, hA0, hV, rfl, hfz, hnd⟩ := hW
  have hA : DataW.TrodAll enc Tryd.prog W 0 (fun _ => true) true Tryd.f8.params.toList args.toList ds p := hA0
  rw [Tryd.params8] at hA hval
  obtain ⟨v0, vs0, d0, ds0, p0, q0, hargs, rfl, rfl, h0, r0⟩ := trodAll_cons hA
  obtain ⟨v1, vs1, d1, ds1, p1, q1, rfl, rfl, rfl, h1, r1⟩ := trodAll_cons r0
  obtain ⟨v2, vs2, d2, ds2, p2, q2, rfl, rfl, rfl, h2, r2⟩ := trodAll_cons r1
  obtain ⟨v3, vs3, d3, ds3, p3, q3, rfl, rfl, rfl, h3, r3⟩ := trodAll_cons r2
  obtain ⟨v4, vs4, d4, ds4, p4, q4, rfl, rfl, rfl, h4, r4⟩ := trodAll_cons r3
  obtain ⟨v5, vs5, d5, ds5, p5, q5, rfl, rfl, rfl, h5, r5⟩ := trodAll_cons r4
  obtain ⟨v6, vs6, d6, ds6, p6, q6, rfl, rfl, rfl, h6, r6⟩ := trodAll_cons r5
  obtain ⟨v7, vs7, d7, ds7, p7, q7, rfl, rfl, rfl, h7, r7⟩ := trodAll_cons r6
  obtain ⟨rfl, rfl, rfl⟩ := trodAll_nil r7
  obtain rfl : args = #[v0, v1, v2, v3, v4, v5, v6, v7] := by cases args; simp_all
  obtain ⟨rfl, rfl⟩ := trodVars_none hV
  have hk0 := h0
  obtain ⟨q0', n0, c0, f0, rfl, hb0⟩ := open_bytes (hval 0 22 v0 rfl rfl) h0
  have hk1 := h1
  obtain ⟨sp1, N1, cap1, P1, L1, C1, f1, a1, off1, rfl, hsp1, hP1⟩ := open_parts (hval 1 23 v1 rfl rfl) h1
  obtain ⟨x2, rfl, rfl, rfl, hw2⟩ := open_string Tryd.underlying9 (hval 2 9 v2 rfl rfl) h2
  obtain ⟨x3, rfl, rfl, rfl, hw3⟩ := open_int Tryd.underlying3 (hval 3 3 v3 rfl rfl) h3
  obtain ⟨x4, rfl, rfl, rfl, hw4⟩ := open_int Tryd.underlying3 (hval 4 3 v4 rfl rfl) h4
  obtain ⟨x5, y5, rfl, rfl, rfl, hs5, hn5⟩ := open_step (hval 5 44 v5 rfl rfl) h5
  obtain ⟨x6, y6, rfl, rfl, rfl, hs6, hn6⟩ := open_step (hval 6 44 v6 rfl rfl) h6
  obtain ⟨x7, rfl, rfl, rfl, hw7⟩ := open_int Tryd.underlying3 (hval 7 3 v7 rfl rfl) h7
  clear hA0 hA
  simp only [List.append_nil] at hW'
  have hK := kat_of_laid hL
  have walk : Calls Tryd.prog 8 #[.slice q0' n0 c0, .slice sp1 N1 cap1, .string x2, .int .i64 x3, .int .i64 x4, .agg #[.string x5, .int .u64 (u64n y5)], .agg #[.string x6, .int .u64 (u64n y6)], .int .i64 x7] W fun e w' => e = .returned (.bool true) ∧ Ch (fun _ => False) W w' :=
    holds_law q0' n0 c0 a1 off1 N1 cap1 f0 sp1 P1 L1 C1 f1 x2 x5 x6 x3 x4 x7 y5 y6 W hb0 hsp1 hP1 hK
  refine walk.mono fun e W' ⟨he, hg⟩ => ?_
  subst he
  exact ⟨_, rfl, post_of_ch2 (pv := []) hW' (fun _ _ _ => trodAll_cons_mk (shut_bool Tryd.underlying4 _) trodAll_mk0)
    (trodAll_cons_mk (Below.trod laidOut (by kernel_rfl) (of_decide_eq_true (by kernel_rfl)) hk0 hg.below (fun x hx => hW'.lt x (by simp [hx]))) (trodAll_cons_mk (Below.trod laidOut (by kernel_rfl) (of_decide_eq_true (by kernel_rfl)) hk1 hg.below (fun x hx => hW'.lt x (by simp [hx]))) (trodAll_cons_mk (shut_string Tryd.underlying9 hw2) (trodAll_cons_mk (shut_int Tryd.underlying3 hw3) (trodAll_cons_mk (shut_int Tryd.underlying3 hw4) (trodAll_cons_mk (shut_step hs5 hn5) (trodAll_cons_mk (shut_step hs6 hn6) (trodAll_cons_mk (shut_int Tryd.underlying3 hw7) trodAll_mk0))))))))
    rfl hg⟩

def wargs : Array Value := #[.slice none 0 0, .slice none 0 0, .string ⟨#[]⟩, .int .i64 0, .int .i64 0, .agg #[.string ⟨#[]⟩, .int .u64 (u64n 0)], .agg #[.string ⟨#[]⟩, .int .u64 (u64n 0)], .int .i64 0]
theorem laid_met (os : Os) : laidMet Tryd.prog Rows.hmacHoldsRow.laid ((laidWorld os).forCall (fun _ _ => 0) ⟨#[], wargs, []⟩).memory :=
  laidMet_of_run' 8 (by kernel_rfl) (by kernel_rfl)
theorem reads (os : Os) {H : Type} (enc : TypeId × Value → H) : ∃ places, DataW.whole enc Tryd.prog ((laidWorld os).forCall (fun _ _ => 0) ⟨#[], wargs, []⟩).memory Tryd.f8.params.toList Rows.hmacHoldsSpec.vars false wargs.toList 8 = some ([.nil, .nil, .lit (.string []), .lit (.int .i64 0), .lit (.int .i64 0), .agg [.lit (.string []), .lit (.int .u64 0)], .agg [.lit (.string []), .lit (.int .u64 0)], .lit (.int .i64 0)], [], places) :=
  ⟨[], by kernel_rfl⟩

set_option maxRecDepth 100000 in
theorem lifted (os : Os) (started : os.Started) (H : Type) (enc : TypeId × Value → H) (F : Stop.Interp) :
    ReturnsInHanded {} Tryd.checked os 8 .any ((OpenSpec.ofChange Rows.hmacHoldsSpec).preRow enc Tryd.prog Tryd.f8 Rows.hmacHoldsRow.domain false Rows.hmacHoldsRow.laid) (((OpenSpec.ofChange Rows.hmacHoldsSpec).at F).post enc Tryd.prog Tryd.f8 false true false false) := by
  obtain ⟨places, hx⟩ := reads os enc
  refine returnsInHanded_of_row (C := Tryd.checked) (s := OpenSpec.ofChange Rows.hmacHoldsSpec) own started (by kernel_rfl) Tryd.func8
    (witness_row_at (enc := enc) (C := Tryd.checked) false (laidWorld os) wargs rfl (by kernel_rfl) (by kernel_rfl) (by kernel_rfl)
      (OpenSpec.preRow_of_cond 8 hx (by kernel_rfl) (fun k hk => by cases hk) (by kernel_rfl) (laid_met os))) ?_
  intro W base args ds gs before hval hW _ _ _ hL _ _
  exact contract H enc W base args ds gs before hval hW hL

theorem said : Rows.HmacHoldsSaid :=
  OpenClaim.holds_of_cond 8 Tryd.f8 rfl rfl rfl rfl rfl rfl rfl ⟨rfl, rfl, rfl, rfl, rfl⟩ rfl rfl rfl rfl rfl (by kernel_rfl) Tryd.func8 (by kernel_rfl)
    (of_decide_eq_true (by kernel_rfl)) (by unfold Func.isWrapper; first | (rw [if_pos (by decide +kernel)]; kernel_rfl) | (rw [if_neg (by decide +kernel)]; exact ⟨rfl, rfl⟩))
    (fun os started H enc _ F => by rw [OpenClaim.pre_eq_preRow]; exact lifted os started H enc F)

theorem plain (f : FuncId) (fn : Func) (hf : Tryd.pinned.checked.prog.funcNamed "tallystick/tallysticklaw02.HmacHolds" = some f) (hfn : Tryd.pinned.checked.prog.funcs[f]? = some fn) :
    false = Tryd.pinned.checked.prog.looks [] ∧ ∀ (j : Nat) t, fn.params[j]? = some t → Tryd.pinned.checked.prog.wantsStandIn t = false := by
  obtain rfl : f = 8 := Option.some.inj ((show Tryd.prog.funcNamed "tallystick/tallysticklaw02.HmacHolds" = some 8 by kernel_rfl).symm.trans hf) |>.symm
  obtain rfl : fn = Tryd.f8 := (Option.some.inj (Tryd.func8.symm.trans hfn)).symm
  refine ⟨by kernel_rfl, fun j t ht => ?_⟩
  rw [Tryd.params8] at ht
  match j, ht with
  | 0, ht => obtain rfl : 22 = t := by simpa using ht
             exact (show Tryd.prog.wantsStandIn 22 = false by kernel_rfl)
  | 1, ht => obtain rfl : 23 = t := by simpa using ht
             exact (show Tryd.prog.wantsStandIn 23 = false by kernel_rfl)
  | 2, ht => obtain rfl : 9 = t := by simpa using ht
             exact (show Tryd.prog.wantsStandIn 9 = false by kernel_rfl)
  | 3, ht => obtain rfl : 3 = t := by simpa using ht
             exact (show Tryd.prog.wantsStandIn 3 = false by kernel_rfl)
  | 4, ht => obtain rfl : 3 = t := by simpa using ht
             exact (show Tryd.prog.wantsStandIn 3 = false by kernel_rfl)
  | 5, ht => obtain rfl : 44 = t := by simpa using ht
             exact (show Tryd.prog.wantsStandIn 44 = false by kernel_rfl)
  | 6, ht => obtain rfl : 44 = t := by simpa using ht
             exact (show Tryd.prog.wantsStandIn 44 = false by kernel_rfl)
  | 7, ht => obtain rfl : 3 = t := by simpa using ht
             exact (show Tryd.prog.wantsStandIn 3 = false by kernel_rfl)

end hmacHolds
theorem hmacHolds_card : Rows.HmacHoldsCardSaid :=
  Claim7.holds_tied_plain_at .later [] _ _ _ _ hmacHolds.said (fun _ h => by cases h) (by kernel_rfl) (fun _ h => by cases h) hmacHolds_row_tie rfl ⟨rfl, rfl⟩ (by kernel_rfl) rfl hmacHolds.plain (by kernel_rfl)
end Go.Proofs.YtikdpiedjkailaaDoor
