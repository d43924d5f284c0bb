/- Arguments that are slices of numbers, fees, slices of fees. -/
import Derived.Test.YtcceialiedaccaaDoorCard0
import Derived.Test.YtcceialiedaccaaDoorA10
import Derived.Deep.Slices
import Derived.Carry
import Derived.Deep.SlicePairs
import Derived.Lib.SmallJoins
import Derived.Deep.Fields
namespace Go.Proofs.YtcceialiedaccaaDoor
open Go.ChangeShapes Go.WideShapes Go.ChangeAt Go.RowKit Go.Deep

theorem laidOut : laidOutB Tryd.prog = true := by kernel_rfl
theorem cells2 : Tryd.prog.cellsOf 2 = 1 := by kernel_rfl
theorem cells40 : Tryd.prog.cellsOf 40 = 2 := by kernel_rfl
theorem add_at' (g o j : Nat) : (⟨g, o, none⟩ : Addr).add j = ⟨g, o + j, none⟩ := by unfold Addr.add; split <;> simp_all
def intOf' : Value → Int | .int _ n => n | _ => 0
set_option maxRecDepth 100000 in
theorem open_nums {H : Type} {enc : TypeId × Value → H} {W : World} {b0 : Nat} {v : Value} {d : DataW H} {p : List MemPlace} (hval : Value.okWide Tryd.prog W .any b0 22 v) (h : DataW.Trod enc Tryd.prog W 0 (fun _ => true) true 22 v d p) :
    ∃ (q : Option Addr) (n c : Nat) (z : Nat → Int), v = .slice q n c ∧ IntsAt W q n z ∧ (q = none → n = 0 ∧ c = 0) := by
  obtain ⟨a1, len, cap, rfl⟩ := okWide_slice Tryd.underlying22 hval
  obtain ⟨fuel, hf⟩ := h
  rcases Go.ChangeShapes.open_ints Tryd.underlying22 Tryd.underlying2 cells2 hf with ⟨hcs, hx⟩ | ⟨a, len', cap', zs, hcs, _, hl, hm, hz, hx, hcell, hwz⟩
  · simp [Value.cells] at hcs
    obtain ⟨rfl, rfl, rfl⟩ := hcs
    exact ⟨none, 0, 0, fun _ => 0, rfl, .inr rfl, fun _ => ⟨rfl, rfl⟩⟩
  · simp [Value.cells] at hcs
    obtain ⟨rfl, rfl, rfl⟩ := hcs
    simp only [if_true] at hz
    have hspot : a.spot = none := by
      simp only [Value.okWide, Tryd.underlying22, Cell.okWide, Cell.ok] at hval
      exact hval.2.2.2.1
    obtain ⟨ab, ao, spot⟩ := a
    simp only at hspot
    subst hspot
    by_cases h0 : len = 0
    · exact ⟨_, _, _, fun _ => 0, rfl, .inr h0, fun h => by cases h⟩
    refine ⟨_, _, _, fun j => zs.getD j 0, rfl, .inl ⟨ab, ao, rfl, ?_, fun j hj => ?_⟩, fun h => by cases h⟩
    · have hc := hcell 0 (by omega)
      exact cell_lt hc
    · have hc := hcell j (by omega)
      rw [add_at'] at hc
      exact hc
set_option maxRecDepth 100000 in
theorem open_fees {H : Type} {enc : TypeId × Value → H} {W : World} {b0 : Nat} {v : Value} {d : DataW H} {p : List MemPlace} (hval : Value.okWide Tryd.prog W .any b0 44 v) (h : DataW.Trod enc Tryd.prog W 0 (fun _ => true) true 44 v d p) :
    ∃ (sp : Option Addr) (N cap : Nat) (b r : Nat → Int), v = .slice sp N cap ∧ FeesAt W sp N b r := by
  obtain ⟨a1, len, cap, rfl⟩ := okWide_slice Tryd.underlying44 hval
  obtain ⟨fuel, hf⟩ := h
  rcases Go.Deep.open_slice_pairs Tryd.underlying44 Tryd.underlying40 cells40 rfl rfl cells2 cells2 hf with ⟨hcs, _⟩ | ⟨a, len', cap', m, n, V0, V1, D0, D1, P0, P1, hcs, _, hl, _, hm, _, hx⟩
  · simp [Value.cells] at hcs
    obtain ⟨rfl, rfl, rfl⟩ := hcs
    exact ⟨none, 0, 0, fun _ => 0, fun _ => 0, rfl, .inr rfl⟩
  · simp [Value.cells] at hcs
    obtain ⟨rfl, rfl, rfl⟩ := hcs
    simp only [if_true] at hm
    by_cases h0 : len = 0
    · exact ⟨some a, len, cap, fun _ => 0, fun _ => 0, rfl, .inr h0⟩
    · have hs := World.cell?_spot (hx 0 (by omega)).1
      obtain ⟨ab, ao, spot⟩ := a
      have hspot : spot = none := by simpa [Addr.add] using hs
      subst hspot
      refine ⟨some ⟨ab, ao, none⟩, len, cap, fun i => intOf' (V0 i), fun i => intOf' (V1 i), rfl, .inl ⟨ab, ao, rfl, cell_lt (hx 0 (by omega)).1, fun i hi => ?_⟩⟩
      obtain ⟨h1, h2, h3, h4⟩ := hx i (by omega)
      obtain ⟨y, hy1, _, _⟩ := DataW.trod_int Tryd.underlying2 h3
      obtain ⟨z, hz1, _, hz2⟩ := DataW.trod_int Tryd.underlying2 h4
      have e1 : V0 i = .int .i64 y := by simpa using hy1
      have e2 : V1 i = .int .i64 z := by simpa using hz1
      rw [add_at'] at h1 h2
      refine ⟨h1.trans (by show some (V0 i) = some (Value.int .i64 (intOf' (V0 i))); rw [e1]; rfl), ?_⟩
      rw [show ao + i * 2 + 1 = ao + (i * 2 + 1) by omega]
      refine h2.trans ?_
      show some (V1 i) = some (Value.int .i64 (intOf' (V1 i)))
      rw [e2]; rfl
set_option maxRecDepth 100000 in
theorem open_fee {H : Type} {enc : TypeId × Value → H} {W : World} {b0 base : Nat} {sp : Nat → Bool} {held : Bool} {v : Value} {d : DataW H} {p : List MemPlace} (hval : Value.okWide Tryd.prog W .any b0 40 v) (h : DataW.Trod enc Tryd.prog W base sp held 40 v d p) :
    ∃ (b r : Int), v = .agg #[.int .i64 b, .int .i64 r] ∧ d = .agg [.lit (.int .i64 b), .lit (.int .i64 r)] ∧ p = [] ∧ (Lit.int .i64 b).wf = true ∧ (Lit.int .i64 r).wf = true := by
  obtain ⟨v0, v1, y0, y1, n, rfl, rfl, rfl, h0, h1⟩ := Go.Joins.open_agg2 Tryd.underlying40 (by kernel_rfl) cells40 hval h
  obtain ⟨y, hy1, hy2, hy3⟩ := DataW.trod_int Tryd.underlying2 h0
  obtain ⟨z, hz1, hz2, hz3⟩ := DataW.trod_int Tryd.underlying2 h1
  obtain rfl : v0 = .int .i64 y := by simpa using hy1
  obtain rfl : v1 = .int .i64 z := by simpa using hz1
  subst hy2
  subst hz2
  exact ⟨y, z, rfl, rfl, rfl, hy3, hz3⟩
set_option maxRecDepth 100000 in
theorem shut_fee {H : Type} {enc : TypeId × Value → H} {W : World} {base : Nat} {sp : Nat → Bool} {held : Bool} {b r : Int} (hb : (Lit.int .i64 b).wf = true) (hr : (Lit.int .i64 r).wf = true) :
    DataW.Trod enc Tryd.prog W base sp held 40 (.agg #[.int .i64 b, .int .i64 r]) (.agg [.lit (.int .i64 b), .lit (.int .i64 r)]) [] :=
  Go.Joins.shut_agg2 (y0 := (.lit (.int .i64 b), [])) (y1 := (.lit (.int .i64 r), [])) Tryd.underlying40 (by kernel_rfl) cells40
    ⟨1, by simp [DataW.trod, Tryd.underlying2, hb]⟩ ⟨1, by simp [DataW.trod, Tryd.underlying2, hr]⟩
/-- The end of a law whose row asks not for the readings again, and that left all elder blocks as they were. -/
theorem post_of_ch2 {H : Type} {enc : TypeId × Value → H} {f : Func} {s : ChangeSpec} {apart fresh handsOn : Bool} {W W' : World} {args : Array Value} {v : Value} {ds gs : List (DataW H)} {before pa pv : List MemPlace}
    (hW : DataW.Whole enc Tryd.prog f.params.toList s.vars apart W args.toList ds gs before)
    (hres : ∀ (b : Nat) (sp : Nat → Bool) (hd : Bool), DataW.TrodAll enc Tryd.prog W' b sp hd f.resultTypes.toList (v.resultList f.resultTypes.size) (s.fn H (ds ++ gs)).results [])
    (hargs : DataW.TrodAll enc Tryd.prog W' 0 (fun b => decide (b < W.heap.size)) true f.params.toList args.toList (s.fn H (ds ++ gs)).args pa)
    (hvars : DataW.TrodVars enc Tryd.prog W' (fun b => decide (b < W.heap.size)) s.vars (s.fn H (ds ++ gs)).vars pv)
    (hk : Ch (fun _ => False) W W') :
    s.post enc Tryd.prog f apart fresh handsOn false W args v W' :=
  ⟨ds, gs, before, [], pa, pv, hW, hres _ _ _, hargs, hvars, hk.below.frame _, fun h => by cases h⟩
end Go.Proofs.YtcceialiedaccaaDoor
