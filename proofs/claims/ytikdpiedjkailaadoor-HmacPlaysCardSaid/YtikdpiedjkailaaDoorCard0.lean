/- What the seat's cards share: the readings of arguments, the end of a law whose arguments nobody changes, and a world for the witness. -/
import Derived.Test.YtikdpiedjkailaaDoorCards
import Derived.Test.YtikdpiedjkailaaDoorTie
import Derived.Test.YtikdpiedjkailaaDoorT21
import Derived.Test.YtikdpiedjkailaaDoorT22
import Derived.WalkKit
import Derived.ProofKit
import Derived.OpenShut
import Derived.Deep.DeepHandedRow
import Derived.Lib.LaidTab
namespace Go.Proofs.YtikdpiedjkailaaDoor
open Go.ChangeShapes Go.WideShapes Go.ChangeAt Go.RowKit

theorem own : ownKnob Tryd.prog.godebug = none := by kernel_rfl

set_option maxRecDepth 100000 in
/-- As 'open_hash', and the reading is that of the hash. -/
theorem open_hash' {H : Type} {enc : TypeId × Value → H} {W : World} {b0 base : Nat} {sp : Nat → Bool} {held : Bool} {v : Value} {d : DataW H} {p : List MemPlace}
    (hval : Value.okWide Tryd.prog W .any b0 28 v) (hd : DataW.Trod enc Tryd.prog W base sp held 28 v d p) :
    ∃ g : Nat → UInt8, v = .agg (hv g) ∧ d = hashData g ∧ p = [] := by
  obtain ⟨g, rfl⟩ := open_hash hval hd
  refine ⟨g, rfl, ?_⟩
  obtain ⟨fuel, hf⟩ := hd
  obtain ⟨xs, m, _, hx, hcl, hxl, hget⟩ := DataW.trod_array Tryd.underlying28 hf
  have hm : ∃ m', m = m' + 1 := by
    cases m with
    | zero =>
      have h1 := hget 0 (by omega)
      rw [List.getElem?_eq_getElem (by omega)] at h1
      simp [DataW.trod] at h1
    | succ m => exact ⟨m, rfl⟩
  obtain ⟨m', rfl⟩ := hm
  have hxs : xs = (List.range 32).map fun i => ((.lit (.int .u8 ((g i).toNat : Int)) : DataW H), ([] : List MemPlace)) := by
    apply List.ext_getElem?
    intro i
    by_cases hi : i < 32
    · rw [← hget i hi]
      rw [show Tryd.prog.cellsOf 5 = 1 from cells5]
      have e := hv_one g i hi
      rw [show (Value.agg (hv g)).cells.toList = (hv g).toList from rfl, e, trod_int_mk m' Tryd.underlying5 (wf_byte _)]
      simp [hi]
    · rw [List.getElem?_eq_none (by omega), List.getElem?_eq_none (by simp; omega)]
  rw [hxs] at hx
  cases hx
  exact ⟨by simp [hashData, List.map_map, Function.comp_def], by simp [List.flatMap]⟩

/-- The end of a law whose row asks not for the readings again, and that left all elder blocks as they were. -/
theorem post_of_ch {H : Type} {enc : TypeId × Value → H} {f : Func} {s : ChangeSpec} {apart fresh handsOn : Bool} {W W' : World} {args : Array Value} {v : Value} {ds gs : List (DataW H)} {before pa pv : List MemPlace}
    (hW : DataW.Whole enc Tryd.prog f.params.toList s.vars apart W args.toList ds gs before)
    (hres : ∀ (b : Nat) (sp : Nat → Bool) (hd : Bool), DataW.TrodAll enc Tryd.prog W' b sp hd f.resultTypes.toList (v.resultList f.resultTypes.size) (s.fn H (ds ++ gs)).results [])
    (hargs : ∀ sp : Nat → Bool, (∀ p ∈ before, sp p.block = true) → DataW.TrodAll enc Tryd.prog W' 0 sp true f.params.toList args.toList (s.fn H (ds ++ gs)).args pa)
    (hvars : ∀ sp : Nat → Bool, (∀ p ∈ before, sp p.block = true) → DataW.TrodVars enc Tryd.prog W' sp s.vars (s.fn H (ds ++ gs)).vars pv)
    (hk : Ch (fun _ => False) W W') :
    s.post enc Tryd.prog f apart fresh handsOn false W args v W' := by
  have hold : ∀ p ∈ before, (fun b => decide (b < W.heap.size)) p.block = true := fun p hp => by simpa using hW.lt p hp
  exact ⟨ds, gs, before, [], pa, pv, hW, hres _ _ _, hargs _ hold, hvars _ hold, hk.below.frame _, fun h => by cases h⟩

/-- The table, as its initialiser lays it. -/
def ktab : Array Value := (kts.map fun (n : Nat) => Value.int .u32 (Int.ofNat n)).toArray
noncomputable def laidWorld (os : Os) : World :=
  { World.holding Tryd.prog os ⟨#[], #[], []⟩ with heap := (World.holding Tryd.prog os ⟨#[], #[], []⟩).heap.modify 0 fun
      | .cells _ t frozen => .cells ktab t frozen
      | o => o }
end Go.Proofs.YtikdpiedjkailaaDoor
