/- Arguments that are slices of bytes. -/
import Derived.Test.YtikdpiedjkailaaDoorCard0
import Derived.Test.YtikdpiedjkailaaDoorR5
import Derived.Deep.Slices
import Derived.Carry
namespace Go.Proofs.YtikdpiedjkailaaDoor
open Go.ChangeShapes Go.WideShapes Go.ChangeAt Go.RowKit

theorem laidOut : laidOutB Tryd.prog = true := by kernel_rfl
/-- The byte at an address. -/
def memB (W : World) (a : Addr) : UInt8 := match W.cell? a with | some (.int .u8 n) => UInt8.ofNat n.toNat | _ => 0
theorem memB_eq {W : World} {a : Addr} {n : Int} (h : W.cell? a = some (.int .u8 n)) (hw : (Lit.int .u8 n).wf = true) : W.cell? a = some (.int .u8 ((memB W a).toNat : Int)) := by
  have hb := bounds_u8 hw
  unfold memB
  rw [h]
  congr 2
  rw [UInt8.toNat_ofNat']
  omega
set_option maxRecDepth 100000 in
theorem open_bytes {H : Type} {enc : TypeId × Value → H} {W : World} {b0 : Nat} {v : Value} {d : DataW H} {p : List MemPlace} (hval : Value.okWide Tryd.prog W .any b0 22 v) (h : DataW.Trod enc Tryd.prog W 0 (fun _ => true) true 22 v d p) :
    ∃ (q : Option Addr) (n c : Nat) (f : Nat → UInt8), v = .slice q n c ∧ BytesAt W q n c f := by
  obtain ⟨a1, len, cap, rfl⟩ := okWide_slice Tryd.underlying22 hval
  obtain ⟨fuel, hf⟩ := h
  rcases Go.ChangeShapes.open_ints Tryd.underlying22 Tryd.underlying5 cells5 hf with ⟨hcs, hx⟩ | ⟨a, len', cap', zs, hcs, _, hl, hm, hz, hx, hcell, hwz⟩
  · simp [Value.cells] at hcs
    obtain ⟨rfl, rfl, rfl⟩ := hcs
    exact ⟨none, 0, 0, fun _ => 0, rfl, .inr ⟨rfl, rfl, rfl⟩⟩
  · simp [Value.cells] at hcs
    obtain ⟨rfl, rfl, rfl⟩ := hcs
    simp only [if_true] at hz
    have hspot : a.spot = none := by
      simp only [Value.okWide, Tryd.underlying22, Cell.okWide, Cell.ok] at hval
      exact hval.2.2.2.1
    obtain ⟨ab, ao, spot⟩ := a
    simp only at hspot
    subst hspot
    refine ⟨_, _, _, fun j => memB W ⟨ab, ao + j, none⟩, rfl, .inl ⟨ab, ao, rfl, hl, fun j hj => ?_⟩⟩
    have hc := hcell j (by omega)
    rw [show (⟨ab, ao, none⟩ : Addr).add j = ⟨ab, ao + j, none⟩ by simp [Addr.add]] at hc
    refine memB_eq hc (hwz _ ?_)
    rw [List.getD_eq_getElem?_getD, List.getElem?_eq_getElem (by omega)]; simp
/-- The end of a law whose row asks not for the readings again, and that left all elder blocks as they were. -/
theorem post_of_ch2 {H : Type} {enc : TypeId × Value → H} {f : Func} {s : ChangeSpec} {apart fresh handsOn : Bool} {W W' : World} {args : Array Value} {v : Value} {ds gs : List (DataW H)} {before pa pv : List MemPlace}
    (hW : DataW.Whole enc Tryd.prog f.params.toList s.vars apart W args.toList ds gs before)
    (hres : ∀ (b : Nat) (sp : Nat → Bool) (hd : Bool), DataW.TrodAll enc Tryd.prog W' b sp hd f.resultTypes.toList (v.resultList f.resultTypes.size) (s.fn H (ds ++ gs)).results [])
    (hargs : DataW.TrodAll enc Tryd.prog W' 0 (fun b => decide (b < W.heap.size)) true f.params.toList args.toList (s.fn H (ds ++ gs)).args pa)
    (hvars : DataW.TrodVars enc Tryd.prog W' (fun b => decide (b < W.heap.size)) s.vars (s.fn H (ds ++ gs)).vars pv)
    (hk : Ch (fun _ => False) W W') :
    s.post enc Tryd.prog f apart fresh handsOn false W args v W' :=
  ⟨ds, gs, before, [], pa, pv, hW, hres _ _ _, hargs, hvars, hk.below.frame _, fun h => by cases h⟩
end Go.Proofs.YtikdpiedjkailaaDoor
