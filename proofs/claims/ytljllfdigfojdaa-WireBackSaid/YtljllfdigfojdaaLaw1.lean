/- Arguments that are slices: of bytes, and of parts. -/
import Derived.Test.YtljllfdigfojdaaLaw0
import Derived.Test.YtljllfdigfojdaaV13
import Derived.Deep.Slices
import Derived.Carry
namespace Go.Proofs.Ytljllfdigfojdaa
open Go.ChangeShapes Go.WideShapes Go.ChangeAt Go.RowKit

theorem laidOut : laidOutB Try.prog = true := by kernel_rfl
theorem cells5 : Try.prog.cellsOf 5 = 1 := by kernel_rfl
theorem cells24 : Try.prog.cellsOf 27 = 1 := by kernel_rfl
/-- The byte at an address. -/
def byteAt (W : World) (a : Addr) : UInt8 := match W.cell? a with | some (.int .u8 n) => UInt8.ofNat n.toNat | _ => 0
theorem byteAt_eq {W : World} {a : Addr} {n : Int} (h : W.cell? a = some (.int .u8 n)) (hw : (Lit.int .u8 n).wf = true) : W.cell? a = some (.int .u8 ((byteAt W a).toNat : Int)) := by
  have hb := bounds_u8 hw
  unfold byteAt
  rw [h]
  congr 2
  rw [UInt8.toNat_ofNat']
  omega
theorem wf_byte (c : UInt8) : (Lit.int .u8 (c.toNat : Int)).wf = true := by
  have := c.toNat_lt
  simp [Lit.wf, IntKind.min, IntKind.max, IntKind.signed, IntKind.bits]
  omega
/-- A slice of bytes that was read: its value, and what lies in it. -/
theorem open_bytesV {H : Type} {enc : TypeId × Value → H} {W : World} {fuel : Nat} {v : Value} {x : DataW H × List MemPlace} (h : DataW.trod enc Try.prog W 0 (fun _ => true) true fuel 27 [v] = some x) :
    ∃ (p : Option Addr) (n c : Nat) (f : Nat → UInt8), v = .slice p n c ∧ n ≤ c ∧ c ≤ maxLen ∧ ((∃ a y, p = some ⟨a, y, none⟩ ∧ a < W.heap.size ∧ ∀ j, j < n → W.cell? ⟨a, y + j, none⟩ = some (.int .u8 ((f j).toNat : Int))) ∨ (n = 0 ∧ (p = none → c = 0))) := by
  rcases Go.ChangeShapes.open_ints Try.underlying27 Try.underlying5 cells5 h with ⟨hcs, hx⟩ | ⟨a, len, cap, zs, hcs, _, hl, hm, hz, hx, hcell, hwz⟩
  · obtain rfl : v = .slice none 0 0 := by simpa using hcs
    exact ⟨none, 0, 0, fun _ => 0, rfl, Nat.le_refl _, Nat.zero_le _, .inr ⟨rfl, fun _ => rfl⟩⟩
  · obtain rfl : v = .slice (some a) len cap := by simpa using hcs
    simp only [if_true] at hz
    refine ⟨some a, len, cap, fun j => byteAt W (a.add j), rfl, hl, hm, ?_⟩
    by_cases h0 : len = 0
    · exact .inr ⟨h0, fun h => by cases h⟩
    · left
      obtain ⟨ab, ao, spot⟩ := a
      have hspot : spot = none := by simpa [Addr.add] using World.cell?_spot (hcell 0 (by omega))
      subst hspot
      refine ⟨ab, ao, rfl, cell_lt (hcell 0 (by omega)), fun j hj => ?_⟩
      have hc := hcell j (by omega)
      have hw : (Lit.int .u8 (zs.getD j 0)).wf = true := hwz _ (by
        rw [List.getD_eq_getElem?_getD, List.getElem?_eq_getElem (by omega)]; simp)
      have e := byteAt_eq hc hw
      rw [show (⟨ab, ao, none⟩ : Addr).add j = ⟨ab, ao + j, none⟩ by simp [Addr.add]] at e
      show W.cell? _ = Option.some (Value.int .u8 ((byteAt W ((⟨ab, ao, none⟩ : Addr).add j)).toNat : Int))
      rw [show (⟨ab, ao, none⟩ : Addr).add j = ⟨ab, ao + j, none⟩ by simp [Addr.add]]
      exact e
set_option maxRecDepth 100000 in
theorem open_bytes {H : Type} {enc : TypeId × Value → H} {W : World} {b0 : Nat} {v : Value} {d : DataW H} {p : List MemPlace} (hval : Value.okWide Try.prog W .any b0 27 v) (h : DataW.Trod enc Try.prog W 0 (fun _ => true) true 27 v d p) :
    ∃ (q : Option Addr) (n c : Nat) (f : Nat → UInt8), v = .slice q n c ∧ n ≤ c ∧ BytesAt W q n c f := by
  obtain ⟨a1, len, cap, rfl⟩ := okWide_slice Try.underlying27 hval
  obtain ⟨fuel, hf⟩ := h
  obtain ⟨q, n, c, f, e, hnc, _, hb⟩ := open_bytesV (v := .slice a1 len cap) hf
  cases e
  refine ⟨_, _, _, f, rfl, hnc, ?_⟩
  rcases hb with ⟨a, y, h1, h2, h3⟩ | h
  · exact .inl ⟨a, y, h1, hnc, h2, h3⟩
  · exact .inr h
def ptrOf : Value → Option Addr | .slice p _ _ => p | _ => none
def lenOf' : Value → Nat | .slice _ n _ => n | _ => 0
def capOf' : Value → Nat | .slice _ _ c => c | _ => 0
def partBy (W : World) (V : Nat → Value) (i j : Nat) : UInt8 := match ptrOf (V i) with | some ad => byteAt W (ad.add j) | none => 0
theorem partBy_eq (W : World) (V : Nat → Value) (i j : Nat) {ad : Addr} {k c : Nat} (h : V i = .slice (some ad) k c) : partBy W V i j = byteAt W (ad.add j) := by
  unfold partBy; rw [h]; rfl
/-- The end of a law whose row asks not for the readings again, and that left all elder blocks as they were. -/
theorem post_of_ch2 {H : Type} {enc : TypeId × Value → H} {f : Func} {s : ChangeSpec} {apart fresh handsOn : Bool} {W W' : World} {args : Array Value} {v : Value} {ds gs : List (DataW H)} {before pa pv : List MemPlace}
    (hW : DataW.Whole enc Try.prog f.params.toList s.vars apart W args.toList ds gs before)
    (hres : ∀ (b : Nat) (sp : Nat → Bool) (hd : Bool), DataW.TrodAll enc Try.prog W' b sp hd f.resultTypes.toList (v.resultList f.resultTypes.size) (s.fn H (ds ++ gs)).results [])
    (hargs : DataW.TrodAll enc Try.prog W' 0 (fun b => decide (b < W.heap.size)) true f.params.toList args.toList (s.fn H (ds ++ gs)).args pa)
    (hvars : DataW.TrodVars enc Try.prog W' (fun b => decide (b < W.heap.size)) s.vars (s.fn H (ds ++ gs)).vars pv)
    (hk : Ch (fun _ => False) W W') :
    s.post enc Try.prog f apart fresh handsOn false W args v W' :=
  ⟨ds, gs, before, [], pa, pv, hW, hres _ _ _, hargs, hvars, hk.below.frame _, fun h => by cases h⟩
end Go.Proofs.Ytljllfdigfojdaa
