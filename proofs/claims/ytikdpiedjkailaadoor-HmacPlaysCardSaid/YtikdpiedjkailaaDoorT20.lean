import Derived.Test.YtikdpiedjkailaaDoorArr
import Derived.Test.YtikdpiedjkailaaDoorProg
import Derived.OpenShut
namespace Go.Proofs.YtikdpiedjkailaaDoor
open Go.ChangeShapes Go.RowKit

theorem cells5 : Tryd.prog.cellsOf 5 = 1 := by kernel_rfl
theorem cells31 : Tryd.prog.cellsOf 28 = 32 := by kernel_rfl
theorem wf_u8 {n : Int} (h : (Lit.int .u8 n).wf = true) : 0 ≤ n ∧ n ≤ 255 := by
  exact bounds_u8 h
def byteOf (cs : Array Value) (i : Nat) : UInt8 := UInt8.ofNat (match cs[i]? with | some (.int _ n) => n.toNat | _ => 0)
set_option maxRecDepth 100000 in
theorem open_hash {H : Type} {enc : TypeId × Value → H} {W : World} {b0 base : Nat} {sp : Nat → Bool} {held : Bool} {v : Value} {d : DataW H} {p : List MemPlace}
    (hval : Value.okWide Tryd.prog W .any b0 28 v) (hd : DataW.Trod enc Tryd.prog W base sp held 28 v d p) :
    ∃ g : Nat → UInt8, v = .agg (hv g) := by
  obtain ⟨cs, rfl, hsz, _⟩ : ∃ cs, v = .agg cs ∧ cs.size = Tryd.prog.cellsOf 28 ∧ Row.okWide Tryd.prog W .any b0 28 cs := by
    simpa [Value.okWide, Tryd.underlying28] using hval
  rw [cells31] at hsz
  obtain ⟨fuel, hf⟩ := hd
  obtain ⟨xs, m, rfl, hx, hcl, hxl, hget⟩ := DataW.trod_array Tryd.underlying28 hf
  have key : ∀ i, i < 32 → ∃ n : Int, cs[i]? = some (.int .u8 n) ∧ 0 ≤ n ∧ n ≤ 255 := fun i hi => by
    have h1 := hget i hi
    rw [List.getElem?_eq_getElem (by omega), cells5] at h1
    obtain ⟨n, e, _, hw⟩ := DataW.trod_int Tryd.underlying5 h1
    refine ⟨n, ?_, wf_u8 hw⟩
    have h2 : (((Value.agg cs).cells.toList.drop (i * 1)).take 1)[0]? = some (.int .u8 n) := by rw [e]; rfl
    simpa [Value.cells] using h2
  refine ⟨byteOf cs, ?_⟩
  congr 1
  refine Array.ext (by rw [hsz]; exact (arr_size 32 _).symm) fun i h1 h2 => ?_
  have hi : i < 32 := by omega
  obtain ⟨n, e, h3, h4⟩ := key i hi
  have e2 : (hv (byteOf cs))[i]? = some (.int .u8 ((byteOf cs i).toNat : Int)) := arr_get 32 _ i hi
  have e3 : ((byteOf cs i).toNat : Int) = n := by
    unfold byteOf
    rw [e, UInt8.toNat_ofNat']
    simp only
    omega
  rw [e3, Array.getElem?_eq_getElem h2] at e2
  rw [Array.getElem?_eq_getElem h1] at e
  rw [Option.some.inj e, Option.some.inj e2]
end Go.Proofs.YtikdpiedjkailaaDoor
