/- Arguments that are arrays of integers: states, blocks. -/
import Derived.Test.YtdmeeghgbiffmaaDoorCard0
import Derived.Test.YtdmeeghgbiffmaaDoorR3
namespace Go.Proofs.YtdmeeghgbiffmaaDoor
open Go.ChangeShapes Go.WideShapes Go.ChangeAt Go.RowKit Go.ChangeMaps

def intsData {H : Type} (n : Nat) (k : IntKind) (z : Nat → Int) : DataW H := .agg ((List.range n).map fun i => .lit (.int k (z i)))
theorem arr_one (n : Nat) (k : IntKind) (z : Nat → Int) (i : Nat) (hi : i < n) : ((arr n fun i => Value.int k (z i)).toList.drop (i * 1)).take 1 = [.int k (z i)] := by
  apply List.ext_getElem?
  intro j
  have e2 : (arr n fun i => Value.int k (z i))[i]? = some (.int k (z i)) := arr_get n _ i hi
  cases j with
  | zero => simpa using e2
  | succ j => simp; omega
theorem open_ints {H : Type} {enc : TypeId × Value → H} {W : World} {b0 base : Nat} {sp : Nat → Bool} {held : Bool} {v : Value} {d : DataW H} {p : List MemPlace} {t e n : Nat} {k : IntKind}
    (ht : Tryd.prog.underlying t = some (.array n e)) (he : Tryd.prog.underlying e = some (.int k)) (hce : Tryd.prog.cellsOf e = 1) (hct : Tryd.prog.cellsOf t = n) (hn : 0 < n)
    (hval : Value.okWide Tryd.prog W .any b0 t v) (hd : DataW.Trod enc Tryd.prog W base sp held t v d p) :
    ∃ z : Nat → Int, v = .agg (arr n fun i => .int k (z i)) ∧ d = intsData n k z ∧ p = [] ∧ ∀ i, i < n → (Lit.int k (z i)).wf = true := by
  obtain ⟨cs, rfl, hsz, _⟩ : ∃ cs, v = .agg cs ∧ cs.size = Tryd.prog.cellsOf t ∧ Row.okWide Tryd.prog W .any b0 t cs := by
    simpa [Value.okWide, ht] using hval
  rw [hct] at hsz
  obtain ⟨fuel, hf⟩ := hd
  obtain ⟨xs, m, _, hx, hcl, hxl, hget⟩ := DataW.trod_array ht hf
  have key : ∀ i, i < n → ∃ x : Int, cs[i]? = some (.int k x) ∧ xs[i]? = some ((.lit (.int k x) : DataW H), ([] : List MemPlace)) ∧ (Lit.int k x).wf = true := fun i hi => by
    have h1 := hget i hi
    rw [List.getElem?_eq_getElem (by omega), hce] at h1
    obtain ⟨x, e1, e2, hw⟩ := DataW.trod_int he h1
    refine ⟨x, ?_, by rw [List.getElem?_eq_getElem (by omega), e2], hw⟩
    have h2 : (((Value.agg cs).cells.toList.drop (i * 1)).take 1)[0]? = some (.int k x) := by rw [e1]; rfl
    simpa [Value.cells] using h2
  let z : Nat → Int := fun i => match cs[i]? with | some (.int _ x) => x | _ => 0
  have hz : ∀ i, i < n → cs[i]? = some (.int k (z i)) ∧ xs[i]? = some ((.lit (.int k (z i)) : DataW H), ([] : List MemPlace)) ∧ (Lit.int k (z i)).wf = true := fun i hi => by
    obtain ⟨x, h1, h2, h3⟩ := key i hi
    have e : z i = x := by show (match cs[i]? with | some (.int _ x) => x | _ => 0) = x; rw [h1]
    rw [e]; exact ⟨h1, h2, h3⟩
  refine ⟨z, ?_, ?_⟩
  · congr 1
    refine Array.ext (by rw [hsz]; exact (arr_size n _).symm) fun i h1 h2 => ?_
    have hi : i < n := by omega
    have e1 := (hz i hi).1
    have e2 := arr_get n (fun i => Value.int k (z i)) i hi
    rw [Array.getElem?_eq_getElem h1] at e1
    rw [Array.getElem?_eq_getElem h2] at e2
    rw [Option.some.inj e1, Option.some.inj e2]
  · have hxs : xs = (List.range n).map fun i => ((.lit (.int k (z i)) : DataW H), ([] : List MemPlace)) := by
      apply List.ext_getElem?
      intro i
      by_cases hi : i < n
      · rw [(hz i hi).2.1]; simp [hi]
      · rw [List.getElem?_eq_none (by omega), List.getElem?_eq_none (by simp; omega)]
    rw [hxs] at hx
    cases hx
    exact ⟨by simp [intsData, List.map_map, Function.comp_def], by simp [List.flatMap], fun i hi => (hz i hi).2.2⟩
theorem shut_ints {H : Type} {enc : TypeId × Value → H} {W : World} {base : Nat} {sp : Nat → Bool} {held : Bool} {t e n : Nat} {k : IntKind}
    (ht : Tryd.prog.underlying t = some (.array n e)) (he : Tryd.prog.underlying e = some (.int k)) (hce : Tryd.prog.cellsOf e = 1) (hct : Tryd.prog.cellsOf t = n) (z : Nat → Int) (hw : ∀ i, i < n → (Lit.int k (z i)).wf = true) :
    DataW.Trod enc Tryd.prog W base sp held t (.agg (arr n fun i => .int k (z i))) (intsData n k z) [] := by
  refine ⟨2, ?_⟩
  unfold DataW.trod
  simp only [ht, Value.cells]
  rw [if_pos (by rw [hct, Array.length_toList]; exact arr_size n _)]
  rw [mapM_all _ (fun i => ((.lit (.int k (z i)) : DataW H), ([] : List MemPlace))) _ (fun i hi => by
    rw [hce, arr_one n k z i (List.mem_range.1 hi)]
    exact trod_int_mk 0 he (hw i (List.mem_range.1 hi)))]
  simp [intsData, List.map_map, Function.comp_def]
theorem cells26 : Tryd.prog.cellsOf 26 = 8 := by kernel_rfl
theorem cells22 : Tryd.prog.cellsOf 22 = 64 := by kernel_rfl
theorem wf_u32 {n : Int} (h : (Lit.int .u32 n).wf = true) : 0 ≤ n ∧ n ≤ 4294967295 := bounds_u32 h
theorem st_of (z : Nat → Int) (hw : ∀ i, i < 8 → (Lit.int .u32 (z i)).wf = true) : ∃ s : St, (arr 8 fun i => Value.int .u32 (z i)) = s.cells := by
  have w := fun i => BitVec.ofNat 32 (z i).toNat
  refine ⟨⟨BitVec.ofNat 32 (z 0).toNat, BitVec.ofNat 32 (z 1).toNat, BitVec.ofNat 32 (z 2).toNat, BitVec.ofNat 32 (z 3).toNat, BitVec.ofNat 32 (z 4).toNat, BitVec.ofNat 32 (z 5).toNat, BitVec.ofNat 32 (z 6).toNat, BitVec.ofNat 32 (z 7).toNat⟩, ?_⟩
  rw [cells_arr]
  refine arr_congr fun i hi => ?_
  obtain ⟨h0, h1⟩ := wf_u32 (hw i hi)
  have e : un (BitVec.ofNat 32 (z i).toNat) = z i := by rw [un_ofNat _ (by omega)]; omega
  unfold wv
  match i, hi with
  | 0, _ => exact congrArg _ e.symm | 1, _ => exact congrArg _ e.symm | 2, _ => exact congrArg _ e.symm | 3, _ => exact congrArg _ e.symm
  | 4, _ => exact congrArg _ e.symm | 5, _ => exact congrArg _ e.symm | 6, _ => exact congrArg _ e.symm | 7, _ => exact congrArg _ e.symm
theorem block_of (z : Nat → Int) (hw : ∀ i, i < 64 → (Lit.int .u8 (z i)).wf = true) : ∃ f : Nat → UInt8, (arr 64 fun i => Value.int .u8 (z i)) = arr 64 fun i => Value.int .u8 ((f i).toNat : Int) := by
  refine ⟨fun i => UInt8.ofNat (z i).toNat, arr_congr fun i hi => ?_⟩
  obtain ⟨h0, h1⟩ := wf_u8 (hw i hi)
  rw [UInt8.toNat_ofNat']
  congr 1
  omega
end Go.Proofs.YtdmeeghgbiffmaaDoor
