import Derived.Test.YtikdpiedjkailaaDoorT20
namespace Go.Proofs.YtikdpiedjkailaaDoor
open Go.ChangeShapes Go.RowKit

theorem mapM_all {α β : Type} (f : α → Option β) (h : α → β) : ∀ l : List α, (∀ x ∈ l, f x = some (h x)) → l.mapM f = some (l.map h)
  | [], _ => rfl
  | x :: l, hl => by
    rw [List.mapM_cons, hl x (by simp), mapM_all f h l (fun y hy => hl y (by simp [hy]))]
    rfl
theorem wf_byte (c : UInt8) : (Lit.int .u8 (c.toNat : Int)).wf = true := by
  have := c.toNat_lt
  simp [Lit.wf, IntKind.min, IntKind.max, IntKind.signed, IntKind.bits]
  omega
def hashData {H : Type} (g : Nat → UInt8) : DataW H := .agg ((List.range 32).map fun i => .lit (.int .u8 ((g i).toNat : Int)))
theorem hv_one (g : Nat → UInt8) (i : Nat) (hi : i < 32) : ((hv g).toList.drop (i * 1)).take 1 = [.int .u8 ((g i).toNat : Int)] := by
  apply List.ext_getElem?
  intro j
  have e2 : (hv g)[i]? = some (.int .u8 ((g i).toNat : Int)) := arr_get 32 _ i hi
  cases j with
  | zero => simpa using e2
  | succ j => simp; omega
theorem shut_hash {H : Type} {enc : TypeId × Value → H} {W : World} {base : Nat} {sp : Nat → Bool} {held : Bool} (g : Nat → UInt8) :
    DataW.Trod enc Tryd.prog W base sp held 28 (.agg (hv g)) (hashData g) [] := by
  refine ⟨2, ?_⟩
  unfold DataW.trod
  simp only [Tryd.underlying28, Value.cells]
  rw [if_pos (by rw [cells31, Array.length_toList]; exact arr_size 32 _)]
  rw [mapM_all _ (fun i => ((.lit (.int .u8 ((g i).toNat : Int)) : DataW H), ([] : List MemPlace))) _ (fun i hi => by
    rw [cells5, hv_one g i (List.mem_range.1 hi)]
    exact trod_int_mk 0 Tryd.underlying5 (wf_byte _))]
  simp [hashData, List.map_map, Function.comp_def]
end Go.Proofs.YtikdpiedjkailaaDoor
