/- Hashes, as a writer lays them. -/
import Derived.Test.YtljllfdigfojdaaU2
import Derived.Test.YtljllfdigfojdaaRegS
namespace Go.Proofs.Ytljllfdigfojdaa
open Go Go.RowKit

theorem run_loadVar_part {P : Program} (w : World) (ad : Addr) (ty : TypeId) (cs : Array Value) (d : TypeDesc) (hg : ∀ j v, cs.toList[j]? = some v → w.cell? (ad.add j) = some v)
    (hu : P.underlying ty = some d) (hd : (match d with | .struct _ | .array _ _ => true | _ => false) = true) (hi : (P.info? ty).map (·.size) = some cs.size) :
    (loadVar ty ad).run P w = .ok (.agg cs) w := by
  have hl : (loadCells ad cs.toList.length).run P w = .ok cs.toList.toArray w := run_loadCells_list (P := P) w ad cs.toList hg
  cases hq : P.info? ty with
  | none => simp [hq] at hi
  | some i =>
    have hs : i.size = cs.size := by simpa [hq] using hi
    have hagg : (isAgg ty).run P w = .ok true w := by
      unfold isAgg
      rw [Sem.run_bind, run_underlying hu w]
      cases d <;> simp_all
    simp only [Array.length_toList, Array.toArray_toList] at hl
    simp [loadVar, Sem.run_bind, hagg, sizeOf, typeInfo, hq, hs, hl]
theorem wpList_load_at {P : Program} {ops : Array Oper} {rest : List Oper} {o : Oper} {a : Act} {w : World} {Q : Exit → Act → World → Prop} (hgd : o.guard = none) (ty : TypeId) (x : Operand) (ho : o.op = .load ty x) (ad : Addr) (hx : a.eval x = .pointer (some ad)) (v : Value)
    (hl : (loadVar ty ad).run P w = .ok v w) (h : wpList P ops Q rest (a.put o.dst v) w) : wpList P ops Q (o :: rest) a w :=
  wpList_plain hgd fun _ hK => wp_load_at ty x ho ad hx v hl (hK _ _ h)
/-- A hash as cells. -/
def hv (h : Nat → UInt8) : Array Value := arr 32 fun i => .int .u8 ((h i).toNat : Int)
theorem hv_size (h : Nat → UInt8) : (hv h).size = 32 := arr_size _ _
theorem hv_get (h : Nat → UInt8) (j : Nat) (hj : j < 32) : (hv h)[j]? = some (.int .u8 ((h j).toNat : Int)) := arr_get _ _ _ hj
theorem hv_all (h : Nat → UInt8) : (hv h).all (·.oneCell') = true := arr_all _ _ (fun _ _ => rfl)
theorem info44 : (Try.prog.info? 44).map (·.size) = some 32 := by kernel_rfl
theorem hv_info (h : Nat → UInt8) : (Try.prog.info? 44).map (·.size) = some (hv h).size := by rw [hv_size]; exact info44
set_option maxRecDepth 100000 in
theorem withHash_any (base k : Nat) (h : Nat → UInt8) (v : Value) (F : Nat → UInt8) (w : World) (hown : w.ownsRow base 5 1 v k (fL F k)) (hbase : base ≤ w.heap.size) (hk : k ≤ 100000000000) (hF : ∀ j, j < 32 → F (k + j) = h j) :
    Calls Try.prog 47 #[v, .agg (hv h)] w fun e w' => ∃ v', e = .returned v' ∧ w'.ownsRow base 5 1 v' (k + 32) (fL F (k + 32)) ∧ Gw w w' v v' := by
  have HF := Go.Lib.hid hF
  obtain ⟨p, c, rfl, -⟩ := own_bytes hown
  have HO := Go.Lib.hid (hown.alloc (.cells (hv h) 44))
  have HB := Go.Lib.hid (show BytesAt (w.alloc (.cells (hv h) 44)) (some ⟨w.heap.size, 0, none⟩) 32 32 h from .inl ⟨w.heap.size, 0, rfl, Nat.le_refl _, by simp, fun j hj => (cell_fresh w _ 44 (0 + j)).trans (by rw [Nat.zero_add]; exact hv_get h j hj)⟩)
  have hsz := hv_size h
  have hall := hv_all h
  have hb2 : base ≤ (w.alloc (.cells (hv h) 44)).heap.size := by simp; omega
  clear hown hF
  generalize hv h = R at *
  go_enter Try.func47, Try.ntmps47
  go_wp2_with (at_builtin; refine wpList_append_row rfl (.tmp 5) (.tmp 6) rfl base k 32 (.slice p k c) F h rfl HO.out (some ⟨w.heap.size, 0, none⟩) 32 rfl HB.out (by omega) HF.out (by omega) hb2 ?_; intro v3 w3 ho3 hg3; have HO3 := Go.Lib.hid ho3; have HG3 := Go.Lib.hid (show Gw w w3 (.slice p k c) v3 from ⟨((Ch.refl _ w).alloc _).trans hg3.ch, fun g e => (hg3.own g e).imp id (fun h => by simp at h; omega)⟩); clear ho3 hg3)
  go_ret
  exact ⟨_, rfl, HO3.out, HG3.out⟩
end Go.Proofs.Ytljllfdigfojdaa
