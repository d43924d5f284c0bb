/- ShaHolds: bytes that are cut into pieces of one size. -/
import Derived.Test.YtdmeeghgbiffmaaDoorHM
import Derived.Test.YtdmeeghgbiffmaaDoorR6
import Derived.Test.YtdmeeghgbiffmaaDoorR8
namespace Go.Proofs.YtdmeeghgbiffmaaDoor
open Go Go.RowKit

theorem info34 : (Tryd.prog.info? 34).map (fun i => (i.zero, i.size, i.bytes)) = some (some (.slice none 0 0), 1, 24) := by kernel_rfl
theorem info_parts34 {t : TypeId} {z : Value} {a b : Nat} (h : (Tryd.prog.info? t).map (fun i => (i.zero, i.size, i.bytes)) = some (some z, a, b)) : ∃ i, Tryd.prog.info? t = some i ∧ i.zero = some z ∧ i.size = a ∧ i.bytes = b := by
  cases hq : Tryd.prog.info? t with
  | none => rw [hq] at h; cases h
  | some i =>
    rw [hq] at h
    simp only [Option.map_some, Option.some.injEq, Prod.mk.injEq] at h
    exact ⟨i, rfl, h.1, h.2.1, h.2.2⟩
def cutL (n st j : Nat) : Nat := min n ((j + 1) * st) - j * st
def cutV (x y n c st j : Nat) : Value := .slice (some ⟨x, y + j * st, none⟩) (cutL n st j) (c - j * st)
def cutR (x y n c st k : Nat) : List Value := (List.range k).map fun j => cutV x y n c st j
theorem cutR_len (x y n c st k : Nat) : (cutR x y n c st k).length = k := by simp [cutR]
theorem cutR_succ (x y n c st k : Nat) : cutR x y n c st (k + 1) = cutR x y n c st k ++ [cutV x y n c st k] := by
  unfold cutR
  rw [List.range_succ, List.map_append]; rfl
theorem upto_cut (n st k : Nat) : upto (cutL n st) k = min n (k * st) := by
  induction k with
  | zero => simp [upto]
  | succ k ih =>
    show upto (cutL n st) k + cutL n st k = _
    rw [ih]
    unfold cutL
    rw [Nat.succ_mul]
    omega
theorem cut_parts {w : World} {base x y n c st k : Nat} {v : Value} {f : Nat → UInt8} (hown : w.ownsRow base 34 1 v k (cutR x y n c st k)) (hx : x < w.heap.size)
    (hb : ∀ j, j < n → w.cell? ⟨x, y + j, none⟩ = some (.int .u8 ((f j).toNat : Int))) :
    ∃ sp cap a, v = .slice sp k cap ∧ (sp = some ⟨a, 0, none⟩ ∨ k = 0) ∧ PartsAt w a 0 k (fun j => some ⟨x, y + j * st, none⟩) (cutL n st) (fun j => c - j * st) f := by
  rcases hown.2 with ⟨rfl, rfl⟩ | ⟨g, cap, cur, rfl, _, hg, hnc, _, _, htake⟩
  · exact ⟨none, 0, 0, rfl, .inr rfl, ⟨fun i hi => absurd hi (by omega), fun i hi => absurd hi (by omega)⟩⟩
  · refine ⟨_, cap, g, rfl, .inl rfl, ⟨fun i hi => ?_, fun i hi => ?_⟩⟩
    · have e : (cur.toList.take (k * 1))[i]? = (cutR x y n c st k)[i]? := by rw [htake]
      rw [List.getElem?_take, if_pos (by omega)] at e
      have e2 : (cutR x y n c st k)[i]? = some (cutV x y n c st i) := by simp [cutR, hi]
      rw [e2] at e
      rw [Nat.zero_add]
      exact (cell_of_heap hg i).trans (by simpa [cutV] using e)
    · refine ⟨x, y + i * st, .inl rfl, hx, fun j hj => ?_⟩
      rw [upto_cut]
      have hlt : i * st + j < n := by unfold cutL at hj; omega
      rw [Nat.min_eq_right (by omega), Nat.add_assoc]
      exact hb _ hlt
theorem own34_ch {S : Nat → Prop} {w w' : World} {B k : Nat} {v : Value} {xs : List Value} (h : w.ownsRow B 34 1 v k xs) (hc : Ch S w w') (hs : ∀ q, v.ownBlock = some q → ¬ S q) : w'.ownsRow B 34 1 v k xs := by
  refine ⟨h.1, ?_⟩
  rcases h.2 with hn | ⟨g, cap, cur, rfl, h1, h2, h3⟩
  · exact .inl hn
  · exact .inr ⟨g, cap, cur, rfl, h1, hc.heap h2 (hs g rfl), h3⟩
theorem hv_cong {g h : Nat → UInt8} (e : ∀ i, i < 32 → g i = h i) : hv g = hv h := arr_congr (fun i hi => by rw [e i hi])
theorem conv_arr (g : Nat → UInt8) (b : Nat) (w : World) (h : w.heap[b]? = some (.cells (hv g) 31)) :
    (convert 34 9 (.slice (some ⟨b, 0, none⟩) 32 32)).run Tryd.prog w = .ok (.string (byB g)) w := by
  have hl : (byL g).length = 32 := by simp [byL]
  have hc := run_convert_bytes_back (P := Tryd.prog) w 34 9 5 ⟨b, 0, none⟩ 32 (byL g) Tryd.underlying34 Tryd.underlying5 Tryd.underlying9 (fun j hj => by
    have hj' : j < 32 := by rw [hl] at hj; exact hj
    rw [show (⟨b, 0, none⟩ : Addr).add j = ⟨b, j, none⟩ by simp [Addr.add]; omega]
    refine ((cell_of_heap h j).trans (arr_get 32 _ j hj')).trans ?_
    simp [byL])
  rw [hl] at hc
  exact hc
theorem wp_neqH {P : Program} {o : Oper} {a : Act} {w : World} {K : Act → World → Prop} {Q : Exit → Act → World → Prop} (x y : Operand) (t t2 : TypeId) (ho : o.op = .binOp .neq t x y t2)
    (R S : Array Value) (hx : a.eval x = .agg R) (hy : a.eval y = .agg S) (hg : P.eqGuardType P.depth t = false) {b : Bool} (he : (Op.equalIn 10000 t (.agg R) (.agg S)).run P w = .ok b w) (h : K (a.put o.dst (.bool !b)) w) : o.wp P a w K Q := by
  unfold Oper.wp execOp
  have h1 : (eqGuard .neq t x y (.agg R) (.agg S)).run P w = .ok () w := by
    simp [eqGuard, hg]
  have h2 : (binOp .neq t (.agg R) (.agg S)).run P w = .ok (.bool !b) w := by
    simp only [binOp, Op.equal, Sem.run_bind]
    rw [show (Op.equalIn Op.maxDepth t (.agg R) (.agg S)).run P w = .ok b w from he]
    rfl
  simp only [ho, hx, hy, Sem.run_bind, h1, h2, Result.andThen]
  exact h
theorem wp_eqlH {P : Program} {o : Oper} {a : Act} {w : World} {K : Act → World → Prop} {Q : Exit → Act → World → Prop} (x y : Operand) (t t2 : TypeId) (ho : o.op = .binOp .eql t x y t2)
    (R S : Array Value) (hx : a.eval x = .agg R) (hy : a.eval y = .agg S) (hg : P.eqGuardType P.depth t = false) {b : Bool} (he : (Op.equalIn 10000 t (.agg R) (.agg S)).run P w = .ok b w) (h : K (a.put o.dst (.bool b)) w) : o.wp P a w K Q := by
  unfold Oper.wp execOp
  have h1 : (eqGuard .eql t x y (.agg R) (.agg S)).run P w = .ok () w := by
    simp [eqGuard, hg]
  have h2 : (binOp .eql t (.agg R) (.agg S)).run P w = .ok (.bool b) w := by
    simp only [binOp, Op.equal, Sem.run_bind]
    rw [show (Op.equalIn Op.maxDepth t (.agg R) (.agg S)).run P w = .ok b w from he]
    rfl
  simp only [ho, hx, hy, Sem.run_bind, h1, h2, Result.andThen]
  exact h
end Go.Proofs.YtdmeeghgbiffmaaDoor
