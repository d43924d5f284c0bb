/- Arguments that are slices of calls of a writer. -/
import Derived.Test.YtljllfdigfojdaaLaw1
import Derived.Test.YtljllfdigfojdaaL3
namespace Go.Proofs.Ytljllfdigfojdaa
open Go.ChangeShapes Go.WideShapes Go.ChangeAt Go.RowKit

theorem cells2' : Try.prog.cellsOf 2 = 1 := by kernel_rfl
theorem cells3' : Try.prog.cellsOf 3 = 1 := by kernel_rfl
theorem cells4' : Try.prog.cellsOf 4 = 1 := by kernel_rfl
theorem cells9' : Try.prog.cellsOf 9 = 1 := by kernel_rfl
theorem cells31' : Try.prog.cellsOf 31 = 1 := by kernel_rfl
theorem cells32' : Try.prog.cellsOf 32 = 1 := by kernel_rfl
theorem cells33' : Try.prog.cellsOf 33 = 1 := by kernel_rfl
theorem cells35' : Try.prog.cellsOf 35 = 5 := by kernel_rfl
theorem cells44' : Try.prog.cellsOf 44 = 32 := by kernel_rfl
section
variable {H : Type} {enc : TypeId × Value → H} {W : World} {fuel : Nat} {v : Value} {x : DataW H × List MemPlace}
theorem open_numsV (h : DataW.trod enc Try.prog W 0 (fun _ => true) true fuel 31 [v] = some x) :
    ∃ (q : Option Addr) (n c : Nat) (z : Nat → Int), v = .slice q n c ∧ ((∃ a o, q = some ⟨a, o, none⟩ ∧ a < W.heap.size ∧ ∀ i, i < n → W.cell? ⟨a, o + i, none⟩ = some (.int .i64 (z i))) ∨ n = 0) := by
  rcases Go.ChangeShapes.open_ints Try.underlying31 Try.underlying2 cells2' h with ⟨hcs, hx⟩ | ⟨a, len, cap, zs, hcs, _, hl, hm, hz, hx, hcell, hwz⟩
  · obtain rfl : v = .slice none 0 0 := by simpa using hcs
    exact ⟨none, 0, 0, fun _ => 0, rfl, .inr rfl⟩
  · obtain rfl : v = .slice (some a) len cap := by simpa using hcs
    simp only [if_true] at hz
    refine ⟨some a, len, cap, fun j => zs.getD j 0, rfl, ?_⟩
    by_cases h0 : len = 0
    · exact .inr h0
    · left
      obtain ⟨ab, ao, spot⟩ := a
      have hspot : spot = none := by simpa [Addr.add] using World.cell?_spot (hcell 0 (by omega))
      subst hspot
      refine ⟨ab, ao, rfl, cell_lt (hcell 0 (by omega)), fun j hj => ?_⟩
      rw [← add_at]
      exact hcell j (by omega)
theorem open_boolsV (h : DataW.trod enc Try.prog W 0 (fun _ => true) true fuel 32 [v] = some x) :
    ∃ (q : Option Addr) (n c : Nat) (z : Nat → Bool), v = .slice q n c ∧ ((∃ a o, q = some ⟨a, o, none⟩ ∧ a < W.heap.size ∧ ∀ i, i < n → W.cell? ⟨a, o + i, none⟩ = some (.bool (z i))) ∨ n = 0) := by
  rcases Go.Deep.open_slice1 Try.underlying32 cells4' h with ⟨hcs, hx⟩ | ⟨a, len, cap, m, n, V, D, Pl, hcs, _, hl, hm, hmm, hx0, hx⟩
  · obtain rfl : v = .slice none 0 0 := by simpa using hcs
    exact ⟨none, 0, 0, fun _ => false, rfl, .inr rfl⟩
  · obtain rfl : v = .slice (some a) len cap := by simpa using hcs
    simp only [if_true] at hmm
    obtain ⟨B, hB⟩ := Go.Deep.choose_lt (α := Bool) (p := fun i b => V i = .bool b) (fun i (hi : i < m) => by
      obtain ⟨b, h1, h2⟩ := DataW.trod_bool Try.underlying4 (hx i hi).2
      exact ⟨b, by simpa using h1⟩)
    refine ⟨some a, len, cap, B, rfl, ?_⟩
    by_cases h0 : len = 0
    · exact .inr h0
    · left
      obtain ⟨ab, ao, spot⟩ := a
      have hspot : spot = none := by simpa [Addr.add] using World.cell?_spot (hx 0 (by omega)).1
      subst hspot
      refine ⟨ab, ao, rfl, cell_lt (hx 0 (by omega)).1, fun j hj => ?_⟩
      rw [← add_at, ← hB j (by omega)]
      exact (hx j (by omega)).1
theorem open_hashesV (h : DataW.trod enc Try.prog W 0 (fun _ => true) true fuel 33 [v] = some x) :
    ∃ (q : Option Addr) (n c : Nat) (z : Nat → Nat → UInt8), v = .slice q n c ∧ ((∃ a o, q = some ⟨a, o, none⟩ ∧ a < W.heap.size ∧ ∀ i, i < n → ∀ j, j < 32 → W.cell? ⟨a, o + i * 32 + j, none⟩ = some (.int .u8 ((z i j).toNat : Int))) ∨ n = 0) := by
  rcases Go.Deep.open_slice Try.underlying33 h with ⟨hcs, hx⟩ | ⟨a, len, cap, m, n, D, Pl, hcs, _, hl, hm, hmm, hx0, hx⟩
  · obtain rfl : v = .slice none 0 0 := by simpa using hcs
    exact ⟨none, 0, 0, fun _ _ => 0, rfl, .inr rfl⟩
  · obtain rfl : v = .slice (some a) len cap := by simpa using hcs
    simp only [if_true] at hmm
    have key : ∀ i, i < m → ∀ j, j < 32 → ∃ z : Int, W.cell? ((a.add (i * 32)).add j) = some (.int .u8 z) ∧ (Lit.int .u8 z).wf = true := by
      intro i hi j hj
      obtain ⟨cs', h1, h2⟩ := hx i hi
      rw [cells44'] at h1
      obtain ⟨_, hlen, hcell⟩ := World.cells?_some h1
      obtain ⟨xs, k, hk, hxy, _, hxl, hf⟩ := DataW.trod_array Try.underlying44 h2
      have g := hf j hj
      rw [cells5, Nat.mul_one] at g
      obtain ⟨y, hy⟩ : ∃ y, xs[j]? = some y := ⟨_, List.getElem?_eq_getElem (by omega)⟩
      rw [hy] at g
      obtain ⟨z, hz1, _, hz2⟩ := DataW.trod_int Try.underlying5 g
      have hc := hcell j hj
      have hv : cs'[j]? = some (.int .u8 z) := by
        have := congrArg (fun l => l[0]?) hz1
        simpa [List.getElem?_take, List.getElem?_drop] using this
      exact ⟨z, hc.trans hv, hz2⟩
    refine ⟨some a, len, cap, fun i j => byteAt W ((a.add (i * 32)).add j), rfl, ?_⟩
    by_cases h0 : len = 0
    · exact .inr h0
    · left
      obtain ⟨z0, hz0, _⟩ := key 0 (by omega) 0 (by omega)
      obtain ⟨ab, ao, spot⟩ := a
      have hspot : spot = none := by simpa [Addr.add] using World.cell?_spot hz0
      subst hspot
      refine ⟨ab, ao, rfl, cell_lt (by simpa [Addr.add] using hz0 : W.cell? ⟨ab, ao, none⟩ = _), fun i hi j hj => ?_⟩
      obtain ⟨z, hz, hw⟩ := key i (by omega) j hj
      have e := byteAt_eq hz hw
      rw [add_at, add_at] at e
      show W.cell? _ = some (Value.int .u8 ((byteAt W (((⟨ab, ao, none⟩ : Addr).add (i * 32)).add j)).toNat : Int))
      rw [add_at, add_at]
      exact e
end
set_option maxRecDepth 100000 in
theorem open_acts {H : Type} {enc : TypeId × Value → H} {W : World} {b0 : Nat} {v : Value} {d : DataW H} {p : List MemPlace} (hval : Value.okWide Try.prog W .any b0 22 v) (h : DataW.Trod enc Try.prog W 0 (fun _ => true) true 22 v d p) :
    ∃ (sp : Option Addr) (N cap : Nat) (X : Nat → ActV), v = .slice sp N cap ∧ N ≤ 9223372036854775807 ∧ ActsAt W.heap.size W sp N X := by
  obtain ⟨a1, len, cap, rfl⟩ := okWide_slice Try.underlying22 hval
  obtain ⟨fuel, hf⟩ := h
  rcases Go.Deep.open_slice Try.underlying22 hf with ⟨hcs, _⟩ | ⟨a, len', cap', m, n, D, Pl, hcs, hb, hl, hm, hmm, hx0, hx⟩
  · simp [Value.cells] at hcs
    obtain ⟨rfl, rfl, rfl⟩ := hcs
    exact ⟨none, 0, 0, fun _ => ⟨0, none, 0, 0, none, 0, 0, none, 0, 0, ⟨#[]⟩, fun _ => 0, fun _ => false, fun _ _ => 0⟩, rfl, Nat.zero_le _, ⟨.inr rfl, fun i hi => by omega⟩⟩
  · simp [Value.cells] at hcs
    obtain ⟨rfl, rfl, rfl⟩ := hcs
    simp only [if_true] at hmm
    have each : ∀ i, i < m → ∃ x : ActV, (∀ j u, x.cells[j]? = some u → W.cell? ((a.add (i * 5)).add j) = some u) ∧ ActAt W.heap.size W x := by
      intro i hi
      obtain ⟨cs', h1, h2⟩ := hx i hi
      rw [cells35'] at h1
      obtain ⟨_, hlen, hcell⟩ := World.cells?_some h1
      obtain ⟨xs, k, hk, hxy, _, hxl, hf⟩ := DataW.trod_struct Try.underlying35 h2
      match xs, hxl, cs', hlen with
      | [y0, y1, y2, y3, y4], _, [v0, v1, v2, v3, v4], _ =>
        have g0 := hf 0 _ rfl
        have g1 := hf 1 _ rfl
        have g2 := hf 2 _ rfl
        have g3 := hf 3 _ rfl
        have g4 := hf 4 _ rfl
        simp [cells3', cells31', cells32', cells33', cells9'] at g0 g1 g2 g3 g4
        obtain ⟨what, e0, _⟩ := DataW.trod_int Try.underlying3 g0
        obtain ⟨zp, zN, zC, z, e1, hz⟩ := open_numsV g1
        obtain ⟨bp, bN, bC, t, e2, ht⟩ := open_boolsV g2
        obtain ⟨hp, hN, hC, hh, e3, hhh⟩ := open_hashesV g3
        obtain ⟨s, e4, _⟩ := DataW.trod_string Try.underlying9 g4
        obtain rfl : v0 = .int .i64 what := by simpa using e0
        obtain rfl : v4 = .string s := by simpa using e4
        subst e1 e2 e3
        refine ⟨⟨what, zp, zN, zC, bp, bN, bC, hp, hN, hC, s, z, t, hh⟩, fun j u hj => ?_, ⟨hz, ht, hhh⟩⟩
        have hj5 : j < 5 := (Array.getElem?_eq_some_iff.1 hj).1
        refine (hcell j hj5).trans ?_
        rw [← hj]
        simp [ActV.cells]
    have : Inhabited ActV := ⟨⟨0, none, 0, 0, none, 0, 0, none, 0, 0, ⟨#[]⟩, fun _ => 0, fun _ => false, fun _ _ => 0⟩⟩
    obtain ⟨X, hX⟩ := Go.Deep.choose_lt (α := ActV) each
    by_cases h0 : len = 0
    · subst h0
      exact ⟨some a, 0, cap, X, rfl, Nat.zero_le _, ⟨.inr rfl, fun i hi => by omega⟩⟩
    · obtain ⟨h1, _⟩ := hX 0 (by omega)
      have hz0 := h1 0 _ rfl
      obtain ⟨ab, ao, spot⟩ := a
      have hspot : spot = none := by simpa [Addr.add] using World.cell?_spot hz0
      subst hspot
      refine ⟨some ⟨ab, ao, none⟩, len, cap, X, rfl, by unfold maxLen at hm; omega, ⟨.inl ⟨ab, ao, rfl, cell_lt (by simpa [Addr.add] using hz0 : W.cell? ⟨ab, ao, none⟩ = _), fun i hi j u hj => ?_⟩, fun i hi => (hX i (by omega)).2⟩⟩
      have := (hX i (by omega)).1 j u hj
      rw [add_at, add_at] at this
      exact this
end Go.Proofs.Ytljllfdigfojdaa
