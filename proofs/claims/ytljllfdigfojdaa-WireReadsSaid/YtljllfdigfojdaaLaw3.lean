/- Arguments that are slices of calls of a reader. -/
import Derived.Test.YtljllfdigfojdaaLaw2
namespace Go.Proofs.Ytljllfdigfojdaa
open Go.ChangeShapes Go.WideShapes Go.ChangeAt Go.RowKit

theorem cells55' : Try.prog.cellsOf 55 = 2 := by kernel_rfl
/-- A slice of calls of a reader. -/
def AsksAt (w : World) (sp : Option Addr) (N : Nat) (K M : Nat → Int) : Prop :=
  (∃ a o, sp = some ⟨a, o, none⟩ ∧ a < w.heap.size ∧ ∀ i, i < N → ∀ j u, (#[.int .i64 (K i), .int .i64 (M i)] : Array Value)[j]? = some u → w.cell? ⟨a, o + i * 2 + j, none⟩ = some u) ∨ N = 0
theorem AsksAt.ch {w w' : World} {sp : Option Addr} {N : Nat} {K M : Nat → Int} (h : AsksAt w sp N K M) (hc : Ch (fun _ => False) w w') : AsksAt w' sp N K M := by
  rcases h with ⟨a, o, e, h1, h2⟩ | h
  · exact .inl ⟨a, o, e, Nat.lt_of_lt_of_le h1 hc.size, fun i hi j u hj => hc.get (h2 i hi j u hj) id⟩
  · exact .inr h
set_option maxRecDepth 100000 in
theorem open_asks {H : Type} {enc : TypeId × Value → H} {W : World} {b0 : Nat} {v : Value} {d : DataW H} {p : List MemPlace} (hval : Value.okWide Try.prog W .any b0 47 v) (h : DataW.Trod enc Try.prog W 0 (fun _ => true) true 47 v d p) :
    ∃ (sp : Option Addr) (N cap : Nat) (K M : Nat → Int), v = .slice sp N cap ∧ N ≤ 9223372036854775807 ∧ AsksAt W sp N K M := by
  obtain ⟨a1, len, cap, rfl⟩ := okWide_slice Try.underlying47 hval
  obtain ⟨fuel, hf⟩ := h
  rcases Go.Deep.open_slice Try.underlying47 hf with ⟨hcs, _⟩ | ⟨a, len', cap', m, n, D, Pl, hcs, hb, hl, hm, hmm, hx0, hx⟩
  · simp [Value.cells] at hcs
    obtain ⟨rfl, rfl, rfl⟩ := hcs
    exact ⟨none, 0, 0, fun _ => 0, fun _ => 0, rfl, Nat.zero_le _, .inr rfl⟩
  · simp [Value.cells] at hcs
    obtain ⟨rfl, rfl, rfl⟩ := hcs
    simp only [if_true] at hmm
    have each : ∀ i, i < m → ∃ x : Int × Int, ∀ j u, (#[.int .i64 x.1, .int .i64 x.2] : Array Value)[j]? = some u → W.cell? ((a.add (i * 2)).add j) = some u := by
      intro i hi
      obtain ⟨cs', h1, h2⟩ := hx i hi
      rw [cells55'] at h1
      obtain ⟨_, hlen, hcell⟩ := World.cells?_some h1
      obtain ⟨xs, k, hk, hxy, _, hxl, hf⟩ := DataW.trod_struct Try.underlying55 h2
      match xs, hxl, cs', hlen with
      | [y0, y1], _, [v0, v1], _ =>
        have g0 := hf 0 _ rfl
        have g1 := hf 1 _ rfl
        simp [cells3', cells2'] at g0 g1
        obtain ⟨what, e0, _⟩ := DataW.trod_int Try.underlying3 g0
        obtain ⟨most, e1, _⟩ := DataW.trod_int Try.underlying2 g1
        obtain rfl : v0 = .int .i64 what := by simpa using e0
        obtain rfl : v1 = .int .i64 most := by simpa using e1
        refine ⟨(what, most), fun j u hj => ?_⟩
        have hj5 : j < 2 := (Array.getElem?_eq_some_iff.1 hj).1
        refine (hcell j hj5).trans ?_
        rw [← hj]
        simp
    obtain ⟨X, hX⟩ := Go.Deep.choose_lt (α := Int × Int) each
    by_cases h0 : len = 0
    · subst h0
      exact ⟨some a, 0, cap, fun i => (X i).1, fun i => (X i).2, rfl, Nat.zero_le _, .inr rfl⟩
    · have hz0 := hX 0 (by omega) 0 _ rfl
      obtain ⟨ab, ao, spot⟩ := a
      have hspot : spot = none := by simpa [Addr.add] using World.cell?_spot hz0
      subst hspot
      refine ⟨some ⟨ab, ao, none⟩, len, cap, fun i => (X i).1, fun i => (X i).2, rfl, by unfold maxLen at hm; omega, .inl ⟨ab, ao, rfl, cell_lt (by simpa [Addr.add] using hz0 : W.cell? ⟨ab, ao, none⟩ = _), fun i hi j u hj => ?_⟩⟩
      have := hX i (by omega) j u hj
      rw [add_at, add_at] at this
      exact this
end Go.Proofs.Ytljllfdigfojdaa
