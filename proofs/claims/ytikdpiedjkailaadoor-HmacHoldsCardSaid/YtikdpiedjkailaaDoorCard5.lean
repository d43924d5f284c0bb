/- Arguments that are steps by value. -/
import Derived.Test.YtikdpiedjkailaaDoorCard2
import Derived.Test.YtikdpiedjkailaaDoorH15
import Derived.Deep.Fields
import Derived.Lib.SmallJoins
namespace Go.Proofs.YtikdpiedjkailaaDoor
open Go.ChangeShapes Go.WideShapes Go.ChangeAt Go.RowKit Go.Deep
theorem cells44t : Tryd.prog.cellsOf 44 = 2 := by kernel_rfl
theorem least_u64 {n : Int} (h : (Lit.int .u64 n).wf = true) : 0 ≤ n := by
  simp only [Lit.wf, Bool.and_eq_true, decide_eq_true_eq] at h
  exact h.1
set_option maxRecDepth 100000 in
theorem one44 : oneCellFields Tryd.prog #[{ name := "Name", type := 9, offset := 0, embedded := false, tag := "", pkgPath := "", byteOffset := 0 }, { name := "Number", type := 42, offset := 1, embedded := false, tag := "", pkgPath := "", byteOffset := 16 }] = true := by kernel_rfl
set_option maxRecDepth 100000 in
theorem open_step {H : Type} {enc : TypeId × Value → H} {W : World} {b0 base : Nat} {sp : Nat → Bool} {held : Bool} {v : Value} {d : DataW H} {p : List MemPlace} (hval : Value.okWide Tryd.prog W .any b0 44 v) (h : DataW.Trod enc Tryd.prog W base sp held 44 v d p) :
    ∃ (s : ByteArray) (n : Nat), v = .agg #[.string s, .int .u64 (u64n n)] ∧ d = .agg [.lit (.string s.data.toList), .lit (.int .u64 (u64n n))] ∧ p = [] ∧ s.size ≤ maxLen ∧ (Lit.int .u64 (u64n n)).wf = true := by
  obtain ⟨v0, v1, y0, y1, n, rfl, rfl, rfl, h0, h1⟩ := Go.Joins.open_agg2 Tryd.underlying44 one44 cells44t hval h
  obtain ⟨s, hs1, hs2, hs3⟩ := DataW.trod_string Tryd.underlying9 h0
  obtain ⟨z, hz1, hz2, hz3⟩ := DataW.trod_int Tryd.underlying42 h1
  obtain rfl : v0 = .string s := by simpa using hs1
  obtain rfl : v1 = .int .u64 z := by simpa using hz1
  subst hs2
  subst hz2
  obtain ⟨m, rfl⟩ := Int.eq_ofNat_of_zero_le (least_u64 hz3)
  exact ⟨s, m, rfl, rfl, rfl, hs3, hz3⟩
set_option maxRecDepth 100000 in
theorem shut_step {H : Type} {enc : TypeId × Value → H} {W : World} {base : Nat} {sp : Nat → Bool} {held : Bool} {s : ByteArray} {n : Nat} (hs : s.size ≤ maxLen) (hn : (Lit.int .u64 (u64n n)).wf = true) :
    DataW.Trod enc Tryd.prog W base sp held 44 (.agg #[.string s, .int .u64 (u64n n)]) (.agg [.lit (.string s.data.toList), .lit (.int .u64 (u64n n))]) [] :=
  Go.Joins.shut_agg2 (y0 := (.lit (.string s.data.toList), [])) (y1 := (.lit (.int .u64 (u64n n)), [])) Tryd.underlying44 one44 cells44t
    ⟨1, by simp [DataW.trod, Tryd.underlying9, hs]⟩ ⟨1, by simp [DataW.trod, Tryd.underlying42, hn]⟩
end Go.Proofs.YtikdpiedjkailaaDoor
