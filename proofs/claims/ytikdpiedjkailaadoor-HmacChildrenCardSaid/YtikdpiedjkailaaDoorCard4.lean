/- Arguments that are steps, or slices of steps. -/
import Derived.Test.YtikdpiedjkailaaDoorCard2
import Derived.Test.YtikdpiedjkailaaDoorH26
import Derived.Deep.SlicePairs
import Derived.Lib.SmallJoins
namespace Go.Proofs.YtikdpiedjkailaaDoor
open Go.ChangeShapes Go.WideShapes Go.ChangeAt Go.RowKit
theorem cells44s : Tryd.prog.cellsOf 44 = 2 := by kernel_rfl
theorem cells9s : Tryd.prog.cellsOf 9 = 1 := by kernel_rfl
theorem cells42s : Tryd.prog.cellsOf 42 = 1 := by kernel_rfl
theorem add_at' (g o j : Nat) : (⟨g, o, none⟩ : Addr).add j = ⟨g, o + j, none⟩ := by unfold Addr.add; split <;> simp_all
def strOf : Value → ByteArray | .string s => s | _ => ⟨#[]⟩
def natOf : Value → Nat | .int _ n => n.toNat | _ => 0
theorem bounds_u64 {n : Int} (h : (Lit.int .u64 n).wf = true) : 0 ≤ n := by
  simp only [Lit.wf, Bool.and_eq_true, decide_eq_true_eq] at h
  exact h.1
set_option maxRecDepth 100000 in
theorem open_steps {H : Type} {enc : TypeId × Value → H} {W : World} {b0 : Nat} {v : Value} {d : DataW H} {p : List MemPlace} (hval : Value.okWide Tryd.prog W .any b0 41 v) (h : DataW.Trod enc Tryd.prog W 0 (fun _ => true) true 41 v d p) :
    ∃ (sp : Option Addr) (N cap : Nat) (nm : Nat → ByteArray) (nu : Nat → Nat) (a off : Nat), v = .slice sp N cap ∧ (sp = some ⟨a, off, none⟩ ∨ N = 0) ∧ StepsAt W a off N nm nu := by
  obtain ⟨a1, len, cap, rfl⟩ := okWide_slice Tryd.underlying41 hval
  obtain ⟨fuel, hf⟩ := h
  rcases Go.Deep.open_slice_pairs Tryd.underlying41 Tryd.underlying44 cells44s rfl rfl cells9s cells42s hf with ⟨hcs, _⟩ | ⟨a, len', cap', m, n, V0, V1, D0, D1, P0, P1, hcs, _, hl, _, hm, _, hx⟩
  · simp [Value.cells] at hcs
    obtain ⟨rfl, rfl, rfl⟩ := hcs
    exact ⟨none, 0, 0, fun _ => ⟨#[]⟩, fun _ => 0, 0, 0, rfl, .inr rfl, fun i hi => by omega⟩
  · simp [Value.cells] at hcs
    obtain ⟨rfl, rfl, rfl⟩ := hcs
    simp only [if_true] at hm
    by_cases h0 : len = 0
    · exact ⟨some a, len, cap, fun _ => ⟨#[]⟩, fun _ => 0, 0, 0, rfl, .inr h0, fun i hi => by omega⟩
    · have hs := World.cell?_spot (hx 0 (by omega)).1
      obtain ⟨ab, ao, spot⟩ := a
      have hspot : spot = none := by simpa [Addr.add] using hs
      subst hspot
      refine ⟨some ⟨ab, ao, none⟩, len, cap, fun i => strOf (V0 i), fun i => natOf (V1 i), ab, ao, rfl, .inl rfl, fun i hi => ?_⟩
      obtain ⟨h1, h2, h3, h4⟩ := hx i (by omega)
      obtain ⟨s, hs1, _, _⟩ := DataW.trod_string Tryd.underlying9 h3
      obtain ⟨z, hz1, _, hz2⟩ := DataW.trod_int Tryd.underlying42 h4
      have e1 : V0 i = .string s := by simpa using hs1
      have e2 : V1 i = .int .u64 z := by simpa using hz1
      have hz0 := bounds_u64 hz2
      rw [add_at'] at h1 h2
      refine ⟨h1.trans (by show some (V0 i) = some (Value.string (strOf (V0 i))); rw [e1]; rfl), ?_⟩
      rw [show ao + i * 2 + 1 = ao + (i * 2 + 1) by omega]
      refine h2.trans ?_
      show some (V1 i) = some (Value.int .u64 (u64n (natOf (V1 i))))
      rw [e2]
      show some (Value.int .u64 z) = some (Value.int .u64 (z.toNat : Int))
      rw [Int.toNat_of_nonneg hz0]
end Go.Proofs.YtikdpiedjkailaaDoor
