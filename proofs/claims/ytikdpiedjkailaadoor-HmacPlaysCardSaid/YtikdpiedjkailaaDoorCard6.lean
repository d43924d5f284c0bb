/- Arguments that are slices of calls. -/
import Derived.Test.YtikdpiedjkailaaDoorCard2
import Derived.Test.YtikdpiedjkailaaDoorH29
import Derived.Deep.SlicePairs
import Derived.Lib.SmallJoins
namespace Go.Proofs.YtikdpiedjkailaaDoor
open Go.ChangeShapes Go.WideShapes Go.ChangeAt Go.RowKit
theorem cells54s : Tryd.prog.cellsOf 54 = 3 := by kernel_rfl
theorem cells3s : Tryd.prog.cellsOf 3 = 1 := by kernel_rfl
theorem cells4s : Tryd.prog.cellsOf 4 = 1 := by kernel_rfl
theorem cells22u : Tryd.prog.cellsOf 22 = 1 := by kernel_rfl
theorem add_at' (g o j : Nat) : (⟨g, o, none⟩ : Addr).add j = ⟨g, o + j, none⟩ := by unfold Addr.add; split <;> simp_all
section
variable {H : Type} {enc : TypeId × Value → H} {P : Program} {w : World} {base : Nat} {spare : Nat → Bool} {held : Bool}
/-- A slice whose elements are structs of three one-cell fields, opened at every index. -/
theorem open_slice_triples {t e : TypeId} {f0 f1 f2 : Field} {fuel : Nat} {cs : List Value} {x : DataW H × List MemPlace} (ht : P.underlying t = some (.slice e)) (he : P.underlying e = some (.struct #[f0, f1, f2]))
    (ce : P.cellsOf e = 3) (o0 : f0.offset = 0) (o1 : f1.offset = 1) (o2 : f2.offset = 2) (c0 : P.cellsOf f0.type = 1) (c1 : P.cellsOf f1.type = 1) (c2 : P.cellsOf f2.type = 1)
    (h : DataW.trod enc P w base spare held fuel t cs = some x) :
    cs = [.slice none 0 0] ∨
    ∃ (a : Addr) (len cap m n : Nat) (V0 V1 V2 : Nat → Value) (D0 D1 D2 : Nat → DataW H × List MemPlace), cs = [.slice (some a) len cap] ∧ len ≤ cap ∧ m = (if spare a.block then cap else len) ∧
      ∀ i, i < m → w.cell? (a.add (i * 3)) = some (V0 i) ∧ w.cell? (a.add (i * 3 + 1)) = some (V1 i) ∧ w.cell? (a.add (i * 3 + 2)) = some (V2 i) ∧
        DataW.trod enc P w base spare held n f0.type [V0 i] = some (D0 i) ∧ DataW.trod enc P w base spare held n f1.type [V1 i] = some (D1 i) ∧ DataW.trod enc P w base spare held n f2.type [V2 i] = some (D2 i) := by
  rcases Go.Deep.open_slice ht h with h0 | ⟨a, len, cap, m, n, D, Pl, rfl, hb, hl, hm, hmm, rfl, hx⟩
  · exact Or.inl h0.1
  right
  have each : ∀ i, i < m → ∃ q : (Value × Value × Value) × (DataW H × List MemPlace) × (DataW H × List MemPlace) × (DataW H × List MemPlace), w.cell? (a.add (i * 3)) = some q.1.1 ∧ w.cell? (a.add (i * 3 + 1)) = some q.1.2.1 ∧ w.cell? (a.add (i * 3 + 2)) = some q.1.2.2 ∧
      DataW.trod enc P w base spare held (n - 1) f0.type [q.1.1] = some q.2.1 ∧ DataW.trod enc P w base spare held (n - 1) f1.type [q.1.2.1] = some q.2.2.1 ∧ DataW.trod enc P w base spare held (n - 1) f2.type [q.1.2.2] = some q.2.2.2 := by
    intro i hi
    obtain ⟨cs', h1, h2⟩ := hx i hi
    rw [ce] at h1
    obtain ⟨_, hlen, hcell⟩ := World.cells?_some h1
    obtain ⟨xs, k, hk, hxy, _, hxl, hf⟩ := DataW.trod_struct he h2
    have hk' : k = n - 1 := by omega
    subst hk'
    match xs, hxl, cs', hlen with
    | [y0, y1, y2], _, [v0, v1, v2], _ =>
      have g0 := hf 0 f0 rfl
      have g1 := hf 1 f1 rfl
      have g2 := hf 2 f2 rfl
      simp [o0, o1, o2, c0, c1, c2] at g0 g1 g2
      have e0 := hcell 0 (by omega)
      have e1 := hcell 1 (by omega)
      have e2 := hcell 2 (by omega)
      rw [Go.Deep.add_add] at e0 e1 e2
      exact ⟨((v0, v1, v2), y0, y1, y2), by simpa using e0, by simpa using e1, by simpa using e2, g0, g1, g2⟩
  obtain ⟨q, hq⟩ := Go.Deep.choose_lt each
  exact ⟨a, len, cap, m, n - 1, fun i => (q i).1.1, fun i => (q i).1.2.1, fun i => (q i).1.2.2, fun i => (q i).2.1, fun i => (q i).2.2.1, fun i => (q i).2.2.2, rfl, hl, hmm, fun i hi => hq i hi⟩
end
set_option maxRecDepth 100000 in
/-- A slice of bytes that was read: its value, and what lies in it. -/
theorem open_bytesV {H : Type} {enc : TypeId × Value → H} {W : World} {fuel : Nat} {v : Value} {x : DataW H × List MemPlace} (h : DataW.trod enc Tryd.prog W 0 (fun _ => true) true fuel 22 [v] = some x) :
    ∃ (p : Option Addr) (n c : Nat) (f : Nat → UInt8), v = .slice p n c ∧ (BytesAt W p n c f ∨ (n = 0 ∧ (p = none → c = 0))) := by
  rcases Go.ChangeShapes.open_ints Tryd.underlying22 Tryd.underlying5 cells5 h with ⟨hcs, hx⟩ | ⟨a, len, cap, zs, hcs, _, hl, hm, hz, hx, hcell, hwz⟩
  · obtain rfl : v = .slice none 0 0 := by simpa using hcs
    exact ⟨none, 0, 0, fun _ => 0, rfl, .inr ⟨rfl, fun _ => rfl⟩⟩
  · obtain rfl : v = .slice (some a) len cap := by simpa using hcs
    simp only [if_true] at hz
    refine ⟨some a, len, cap, fun j => memB W (a.add j), rfl, ?_⟩
    by_cases h0 : len = 0
    · exact .inr ⟨h0, fun h => by cases h⟩
    · left
      obtain ⟨ab, ao, spot⟩ := a
      have hspot : spot = none := by simpa [Addr.add] using World.cell?_spot (hcell 0 (by omega))
      subst hspot
      refine .inl ⟨ab, ao, rfl, hl, fun j hj => ?_⟩
      have hc := hcell j (by omega)
      have hw : (Lit.int .u8 (zs.getD j 0)).wf = true := hwz _ (by
        rw [List.getD_eq_getElem?_getD, List.getElem?_eq_getElem (by omega)]; simp)
      have e := memB_eq hc hw
      rw [show (⟨ab, ao, none⟩ : Addr).add j = ⟨ab, ao + j, none⟩ by simp [Addr.add]] at e
      show W.cell? _ = Option.some (Value.int .u8 ((memB W ((⟨ab, ao, none⟩ : Addr).add j)).toNat : Int))
      rw [show (⟨ab, ao, none⟩ : Addr).add j = ⟨ab, ao + j, none⟩ by simp [Addr.add]]
      exact e
def ptrOf : Value → Option Addr | .slice p _ _ => p | _ => none
def lenOf' : Value → Nat | .slice _ n _ => n | _ => 0
def capOf' : Value → Nat | .slice _ _ c => c | _ => 0
def intOf' : Value → Int | .int _ n => n | _ => 0
def boolOf' : Value → Bool | .bool b => b | _ => false
def bytesOf' (W : World) (v : Value) (j : Nat) : UInt8 := match ptrOf v with | some ad => memB W (ad.add j) | none => 0
set_option maxRecDepth 100000 in
theorem open_forks {H : Type} {enc : TypeId × Value → H} {W : World} {b0 : Nat} {v : Value} {d : DataW H} {p : List MemPlace} (hval : Value.okWide Tryd.prog W .any b0 48 v) (h : DataW.Trod enc Tryd.prog W 0 (fun _ => true) true 48 v d p) :
    ∃ (sp : Option Addr) (N cap : Nat) (fr : Nat → Int) (st : Nat → Bool) (bp : Nat → Option Addr) (bl bc : Nat → Nat) (bf : Nat → Nat → UInt8) (a off : Nat), v = .slice sp N cap ∧ (sp = some ⟨a, off, none⟩ ∨ N = 0) ∧ ActsAt W a off N fr st bp bl bc bf := by
  obtain ⟨a1, len, cap, rfl⟩ := okWide_slice Tryd.underlying48 hval
  obtain ⟨fuel, hf⟩ := h
  have nothing : ∀ sp : Option Addr, ∀ cap : Nat, ∃ (sp' : Option Addr) (N cap' : Nat) (fr : Nat → Int) (st : Nat → Bool) (bp : Nat → Option Addr) (bl bc : Nat → Nat) (bf : Nat → Nat → UInt8) (a off : Nat), Value.slice sp 0 cap = .slice sp' N cap' ∧ (sp' = some ⟨a, off, none⟩ ∨ N = 0) ∧ ActsAt W a off N fr st bp bl bc bf := fun sp cap =>
    ⟨sp, 0, cap, fun _ => 0, fun _ => false, fun _ => none, fun _ => 0, fun _ => 0, fun _ _ => 0, 0, 0, rfl, .inr rfl, ⟨fun i hi => by omega, fun i hi => by omega, fun i hi => by omega, fun i hi => by omega⟩⟩
  rcases open_slice_triples Tryd.underlying48 Tryd.underlying54 cells54s rfl rfl rfl cells3s cells4s cells22u hf with hcs | ⟨a, len', cap', m, n, V0, V1, V2, D0, D1, D2, hcs, hl, hm, hx⟩
  · simp [Value.cells] at hcs
    obtain ⟨rfl, rfl, rfl⟩ := hcs
    exact nothing none 0
  · simp [Value.cells] at hcs
    obtain ⟨rfl, rfl, rfl⟩ := hcs
    simp only [if_true] at hm
    by_cases h0 : len = 0
    · subst h0; exact nothing _ _
    · have hs := World.cell?_spot (hx 0 (by omega)).1
      obtain ⟨ab, ao, spot⟩ := a
      have hspot : spot = none := by simpa [Addr.add] using hs
      subst hspot
      refine ⟨some ⟨ab, ao, none⟩, len, cap, fun i => intOf' (V0 i), fun i => boolOf' (V1 i), fun i => ptrOf (V2 i), fun i => lenOf' (V2 i), fun i => capOf' (V2 i), fun i => bytesOf' W (V2 i), ab, ao, rfl, .inl rfl, ⟨fun i hi => ?_, fun i hi => ?_, fun i hi => ?_, fun i hi => ?_⟩⟩
      · obtain ⟨h1, _, _, h4, _, _⟩ := hx i (by omega)
        obtain ⟨z, hz1, _, hz2⟩ := DataW.trod_int Tryd.underlying3 h4
        have e1 : V0 i = .int .i64 z := by simpa using hz1
        rw [add_at'] at h1
        exact h1.trans (by show some (V0 i) = some (Value.int .i64 (intOf' (V0 i))); rw [e1]; rfl)
      · obtain ⟨_, h2, _, _, h5, _⟩ := hx i (by omega)
        obtain ⟨z, hz1, _⟩ := DataW.trod_bool Tryd.underlying4 h5
        have e1 : V1 i = .bool z := by simpa using hz1
        rw [add_at'] at h2
        rw [show ao + i * 3 + 1 = ao + (i * 3 + 1) by omega]
        exact h2.trans (by show some (V1 i) = some (Value.bool (boolOf' (V1 i))); rw [e1]; rfl)
      · obtain ⟨_, _, h3, _, _, h6⟩ := hx i (by omega)
        obtain ⟨q, k, c, f, e1, _⟩ := open_bytesV h6
        rw [add_at'] at h3
        rw [show ao + i * 3 + 2 = ao + (i * 3 + 2) by omega]
        exact h3.trans (by show some (V2 i) = some (Value.slice (ptrOf (V2 i)) (lenOf' (V2 i)) (capOf' (V2 i))); rw [e1]; rfl)
      · obtain ⟨_, _, _, _, _, h6⟩ := hx i (by omega)
        obtain ⟨q, k, c, f, e1, hb⟩ := open_bytesV h6
        show BytesAt W (ptrOf (V2 i)) (lenOf' (V2 i)) (capOf' (V2 i)) (bytesOf' W (V2 i)) ∨ (lenOf' (V2 i) = 0 ∧ (ptrOf (V2 i) = none → capOf' (V2 i) = 0))
        rw [e1]
        show BytesAt W q k c (bytesOf' W (.slice q k c)) ∨ (k = 0 ∧ (q = none → c = 0))
        rcases hb with (⟨x, y, rfl, h1, h2⟩ | h1) | h1
        · refine .inl (.inl ⟨x, y, rfl, h1, fun j hj => ?_⟩)
          have hc := h2 j hj
          have e := memB_eq hc (wf_byte _)
          rw [hc] at e ⊢
          show some _ = some (Value.int .u8 ((memB W ((⟨x, y, none⟩ : Addr).add j)).toNat : Int))
          rw [show (⟨x, y, none⟩ : Addr).add j = ⟨x, y + j, none⟩ by simp [Addr.add]]
          exact e
        · exact .inl (.inr h1)
        · exact .inr h1
end Go.Proofs.YtikdpiedjkailaaDoor
