/- Arguments that are slices of slices of bytes. -/
import Derived.Test.YtikdpiedjkailaaDoorCard2
import Derived.Test.YtikdpiedjkailaaDoorH21
namespace Go.Proofs.YtikdpiedjkailaaDoor
open Go.ChangeShapes Go.WideShapes Go.ChangeAt Go.RowKit

theorem cells22s : Tryd.prog.cellsOf 22 = 1 := by kernel_rfl
def catF (L : Nat → Nat) (F : Nat → Nat → UInt8) : Nat → Nat → UInt8
  | 0 => fun _ => 0
  | n + 1 => fun k => if k < upto L n then catF L F n k else F n (k - upto L n)
theorem catF_at (L : Nat → Nat) (F : Nat → Nat → UInt8) (n i j : Nat) (hi : i < n) (hj : j < L i) : catF L F n (upto L i + j) = F i j := by
  induction n with
  | zero => omega
  | succ n ih =>
    show (if upto L i + j < upto L n then _ else _) = _
    by_cases e : i = n
    · subst e; rw [if_neg (by omega), show upto L i + j - upto L i = j by omega]
    · have := upto_le L (show i + 1 ≤ n by omega)
      have h2 : upto L (i + 1) = upto L i + L i := rfl
      rw [if_pos (by omega)]
      exact ih (by omega)
set_option maxRecDepth 100000 in
/-- A slice of bytes that was read: its value, and what lies in it. -/
theorem open_bytesV {H : Type} {enc : TypeId × Value → H} {W : World} {fuel : Nat} {v : Value} {x : DataW H × List MemPlace} (h : DataW.trod enc Tryd.prog W 0 (fun _ => true) true fuel 22 [v] = some x) :
    ∃ (p : Option Addr) (n c : Nat) (f : Nat → UInt8), v = .slice p n c ∧ n ≤ c ∧ c ≤ maxLen ∧ ((∃ a y, p = some ⟨a, y, none⟩ ∧ a < W.heap.size ∧ ∀ j, j < n → W.cell? ⟨a, y + j, none⟩ = some (.int .u8 ((f j).toNat : Int))) ∨ (n = 0 ∧ (p = none → c = 0))) := by
  rcases Go.ChangeShapes.open_ints Tryd.underlying22 Tryd.underlying5 cells5 h with ⟨hcs, hx⟩ | ⟨a, len, cap, zs, hcs, _, hl, hm, hz, hx, hcell, hwz⟩
  · obtain rfl : v = .slice none 0 0 := by simpa using hcs
    exact ⟨none, 0, 0, fun _ => 0, rfl, Nat.le_refl _, Nat.zero_le _, .inr ⟨rfl, fun _ => rfl⟩⟩
  · obtain rfl : v = .slice (some a) len cap := by simpa using hcs
    simp only [if_true] at hz
    refine ⟨some a, len, cap, fun j => memB W (a.add j), rfl, hl, hm, ?_⟩
    by_cases h0 : len = 0
    · exact .inr ⟨h0, fun h => by cases h⟩
    · left
      obtain ⟨ab, ao, spot⟩ := a
      have hspot : spot = none := by simpa [Addr.add] using World.cell?_spot (hcell 0 (by omega))
      subst hspot
      refine ⟨ab, ao, rfl, cell_lt (hcell 0 (by omega)), fun j hj => ?_⟩
      have hc := hcell j (by omega)
      have hw : (Lit.int .u8 (zs.getD j 0)).wf = true := hwz _ (by
        rw [List.getD_eq_getElem?_getD, List.getElem?_eq_getElem (by omega)]; simp)
      have e := memB_eq hc hw
      rw [show (⟨ab, ao, none⟩ : Addr).add j = ⟨ab, ao + j, none⟩ by simp [Addr.add]] at e
      show W.cell? _ = Option.some (Value.int .u8 ((memB W ((⟨ab, ao, none⟩ : Addr).add j)).toNat : Int))
      rw [show (⟨ab, ao, none⟩ : Addr).add j = ⟨ab, ao + j, none⟩ by simp [Addr.add]]
      exact e
def ptrOf : Value → Option Addr | .slice p _ _ => p | _ => none
def lenOf' : Value → Nat | .slice _ n _ => n | _ => 0
def capOf' : Value → Nat | .slice _ _ c => c | _ => 0
def partB (W : World) (V : Nat → Value) (i j : Nat) : UInt8 := match ptrOf (V i) with | some ad => memB W (ad.add j) | none => 0
theorem partB_eq (W : World) (V : Nat → Value) (i j : Nat) {ad : Addr} {k c : Nat} (h : V i = .slice (some ad) k c) : partB W V i j = memB W (ad.add j) := by
  unfold partB; rw [h]; rfl
set_option maxRecDepth 100000 in
theorem open_parts {H : Type} {enc : TypeId × Value → H} {W : World} {b0 : Nat} {v : Value} {d : DataW H} {p : List MemPlace} (hval : Value.okWide Tryd.prog W .any b0 23 v) (h : DataW.Trod enc Tryd.prog W 0 (fun _ => true) true 23 v d p) :
    ∃ (sp : Option Addr) (N cap : Nat) (P : Nat → Option Addr) (L C : Nat → Nat) (f : Nat → UInt8) (a off : Nat), v = .slice sp N cap ∧ (sp = some ⟨a, off, none⟩ ∨ N = 0) ∧ PartsV W a off N P L C f := by
  obtain ⟨a1, len, cap, rfl⟩ := okWide_slice Tryd.underlying23 hval
  obtain ⟨fuel, hf⟩ := h
  rcases Go.Deep.open_slice1 Tryd.underlying23 cells22s hf with ⟨hcs, _⟩ | ⟨a, len', cap', m, n, V, D, Pl, hcs, _, hl, _, hm, _, hx⟩
  · simp [Value.cells] at hcs
    obtain ⟨rfl, rfl, rfl⟩ := hcs
    exact ⟨none, 0, 0, fun _ => none, fun _ => 0, fun _ => 0, fun _ => 0, 0, 0, rfl, .inr rfl, ⟨fun i hi => by omega, fun i hi => by omega⟩⟩
  · simp [Value.cells] at hcs
    obtain ⟨rfl, rfl, rfl⟩ := hcs
    simp only [if_true] at hm
    have hV : ∀ i, i < len → ∃ (q : Option Addr) (k c : Nat) (f : Nat → UInt8), V i = .slice q k c ∧ k ≤ c ∧ c ≤ maxLen ∧ ((∃ a y, q = some ⟨a, y, none⟩ ∧ a < W.heap.size ∧ ∀ j, j < k → W.cell? ⟨a, y + j, none⟩ = some (.int .u8 ((f j).toNat : Int))) ∨ (k = 0 ∧ (q = none → c = 0))) := fun i hi => open_bytesV (hx i (by omega)).2
    have hF : ∃ F : Nat → Nat → UInt8, ∀ i, i < len → ((∃ a y, ptrOf (V i) = some ⟨a, y, none⟩ ∧ a < W.heap.size ∧ ∀ j, j < lenOf' (V i) → W.cell? ⟨a, y + j, none⟩ = some (.int .u8 ((F i j).toNat : Int))) ∨ (lenOf' (V i) = 0 ∧ (ptrOf (V i) = none → capOf' (V i) = 0))) := by
      refine ⟨partB W V, fun i hi => ?_⟩
      obtain ⟨q, k, c, f, e, _, _, hb⟩ := hV i hi
      rw [show ptrOf (V i) = q by rw [e]; rfl, show lenOf' (V i) = k by rw [e]; rfl, show capOf' (V i) = c by rw [e]; rfl]
      rcases hb with ⟨a, y, rfl, h2, h3⟩ | ⟨h1, h2⟩
      · refine .inl ⟨a, y, rfl, h2, fun j hj => ?_⟩
        have hc := h3 j hj
        rw [partB_eq W V i j e, show (⟨a, y, none⟩ : Addr).add j = ⟨a, y + j, none⟩ by simp [Addr.add]]
        exact memB_eq hc (wf_byte _)
      · exact .inr ⟨h1, h2⟩
    obtain ⟨F, hF⟩ := hF
    refine ⟨some a, len, cap, fun i => ptrOf (V i), fun i => lenOf' (V i), fun i => capOf' (V i), catF (fun i => lenOf' (V i)) F len, a.block, a.off, rfl, ?_, ⟨fun i hi => ?_, fun i hi => ?_⟩⟩
    · by_cases h0 : len = 0
      · exact .inr h0
      · left
        have hs := World.cell?_spot (hx 0 (by omega)).1
        obtain ⟨ab, ao, spot⟩ := a
        have hspot : spot = none := by simpa [Addr.add] using hs
        subst hspot; rfl
    · obtain ⟨q, k, c, f, e, _⟩ := hV i hi
      have hc := (hx i (by omega)).1
      have hs := World.cell?_spot (hx 0 (by omega)).1
      obtain ⟨ab, ao, spot⟩ := a
      have hspot : spot = none := by simpa [Addr.add] using hs
      subst hspot
      rw [show (⟨ab, ao, none⟩ : Addr).add i = ⟨ab, ao + i, none⟩ by simp [Addr.add]] at hc
      rw [hc, e]; rfl
    · rcases hF i hi with ⟨b, y, h1, h2, h3⟩ | h
      · exact .inl ⟨b, y, h1, fun j hj => (h3 j hj).trans (by rw [catF_at _ _ _ _ _ hi hj])⟩
      · exact .inr h
end Go.Proofs.YtikdpiedjkailaaDoor
