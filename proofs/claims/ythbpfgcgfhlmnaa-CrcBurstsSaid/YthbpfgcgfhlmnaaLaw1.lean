/- Arguments that are slices: of bytes, and of parts. -/
import Derived.Test.YthbpfgcgfhlmnaaLaw0
import Derived.Test.YthbpfgcgfhlmnaaT20
import Derived.Deep.Slices
import Derived.Carry
namespace Go.Proofs.Ythbpfgcgfhlmnaa
open Go.ChangeShapes Go.WideShapes Go.ChangeAt Go.RowKit

theorem laidOut : laidOutB Try.prog = true := by kernel_rfl
theorem cells5 : Try.prog.cellsOf 5 = 1 := by kernel_rfl
theorem cells24 : Try.prog.cellsOf 24 = 1 := by kernel_rfl
/-- The byte at an address. -/
def byteAt (W : World) (a : Addr) : UInt8 := match W.cell? a with | some (.int .u8 n) => UInt8.ofNat n.toNat | _ => 0
theorem byteAt_eq {W : World} {a : Addr} {n : Int} (h : W.cell? a = some (.int .u8 n)) (hw : (Lit.int .u8 n).wf = true) : W.cell? a = some (.int .u8 ((byteAt W a).toNat : Int)) := by
  have hb := bounds_u8 hw
  unfold byteAt
  rw [h]
  congr 2
  rw [UInt8.toNat_ofNat']
  omega
theorem wf_byte (c : UInt8) : (Lit.int .u8 (c.toNat : Int)).wf = true := by
  have := c.toNat_lt
  simp [Lit.wf, IntKind.min, IntKind.max, IntKind.signed, IntKind.bits]
  omega
/-- A slice of bytes that was read: its value, and what lies in it. -/
theorem open_bytesV {H : Type} {enc : TypeId × Value → H} {W : World} {fuel : Nat} {v : Value} {x : DataW H × List MemPlace} (h : DataW.trod enc Try.prog W 0 (fun _ => true) true fuel 24 [v] = some x) :
    ∃ (p : Option Addr) (n c : Nat) (f : Nat → UInt8), v = .slice p n c ∧ n ≤ c ∧ c ≤ maxLen ∧ ((∃ a y, p = some ⟨a, y, none⟩ ∧ a < W.heap.size ∧ ∀ j, j < n → W.cell? ⟨a, y + j, none⟩ = some (.int .u8 ((f j).toNat : Int))) ∨ (n = 0 ∧ (p = none → c = 0))) := by
  rcases Go.ChangeShapes.open_ints Try.underlying24 Try.underlying5 cells5 h with ⟨hcs, hx⟩ | ⟨a, len, cap, zs, hcs, _, hl, hm, hz, hx, hcell, hwz⟩
  · obtain rfl : v = .slice none 0 0 := by simpa using hcs
    exact ⟨none, 0, 0, fun _ => 0, rfl, Nat.le_refl _, Nat.zero_le _, .inr ⟨rfl, fun _ => rfl⟩⟩
  · obtain rfl : v = .slice (some a) len cap := by simpa using hcs
    simp only [if_true] at hz
    refine ⟨some a, len, cap, fun j => byteAt W (a.add j), rfl, hl, hm, ?_⟩
    by_cases h0 : len = 0
    · exact .inr ⟨h0, fun h => by cases h⟩
    · left
      obtain ⟨ab, ao, spot⟩ := a
      have hspot : spot = none := by simpa [Addr.add] using World.cell?_spot (hcell 0 (by omega))
      subst hspot
      refine ⟨ab, ao, rfl, cell_lt (hcell 0 (by omega)), fun j hj => ?_⟩
      have hc := hcell j (by omega)
      have hw : (Lit.int .u8 (zs.getD j 0)).wf = true := hwz _ (by
        rw [List.getD_eq_getElem?_getD, List.getElem?_eq_getElem (by omega)]; simp)
      have e := byteAt_eq hc hw
      rw [show (⟨ab, ao, none⟩ : Addr).add j = ⟨ab, ao + j, none⟩ by simp [Addr.add]] at e
      show W.cell? _ = Option.some (Value.int .u8 ((byteAt W ((⟨ab, ao, none⟩ : Addr).add j)).toNat : Int))
      rw [show (⟨ab, ao, none⟩ : Addr).add j = ⟨ab, ao + j, none⟩ by simp [Addr.add]]
      exact e
theorem open_bytes {H : Type} {enc : TypeId × Value → H} {W : World} {b0 : Nat} {v : Value} {d : DataW H} {p : List MemPlace} (hval : Value.okWide Try.prog W .any b0 24 v) (h : DataW.Trod enc Try.prog W 0 (fun _ => true) true 24 v d p) :
    ∃ (q : Option Addr) (n c : Nat) (f : Nat → UInt8), v = .slice q n c ∧ n ≤ c ∧ BytesAt W q n c f := by
  obtain ⟨a1, len, cap, rfl⟩ := okWide_slice Try.underlying24 hval
  obtain ⟨fuel, hf⟩ := h
  obtain ⟨q, n, c, f, e, hnc, _, hb⟩ := open_bytesV (v := .slice a1 len cap) hf
  cases e
  refine ⟨_, _, _, f, rfl, hnc, ?_⟩
  rcases hb with ⟨a, y, h1, h2, h3⟩ | h
  · exact .inl ⟨a, y, h1, hnc, h2, h3⟩
  · exact .inr h
def ptrOf : Value → Option Addr | .slice p _ _ => p | _ => none
def lenOf' : Value → Nat | .slice _ n _ => n | _ => 0
def capOf' : Value → Nat | .slice _ _ c => c | _ => 0
def partB (W : World) (V : Nat → Value) (i j : Nat) : UInt8 := match ptrOf (V i) with | some ad => byteAt W (ad.add j) | none => 0
theorem partB_eq (W : World) (V : Nat → Value) (i j : Nat) {ad : Addr} {k c : Nat} (h : V i = .slice (some ad) k c) : partB W V i j = byteAt W (ad.add j) := by
  unfold partB; rw [h]; rfl
theorem open_parts {H : Type} {enc : TypeId × Value → H} {W : World} {b0 : Nat} {v : Value} {d : DataW H} {p : List MemPlace} (hval : Value.okWide Try.prog W .any b0 22 v) (h : DataW.Trod enc Try.prog W 0 (fun _ => true) true 22 v d p) :
    ∃ (sp : Option Addr) (N cap : Nat) (P : Nat → Option Addr) (L C : Nat → Nat) (f : Nat → UInt8) (a off : Nat), v = .slice sp N cap ∧ (sp = some ⟨a, off, none⟩ ∨ N = 0) ∧ PartsAt W a off N P L C f ∧ ∀ i, i < N → L i ≤ C i := by
  obtain ⟨a1, len, cap, rfl⟩ := okWide_slice Try.underlying22 hval
  obtain ⟨fuel, hf⟩ := h
  rcases Go.Deep.open_slice1 Try.underlying22 cells24 hf with ⟨hcs, _⟩ | ⟨a, len', cap', m, n, V, D, Pl, hcs, _, hl, _, hm, _, hx⟩
  · simp [Value.cells] at hcs
    obtain ⟨rfl, rfl, rfl⟩ := hcs
    exact ⟨none, 0, 0, fun _ => none, fun _ => 0, fun _ => 0, fun _ => 0, 0, 0, rfl, .inr rfl, ⟨fun i hi => by omega, fun i hi => by omega⟩, fun i hi => by omega⟩
  · simp [Value.cells] at hcs
    obtain ⟨rfl, rfl, rfl⟩ := hcs
    simp only [if_true] at hm
    have hV : ∀ i, i < len → ∃ (q : Option Addr) (k c : Nat) (f : Nat → UInt8), V i = .slice q k c ∧ k ≤ c ∧ c ≤ maxLen ∧ ((∃ a y, q = some ⟨a, y, none⟩ ∧ a < W.heap.size ∧ ∀ j, j < k → W.cell? ⟨a, y + j, none⟩ = some (.int .u8 ((f j).toNat : Int))) ∨ (k = 0 ∧ (q = none → c = 0))) := fun i hi => open_bytesV (hx i (by omega)).2
    have hF : ∃ F : Nat → Nat → UInt8, ∀ i, i < len → ((∃ a y, ptrOf (V i) = some ⟨a, y, none⟩ ∧ a < W.heap.size ∧ ∀ j, j < lenOf' (V i) → W.cell? ⟨a, y + j, none⟩ = some (.int .u8 ((F i j).toNat : Int))) ∨ (lenOf' (V i) = 0 ∧ (ptrOf (V i) = none → capOf' (V i) = 0))) := by
      refine ⟨partB W V, fun i hi => ?_⟩
      obtain ⟨q, k, c, f, e, _, _, hb⟩ := hV i hi
      rw [show ptrOf (V i) = q by rw [e]; rfl, show lenOf' (V i) = k by rw [e]; rfl, show capOf' (V i) = c by rw [e]; rfl]
      rcases hb with ⟨a, y, rfl, h2, h3⟩ | ⟨h1, h2⟩
      · refine .inl ⟨a, y, rfl, h2, fun j hj => ?_⟩
        have hc := h3 j hj
        rw [partB_eq W V i j e, show (⟨a, y, none⟩ : Addr).add j = ⟨a, y + j, none⟩ by simp [Addr.add]]
        exact byteAt_eq hc (wf_byte _)
      · exact .inr ⟨h1, h2⟩
    obtain ⟨F, hF⟩ := hF
    refine ⟨some a, len, cap, fun i => ptrOf (V i), fun i => lenOf' (V i), fun i => capOf' (V i), catF (fun i => lenOf' (V i)) F len, a.block, a.off, rfl, ?_, ⟨fun i hi => ?_, fun i hi => ?_⟩, fun i hi => ?_⟩
    · by_cases h0 : len = 0
      · exact .inr h0
      · left
        have hs := World.cell?_spot (hx 0 (by omega)).1
        obtain ⟨ab, ao, spot⟩ := a
        have hspot : spot = none := by simpa [Addr.add] using hs
        subst hspot; rfl
    · obtain ⟨q, k, c, f, e, _⟩ := hV i hi
      have hc := (hx i (by omega)).1
      have hs := World.cell?_spot (hx 0 (by omega)).1
      obtain ⟨ab, ao, spot⟩ := a
      have hspot : spot = none := by simpa [Addr.add] using hs
      subst hspot
      rw [show (⟨ab, ao, none⟩ : Addr).add i = ⟨ab, ao + i, none⟩ by simp [Addr.add]] at hc
      rw [hc, e]; rfl
    · have hab : a.block < W.heap.size := by
        have hc := cell_lt (hx 0 (by omega)).1
        simpa [Addr.add] using hc
      rcases hF i hi with ⟨b, y, h1, h2, h3⟩ | h
      · exact ⟨b, y, .inl h1, h2, fun j hj => (h3 j hj).trans (by rw [catF_at _ _ _ _ _ hi hj])⟩
      · exact ⟨a.block, 0, .inr h, hab, fun j hj => by have : lenOf' (V i) = 0 := h.1; omega⟩
    · obtain ⟨q, k, c, f, e, hkc, _⟩ := hV i hi
      show lenOf' (V i) ≤ capOf' (V i)
      rw [e]; exact hkc
/-- The end of a law whose row asks not for the readings again, and that left all elder blocks as they were. -/
theorem post_of_ch2 {H : Type} {enc : TypeId × Value → H} {f : Func} {s : ChangeSpec} {apart fresh handsOn : Bool} {W W' : World} {args : Array Value} {v : Value} {ds gs : List (DataW H)} {before pa pv : List MemPlace}
    (hW : DataW.Whole enc Try.prog f.params.toList s.vars apart W args.toList ds gs before)
    (hres : ∀ (b : Nat) (sp : Nat → Bool) (hd : Bool), DataW.TrodAll enc Try.prog W' b sp hd f.resultTypes.toList (v.resultList f.resultTypes.size) (s.fn H (ds ++ gs)).results [])
    (hargs : DataW.TrodAll enc Try.prog W' 0 (fun b => decide (b < W.heap.size)) true f.params.toList args.toList (s.fn H (ds ++ gs)).args pa)
    (hvars : DataW.TrodVars enc Try.prog W' (fun b => decide (b < W.heap.size)) s.vars (s.fn H (ds ++ gs)).vars pv)
    (hk : Ch (fun _ => False) W W') :
    s.post enc Try.prog f apart fresh handsOn false W args v W' :=
  ⟨ds, gs, before, [], pa, pv, hW, hres _ _ _, hargs, hvars, hk.below.frame _, fun h => by cases h⟩
end Go.Proofs.Ythbpfgcgfhlmnaa
