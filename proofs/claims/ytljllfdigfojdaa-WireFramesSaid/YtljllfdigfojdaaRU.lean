/- Rows of bytes of one's own. -/
import Derived.Test.YtljllfdigfojdaaL6
namespace Go.Proofs.Ytljllfdigfojdaa
open Go Go.RowKit

/-- A row of bytes of one's own, whatever it holds. -/
def RowU (w : World) (g n : Nat) : Prop := ∃ cur, w.heap[g]? = some (.cells cur 5) ∧ ∀ j, j < n → ∃ z : UInt8, cur[j]? = some (.int .u8 (z.toNat : Int))
theorem RowU.set {w : World} {g n k : Nat} (h : RowU w g n) (z : UInt8) (hk : k < n) : RowU (w.setCell ⟨g, k, none⟩ (.int .u8 (z.toNat : Int))) g n := by
  obtain ⟨cur, h1, h2⟩ := h
  refine ⟨_, row_setM h1 k _, fun j hj => ?_⟩
  rw [Array.getElem?_setIfInBounds]
  by_cases e : k = j
  · subst e
    obtain ⟨z', hz⟩ := h2 k hj
    rw [if_pos rfl, if_pos (Array.getElem?_eq_some_iff.1 hz).1]
    exact ⟨z, rfl⟩
  · rw [if_neg e]; exact h2 j hj
theorem own_rowU {w : World} {base n : Nat} {v : Value} {f : Nat → UInt8} (h : w.ownsRow base 5 1 v n (fL f n)) : (∃ g c, v = .slice (some ⟨g, 0, none⟩) n c ∧ RowU w g n ∧ base ≤ g) ∨ (v = .slice none 0 0 ∧ n = 0) := by
  rcases h.2 with ⟨rfl, rfl⟩ | ⟨g, cap, cur, rfl, hb, hg, hnc, _, _, htake⟩
  · exact .inr ⟨rfl, rfl⟩
  · exact .inl ⟨g, cap, rfl, ⟨cur, hg, fun j hj => ⟨f j, fL_cur htake j hj⟩⟩, hb⟩
theorem bS_congr {f g : Nat → UInt8} {n : Nat} (h : ∀ j, j < n → f j = g j) : bS f n = bS g n := by
  unfold bS bL
  rw [List.map_congr_left (fun j hj => h j (List.mem_range.1 hj))]
end Go.Proofs.Ytljllfdigfojdaa
