/- Appends onto rows of one's own. -/
import Derived.Test.YtikdpiedjkailaaDoorR6
namespace Go.Proofs.YtikdpiedjkailaaDoor
open Go.RowKit

theorem row_lt {w : World} {b : Nat} {o : Obj} (h : w.heap[b]? = some o) : b < w.heap.size := by
  by_cases e : b < w.heap.size
  · exact e
  · rw [Array.getElem?_eq_none (by omega)] at h; exact nomatch h

theorem fL_append (F f g : Nat → UInt8) (n m : Nat) (h1 : ∀ j, j < n → F j = f j) (h2 : ∀ j, j < m → F (n + j) = g j) : fL f n ++ fL g m = fL F (n + m) := by
  induction m with
  | zero => rw [show fL g 0 = [] from rfl, List.append_nil]; exact (fL_congr n (fun j hj => h1 j hj)).symm
  | succ m ih =>
    rw [fL_succ, ← List.append_assoc, ih (fun j hj => h2 j (by omega)), ← Nat.add_assoc, fL_succ, h2 m (by omega)]
theorem BytesAt.news {w : World} {ad : Addr} {n c : Nat} {f : Nat → UInt8} (h : BytesAt w (some ad) n c f) : ∀ j u, (fL f n)[j]? = some u → w.cell? (ad.add j) = some u := fun j u hj => by
  obtain ⟨h1, rfl⟩ := fL_get f n j u hj
  rcases h with ⟨x, y, e, _, hb⟩ | ⟨h0, _⟩
  · cases e
    rw [show (⟨x, y, none⟩ : Addr).add j = ⟨x, y + j, none⟩ by simp [Addr.add]]
    exact hb j h1
  · cases h0
/-- 'append(s, b...)', s a row of one's own, b any bytes. -/
theorem wpList_append_bytes {w : World} {ops : Array Oper} {rest : List Oper} {o : Oper} {a : Act} {Q : Exit → Act → World → Prop} (hgd : o.guard = none) (s x : Operand)
    (ho : o.op = .call { callee := .builtin .append, args := #[s, x], argTypes := #[22, 22] }) (base : Nat) (v : Value) (k : Nat) (xs : List Value) (hs : a.eval s = v) (hown : w.ownsRow base 5 1 v k xs)
    (p : Option Addr) (n c : Nat) (f : Nat → UInt8) (hx : a.eval x = .slice p n c) (hb : BytesAt w p n c f) (hk : k + n ≤ 100000000000000) (hbase : base ≤ w.heap.size)
    (h : ∀ v' w', w'.ownsRow base 5 1 v' (k + n) (xs ++ fL f n) → w.grownBy w' v.ownBlock → wpList Tryd.prog ops Q rest (a.put o.dst v') w') : wpList Tryd.prog ops Q (o :: rest) a w := by
  obtain ⟨i0, hi, hz0, hz1, hz2⟩ := info_parts info5
  cases p with
  | some ad => exact wpList_append_own _ hgd s x 22 ho base 5 i0 (.int .u8 0) 1 1 Tryd.underlying22 hi hz0 hz1 hz2 rfl (by decide) v k xs hs hown ad n c (fL f n) hx (by rw [fL_len]; omega) hb.news (fL_one _ _) (by simp [maxLen]; omega) (by omega) hbase (fun v' w' h1 h2 _ => h v' w' h1 h2)
  | none =>
    rcases hb with ⟨x, y, e, _⟩ | ⟨_, rfl, rfl⟩
    · cases e
    · exact wpList_append_own_none hgd s x 22 ho base 5 i0 1 Tryd.underlying22 hi v k xs hs hown hx (h v w (by simpa [fL] using hown) ⟨rfl, rfl, rfl, Nat.le_refl _, fun _ _ _ => rfl⟩)
theorem own_pos {w : World} {base k : Nat} {v : Value} {F : Nat → UInt8} (h : w.ownsRow base 5 1 v k (fL F k)) (hk : 0 < k) : ∃ g cap, v = .slice (some ⟨g, 0, none⟩) k cap ∧ base ≤ g ∧ g < w.heap.size ∧ k ≤ cap ∧ BytesAt w (some ⟨g, 0, none⟩) k cap F := by
  obtain ⟨hlen, h0 | ⟨g, cap, cur, rfl, hbg, hg, hnc, hcm, hcs, htake⟩⟩ := h
  · exact absurd h0.2 (by omega)
  · exact ⟨g, cap, rfl, hbg, row_lt hg, hnc, .inl ⟨g, 0, rfl, hnc, fun j hj => by rw [Nat.zero_add]; exact (cell_of_heap hg _).trans (fL_cur htake j hj)⟩⟩

end Go.Proofs.YtikdpiedjkailaaDoor
