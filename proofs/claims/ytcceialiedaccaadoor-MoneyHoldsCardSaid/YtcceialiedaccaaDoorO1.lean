/- Appends of integers onto rows of one's own. -/
import Derived.Test.YtcceialiedaccaaDoorA11
import Derived.Laws.OwnMore
import Derived.Laws.AppendOwnNone
namespace Go.Proofs.YtcceialiedaccaaDoor
open Go Go.RowKit

def zL (z : Nat → Int) (n : Nat) : List Value := (List.range n).map fun j => .int .i64 (z j)
theorem zL_len (z : Nat → Int) (n : Nat) : (zL z n).length = n := by simp [zL]
theorem zL_get (z : Nat → Int) (n j : Nat) (u : Value) (h : (zL z n)[j]? = some u) : j < n ∧ u = .int .i64 (z j) := by
  unfold zL at h
  by_cases hj : j < n
  · simp [hj] at h; exact ⟨hj, h.symm⟩
  · rw [List.getElem?_eq_none (by simp; omega)] at h; cases h
theorem zL_at (z : Nat → Int) (n j : Nat) (h : j < n) : (zL z n)[j]? = some (.int .i64 (z j)) := by simp [zL, h]
theorem zL_one (z : Nat → Int) (n : Nat) : ∀ u ∈ zL z n, u.oneCell' = true := by
  intro u hu
  unfold zL at hu
  obtain ⟨_, _, rfl⟩ := List.mem_map.1 hu
  rfl
theorem info2 : (Tryd.prog.info? 2).map (fun i => (i.zero, i.size, i.bytes)) = some (some (.int .i64 0), 1, 8) := by kernel_rfl
theorem info_parts {t : TypeId} {z : Value} {s b : Nat} (h : (Tryd.prog.info? t).map (fun i => (i.zero, i.size, i.bytes)) = some (some z, s, b)) : ∃ i, Tryd.prog.info? t = some i ∧ i.zero = some z ∧ i.size = s ∧ i.bytes = b := by
  cases hi : Tryd.prog.info? t with
  | none => rw [hi] at h; cases h
  | some i => rw [hi] at h; simp at h; exact ⟨i, rfl, h.1, h.2.1, h.2.2⟩
theorem ownsRow_empty (w : World) (base : Nat) (h : base ≤ w.heap.size) : (w.alloc (.cells #[] 2)).ownsRow base 2 1 (.slice (some ⟨w.heap.size, 0, none⟩) 0 0) 0 [] :=
  World.ownsRow_made w #[] 0 h (by simp [maxLen]) rfl
theorem IntsAt.news {w : World} {ad : Addr} {n : Nat} {z : Nat → Int} (h : IntsAt w (some ad) n z) : ∀ j u, (zL z n)[j]? = some u → w.cell? (ad.add j) = some u := fun j u hj => by
  obtain ⟨h1, rfl⟩ := zL_get z n j u hj
  rcases h with ⟨x, y, e, _, hb⟩ | h0
  · cases e
    rw [show (⟨x, y, none⟩ : Addr).add j = ⟨x, y + j, none⟩ by simp [Addr.add]]
    exact hb j h1
  · omega
/-- 'append(s, l...)', s a row of one's own, l any numbers. -/
theorem wpList_append_ints {w : World} {ops : Array Oper} {rest : List Oper} {o : Oper} {a : Act} {Q : Exit → Act → World → Prop} (hgd : o.guard = none) (s x : Operand)
    (ho : o.op = .call { callee := .builtin .append, args := #[s, x], argTypes := #[22, 22] }) (base : Nat) (v : Value) (k : Nat) (xs : List Value) (hs : a.eval s = v) (hown : w.ownsRow base 2 1 v k xs)
    (p : Option Addr) (n c : Nat) (z : Nat → Int) (hx : a.eval x = .slice p n c) (hb : IntsAt w p n z) (hp : p = none → n = 0 ∧ c = 0) (hk : k + n ≤ 1000000000000) (hbase : base ≤ w.heap.size)
    (h : ∀ v' w', w'.ownsRow base 2 1 v' (k + n) (xs ++ zL z n) → w.grownBy w' v.ownBlock → wpList Tryd.prog ops Q rest (a.put o.dst v') w') : wpList Tryd.prog ops Q (o :: rest) a w := by
  obtain ⟨i0, hi, hz0, hz1, hz2⟩ := info_parts info2
  cases p with
  | some ad => exact wpList_append_own _ hgd s x 22 ho base 2 i0 (.int .i64 0) 1 8 Tryd.underlying22 hi hz0 hz1 hz2 rfl (by decide) v k xs hs hown ad n c (zL z n) hx (by rw [zL_len]; omega) hb.news (zL_one _ _) (by simp [maxLen]; omega) (by omega) hbase (fun v' w' h1 h2 _ => h v' w' h1 h2)
  | none =>
    obtain ⟨rfl, rfl⟩ := hp rfl
    exact wpList_append_own_none hgd s x 22 ho base 2 i0 1 Tryd.underlying22 hi v k xs hs hown hx (h v w (by simpa [zL] using hown) ⟨rfl, rfl, rfl, Nat.le_refl _, fun _ _ _ => rfl⟩)
theorem own_some {w : World} {base k : Nat} {v : Value} {xs : List Value} (h : w.ownsRow base 2 1 v (k + 1) xs) : ∃ g cap cur, v = .slice (some ⟨g, 0, none⟩) (k + 1) cap ∧ base ≤ g ∧ w.heap[g]? = some (.cells cur 2) ∧ k + 1 ≤ cap ∧ cur.toList.take (k + 1) = xs := by
  rcases h.2 with ⟨_, h⟩ | ⟨g, cap, cur, rfl, hb, hg, hnc, _, _, htake⟩
  · omega
  · rw [Nat.mul_one] at htake
    exact ⟨g, cap, cur, rfl, hb, hg, hnc, htake⟩
theorem take_at {cur : Array Value} {k : Nat} {xs : List Value} (h : cur.toList.take k = xs) (j : Nat) (hj : j < k) : cur[j]? = xs[j]? := by
  rw [← h, List.getElem?_take, if_pos hj]; simp
theorem slice_to (q : Option Addr) (n c k : Nat) (h : k ≤ c) (w : World) : (Instr.slice 22 (.slice q n c) none (some (.int .i64 (k : Int))) none).run Tryd.prog w = .ok (.slice q k c) w := by
  have e : ¬ c < k := by omega
  cases q with
  | none => simp [Instr.slice, Instr.sliceBounds, Instr.sliceBound, run_underlying Tryd.underlying22, asIntOf, go_sem, e]
  | some a => simp [Instr.slice, Instr.sliceBounds, Instr.sliceBound, run_underlying Tryd.underlying22, asIntOf, go_sem, e, Addr.add]
theorem one_at (wr : World) (v : Value) (t : TypeId) : ∀ j u, [v][j]? = some u → (wr.alloc (.cells #[v] t)).cell? ((⟨wr.heap.size, 0, none⟩ : Addr).add j) = some u := fun j u h => by
  match j, h with
  | 0, h =>
    have := cell_fresh wr #[v] t 0
    rw [show (⟨wr.heap.size, 0, none⟩ : Addr).add 0 = ⟨wr.heap.size, 0, none⟩ by simp [Addr.add], this]
    exact h
theorem ints_of_row {w : World} {g k n : Nat} {cur : Array Value} {z : Nat → Int} {ys : List Value} (hg : w.heap[g]? = some (.cells cur 2)) (ht : cur.toList.take k = zL z n ++ ys) (hk : n ≤ k) : IntsAt w (some ⟨g, 0, none⟩) n z :=
  .inl ⟨g, 0, rfl, (Array.getElem?_eq_some_iff.1 hg).1, fun j hj => by
    rw [Nat.zero_add]
    refine (cell_of_heap hg j).trans ((take_at ht j (by omega)).trans ?_)
    rw [List.getElem?_append_left (by rw [zL_len]; exact hj)]
    exact zL_at z n j hj⟩
end Go.Proofs.YtcceialiedaccaaDoor
