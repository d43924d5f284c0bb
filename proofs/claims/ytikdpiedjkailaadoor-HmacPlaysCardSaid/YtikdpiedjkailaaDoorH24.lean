/- Rows with a mark behind their end: appending onto '[]byte(s)'. -/
import Derived.Test.YtikdpiedjkailaaDoorH19
namespace Go.Proofs.YtikdpiedjkailaaDoor
open Go Go.RowKit

/-- A row of one's own whose mark, if any, lies behind its end. -/
def ownM (w : World) (base : Nat) (v : Value) (n : Nat) (F : Nat → UInt8) : Prop :=
  ∃ g cap cur fz, v = .slice (some ⟨g, 0, none⟩) n cap ∧ base ≤ g ∧ w.heap[g]? = some (.cells cur 5 fz) ∧ (fz = (0, 0) ∨ cur.size ≤ fz.1) ∧ n ≤ cap ∧ cap ≤ maxLen ∧ cur.size = cap ∧ ∀ j, j < n → cur[j]? = some (.int .u8 ((F j).toNat : Int))
theorem unfrozen_M {w : World} {g n : Nat} {cur : Array Value} {fz : Nat × Nat} (hg : w.heap[g]? = some (.cells cur 5 fz)) (hfz : fz = (0, 0) ∨ cur.size ≤ fz.1) (hn : n < cur.size) : w.frozen? ⟨g, n, none⟩ = false := by
  obtain ⟨lo, hi⟩ := fz
  simp only [World.frozen?, hg, Bool.and_eq_false_iff, decide_eq_false_iff_not]
  rcases hfz with h | h
  · right; cases h; omega
  · left; simp only at h; omega
theorem cell_M {w : World} {g : Nat} {cur : Array Value} {fz : Nat × Nat} (hg : w.heap[g]? = some (.cells cur 5 fz)) (n : Nat) : w.cell? ⟨g, n, none⟩ = cur[n]? := by
  simp [World.cell?, hg]
theorem ownM_bytes {w : World} {base n : Nat} {v : Value} {F : Nat → UInt8} (h : ownM w base v n F) : ∃ q c, v = .slice q n c ∧ BytesAt w q n c F := by
  obtain ⟨g, cap, cur, fz, rfl, _, hg, _, hnc, _, _, hcur⟩ := h
  exact ⟨_, cap, rfl, .inl ⟨g, 0, rfl, hnc, fun j hj => by rw [Nat.zero_add, cell_M hg]; exact hcur j hj⟩⟩
theorem ownM_grown {w w' : World} {base n : Nat} {v : Value} {F : Nat → UInt8} {row : Option Nat} (h : ownM w base v n F) (hg : w.grownBy w' row) (hne : v.ownBlock ≠ row) : ownM w' base v n F := by
  obtain ⟨g, cap, cur, fz, rfl, hb, hgg, rest⟩ := h
  exact ⟨g, cap, cur, fz, rfl, hb, by rw [hg.block g (Array.getElem?_eq_some_iff.1 hgg).1 (by simpa [Value.ownBlock] using hne)]; exact hgg, rest⟩
theorem ownM_alloc {w : World} {base n : Nat} {v : Value} {F : Nat → UInt8} (h : ownM w base v n F) (x : Obj) : ownM (w.alloc x) base v n F := by
  obtain ⟨g, cap, cur, fz, rfl, hb, hgg, rest⟩ := h
  refine ⟨g, cap, cur, fz, rfl, hb, ?_, rest⟩
  have hlt := (Array.getElem?_eq_some_iff.1 hgg).1
  rw [show (w.alloc x).heap = w.heap.push x from rfl, Array.getElem?_push_lt hlt, ← Array.getElem?_eq_getElem hlt]; exact hgg
theorem ownM_lt {w : World} {base n : Nat} {v : Value} {F : Nat → UInt8} (h : ownM w base v n F) : ∀ k, v.ownBlock = some k → base ≤ k ∧ k < w.heap.size := by
  obtain ⟨g, cap, cur, fz, rfl, hb, hgg, rest⟩ := h
  intro k hk
  cases hk
  exact ⟨hb, (Array.getElem?_eq_some_iff.1 hgg).1⟩

theorem row_setM {w : World} {b : Nat} {c : Array Value} {t : TypeId} {fz : Nat × Nat} (h : w.heap[b]? = some (.cells c t fz)) (k : Nat) (v : Value) : (w.setCell ⟨b, k, none⟩ v).heap[b]? = some (.cells (c.setIfInBounds k v) t fz) := by
  simp only [World.setCell, Array.getElem?_modify]
  rw [h]
  simp
theorem fL_at (F : Nat → UInt8) (n j : Nat) (h : j < n) : (fL F n)[j]? = some (.int .u8 ((F j).toNat : Int)) := by
  obtain ⟨u, hu⟩ : ∃ u, (fL F n)[j]? = some u := ⟨_, List.getElem?_eq_getElem (by rw [fL_len]; exact h)⟩
  rw [hu, (fL_get F n j u hu).2]
theorem add_at (g j : Nat) : (⟨g, 0, none⟩ : Addr).add j = ⟨g, j, none⟩ := by unfold Addr.add; split <;> simp_all
theorem run_append_byteM {w : World} {i0 : TypeInfo} (hi : Tryd.prog.info? 5 = some i0) (hz0 : i0.zero = some (.int .u8 0)) (hz1 : i0.size = 1) (hz2 : i0.bytes = 1) {ty : TypeId} {base n : Nat} {v : Value} {F : Nat → UInt8} (hown : ownM w base v n F) (b : Nat)
    (hb : w.cell? ⟨b, 0, none⟩ = some (.int .u8 ((F n).toNat : Int))) (hn : n ≤ 10000000000) (hbase : base ≤ w.heap.size) :
    ∃ v' w', (Builtin.append_ #[22, 22] ty #[v, .slice (some ⟨b, 0, none⟩) 1 1]).run Tryd.prog w = .ok v' w' ∧ ownM w' base v' (n + 1) F ∧ w.grownBy w' v.ownBlock := by
  obtain ⟨g, cap, cur, fz, rfl, hbg, hg, hfz, hnc, hcm, hcs, hcur⟩ := hown
  have hnews : ∀ j u, [Value.int .u8 ((F n).toNat : Int)][j]? = some u → w.cell? ((⟨b, 0, none⟩ : Addr).add j) = some u := fun j u hj => by
    match j, hj with
    | 0, hj => obtain rfl : Value.int .u8 ((F n).toNat : Int) = u := by simpa using hj
               rw [show (⟨b, 0, none⟩ : Addr).add 0 = ⟨b, 0, none⟩ by simp [Addr.add]]; exact hb
  by_cases hroom : n + 1 ≤ cap
  · have hf := run_firstCells_some (P := Tryd.prog) w i0.size 1 ⟨b, 0, none⟩ 1 1 [.int .u8 ((F n).toNat : Int)] (by rw [hz1]; rfl) hnews
    have hcell : w.cell? ⟨g, n, none⟩ = some cur[n] := by rw [cell_M hg]; exact Array.getElem?_eq_getElem (by omega)
    have hst : (store ⟨g, n, none⟩ (.int .u8 ((F n).toNat : Int))).run Tryd.prog w = .ok () (w.setCell ⟨g, n, none⟩ (.int .u8 ((F n).toNat : Int))) := by
      rw [run_store Tryd.prog w _ _ _ rfl, hcell]
      simp [unfrozen_M hg hfz (show n < cur.size by omega)]
    have hrow := row_setM hg n (.int .u8 ((F n).toNat : Int))
    refine ⟨.slice (some ⟨g, 0, none⟩) (n + 1) cap, w.setCell ⟨g, n, none⟩ (.int .u8 ((F n).toNat : Int)), ?_, ⟨g, cap, _, fz, rfl, hbg, hrow, by rw [Array.size_setIfInBounds]; exact hfz, hroom, hcm, by rw [Array.size_setIfInBounds]; exact hcs, fun j hj => ?_⟩, ?_⟩
    · rw [hz1] at hf
      simp [Builtin.append_, run_underlying Tryd.underlying22, sizeOf, typeInfo, hi, hz1, Builtin.lenOf, hroom, hf, Addr.add_lit, storeCells, hst]
    · rw [Array.getElem?_setIfInBounds]
      by_cases e : n = j
      · subst e; rw [if_pos rfl, if_pos (by omega)]
      · rw [if_neg e]; exact hcur j (by omega)
    · exact ⟨rfl, rfl, rfl, by simp [World.setCell], fun k _ hk => Below.heap_setCell _ _ _ _ (fun e => hk (by simp [Value.ownBlock, e]))⟩
  · have hlo : (fL F n).length = n * i0.size := by rw [hz1, fL_len]; omega
    have holds : ∀ j u, (fL F n)[j]? = some u → w.cell? ((⟨g, 0, none⟩ : Addr).add j) = some u := fun j u hj => by
      obtain ⟨hjn, rfl⟩ := fL_get F n j u hj
      rw [add_at, cell_M hg, hcur j hjn]
    have hr := run_append_grow (P := Tryd.prog) w 22 ty 5 i0 (.int .u8 0) Tryd.underlying22 hi hz0 ⟨g, 0, none⟩ n cap (fL F n) hlo holds ⟨b, 0, none⟩ 1 1 [.int .u8 ((F n).toNat : Int)] (by rw [hz1]; rfl) hnews (by omega) (by omega) (growslice_fits (by omega) (by rw [hz2]; omega))
    have hge := grownCap_ge w (n + 1) cap 5
    refine ⟨_, _, hr, ⟨w.heap.size, _, _, (0, 0), rfl, hbase, heap_alloc_new w.drew _, .inl rfl, hge, grownCap_le_maxLen w (n + 1) cap 5 (by simp only [maxLen]; omega), ?_, fun j hj => ?_⟩, ⟨rfl, rfl, rfl, by simp, fun k hk _ => heap_alloc_old w.drew _ hk⟩⟩
    · simp only [Array.size_append, List.size_toArray, zeroCells_one, List.length_replicate, fL_len, List.length_cons, List.length_nil]
      omega
    · have e : ∀ Z : Array Value, ((fL F n).toArray ++ [Value.int .u8 ((F n).toNat : Int)].toArray ++ Z).toList = fL F (n + 1) ++ Z.toList := fun Z => by rw [fL_succ]; simp
      rw [← Array.getElem?_toList, e, List.getElem?_append_left (by rw [fL_len]; exact hj), fL_at F (n + 1) j hj]
/-- 'append(s, x)', s of one's own, perhaps marked behind its end. -/
theorem wpList_append_byteM {w : World} {ops : Array Oper} {rest : List Oper} {o : Oper} {a : Act} {Q : Exit → Act → World → Prop} (hgd : o.guard = none) (s x : Operand)
    (ho : o.op = .call { callee := .builtin .append, args := #[s, x], argTypes := #[22, 22] }) (base : Nat) (v : Value) (n : Nat) (F : Nat → UInt8) (hs : a.eval s = v) (hown : ownM w base v n F)
    (b : Nat) (z : Int) (hx : a.eval x = .slice (some ⟨b, 0, none⟩) 1 1) (hb : w.cell? ⟨b, 0, none⟩ = some (.int .u8 z)) (hz : z = ((F n).toNat : Int)) (hn : n ≤ 10000000000) (hbase : base ≤ w.heap.size)
    (h : ∀ v' w', ownM w' base v' (n + 1) F → w.grownBy w' v.ownBlock → wpList Tryd.prog ops Q rest (a.put o.dst v') w') : wpList Tryd.prog ops Q (o :: rest) a w := by
  obtain ⟨i0, hi, hz0, hz1, hz2⟩ := info_parts info5
  subst hz
  refine wpList_plain hgd fun K hK => ?_
  obtain ⟨v', w', hr, h2, h3⟩ := run_append_byteM (ty := o.type) hi hz0 hz1 hz2 hown b hb hn hbase
  unfold Oper.wp
  simp [execOp, ho, resolve, invoke, builtin, hs, hx, hr, Result.andThen]
  exact hK _ _ (h v' w' h2 h3)
/-- '[]byte(s)', told as a row of one's own. -/
theorem conv_strM (s : ByteArray) (w : World) (hs : s.size ≤ 10000000000) : ∃ v W2, (convert 9 22 (.string s)).run Tryd.prog w = .ok v W2 ∧ Ch (fun _ => False) w W2 ∧ W2.heap.size = w.heap.size + 1 ∧ ownM W2 w.heap.size v s.size (byteAt s) := by
  have h := run_bytes_of_string (P := Tryd.prog) w 9 22 5 s Tryd.underlying9 Tryd.underlying22 Tryd.underlying5
  have hge : s.size ≤ grownCap w s.size 0 5 := grownCap_ge _ _ _ _
  have hsz : (bytesRow s (grownCap w s.size 0 5)).size = grownCap w s.size 0 5 := by
    unfold bytesRow
    rw [Array.size_append, Array.size_map, Array.size_replicate, show s.data.size = s.size from rfl]; omega
  refine ⟨_, _, h, ((Ch.refl _ w).drew).alloc _, World.size_alloc w.drew _, ⟨w.heap.size, _, _, _, rfl, Nat.le_refl _, World.alloc_heap_new w.drew _, .inr (Nat.le_refl _), hge, grownCap_le_maxLen w s.size 0 5 (by simp only [maxLen]; omega), hsz, fun j hj => ?_⟩⟩
  rw [bytesRow_at _ _ _ hj]
  unfold byteAt
  rw [Array.getD_eq_getD_getElem?, Array.getElem?_eq_getElem hj]
  rfl
end Go.Proofs.YtikdpiedjkailaaDoor
