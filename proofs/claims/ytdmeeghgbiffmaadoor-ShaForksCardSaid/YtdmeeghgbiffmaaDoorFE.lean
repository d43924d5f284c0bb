/- For ShaForks: bytes as strings, rows of bytes of one's own, appends and writes of any bytes. -/
import Derived.Test.YtdmeeghgbiffmaaDoorFB
namespace Go.Proofs.YtdmeeghgbiffmaaDoor
open Go Go.RowKit

abbrev AnyAt (w : World) (p : Option Addr) (n c : Nat) (f : Nat → UInt8) : Prop := BytesAt w p n c f ∨ (n = 0 ∧ (p = none → c = 0))
def sL (f : Nat → UInt8) (n : Nat) : List UInt8 := (List.range n).map f
def sS (f : Nat → UInt8) (n : Nat) : ByteArray := ⟨(sL f n).toArray⟩
theorem sL_len (f : Nat → UInt8) (n : Nat) : (sL f n).length = n := by simp [sL]
theorem conv_any {w : World} {p : Option Addr} {n c : Nat} {f : Nat → UInt8} (h : AnyAt w p n c f) : (convert 34 9 (.slice p n c)).run Tryd.prog w = .ok (.string (sS f n)) w := by
  have key : ∀ ad, p = some ad → (∀ j, j < n → w.cell? (ad.add j) = some (.int .u8 ((f j).toNat : Int))) → (convert 34 9 (.slice p n c)).run Tryd.prog w = .ok (.string (sS f n)) w := by
    rintro ad rfl hb
    have hc := run_convert_bytes_back (P := Tryd.prog) w 34 9 5 ad c (sL f n) Tryd.underlying34 Tryd.underlying5 Tryd.underlying9 (fun j hj => by
      rw [sL_len] at hj
      rw [hb j hj]
      simp [sL])
    rw [sL_len] at hc
    exact hc
  have none_case : p = none → n = 0 → c = 0 → (convert 34 9 (.slice p n c)).run Tryd.prog w = .ok (.string (sS f n)) w := by
    rintro rfl rfl rfl
    simp [convert, run_underlying Tryd.underlying34, run_underlying Tryd.underlying9, run_underlying Tryd.underlying5, sS, sL, go_sem, Conv.bytesToString]; rfl
  rcases h with (⟨x, y, rfl, _, hb⟩ | ⟨h1, h2, h3⟩) | ⟨h1, h2⟩
  · exact key _ rfl (fun j hj => by rw [show (⟨x, y, none⟩ : Addr).add j = ⟨x, y + j, none⟩ by simp [Addr.add]]; exact hb j hj)
  · exact none_case h1 h2 h3
  · cases hp : p with
    | none => rw [← hp]; exact none_case hp h1 (h2 hp)
    | some ad => rw [← hp]; exact key ad hp (fun j hj => by omega)
/-- A row of bytes of one's own, whatever it holds. -/
def RowU (w : World) (g n : Nat) : Prop := ∃ cur, w.heap[g]? = some (.cells cur 5) ∧ ∀ j, j < n → ∃ z : UInt8, cur[j]? = some (.int .u8 (z.toNat : Int))
theorem RowU.set {w : World} {g n k : Nat} (h : RowU w g n) (z : UInt8) (hk : k < n) : RowU (w.setCell ⟨g, k, none⟩ (.int .u8 (z.toNat : Int))) g n := by
  obtain ⟨cur, h1, h2⟩ := h
  refine ⟨_, row_setM h1 k _, fun j hj => ?_⟩
  rw [Array.getElem?_setIfInBounds]
  by_cases e : k = j
  · subst e
    obtain ⟨z', hz⟩ := h2 k hj
    rw [if_pos rfl, if_pos (Array.getElem?_eq_some_iff.1 hz).1]
    exact ⟨z, rfl⟩
  · rw [if_neg e]; exact h2 j hj
/-- What a row of bytes of one's own is: a slice, whose bytes lie in memory from Z on, apart from what was there. -/
theorem own_given {w : World} {Z n : Nat} {v : Value} {f : Nat → UInt8} (h : w.ownsRow Z 5 1 v n (fL f n)) (hZ : Z < w.heap.size) : ∃ p c g, v = .slice p n c ∧ BytesAt w p n c f ∧ (p = some ⟨g, 0, none⟩ ∨ n = 0) ∧ Z ≤ g ∧ (n = 0 ∨ RowU w g n) ∧ (∀ ad, p = some ad → Z ≤ ad.block ∧ ad.block < w.heap.size) := by
  obtain ⟨hlen, ⟨rfl, rfl⟩ | ⟨g, cap, cur, rfl, hbg, hg, hnc, hcm, hcs, htake⟩⟩ := h
  · exact ⟨none, 0, Z, rfl, .inr ⟨rfl, rfl, rfl⟩, .inr rfl, Nat.le_refl _, .inl rfl, fun ad e => by cases e⟩
  · refine ⟨some ⟨g, 0, none⟩, cap, g, rfl, .inl ⟨g, 0, rfl, hnc, fun j hj => (cell_of_heap hg _).trans (by rw [Nat.zero_add]; exact fL_cur htake j hj)⟩, .inl rfl, hbg, .inr ⟨cur, hg, fun j hj => ⟨f j, fL_cur htake j hj⟩⟩, fun ad e => ?_⟩
    cases e
    exact ⟨hbg, row_lt hg⟩
def catF (n : Nat) (f g : Nat → UInt8) : Nat → UInt8 := fun j => if j < n then f j else g (j - n)
theorem catF_lt {n j : Nat} (f g : Nat → UInt8) (h : j < n) : catF n f g j = f j := if_pos h
theorem catF_ge (n j : Nat) (f g : Nat → UInt8) : catF n f g (n + j) = g j := by unfold catF; rw [if_neg (by omega), Nat.add_sub_cancel_left]
theorem fL_cat (n k : Nat) (f g : Nat → UInt8) : fL f n ++ fL g k = fL (catF n f g) (n + k) := by
  induction k with
  | zero => simp [fL]; exact fun j hj => by rw [catF_lt _ _ hj]
  | succ k ih => rw [fL_succ, ← List.append_assoc, ih, ← Nat.add_assoc, fL_succ, catF_ge]
/-- A Write of any bytes that lie apart from the sum. -/
theorem write_bytes (b n len cap : Nat) (p : Option Addr) (f g : Nat → UInt8) (w : World) (hb0 : b ≠ 0) (hn : n + len ≤ 1099511627776) (hR : RunAt w b f n) (hK : KAt w) (hg : BytesAt w p len cap g) (hp : ∀ ad, p = some ad → ad.block ≠ b) :
    Calls Tryd.prog 30 #[.pointer (some ⟨b, 0, none⟩), .slice p len cap] w fun e w' => e = .returned (.int .i64 0) ∧ Ch (fun k => k = b) w w' ∧ RunAt w' b (catF n f g) (n + len) := by
  have hR' := hR.congr (g := catF n f g) (fun i hi => (catF_lt _ _ hi).symm)
  rcases hg with ⟨x, y, rfl, _, h⟩ | ⟨rfl, rfl, rfl⟩
  · exact write_any b n len cap x y _ _ w (.inl rfl) (hp _ rfl) hb0 hn hR' hK (fun i hi => by rw [catF_ge]; exact h i hi)
  · exact write_any b n 0 0 (b + 1) 0 none _ w (.inr rfl) (by omega) hb0 hn hR' hK (fun i hi => by omega)
/-- 'append(s, b...)', b's address being whatever where it has no bytes. -/
theorem wpList_append_any {w : World} {ops : Array Oper} {rest : List Oper} {o : Oper} {a : Act} {Q : Exit → Act → World → Prop} (hgd : o.guard = none) (s x : Operand)
    (ho : o.op = .call { callee := .builtin .append, args := #[s, x], argTypes := #[34, 34] }) (base : Nat) (v : Value) (k : Nat) (xs : List Value) (hs : a.eval s = v) (hown : w.ownsRow base 5 1 v k xs)
    (p : Option Addr) (n c : Nat) (f : Nat → UInt8) (hx : a.eval x = .slice p n c) (hb : AnyAt w p n c f) (hk : k + n ≤ 100000000000000) (hbase : base ≤ w.heap.size)
    (h : ∀ v' w', w'.ownsRow base 5 1 v' (k + n) (xs ++ fL f n) → w.grownBy w' v.ownBlock → wpList Tryd.prog ops Q rest (a.put o.dst v') w') : wpList Tryd.prog ops Q (o :: rest) a w := by
  rcases hb with hb | ⟨rfl, hc⟩
  · exact wpList_append_bytes hgd s x ho base v k xs hs hown p n c f hx hb hk hbase h
  · cases p with
    | none =>
      obtain rfl := hc rfl
      exact wpList_append_bytes hgd s x ho base v k xs hs hown none 0 0 f hx (.inr ⟨rfl, rfl, rfl⟩) hk hbase h
    | some ad =>
      obtain ⟨i0, hi, hz0, hz1, hz2⟩ := info_parts info5
      exact wpList_append_own _ hgd s x 34 ho base 5 i0 (.int .u8 0) 1 1 Tryd.underlying34 hi hz0 hz1 hz2 rfl (by decide) v k xs hs hown ad 0 c (fL f 0) hx (by rw [fL_len]) (fun j u h => by simp [fL] at h) (fL_one _ _) (by simp [maxLen]; omega) (by omega) hbase (fun v' w' h1 h2 _ => h v' w' h1 h2)
theorem InvP.putX {S : Nat} {l : List (Nat × Said)} {I : Array Bool → World → Prop} {a0 : Act} {L : Array Bool} {a : Act} {w : World} (h : InvP S l I a0 L a w) (j : Nat) {d : Nat} {R : Said} {v : Value} (hj : l[j]? = some (d, R)) (hd : d < S) (hn : (l.map (·.1)).Nodup) {w' : World} (hl : ∀ (k : Nat) p, l[k]? = some p → k ≠ j → lg L k = true → p.2 (gt a p.1) w → p.2 (gt a p.1) w') (hR : R v w') (hw : I (L.setIfInBounds j true) w') : InvP S l I a0 (L.setIfInBounds j true) (a.put (some d) v) w' := by
  obtain ⟨h1, h2, h3, h4, h5, h6⟩ := h
  have hjl : j < l.length := (List.getElem?_eq_some_iff.1 hj).1
  have g := fun k v => gt_put a d k v (by omega)
  have lL := fun k => lg_set L j k (by omega)
  refine ⟨by simpa [Act.put] using h1, by simpa using h2, h3, fun k e1 => ?_, fun k p hp e => ?_, hw⟩
  · have hk : k ≠ d := fun e => e1 (by subst e; exact List.mem_map.2 ⟨_, List.mem_of_getElem? hj, rfl⟩)
    rw [g, if_neg hk]; exact h4 k e1
  · rw [g]
    by_cases hkj : k = j
    · subst hkj; rw [hj] at hp; cases hp; rw [if_pos rfl]; exact hR
    · have hne : p.1 ≠ d := fun e' => by
        have hk : k < l.length := (List.getElem?_eq_some_iff.1 hp).1
        have h1 : (l.map (·.1))[k]? = some p.1 := by rw [List.getElem?_map, hp]; rfl
        have h2 : (l.map (·.1))[j]? = some d := by rw [List.getElem?_map, hj]; rfl
        rw [e'] at h1
        exact hkj ((List.getElem?_inj (by simpa using hk) hn).1 (h1.trans h2.symm))
      rw [if_neg hne]; rw [lL, if_neg hkj] at e
      exact hl k p hp hkj e (h5 k p hp e)
/-- What holds of the world while the region of a Write comes up. -/
structure I14 (W : World) (b n len : Nat) (f : Nat → UInt8) (L : Array Bool) (w : World) : Prop where
  ch : Ch (fun t => t = b) W w
  quiet : lg L 5 = false → Ch (fun _ => False) W w
  done : lg L 5 = true → RunAt w b f (n + len)
theorem I14.start (W : World) (b n len : Nat) (f : Nat → UInt8) (k : Nat) : I14 W b n len f (Array.replicate k false) { W with drawn := W.drawn + 1 } :=
  ⟨(Ch.refl _ W).drew, fun _ => (Ch.refl _ W).drew, fun e => (lg_none' _ _ e).elim⟩
theorem I14.step {W w : World} {b n len : Nat} {f : Nat → UInt8} {L : Array Bool} (h : I14 W b n len f L w) (hs : L.size = 19) (j : Nat) (hj : j < 19) (h5 : j ≠ 5) : I14 W b n len f (L.setIfInBounds j true) w := by
  have l := fun k => lg_set L j k (by omega)
  exact ⟨h.ch, fun e => h.quiet (by rw [l, if_neg (Ne.symm h5)] at e; exact e), fun e => h.done (by rw [l, if_neg (Ne.symm h5)] at e; exact e)⟩
theorem I14.five {W w w' : World} {b n len : Nat} {f : Nat → UInt8} {L : Array Bool} (h : I14 W b n len f L w) (hs : L.size = 19) (hc : Ch (fun t => t = b) w w') (hr : RunAt w' b f (n + len)) : I14 W b n len f (L.setIfInBounds 5 true) w' :=
  ⟨h.ch.trans hc, fun e => by rw [lg_set L 5 5 (by omega), if_pos rfl] at e; exact absurd e (by decide), fun _ => hr⟩
/-- Rows of bytes that a region lays: an empty one, and one of one's own. -/
structure EmptyRow (v : World) (S g c : Nat) : Prop where
  row : v.heap[g]? = some (.cells #[] 5)
  lo : S ≤ g
theorem EmptyRow.ch {v v' : World} {S g c : Nat} {T : Nat → Prop} (h : EmptyRow v S g c) (hc : Ch T v v') (hs : ∀ i, i < v.heap.size → ¬ T i) : EmptyRow v' S g c := ⟨hc.heap h.row (hs _ (row_lt h.row)), h.lo⟩
structure OwnB (v : World) (S : Nat) (x : Value) (f : Nat → UInt8) (n c : Nat) : Prop where
  own : v.ownsRow S 5 1 x n (fL f n)
theorem OwnB.ch {v v' : World} {S n c : Nat} {x : Value} {f : Nat → UInt8} {T : Nat → Prop} (h : OwnB v S x f n c) (hc : Ch T v v') (hs : ∀ i, i < v.heap.size → ¬ T i) : OwnB v' S x f n c :=
  ⟨own_ch1 h.own hc (fun q e => hs _ (h.own.lt q e).2)⟩
/-- 'append(s, b...)', s a row of bytes of one's own: what was read of s is read still, and empty rows stay. -/
theorem run_append_keep {w : World} {base k n c : Nat} {v : Value} {F f : Nat → UInt8} {p : Option Addr} (hown : w.ownsRow base 5 1 v k (fL F k)) (hb : AnyAt w p n c f) (hk : k + n ≤ 100000000000) (hbase : base ≤ w.heap.size) (ty : TypeId) :
    ∃ v' w', (Builtin.append_ #[34, 34] ty #[v, .slice p n c]).run Tryd.prog w = .ok v' w' ∧ w'.ownsRow base 5 1 v' (k + n) (fL (catF k F f) (k + n)) ∧ w'.ownsRow base 5 1 v k (fL F k) ∧ (∀ g : Nat, w.heap[g]? = some (Obj.cells #[] 5) → w'.heap[g]? = some (Obj.cells #[] 5)) ∧ Ch (fun q => base ≤ q) w w' := by
  obtain ⟨i0, hi, hz0, hz1, hz2⟩ := info_parts info5
  rw [← fL_cat]
  have none_case : p = none → n = 0 → c = 0 → ∃ v' w', (Builtin.append_ #[34, 34] ty #[v, .slice p n c]).run Tryd.prog w = .ok v' w' ∧ w'.ownsRow base 5 1 v' (k + n) (fL F k ++ fL f n) ∧ w'.ownsRow base 5 1 v k (fL F k) ∧ (∀ g : Nat, w.heap[g]? = some (Obj.cells #[] 5) → w'.heap[g]? = some (Obj.cells #[] 5)) ∧ Ch (fun q => base ≤ q) w w' := by
    rintro rfl rfl rfl
    refine ⟨v, w, ?_, by simpa [fL] using hown, hown, fun g h => h, Ch.refl _ w⟩
    rcases hown.2 with ⟨rfl, rfl⟩ | ⟨g, cap, cur, rfl, hbg, hg, hnc, hcm, hcs, htake⟩
    · simp [Builtin.append_, run_underlying Tryd.underlying34, sizeOf, typeInfo, hi, Builtin.lenOf, Builtin.firstCells, loadCells, loadCellsFrom]
    · simp [Builtin.append_, run_underlying Tryd.underlying34, sizeOf, typeInfo, hi, Builtin.lenOf, Builtin.firstCells, loadCells, loadCellsFrom, storeCells, hnc]
  have some_case : ∀ ad, p = some ad → (∀ j u, (fL f n)[j]? = some u → w.cell? (ad.add j) = some u) → ∃ v' w', (Builtin.append_ #[34, 34] ty #[v, .slice p n c]).run Tryd.prog w = .ok v' w' ∧ w'.ownsRow base 5 1 v' (k + n) (fL F k ++ fL f n) ∧ w'.ownsRow base 5 1 v k (fL F k) ∧ (∀ g : Nat, w.heap[g]? = some (Obj.cells #[] 5) → w'.heap[g]? = some (Obj.cells #[] 5)) ∧ Ch (fun q => base ≤ q) w w' := by
    rintro ad rfl hn
    obtain ⟨v', w', hr, h2, h3, _⟩ := run_append_own (P := Tryd.prog) w base 34 ty 5 i0 (.int .u8 0) 1 1 Tryd.underlying34 hi hz0 hz1 hz2 rfl (by decide) v k _ hown ad n c (fL f n) (by rw [fL_len]; omega) hn (fL_one _ _) (by simp [maxLen]; omega) (by omega) hbase
    refine ⟨v', w', hr, h2, ?_, ?_, Ch.grown (Ch.refl _ w) h3 (fun q e _ => (hown.lt q e).1)⟩
    all_goals rcases hown.2 with ⟨rfl, rfl⟩ | ⟨g, cap, cur, rfl, hbg, hg, hnc, hcm, hcs, htake⟩
    · exact ⟨rfl, .inl ⟨rfl, rfl⟩⟩
    · by_cases hroom : k + n ≤ cap
      · have hr2 := run_append_room (P := Tryd.prog) w 34 ty 5 i0 Tryd.underlying34 hi g k cap cur hg ad n c (fL f n) (by rw [fL_len, hz1]; omega) hn (fL_one _ _) hroom (by rw [fL_len, hz1, hcs]; omega)
        rw [hr2] at hr; cases hr
        refine ⟨hown.1, .inr ⟨g, cap, _, rfl, hbg, heap_setRow hg, hnc, hcm, ?_, ?_⟩⟩
        · have hcl : cur.toList.length = cap * 1 := by simpa using hcs
          simp only [List.size_toArray, List.length_append, List.length_take, List.length_drop, fL_len, hz1]
          omega
        · rw [List.append_assoc]
          rw [hz1, List.take_append_of_le_length (by rw [List.length_take]; have hcl : cur.toList.length = cap * 1 := by simpa using hcs
                                                     omega), List.take_take, Nat.min_self]
          exact htake
      · have hr2 := run_append_grow (P := Tryd.prog) w 34 ty 5 i0 (.int .u8 0) Tryd.underlying34 hi hz0 ⟨g, 0, none⟩ k cap (fL F k) (by rw [hz1]; exact hown.1) (hown.cells (g := g) rfl) ad n c (fL f n) (by rw [fL_len, hz1]; omega) hn (by omega) (by omega) (growslice_fits (by omega) (by rw [hz2]; omega))
        rw [hr2] at hr; cases hr
        exact own_ch1 hown (((Ch.refl (fun _ => False) w).drew).alloc _) (fun _ _ => id)
    · by_cases h0 : n = 0
      · subst h0
        have hr2 : (Builtin.append_ #[34, 34] ty #[.slice none 0 0, .slice (some ad) 0 c]).run Tryd.prog w = .ok (.slice none 0 0) w := by
          simp [Builtin.append_, run_underlying Tryd.underlying34, sizeOf, typeInfo, hi, Builtin.lenOf, Builtin.firstCells, loadCells, loadCellsFrom]
        rw [hr2] at hr; cases hr
        exact fun g h => h
      · have hr2 := run_append_nil (P := Tryd.prog) w 34 ty 5 i0 (.int .u8 0) Tryd.underlying34 hi hz0 ad n c (fL f n) (by rw [fL_len, hz1]; omega) hn (by omega) (by omega) (by rw [hz2]; omega)
        rw [hr2] at hr; cases hr
        exact fun g h => (((Ch.refl (fun _ => False) w).drew).alloc _).heap h id
    · by_cases hroom : k + n ≤ cap
      · have hr2 := run_append_room (P := Tryd.prog) w 34 ty 5 i0 Tryd.underlying34 hi g k cap cur hg ad n c (fL f n) (by rw [fL_len, hz1]; omega) hn (fL_one _ _) hroom (by rw [fL_len, hz1, hcs]; omega)
        rw [hr2] at hr; cases hr
        intro g0 h
        by_cases e : g0 = g
        · subst e
          rw [hg] at h
          cases h
          have hc0 : cap = 0 := by simpa using hcs.symm
          have hn0 : n = 0 := by omega
          subst hn0
          rw [heap_setRow hg]
          simp [fL]
        · exact (Ch.setRow (S := fun q => q = g) (Ch.refl _ w) (fun _ => rfl) _).heap h e
      · have hr2 := run_append_grow (P := Tryd.prog) w 34 ty 5 i0 (.int .u8 0) Tryd.underlying34 hi hz0 ⟨g, 0, none⟩ k cap (fL F k) (by rw [hz1]; exact hown.1) (hown.cells (g := g) rfl) ad n c (fL f n) (by rw [fL_len, hz1]; omega) hn (by omega) (by omega) (growslice_fits (by omega) (by rw [hz2]; omega))
        rw [hr2] at hr; cases hr
        exact fun g0 h => (((Ch.refl (fun _ => False) w).drew).alloc _).heap h id
  rcases hb with (⟨x, y, rfl, h1, h2⟩ | ⟨h1, h2, h3⟩) | ⟨h1, h2⟩
  · exact some_case _ rfl (BytesAt.news (.inl ⟨x, y, rfl, h1, h2⟩))
  · exact none_case h1 h2 h3
  · cases hp : p with
    | none => rw [← hp]; exact none_case hp h1 (h2 hp)
    | some ad => rw [← hp]; exact some_case ad hp (fun j u h => by subst h1; simp [fL] at h)
theorem wp_append_keep {w : World} {o : Oper} {a : Act} {K : Act → World → Prop} {Q : Exit → Act → World → Prop} (s x : Operand) (ho : o.op = .call { callee := .builtin .append, args := #[s, x], argTypes := #[34, 34] })
    {base k n c : Nat} {v : Value} {F f : Nat → UInt8} {p : Option Addr} (hsv : a.eval s = v) (hown : w.ownsRow base 5 1 v k (fL F k)) (hxv : a.eval x = .slice p n c) (hb : AnyAt w p n c f) (hk : k + n ≤ 100000000000) (hbase : base ≤ w.heap.size)
    (h : ∀ v' w', w'.ownsRow base 5 1 v' (k + n) (fL (catF k F f) (k + n)) → w'.ownsRow base 5 1 v k (fL F k) → (∀ g : Nat, w.heap[g]? = some (Obj.cells #[] 5) → w'.heap[g]? = some (Obj.cells #[] 5)) → Ch (fun q => base ≤ q) w w' → K (a.put o.dst v') w') : o.wp Tryd.prog a w K Q := by
  obtain ⟨v', w', hr, h2, h3, h4, h5⟩ := run_append_keep hown hb hk hbase o.type
  unfold Oper.wp execOp
  simp only [ho, resolve, invoke, builtin, Sem.run_bind, Sem.run_pure, Result.andThen_ok, List.map_toArray, List.map_cons, List.map_nil, hsv, hxv, hr]
  exact h v' w' h2 h3 h4 h5
end Go.Proofs.YtdmeeghgbiffmaaDoor
