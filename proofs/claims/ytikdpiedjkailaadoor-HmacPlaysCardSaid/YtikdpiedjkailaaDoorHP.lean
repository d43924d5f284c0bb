/- For HmacPlays: appends onto rows of bytes of one's own within a region; a region of which one operation changes memory; the copy's region. -/
import Derived.Test.YtikdpiedjkailaaDoorH29
namespace Go.Proofs.YtikdpiedjkailaaDoor
open Go Go.RowKit

abbrev AnyAt (w : World) (p : Option Addr) (n c : Nat) (f : Nat → UInt8) : Prop := BytesAt w p n c f ∨ (n = 0 ∧ (p = none → c = 0))
theorem fL_cat (n k : Nat) (f g : Nat → UInt8) : fL f n ++ fL g k = fL (catB n f g) (n + k) := fL_append (catB n f g) f g n k (fun j hj => if_pos hj) (fun j _ => catB_ge n f g j)
theorem own_ch1 {e : TypeId} {w w' : World} {Z k : Nat} {v : Value} {xs : List Value} {S : Nat → Prop} (h : w.ownsRow Z e 1 v k xs) (hc : Ch S w w') (hs : ∀ q, v.ownBlock = some q → ¬ S q) : w'.ownsRow Z e 1 v k xs := by
  refine ⟨h.1, ?_⟩
  rcases h.2 with hn | ⟨g, cap, cur, rfl, h1, h2, h3⟩
  · exact .inl hn
  · exact .inr ⟨g, cap, cur, rfl, h1, hc.heap h2 (hs g rfl), h3⟩

theorem own_given {w : World} {Z n : Nat} {v : Value} {f : Nat → UInt8} (h : w.ownsRow Z 5 1 v n (fL f n)) (hZ : Z < w.heap.size) : ∃ p c g, v = .slice p n c ∧ BytesAt w p n c f ∧ (p = some ⟨g, 0, none⟩ ∨ n = 0) ∧ Z ≤ g ∧ (n = 0 ∨ RowU w g n) ∧ (∀ ad, p = some ad → Z ≤ ad.block ∧ ad.block < w.heap.size) := by
  obtain ⟨hlen, ⟨rfl, rfl⟩ | ⟨g, cap, cur, rfl, hbg, hg, hnc, hcm, hcs, htake⟩⟩ := h
  · exact ⟨none, 0, Z, rfl, .inr ⟨rfl, rfl, rfl⟩, .inr rfl, Nat.le_refl _, .inl rfl, fun ad e => by cases e⟩
  · refine ⟨some ⟨g, 0, none⟩, cap, g, rfl, .inl ⟨g, 0, rfl, hnc, fun j hj => (cell_of_heap hg _).trans (by rw [Nat.zero_add]; exact fL_cur htake j hj)⟩, .inl rfl, hbg, .inr ⟨cur, hg, fun j hj => ⟨f j, fL_cur htake j hj⟩⟩, fun ad e => ?_⟩
    cases e
    exact ⟨hbg, row_lt hg⟩

structure EmptyRow (v : World) (S g c : Nat) : Prop where
  row : v.heap[g]? = some (.cells #[] 5)
  lo : S ≤ g

theorem EmptyRow.ch {v v' : World} {S g c : Nat} {T : Nat → Prop} (h : EmptyRow v S g c) (hc : Ch T v v') (hs : ∀ i, i < v.heap.size → ¬ T i) : EmptyRow v' S g c := ⟨hc.heap h.row (hs _ (row_lt h.row)), h.lo⟩

structure OwnB (v : World) (S : Nat) (x : Value) (f : Nat → UInt8) (n c : Nat) : Prop where
  own : v.ownsRow S 5 1 x n (fL f n)

theorem OwnB.ch {v v' : World} {S n c : Nat} {x : Value} {f : Nat → UInt8} {T : Nat → Prop} (h : OwnB v S x f n c) (hc : Ch T v v') (hs : ∀ i, i < v.heap.size → ¬ T i) : OwnB v' S x f n c :=
  ⟨own_ch1 h.own hc (fun q e => hs _ (h.own.lt q e).2)⟩

theorem run_append_fresh (w : World) (g base : Nat) (p : Option Addr) (n c : Nat) (f : Nat → UInt8) (ty : TypeId) (hg : w.heap[g]? = some (.cells #[] 5)) (hbg : base ≤ g) (hbase : base ≤ w.heap.size) (hb : BytesAt w p n c f ∨ (n = 0 ∧ (p = none → c = 0))) (hn : n ≤ 10000000000000) :
    ∃ v' w', (Builtin.append_ #[22, 22] ty #[.slice (some ⟨g, 0, none⟩) 0 0, .slice p n c]).run Tryd.prog w = .ok v' w' ∧ w'.ownsRow base 5 1 v' n (fL f n) ∧ Ch (fun _ => False) w w' := by
  obtain ⟨i0, hi, hz0, hz1, hz2⟩ := info_parts info5
  have hown : ∀ w' : World, w'.heap[g]? = some (.cells #[] 5) → w'.ownsRow base 5 1 (.slice (some ⟨g, 0, none⟩) 0 0) 0 (fL f 0) := fun w' h => ⟨rfl, .inr ⟨g, 0, #[], rfl, hbg, h, by omega, by simp [maxLen], rfl, rfl⟩⟩
  have none_case : n = 0 → p = none → c = 0 → _ := fun h0 hp hc => (by
    subst h0; subst hp; subst hc
    exact ⟨_, _, by simp [Builtin.append_, run_underlying Tryd.underlying22, sizeOf, typeInfo, hi, Builtin.lenOf, Builtin.firstCells, loadCells, loadCellsFrom, storeCells], hown w hg, Ch.refl _ w⟩ :
    ∃ v' w', (Builtin.append_ #[22, 22] ty #[.slice (some ⟨g, 0, none⟩) 0 0, .slice p n c]).run Tryd.prog w = .ok v' w' ∧ w'.ownsRow base 5 1 v' n (fL f n) ∧ Ch (fun _ => False) w w')
  by_cases h0 : n = 0
  · subst h0
    cases p with
    | none =>
      rcases hb with (⟨x, y, e, _⟩ | ⟨_, _, hc⟩) | ⟨_, hc⟩
      · cases e
      · exact none_case rfl rfl hc
      · exact none_case rfl rfl (hc rfl)
    | some ad =>
      have hr := run_append_room (P := Tryd.prog) w 22 ty 5 i0 Tryd.underlying22 hi g 0 0 #[] hg ad 0 c [] (by simp) (fun j u h => by simp at h) (fun u h => by simp at h) (by omega) (by simp)
      simp only [Nat.zero_mul, List.take_zero, List.nil_append, List.drop_zero, List.length_nil, Nat.add_zero] at hr
      have hg2 : (w.setRow g #[]).heap[g]? = some (.cells #[] 5) := heap_setRow hg
      have hc1 : Ch (fun k => k = g) w (w.setRow g #[]) := Ch.setRow (S := fun k => k = g) (Ch.refl _ w) (fun _ => rfl) _
      refine ⟨_, _, hr, hown _ hg2, ⟨hc1.os, hc1.tape, hc1.output, hc1.size, fun k hk _ => ?_⟩⟩
      by_cases e : k = g
      · subst e; exact hg2.trans hg.symm
      · exact hc1.block k hk e
  · have hb' : BytesAt w p n c f := hb.resolve_right (fun h => h0 h.1)
    cases p with
    | none => rcases hb' with ⟨x, y, e, _⟩ | ⟨_, e, _⟩
              · cases e
              · exact absurd e h0
    | some ad =>
      have hr := run_append_grow (P := Tryd.prog) w 22 ty 5 i0 (.int .u8 0) Tryd.underlying22 hi hz0 ⟨g, 0, none⟩ 0 0 [] (by simp) (fun j u h => by simp at h) ad n c (fL f n) (by rw [fL_len, hz1]; omega) hb'.news (by omega) (by omega) (growslice_fits (by omega) (by rw [hz2]; omega))
      refine ⟨_, _, hr, ?_, ((Ch.refl _ w).drew).alloc _⟩
      have hge := grownCap_ge w (0 + n) 0 5
      have hge2 : n ≤ grownCap w n 0 5 := by simpa using hge
      refine ⟨by rw [fL_len]; omega, .inr ⟨w.heap.size, grownCap w (0 + n) 0 5, _, by rw [Nat.zero_add], hbase, heap_alloc_new w.drew _, by omega, grownCap_le_maxLen w _ _ 5 (by simp [maxLen]; omega), ?_, ?_⟩⟩
      · simp [size_zeroCells, fL_len, Value.cells]; omega
      · simp only [Array.toList_append, List.toList_toArray, List.nil_append]
        rw [List.take_append_of_le_length (by rw [fL_len]; omega), List.take_of_length_le (by rw [fL_len]; omega)]

theorem wp_append_fresh {w : World} {o : Oper} {a : Act} {K : Act → World → Prop} {Q : Exit → Act → World → Prop} (s x : Operand) (ho : o.op = .call { callee := .builtin .append, args := #[s, x], argTypes := #[22, 22] })
    {g base n c : Nat} {p : Option Addr} {f : Nat → UInt8} (hsv : a.eval s = .slice (some ⟨g, 0, none⟩) 0 0) (hg : w.heap[g]? = some (.cells #[] 5)) (hbg : base ≤ g) (hbase : base ≤ w.heap.size) (hxv : a.eval x = .slice p n c) (hb : BytesAt w p n c f ∨ (n = 0 ∧ (p = none → c = 0))) (hn : n ≤ 10000000000000)
    (h : ∀ v' w', w'.ownsRow base 5 1 v' n (fL f n) → Ch (fun _ => False) w w' → K (a.put o.dst v') w') : o.wp Tryd.prog a w K Q := by
  obtain ⟨v', w', hr, h2, h3⟩ := run_append_fresh w g base p n c f o.type hg hbg hbase hb hn
  unfold Oper.wp execOp
  simp only [ho, resolve, invoke, builtin, Sem.run_bind, Sem.run_pure, Result.andThen_ok, List.map_toArray, List.map_cons, List.map_nil, hsv, hxv, hr]
  exact h v' w' h2 h3

theorem run_append_keep {w : World} {base k n c : Nat} {v : Value} {F f : Nat → UInt8} {p : Option Addr} (hown : w.ownsRow base 5 1 v k (fL F k)) (hb : AnyAt w p n c f) (hk : k + n ≤ 100000000000) (hbase : base ≤ w.heap.size) (ty : TypeId) :
    ∃ v' w', (Builtin.append_ #[22, 22] ty #[v, .slice p n c]).run Tryd.prog w = .ok v' w' ∧ w'.ownsRow base 5 1 v' (k + n) (fL (catB k F f) (k + n)) ∧ w'.ownsRow base 5 1 v k (fL F k) ∧ (∀ g : Nat, w.heap[g]? = some (Obj.cells #[] 5) → w'.heap[g]? = some (Obj.cells #[] 5)) ∧ Ch (fun q => base ≤ q) w w' := by
  obtain ⟨i0, hi, hz0, hz1, hz2⟩ := info_parts info5
  rw [← fL_cat]
  have none_case : p = none → n = 0 → c = 0 → ∃ v' w', (Builtin.append_ #[22, 22] ty #[v, .slice p n c]).run Tryd.prog w = .ok v' w' ∧ w'.ownsRow base 5 1 v' (k + n) (fL F k ++ fL f n) ∧ w'.ownsRow base 5 1 v k (fL F k) ∧ (∀ g : Nat, w.heap[g]? = some (Obj.cells #[] 5) → w'.heap[g]? = some (Obj.cells #[] 5)) ∧ Ch (fun q => base ≤ q) w w' := by
    rintro rfl rfl rfl
    refine ⟨v, w, ?_, by simpa [fL] using hown, hown, fun g h => h, Ch.refl _ w⟩
    rcases hown.2 with ⟨rfl, rfl⟩ | ⟨g, cap, cur, rfl, hbg, hg, hnc, hcm, hcs, htake⟩
    · simp [Builtin.append_, run_underlying Tryd.underlying22, sizeOf, typeInfo, hi, Builtin.lenOf, Builtin.firstCells, loadCells, loadCellsFrom]
    · simp [Builtin.append_, run_underlying Tryd.underlying22, sizeOf, typeInfo, hi, Builtin.lenOf, Builtin.firstCells, loadCells, loadCellsFrom, storeCells, hnc]
  have some_case : ∀ ad, p = some ad → (∀ j u, (fL f n)[j]? = some u → w.cell? (ad.add j) = some u) → ∃ v' w', (Builtin.append_ #[22, 22] ty #[v, .slice p n c]).run Tryd.prog w = .ok v' w' ∧ w'.ownsRow base 5 1 v' (k + n) (fL F k ++ fL f n) ∧ w'.ownsRow base 5 1 v k (fL F k) ∧ (∀ g : Nat, w.heap[g]? = some (Obj.cells #[] 5) → w'.heap[g]? = some (Obj.cells #[] 5)) ∧ Ch (fun q => base ≤ q) w w' := by
    rintro ad rfl hn
    obtain ⟨v', w', hr, h2, h3, _⟩ := run_append_own (P := Tryd.prog) w base 22 ty 5 i0 (.int .u8 0) 1 1 Tryd.underlying22 hi hz0 hz1 hz2 rfl (by decide) v k _ hown ad n c (fL f n) (by rw [fL_len]; omega) hn (fL_one _ _) (by simp [maxLen]; omega) (by omega) hbase
    refine ⟨v', w', hr, h2, ?_, ?_, Ch.grown (Ch.refl _ w) h3 (fun q e _ => (hown.lt q e).1)⟩
    all_goals rcases hown.2 with ⟨rfl, rfl⟩ | ⟨g, cap, cur, rfl, hbg, hg, hnc, hcm, hcs, htake⟩
    · exact ⟨rfl, .inl ⟨rfl, rfl⟩⟩
    · by_cases hroom : k + n ≤ cap
      · have hr2 := run_append_room (P := Tryd.prog) w 22 ty 5 i0 Tryd.underlying22 hi g k cap cur hg ad n c (fL f n) (by rw [fL_len, hz1]; omega) hn (fL_one _ _) hroom (by rw [fL_len, hz1, hcs]; omega)
        rw [hr2] at hr; cases hr
        refine ⟨hown.1, .inr ⟨g, cap, _, rfl, hbg, heap_setRow hg, hnc, hcm, ?_, ?_⟩⟩
        · have hcl : cur.toList.length = cap * 1 := by simpa using hcs
          simp only [List.size_toArray, List.length_append, List.length_take, List.length_drop, fL_len, hz1]
          omega
        · rw [List.append_assoc]
          rw [hz1, List.take_append_of_le_length (by rw [List.length_take]; have hcl : cur.toList.length = cap * 1 := by simpa using hcs
                                                     omega), List.take_take, Nat.min_self]
          exact htake
      · have hr2 := run_append_grow (P := Tryd.prog) w 22 ty 5 i0 (.int .u8 0) Tryd.underlying22 hi hz0 ⟨g, 0, none⟩ k cap (fL F k) (by rw [hz1]; exact hown.1) (hown.cells (g := g) rfl) ad n c (fL f n) (by rw [fL_len, hz1]; omega) hn (by omega) (by omega) (growslice_fits (by omega) (by rw [hz2]; omega))
        rw [hr2] at hr; cases hr
        exact own_ch1 hown (((Ch.refl (fun _ => False) w).drew).alloc _) (fun _ _ => id)
    · by_cases h0 : n = 0
      · subst h0
        have hr2 : (Builtin.append_ #[22, 22] ty #[.slice none 0 0, .slice (some ad) 0 c]).run Tryd.prog w = .ok (.slice none 0 0) w := by
          simp [Builtin.append_, run_underlying Tryd.underlying22, sizeOf, typeInfo, hi, Builtin.lenOf, Builtin.firstCells, loadCells, loadCellsFrom]
        rw [hr2] at hr; cases hr
        exact fun g h => h
      · have hr2 := run_append_nil (P := Tryd.prog) w 22 ty 5 i0 (.int .u8 0) Tryd.underlying22 hi hz0 ad n c (fL f n) (by rw [fL_len, hz1]; omega) hn (by omega) (by omega) (by rw [hz2]; omega)
        rw [hr2] at hr; cases hr
        exact fun g h => (((Ch.refl (fun _ => False) w).drew).alloc _).heap h id
    · by_cases hroom : k + n ≤ cap
      · have hr2 := run_append_room (P := Tryd.prog) w 22 ty 5 i0 Tryd.underlying22 hi g k cap cur hg ad n c (fL f n) (by rw [fL_len, hz1]; omega) hn (fL_one _ _) hroom (by rw [fL_len, hz1, hcs]; omega)
        rw [hr2] at hr; cases hr
        intro g0 h
        by_cases e : g0 = g
        · subst e
          rw [hg] at h
          cases h
          have hc0 : cap = 0 := by simpa using hcs.symm
          have hn0 : n = 0 := by omega
          subst hn0
          rw [heap_setRow hg]
          simp [fL]
        · exact (Ch.setRow (S := fun q => q = g) (Ch.refl _ w) (fun _ => rfl) _).heap h e
      · have hr2 := run_append_grow (P := Tryd.prog) w 22 ty 5 i0 (.int .u8 0) Tryd.underlying22 hi hz0 ⟨g, 0, none⟩ k cap (fL F k) (by rw [hz1]; exact hown.1) (hown.cells (g := g) rfl) ad n c (fL f n) (by rw [fL_len, hz1]; omega) hn (by omega) (by omega) (growslice_fits (by omega) (by rw [hz2]; omega))
        rw [hr2] at hr; cases hr
        exact fun g0 h => (((Ch.refl (fun _ => False) w).drew).alloc _).heap h id
  rcases hb with (⟨x, y, rfl, h1, h2⟩ | ⟨h1, h2, h3⟩) | ⟨h1, h2⟩
  · exact some_case _ rfl (BytesAt.news (.inl ⟨x, y, rfl, h1, h2⟩))
  · exact none_case h1 h2 h3
  · cases hp : p with
    | none => rw [← hp]; exact none_case hp h1 (h2 hp)
    | some ad => rw [← hp]; exact some_case ad hp (fun j u h => by subst h1; simp [fL] at h)

theorem wp_append_keep {w : World} {o : Oper} {a : Act} {K : Act → World → Prop} {Q : Exit → Act → World → Prop} (s x : Operand) (ho : o.op = .call { callee := .builtin .append, args := #[s, x], argTypes := #[22, 22] })
    {base k n c : Nat} {v : Value} {F f : Nat → UInt8} {p : Option Addr} (hsv : a.eval s = v) (hown : w.ownsRow base 5 1 v k (fL F k)) (hxv : a.eval x = .slice p n c) (hb : AnyAt w p n c f) (hk : k + n ≤ 100000000000) (hbase : base ≤ w.heap.size)
    (h : ∀ v' w', w'.ownsRow base 5 1 v' (k + n) (fL (catB k F f) (k + n)) → w'.ownsRow base 5 1 v k (fL F k) → (∀ g : Nat, w.heap[g]? = some (Obj.cells #[] 5) → w'.heap[g]? = some (Obj.cells #[] 5)) → Ch (fun q => base ≤ q) w w' → K (a.put o.dst v') w') : o.wp Tryd.prog a w K Q := by
  obtain ⟨v', w', hr, h2, h3, h4, h5⟩ := run_append_keep hown hb hk hbase o.type
  unfold Oper.wp execOp
  simp only [ho, resolve, invoke, builtin, Sem.run_bind, Sem.run_pure, Result.andThen_ok, List.map_toArray, List.map_cons, List.map_nil, hsv, hxv, hr]
  exact h v' w' h2 h3 h4 h5
section
variable {S : Nat} {l : List (Nat × Said)} {I : Array Bool → World → Prop} {a0 : Act} {L : Array Bool} {a : Act} {w : World}
theorem InvQ.putX (h : InvQ S l I a0 L a w) (j : Nat) {d : Nat} {R : Said} {v : Value} (hj : l[j]? = some (d, R)) (hd : d < S) (hn : (l.map (·.1)).Nodup) {w' : World} (hl : ∀ (k : Nat) p, l[k]? = some p → k ≠ j → lg L k = true → p.2 (gt a p.1) w → p.2 (gt a p.1) w') (hR : R v w') (hw : I (L.setIfInBounds j true) w') : InvQ S l I a0 (L.setIfInBounds j true) (a.put (some d) v) w' := by
  obtain ⟨h1, h2, h3, h4, h5, h6⟩ := h
  have hjl : j < l.length := (List.getElem?_eq_some_iff.1 hj).1
  have g := fun k v => gt_put a d k v (by omega)
  have lL := fun k => lg_set L j k (by omega)
  refine ⟨by simpa [Act.put] using h1, by simpa using h2, h3, fun k e1 => ?_, fun k p hp e => ?_, hw⟩
  · have hk : k ≠ d := fun e => e1 (by subst e; exact List.mem_map.2 ⟨_, List.mem_of_getElem? hj, rfl⟩)
    rw [g, if_neg hk]; exact h4 k e1
  · rw [g]
    by_cases hkj : k = j
    · subst hkj; rw [hj] at hp; cases hp; rw [if_pos rfl]; exact hR
    · have hne : p.1 ≠ d := fun e' => by
        have hk : k < l.length := (List.getElem?_eq_some_iff.1 hp).1
        have h1 : (l.map (·.1))[k]? = some p.1 := by rw [List.getElem?_map, hp]; rfl
        have h2 : (l.map (·.1))[j]? = some d := by rw [List.getElem?_map, hj]; rfl
        rw [e'] at h1
        exact hkj ((List.getElem?_inj (by simpa using hk) hn).1 (h1.trans h2.symm))
      rw [if_neg hne]; rw [lL, if_neg hkj] at e
      exact hl k p hp hkj e (h5 k p hp e)
theorem InvQ.skipX (h : InvQ S l I a0 L a w) (j : Nat) (hj : l.length ≤ j) (hs : j < L.size) {w' : World} (hl : ∀ (k : Nat) p, l[k]? = some p → lg L k = true → p.2 (gt a p.1) w → p.2 (gt a p.1) w') (hw : I (L.setIfInBounds j true) w') : InvQ S l I a0 (L.setIfInBounds j true) a w' := by
  obtain ⟨h1, h2, h3, h4, h5, h6⟩ := h
  have lL := fun k => lg_set L j k hs
  refine ⟨h1, by simpa using h2, h3, h4, fun k p hp e => ?_, hw⟩
  have hk : k < l.length := (List.getElem?_eq_some_iff.1 hp).1
  rw [lL, if_neg (by omega)] at e
  exact hl k p hp e (h5 k p hp e)
end
section
variable {w w4 : World} {S Mb Kb Ab : Nat} {b r : Nat → Nat} {kp : Nat → Option Addr} {kn kc : Nat → Nat} {kf : Nat → Nat → UInt8} {q : Nat → Option Addr} {L c : Nat → Nat} {F : Nat → Nat → UInt8}
theorem PlayAt.copied2 (h : PlayAt w S Mb Kb Ab b r kp kn kc kf q L c F) {k l : Nat} (hkl : (k = 0 ∧ l = 1) ∨ (k = 1 ∧ l = 0)) (hall : Ch (fun t => t = Mb ∨ t = Kb ∨ t = Ab) w w4) {b' r' : Nat} (hr' : w.heap.size ≤ r') (hb' : r' < b')
    (hm : MacAt w4 b' r' (inK (kb (kf l) (kn l)) (F l)) (64 + L l) (fun j => kb (kf l) (kn l) j ^^^ 92)) (hS : S ≤ w.heap.size)
    (hM4 : w4.heap[Mb]? = some (.cells (arr 2 fun i => if i = k then .pointer (some ⟨b', 0, none⟩) else .pointer (some ⟨b i, 0, none⟩)) 49))
    (hK4 : w4.heap[Kb]? = some (.cells (arr 2 fun i => if i = k then .slice (kp l) (kn l) (kc l) else .slice (kp i) (kn i) (kc i)) 52))
    (hA4 : w4.heap[Ab]? = some (.cells (arr 2 fun i => if i = k then .slice (q l) (L l) (c l) else .slice (q i) (L i) (c i)) 52)) :
    PlayAt w4 S Mb Kb Ab (put2 b k b') (put2 r k r') (put2 kp k (kp l)) (put2 kn k (kn l)) (put2 kc k (kc l)) (put2 kf k (kf l)) (put2 q k (q l)) (put2 L k (L l)) (put2 c k (c l)) (put2 F k (F l)) := by
  have hk : k < 2 := by omega
  have hl : l < 2 := by omega
  have h3 := h.three
  have hMl := row_lt h.rowM; have hKl := row_lt h.rowK; have hAl := row_lt h.rowA
  have old : ∀ i, i < 2 → MacAt w4 (b i) (r i) (inK (kb (kf i) (kn i)) (F i)) (64 + L i) (fun j => kb (kf i) (kn i) j ^^^ 92) := fun i hi => by
    have := h.runs i hi
    exact (h.mac i hi).ch hall (by omega) (by omega)
  have hkey : ∀ i, i < 2 → BytesAt w4 (kp i) (kn i) (kc i) (kf i) := fun i hi => bytes_ch_but (h.key i hi) hall (fun z ad e => by have := h.keys i ad hi z e; omega)
  have hal : ∀ i, i < 2 → BytesAt w4 (q i) (L i) (c i) (F i) := fun i hi => bytes_ch_but (h.all i hi) hall (fun _ ad e => by have := h.alls i ad hi e; omega)
  have hrl : ∀ i, i < 2 → r i < w.heap.size ∧ b i < w.heap.size := fun i hi => ⟨cell_lt ((h.mac i hi).run.cnt), cell_lt ((h.mac i hi).ptr)⟩
  have hql : ∀ i ad, i < 2 → q i = some ad → L i ≠ 0 → ad.block < w.heap.size := fun i ad hi e h0 => by
    rcases h.all i hi with ⟨x, y, e2, h1, h2⟩ | ⟨_, h1, _⟩
    · rw [e2] at e; cases e; exact cell_lt (h2 0 (by omega))
    · exact absurd h1 h0
  refine ⟨?_, ?_, ?_, ?_, ?_, ?_, ?_, h3, ?_, ?_, ?_, ?_⟩
  · rw [hM4]
    congr 2
    refine arr_congr (fun i _ => ?_)
    unfold put2; split <;> rfl
  · rw [hK4]
    congr 2
    refine arr_congr (fun i _ => ?_)
    unfold put2; split <;> rfl
  · rw [hA4]
    congr 2
    refine arr_congr (fun i _ => ?_)
    unfold put2; split <;> rfl
  · intro i hi
    by_cases e : i = k
    · subst e
      simp only [put2_self]
      have := hrl l hl
      exact hm
    · simp only [put2_ne _ _ _ _ e]
      exact old i hi
  · intro i hi
    by_cases e : i = k
    · subst e; simp only [put2_self]; exact hkey l hl
    · simp only [put2_ne _ _ _ _ e]; exact hkey i hi
  · intro i hi
    by_cases e : i = k
    · subst e; simp only [put2_self]; exact h.short l hl
    · simp only [put2_ne _ _ _ _ e]; exact h.short i hi
  · intro i hi
    by_cases e : i = k
    · subst e; simp only [put2_self]; exact hal l hl
    · simp only [put2_ne _ _ _ _ e]; exact hal i hi
  · intro i hi
    by_cases e : i = k
    · subst e; simp only [put2_self]
      refine ⟨?_, ?_, ?_, ?_, ?_, ?_, ?_, ?_⟩ <;> omega
    · simp only [put2_ne _ _ _ _ e]; exact h.runs i hi
  · have h0 := hrl 0 (by omega); have h1 := hrl 1 (by omega)
    refine ⟨?_, fun i j hi hj => ?_⟩
    · rcases hkl with ⟨rfl, rfl⟩ | ⟨rfl, rfl⟩
      · rw [put2_self, put2_ne _ _ _ _ (by omega)]; omega
      · rw [put2_self, put2_ne _ _ _ _ (by omega)]; omega
    · have hi2 := hrl i hi; have hj2 := hrl j hj
      by_cases e : i = k
      · subst e
        rw [put2_self]
        by_cases e2 : j = i
        · subst e2; rw [put2_self]; omega
        · rw [put2_ne _ _ _ _ e2]; omega
      · rw [put2_ne _ _ _ _ e]
        by_cases e2 : j = k
        · subst e2; rw [put2_self]; omega
        · rw [put2_ne _ _ _ _ e2]; exact h.apart.2 i j hi hj
  · intro i ad hi z e
    by_cases e2 : i = k
    · subst e2; rw [put2_self] at e z; exact h.keys l ad hl z e
    · rw [put2_ne _ _ _ _ e2] at e z; exact h.keys i ad hi z e
  · intro i ad hi e
    have hz2 := hall.size
    have key2 : ∀ t, t < 2 → q t = some ad → ad.block ≠ Mb ∧ ad.block ≠ Kb ∧ ad.block ≠ Ab ∧ ad.block ≠ put2 r k r' 0 ∧ ad.block ≠ put2 r k r' 1 ∧ ad.block < w4.heap.size := fun t ht et => by
      have ha := h.alls t ad ht et
      rcases hkl with ⟨rfl, rfl⟩ | ⟨rfl, rfl⟩
      · rw [put2_self, put2_ne _ _ _ _ (by omega)]; omega
      · rw [put2_self, put2_ne _ _ _ _ (by omega)]; omega
    by_cases e2 : i = k
    · subst e2; rw [put2_self] at e; exact key2 l hl e
    · rw [put2_ne _ _ _ _ e2] at e; exact key2 i hi e
end
/-- What holds of the world while the copy's region comes up. -/
structure I20 (W : World) (Mb Kb Ab n l : Nat) (b : Nat → Nat) (kv av : Nat → Value) (f : Nat → UInt8) (N : Nat) (o : Nat → UInt8) (SM SK SA T : Nat) (L : Array Bool) (w : World) : Prop where
  sz : L.size = T
  ch : Ch (fun t => t = Mb ∨ t = Kb ∨ t = Ab) W w
  dis : Mb < W.heap.size ∧ Kb < W.heap.size ∧ Ab < W.heap.size ∧ Mb ≠ Kb ∧ Mb ≠ Ab ∧ Kb ≠ Ab
  m0 : lg L SM = false → w.heap[Mb]? = some (.cells (arr 2 fun i => .pointer (some ⟨b i, 0, none⟩)) 49)
  m1 : lg L SM = true → ∃ g c, CopyOf W w g c f N o ∧ w.heap[Mb]? = some (.cells (arr 2 fun i => if i = n then .pointer (some ⟨g, 0, none⟩) else .pointer (some ⟨b i, 0, none⟩)) 49)
  k0 : lg L SK = false → w.heap[Kb]? = some (.cells (arr 2 kv) 52)
  k1 : lg L SK = true → w.heap[Kb]? = some (.cells (arr 2 fun i => if i = n then kv l else kv i) 52)
  a0 : lg L SA = false → w.heap[Ab]? = some (.cells (arr 2 av) 52)
  a1 : lg L SA = true → w.heap[Ab]? = some (.cells (arr 2 fun i => if i = n then av l else av i) 52)
section
variable {W w w' : World} {Mb Kb Ab n l N : Nat} {b : Nat → Nat} {kv av : Nat → Value} {f o : Nat → UInt8} {SM SK SA T : Nat} {L : Array Bool}
theorem CopyOf.but {b' r' : Nat} {S : Nat → Prop} (h : CopyOf W w b' r' f N o) (hc : Ch S w w') (hs : ∀ i, W.heap.size ≤ i → ¬ S i) : CopyOf W w' b' r' f N o := ⟨h.mac.ch hc (hs _ (by have := h.late; omega)) (hs _ h.late.1), h.late⟩
theorem I20.start (hm : W.heap[Mb]? = some (.cells (arr 2 fun i => .pointer (some ⟨b i, 0, none⟩)) 49)) (hk : W.heap[Kb]? = some (.cells (arr 2 kv) 52)) (ha : W.heap[Ab]? = some (.cells (arr 2 av) 52)) (hd : Mb ≠ Kb ∧ Mb ≠ Ab ∧ Kb ≠ Ab) :
    I20 W Mb Kb Ab n l b kv av f N o SM SK SA T (Array.replicate T false) { W with drawn := W.drawn + 1 } :=
  ⟨by simp, (Ch.refl _ W).drew, ⟨row_lt hm, row_lt hk, row_lt ha, hd⟩, fun _ => hm, fun e => (lg_none' _ _ e).elim, fun _ => hk, fun e => (lg_none' _ _ e).elim, fun _ => ha, fun e => (lg_none' _ _ e).elim⟩
theorem I20.step (h : I20 W Mb Kb Ab n l b kv av f N o SM SK SA T L w) (j : Nat) (hj : j < T) (h1 : j ≠ SM) (h2 : j ≠ SK) (h3 : j ≠ SA) (hc : Ch (fun _ => False) w w') : I20 W Mb Kb Ab n l b kv av f N o SM SK SA T (L.setIfInBounds j true) w' := by
  have g := fun k => lg_set L j k (by rw [h.sz]; exact hj)
  have e1 : lg (L.setIfInBounds j true) SM = lg L SM := by rw [g, if_neg (Ne.symm h1)]
  have e2 : lg (L.setIfInBounds j true) SK = lg L SK := by rw [g, if_neg (Ne.symm h2)]
  have e3 : lg (L.setIfInBounds j true) SA = lg L SA := by rw [g, if_neg (Ne.symm h3)]
  refine ⟨by simpa using h.sz, h.ch.trans (hc.mono (fun _ _ e => e.elim)), h.dis, fun e => hc.heap (h.m0 (e1 ▸ e)) id, fun e => ?_, fun e => hc.heap (h.k0 (e2 ▸ e)) id, fun e => hc.heap (h.k1 (e2 ▸ e)) id, fun e => hc.heap (h.a0 (e3 ▸ e)) id, fun e => hc.heap (h.a1 (e3 ▸ e)) id⟩
  obtain ⟨x, y, h4, h5⟩ := h.m1 (e1 ▸ e)
  exact ⟨x, y, h4.but hc (fun _ _ => id), hc.heap h5 id⟩
theorem I20.stM (h : I20 W Mb Kb Ab n l b kv av f N o SM SK SA T L w) (hT : SM < T) (hd : SM ≠ SK ∧ SM ≠ SA) (hun : lg L SM = false) {x y : Nat} (hx : CopyOf W w x y f N o) : I20 W Mb Kb Ab n l b kv av f N o SM SK SA T (L.setIfInBounds SM true) (w.setCell ⟨Mb, n, none⟩ (.pointer (some ⟨x, 0, none⟩))) := by
  have g := fun k => lg_set L SM k (by rw [h.sz]; exact hT)
  have e1 : lg (L.setIfInBounds SM true) SM = true := by rw [g, if_pos rfl]
  have e2 : lg (L.setIfInBounds SM true) SK = lg L SK := by rw [g, if_neg (Ne.symm hd.1)]
  have e3 : lg (L.setIfInBounds SM true) SA = lg L SA := by rw [g, if_neg (Ne.symm hd.2)]
  have hc : Ch (fun t => t = Mb) w (w.setCell ⟨Mb, n, none⟩ (.pointer (some ⟨x, 0, none⟩))) := Ch.setCell (S := fun t => t = Mb) (Ch.refl _ w) (fun _ => rfl) _
  have hs := heap_set (h.m0 hun) n (.pointer (some ⟨x, 0, none⟩))
  have d := h.dis
  generalize w.setCell ⟨Mb, n, none⟩ (.pointer (some ⟨x, 0, none⟩)) = w2 at *
  refine ⟨by simpa using h.sz, h.ch.trans (hc.mono (fun _ _ e => .inl e)), h.dis, fun e => (by rw [e1] at e; cases e), fun e => ⟨x, y, hx.but hc (fun i hi => by omega), hs⟩, fun e => hc.heap (h.k0 (e2 ▸ e)) (by omega), fun e => hc.heap (h.k1 (e2 ▸ e)) (by omega), fun e => hc.heap (h.a0 (e3 ▸ e)) (by omega), fun e => hc.heap (h.a1 (e3 ▸ e)) (by omega)⟩
theorem I20.stK (h : I20 W Mb Kb Ab n l b kv av f N o SM SK SA T L w) (hT : SK < T) (hd : SK ≠ SM ∧ SK ≠ SA) (hun : lg L SK = false) : I20 W Mb Kb Ab n l b kv av f N o SM SK SA T (L.setIfInBounds SK true) (w.setCell ⟨Kb, n, none⟩ (kv l)) := by
  have g := fun k => lg_set L SK k (by rw [h.sz]; exact hT)
  have e1 : lg (L.setIfInBounds SK true) SK = true := by rw [g, if_pos rfl]
  have e2 : lg (L.setIfInBounds SK true) SM = lg L SM := by rw [g, if_neg (Ne.symm hd.1)]
  have e3 : lg (L.setIfInBounds SK true) SA = lg L SA := by rw [g, if_neg (Ne.symm hd.2)]
  have hc : Ch (fun t => t = Kb) w (w.setCell ⟨Kb, n, none⟩ (kv l)) := Ch.setCell (S := fun t => t = Kb) (Ch.refl _ w) (fun _ => rfl) _
  have hs := heap_set (h.k0 hun) n (kv l)
  have d := h.dis
  generalize w.setCell ⟨Kb, n, none⟩ (kv l) = w2 at *
  refine ⟨by simpa using h.sz, h.ch.trans (hc.mono (fun _ _ e => .inr (.inl e))), h.dis, fun e => hc.heap (h.m0 (e2 ▸ e)) (by omega), fun e => ?_, fun e => (by rw [e1] at e; cases e), fun _ => hs, fun e => hc.heap (h.a0 (e3 ▸ e)) (by omega), fun e => hc.heap (h.a1 (e3 ▸ e)) (by omega)⟩
  obtain ⟨x, y, h4, h5⟩ := h.m1 (e2 ▸ e)
  exact ⟨x, y, h4.but hc (fun i hi => by omega), hc.heap h5 (by omega)⟩
theorem I20.stA (h : I20 W Mb Kb Ab n l b kv av f N o SM SK SA T L w) (hT : SA < T) (hd : SA ≠ SM ∧ SA ≠ SK) (hun : lg L SA = false) : I20 W Mb Kb Ab n l b kv av f N o SM SK SA T (L.setIfInBounds SA true) (w.setCell ⟨Ab, n, none⟩ (av l)) := by
  have g := fun k => lg_set L SA k (by rw [h.sz]; exact hT)
  have e1 : lg (L.setIfInBounds SA true) SA = true := by rw [g, if_pos rfl]
  have e2 : lg (L.setIfInBounds SA true) SM = lg L SM := by rw [g, if_neg (Ne.symm hd.1)]
  have e3 : lg (L.setIfInBounds SA true) SK = lg L SK := by rw [g, if_neg (Ne.symm hd.2)]
  have hc : Ch (fun t => t = Ab) w (w.setCell ⟨Ab, n, none⟩ (av l)) := Ch.setCell (S := fun t => t = Ab) (Ch.refl _ w) (fun _ => rfl) _
  have hs := heap_set (h.a0 hun) n (av l)
  have d := h.dis
  generalize w.setCell ⟨Ab, n, none⟩ (av l) = w2 at *
  refine ⟨by simpa using h.sz, h.ch.trans (hc.mono (fun _ _ e => .inr (.inr e))), h.dis, fun e => hc.heap (h.m0 (e2 ▸ e)) (by omega), fun e => ?_, fun e => hc.heap (h.k0 (e3 ▸ e)) (by omega), fun e => hc.heap (h.k1 (e3 ▸ e)) (by omega), fun e => (by rw [e1] at e; cases e), fun _ => hs⟩
  obtain ⟨x, y, h4, h5⟩ := h.m1 (e2 ▸ e)
  exact ⟨x, y, h4.but hc (fun i hi => by omega), hc.heap h5 (by omega)⟩
/-- What is read at the other place, whatever came up. -/
theorem I20.ldM (h : I20 W Mb Kb Ab n l b kv av f N o SM SK SA T L w) (hl : l < 2) (hn : l ≠ n) : w.cell? ⟨Mb, l, none⟩ = some (.pointer (some ⟨b l, 0, none⟩)) := by
  cases e : lg L SM with
  | false => exact (cell_of_heap (h.m0 e) l).trans (arr_get 2 _ l hl)
  | true =>
    obtain ⟨x, y, _, h5⟩ := h.m1 e
    exact (cell_of_heap h5 l).trans ((arr_get 2 _ l hl).trans (by rw [if_neg hn]))
theorem I20.ldK (h : I20 W Mb Kb Ab n l b kv av f N o SM SK SA T L w) (hl : l < 2) (hn : l ≠ n) : w.cell? ⟨Kb, l, none⟩ = some (kv l) := by
  cases e : lg L SK with
  | false => exact (cell_of_heap (h.k0 e) l).trans (arr_get 2 _ l hl)
  | true => exact (cell_of_heap (h.k1 e) l).trans ((arr_get 2 _ l hl).trans (by rw [if_neg hn]))
theorem I20.ldA (h : I20 W Mb Kb Ab n l b kv av f N o SM SK SA T L w) (hl : l < 2) (hn : l ≠ n) : w.cell? ⟨Ab, l, none⟩ = some (av l) := by
  cases e : lg L SA with
  | false => exact (cell_of_heap (h.a0 e) l).trans (arr_get 2 _ l hl)
  | true => exact (cell_of_heap (h.a1 e) l).trans ((arr_get 2 _ l hl).trans (by rw [if_neg hn]))
end
/-- As InvQ, each operation named by its place; operations that hand nothing to a slot among them. What is said lasts while only blocks of T change. -/
structure InvS (S N : Nat) (T : Nat → Prop) (l : List (Nat × Nat × Said)) (I : Array Bool → World → Prop) (a0 : Act) (L : Array Bool) (a : Act) (w : World) : Prop where
  size : a.tmps.size = S
  lsize : L.size = N
  defers : a.defers = a0.defers
  fixed : ∀ k, k ∉ l.map (·.2.1) → gt a k = gt a0 k
  val : ∀ (j : Nat) q, l[j]? = some q → lg L q.1 = true → q.2.2 (gt a q.2.1) w
  wld : I L w
def LastsS (T : Nat → Prop) (l : List (Nat × Nat × Said)) : Prop := ∀ q ∈ l, ∀ v w w', Ch T w w' → q.2.2 v w → q.2.2 v w'
section
variable {S N : Nat} {T : Nat → Prop} {l : List (Nat × Nat × Said)} {I : Array Bool → World → Prop} {a0 : Act} {L : Array Bool} {a : Act} {w : World}
theorem InvS.start (h : a0.tmps.size = S) (hw : I (Array.replicate N false) w) : InvS S N T l I a0 (Array.replicate N false) a0 w :=
  ⟨h, by simp, rfl, fun _ _ => rfl, fun j _ _ e => (lg_none' _ _ e).elim, hw⟩
theorem InvS.put (h : InvS S N T l I a0 L a w) (j : Nat) {i d : Nat} {R : Said} {v : Value} (hj : l[j]? = some (i, d, R)) (hd : d < S) (hi : i < N) (hn : (l.map (·.2.1)).Nodup) (hn1 : (l.map (·.1)).Nodup) (hl : LastsS T l) {w' : World} (hc : Ch T w w') (hR : R v w') (hw : I (L.setIfInBounds i true) w') : InvS S N T l I a0 (L.setIfInBounds i true) (a.put (some d) v) w' := by
  obtain ⟨h1, h2, h3, h4, h5, h6⟩ := h
  have hjl : j < l.length := (List.getElem?_eq_some_iff.1 hj).1
  have g := fun k v => gt_put a d k v (by omega)
  have lL := fun k => lg_set L i k (by omega)
  refine ⟨by simpa [Act.put] using h1, by simpa using h2, h3, fun k e1 => ?_, fun k q hq e => ?_, hw⟩
  · have hk : k ≠ d := fun e => e1 (by subst e; exact List.mem_map.2 ⟨_, List.mem_of_getElem? hj, rfl⟩)
    rw [g, if_neg hk]; exact h4 k e1
  · rw [g]
    by_cases hkj : k = j
    · subst hkj; rw [hj] at hq; cases hq; rw [if_pos rfl]; exact hR
    · have hk : k < l.length := (List.getElem?_eq_some_iff.1 hq).1
      have hne : q.2.1 ≠ d := fun e' => by
        have h1 : (l.map (·.2.1))[k]? = some q.2.1 := by rw [List.getElem?_map, hq]; rfl
        have h2 : (l.map (·.2.1))[j]? = some d := by rw [List.getElem?_map, hj]; rfl
        rw [e'] at h1
        exact hkj ((List.getElem?_inj (by simpa using hk) hn).1 (h1.trans h2.symm))
      have hni : q.1 ≠ i := fun e' => by
        have h1 : (l.map (·.1))[k]? = some q.1 := by rw [List.getElem?_map, hq]; rfl
        have h2 : (l.map (·.1))[j]? = some i := by rw [List.getElem?_map, hj]; rfl
        rw [e'] at h1
        exact hkj ((List.getElem?_inj (by simpa using hk) hn1).1 (h1.trans h2.symm))
      rw [if_neg hne]; rw [lL, if_neg hni] at e
      exact hl q (List.mem_of_getElem? hq) _ _ _ hc (h5 k q hq e)
theorem InvS.skip (h : InvS S N T l I a0 L a w) (i : Nat) (hi : i < N) (hni : ∀ q ∈ l, q.1 ≠ i) (hl : LastsS T l) {w' : World} (hc : Ch T w w') (hw : I (L.setIfInBounds i true) w') : InvS S N T l I a0 (L.setIfInBounds i true) a w' := by
  obtain ⟨h1, h2, h3, h4, h5, h6⟩ := h
  have lL := fun k => lg_set L i k (by omega)
  refine ⟨h1, by simpa using h2, h3, h4, fun k q hq e => ?_, hw⟩
  have hm := List.mem_of_getElem? hq
  rw [lL, if_neg (hni q hm)] at e
  exact hl q hm _ _ _ hc (h5 k q hq e)
theorem InvS.frame (h : InvS S N T l I a0 L a w) (h0 : a0.tmps.size = S) (hl : ∀ q ∈ l, q.2.1 < S) : a = ⟨(l.map (·.2.1)).foldl (fun t p => t.setIfInBounds p (gt a p)) a0.tmps, a0.defers⟩ := by
  obtain ⟨h1, h2, h3, h4, h5, h6⟩ := h
  have key : a.tmps = (l.map (·.2.1)).foldl (fun t p => t.setIfInBounds p (gt a p)) a0.tmps := by
    apply Array.ext_getElem?
    intro k
    have hg : ∀ (t : Array Value) (k : Nat), k < t.size → t[k]? = some (t[k]?.getD undef) := fun t k hk => by rw [Array.getElem?_eq_getElem hk]; rfl
    by_cases hk : k < S
    · refine Eq.trans (hg a.tmps k (by omega)) (Eq.trans (congrArg some (?_ : a.tmps[k]?.getD undef = ((l.map (·.2.1)).foldl (fun t p => t.setIfInBounds p (gt a p)) a0.tmps)[k]?.getD undef)) (hg _ k (by rw [fold_gt_size]; omega)).symm)
      rw [fold_gt (gt a) k (l.map (·.2.1)) a0.tmps (fun p hp => by
        obtain ⟨q, hq, rfl⟩ := List.mem_map.1 hp
        rw [h0]; exact hl q hq)]
      by_cases e : k ∈ l.map (·.2.1)
      · rw [if_pos e]; rfl
      · rw [if_neg e]; exact h4 k e
    · rw [Array.getElem?_eq_none (by omega), Array.getElem?_eq_none (by rw [fold_gt_size]; omega)]
  obtain ⟨tm, df⟩ := a
  simp only at h3 key
  subst h3
  exact congrArg (fun t => Act.mk t _) key
end
end Go.Proofs.YtikdpiedjkailaaDoor
