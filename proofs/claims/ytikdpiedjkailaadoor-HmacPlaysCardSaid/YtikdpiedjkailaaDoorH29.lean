/- For HmacPlays: two tags under way, their keys and what was written, as one relation; what a Write, a Tag and a copy make of it; 'gone'. -/
import Derived.Test.YtikdpiedjkailaaDoorH27
namespace Go.Proofs.YtikdpiedjkailaaDoor
open Go Go.RowKit

theorem gone_any (z : Bool) (w : World) : Calls Tryd.prog 24 #[.bool z] w fun e w' => ∃ x, e = .returned x ∧ NoMac x w' ∧ Ch (fun _ => False) w w' := by
  cases z with
  | false =>
    go_enter Tryd.func24, Tryd.ntmps24
    go_wp2_with fail
    go_ret
    exact ⟨_, rfl, .inl rfl, Ch.refl _ _⟩
  | true =>
    go_enter Tryd.func24, Tryd.ntmps24
    go_wp2_with fail
    go_ret
    refine ⟨_, rfl, .inr ⟨w.heap.size, rfl, ?_⟩, (Ch.refl _ _).alloc _⟩
    exact cell_fresh w _ 68 0

theorem mwrite_no (x : Value) (q : Option Addr) (m c : Nat) (w : World) (h : NoMac x w) : Calls Tryd.prog 21 #[x, .slice q m c] w fun e w' => e = .returned (.int .i64 1) ∧ w = w' := by
  have HD := Go.Lib.hid (mdead_any x w h)
  clear h
  go_enter Tryd.func21, Tryd.ntmps21
  go_wp2_with (go_at_call 33; refine HD.out.mono ?_; rintro e w1 ⟨rfl, rfl⟩)
  go_ret
  exact ⟨rfl, rfl⟩
/-- 'append(s, b...)', b's address being whatever where it has no bytes. -/
theorem wpList_append_any {w : World} {ops : Array Oper} {rest : List Oper} {o : Oper} {a : Act} {Q : Exit → Act → World → Prop} (hgd : o.guard = none) (s x : Operand)
    (ho : o.op = .call { callee := .builtin .append, args := #[s, x], argTypes := #[22, 22] }) (base : Nat) (v : Value) (k : Nat) (xs : List Value) (hs : a.eval s = v) (hown : w.ownsRow base 5 1 v k xs)
    (p : Option Addr) (n c : Nat) (f : Nat → UInt8) (hx : a.eval x = .slice p n c) (hb : BytesAt w p n c f ∨ (n = 0 ∧ (p = none → c = 0))) (hk : k + n ≤ 100000000000000) (hbase : base ≤ w.heap.size)
    (h : ∀ v' w', w'.ownsRow base 5 1 v' (k + n) (xs ++ fL f n) → w.grownBy w' v.ownBlock → wpList Tryd.prog ops Q rest (a.put o.dst v') w') : wpList Tryd.prog ops Q (o :: rest) a w := by
  rcases hb with hb | ⟨rfl, hc⟩
  · exact wpList_append_bytes hgd s x ho base v k xs hs hown p n c f hx hb hk hbase h
  · cases p with
    | none =>
      obtain rfl := hc rfl
      exact wpList_append_bytes hgd s x ho base v k xs hs hown none 0 0 f hx (.inr ⟨rfl, rfl, rfl⟩) hk hbase h
    | some ad =>
      obtain ⟨i0, hi, hz0, hz1, hz2⟩ := info_parts info5
      exact wpList_append_own _ hgd s x 22 ho base 5 i0 (.int .u8 0) 1 1 Tryd.underlying22 hi hz0 hz1 hz2 rfl (by decide) v k xs hs hown ad 0 c (fL f 0) hx (by rw [fL_len]) (fun j u h => by simp [fL] at h) (fL_one _ _) (by simp [maxLen]; omega) (by omega) hbase (fun v' w' h1 h2 _ => h v' w' h1 h2)
/-- Calls, as they come in. -/
structure ActsAt (w : World) (a off N : Nat) (wh : Nat → Int) (tw : Nat → Bool) (bp : Nat → Option Addr) (bl bc : Nat → Nat) (bf : Nat → Nat → UInt8) : Prop where
  what : ∀ i, i < N → w.cell? ⟨a, off + i * 3, none⟩ = some (.int .i64 (wh i))
  two : ∀ i, i < N → w.cell? ⟨a, off + i * 3 + 1, none⟩ = some (.bool (tw i))
  row : ∀ i, i < N → w.cell? ⟨a, off + i * 3 + 2, none⟩ = some (.slice (bp i) (bl i) (bc i))
  bytes : ∀ i, i < N → BytesAt w (bp i) (bl i) (bc i) (bf i) ∨ (bl i = 0 ∧ (bp i = none → bc i = 0))
theorem ActsAt.ch {w w' : World} {a off N : Nat} {wh : Nat → Int} {tw : Nat → Bool} {bp : Nat → Option Addr} {bl bc : Nat → Nat} {bf : Nat → Nat → UInt8} (h : ActsAt w a off N wh tw bp bl bc bf) (hc : Ch (fun _ => False) w w') : ActsAt w' a off N wh tw bp bl bc bf :=
  ⟨fun i hi => hc.get (h.what i hi) id, fun i hi => hc.get (h.two i hi) id, fun i hi => hc.get (h.row i hi) id, fun i hi => (h.bytes i hi).imp (fun x => x.ch hc (fun _ _ h => h)) id⟩
/-- A row of bytes of one's own, whatever it holds. -/
def RowU (w : World) (g n : Nat) : Prop := ∃ cur, w.heap[g]? = some (.cells cur 5) ∧ ∀ j, j < n → ∃ z : UInt8, cur[j]? = some (.int .u8 (z.toNat : Int))
theorem RowU.set {w : World} {g n k : Nat} (h : RowU w g n) (z : UInt8) (hk : k < n) : RowU (w.setCell ⟨g, k, none⟩ (.int .u8 (z.toNat : Int))) g n := by
  obtain ⟨cur, h1, h2⟩ := h
  refine ⟨_, row_setM h1 k _, fun j hj => ?_⟩
  rw [Array.getElem?_setIfInBounds]
  by_cases e : k = j
  · subst e
    obtain ⟨z', hz⟩ := h2 k hj
    rw [if_pos rfl, if_pos (Array.getElem?_eq_some_iff.1 hz).1]
    exact ⟨z, rfl⟩
  · rw [if_neg e]; exact h2 j hj
theorem own_rowU {w : World} {base n : Nat} {v : Value} {F : Nat → UInt8} (h : w.ownsRow base 5 1 v n (fL F n)) : (∃ g c, v = .slice (some ⟨g, 0, none⟩) n c ∧ base ≤ g ∧ RowU w g n) ∨ (v = .slice none 0 0 ∧ n = 0) := by
  obtain ⟨hlen, ⟨rfl, rfl⟩ | ⟨g, cap, cur, rfl, hbg, hg, hnc, hcm, hcs, htake⟩⟩ := h
  · exact .inr ⟨rfl, rfl⟩
  · exact .inl ⟨g, cap, rfl, hbg, cur, hg, fun j hj => ⟨F j, fL_cur htake j hj⟩⟩
theorem inK_cong (k : Nat → UInt8) (n : Nat) (f g : Nat → UInt8) (j : Nat) (hj : j < 64 + n) : inK k f j = inK k (catB n f g) j := by
  by_cases h : j < 64
  · rw [inK_lt _ _ _ h, inK_lt _ _ _ h]
  · rw [show j = 64 + (j - 64) by omega, inK_ge, inK_ge]; unfold catB; rw [if_pos (by omega)]
/-- Two tags under way. -/
structure PlayAt (w : World) (S Mb Kb Ab : Nat) (b r : Nat → Nat) (kp : Nat → Option Addr) (kn kc : Nat → Nat) (kf : Nat → Nat → UInt8) (q : Nat → Option Addr) (L c : Nat → Nat) (F : Nat → Nat → UInt8) : Prop where
  rowM : w.heap[Mb]? = some (.cells (arr 2 fun i => .pointer (some ⟨b i, 0, none⟩)) 49)
  rowK : w.heap[Kb]? = some (.cells (arr 2 fun i => .slice (kp i) (kn i) (kc i)) 52)
  rowA : w.heap[Ab]? = some (.cells (arr 2 fun i => .slice (q i) (L i) (c i)) 52)
  mac : ∀ i, i < 2 → MacAt w (b i) (r i) (inK (kb (kf i) (kn i)) (F i)) (64 + L i) (fun j => kb (kf i) (kn i) j ^^^ 92)
  key : ∀ i, i < 2 → BytesAt w (kp i) (kn i) (kc i) (kf i)
  short : ∀ i, i < 2 → kn i ≤ 200
  all : ∀ i, i < 2 → BytesAt w (q i) (L i) (c i) (F i)
  three : S ≤ Mb ∧ S ≤ Kb ∧ S ≤ Ab ∧ Mb ≠ Kb ∧ Mb ≠ Ab ∧ Kb ≠ Ab
  runs : ∀ i, i < 2 → S ≤ r i ∧ S ≤ b i ∧ r i ≠ Mb ∧ r i ≠ Kb ∧ r i ≠ Ab ∧ b i ≠ Mb ∧ b i ≠ Kb ∧ b i ≠ Ab
  apart : r 0 ≠ r 1 ∧ ∀ i j, i < 2 → j < 2 → b i ≠ r j
  keys : ∀ i ad, i < 2 → kn i ≠ 0 → kp i = some ad → ad.block < S
  alls : ∀ i ad, i < 2 → q i = some ad → ad.block ≠ Mb ∧ ad.block ≠ Kb ∧ ad.block ≠ Ab ∧ ad.block ≠ r 0 ∧ ad.block ≠ r 1 ∧ ad.block < w.heap.size

section
variable {w w' : World} {S Mb Kb Ab : Nat} {b r : Nat → Nat} {kp : Nat → Option Addr} {kn kc : Nat → Nat} {kf : Nat → Nat → UInt8} {q : Nat → Option Addr} {L c : Nat → Nat} {F : Nat → Nat → UInt8}
theorem bytes_ch_but {p : Option Addr} {n c : Nat} {f : Nat → UInt8} {T : Nat → Prop} (h : BytesAt w p n c f) (hc : Ch T w w') (hp : n ≠ 0 → ∀ ad, p = some ad → ¬ T ad.block) : BytesAt w' p n c f := by
  rcases h with ⟨x, y, rfl, h1, h2⟩ | h
  · exact .inl ⟨x, y, rfl, h1, fun j hj => hc.get (h2 j hj) (hp (by omega) ⟨x, y, none⟩ rfl)⟩
  · exact .inr h
theorem PlayAt.ch (h : PlayAt w S Mb Kb Ab b r kp kn kc kf q L c F) (hc : Ch (fun _ => False) w w') : PlayAt w' S Mb Kb Ab b r kp kn kc kf q L c F :=
  ⟨hc.heap h.rowM id, hc.heap h.rowK id, hc.heap h.rowA id, fun i hi => (h.mac i hi).ch hc id id, fun i hi => bytes_ch_but (h.key i hi) hc (fun _ _ _ => id), h.short, fun i hi => bytes_ch_but (h.all i hi) hc (fun _ _ _ => id), h.three, h.runs, h.apart, h.keys, fun i ad hi e => by have := h.alls i ad hi e; have := hc.size; omega⟩
theorem two_cases {P : Nat → Prop} (h0 : P 0) (h1 : P 1) : ∀ i, i < 2 → P i := fun i hi => by
  obtain rfl | rfl : i = 0 ∨ i = 1 := by omega
  · exact h0
  · exact h1
def put2 {α : Type} (f : Nat → α) (k : Nat) (v : α) : Nat → α := fun j => if j = k then v else f j
theorem put2_self {α : Type} (f : Nat → α) (k : Nat) (v : α) : put2 f k v k = v := if_pos rfl
theorem put2_ne {α : Type} (f : Nat → α) (k : Nat) (v : α) (j : Nat) (h : j ≠ k) : put2 f k v j = f j := if_neg h
theorem MacAt.congr {x y n : Nat} {f g o : Nat → UInt8} (h : MacAt w x y f n o) (e : ∀ i, i < n → f i = g i) : MacAt w x y g n o := ⟨h.ptr, h.outer, h.run.congr e⟩

/-- A Write to the k-th, and the longer bytes put in their place. -/
theorem PlayAt.wrote {w1 w2 : World} (h : PlayAt w S Mb Kb Ab b r kp kn kc kf q L c F) {k m : Nat} (hk : k < 2) {G : Nat → UInt8} (hG : ∀ j, j < L k → G j = F k j) (hc1 : Ch (fun t => t = r k) w w1)
    (hm : MacAt w1 (b k) (r k) (inK (kb (kf k) (kn k)) G) (64 + (L k + m)) (fun j => kb (kf k) (kn k) j ^^^ 92)) (hc2 : Ch (fun _ => False) w1 w2) {q' : Option Addr} {c' : Nat} (hb : BytesAt w2 q' (L k + m) c' G) (hq : ∀ ad, q' = some ad → w1.heap.size ≤ ad.block ∧ ad.block < w2.heap.size) :
    PlayAt (w2.setCell ⟨Ab, k, none⟩ (.slice q' (L k + m) c')) S Mb Kb Ab b r kp kn kc kf (put2 q k q') (put2 L k (L k + m)) (put2 c k c') (put2 F k G) := by
  have h3 := h.three
  have hrk := h.runs k hk
  have hc : Ch (fun t => t = r k) w w2 := hc1.trans (hc2.mono (fun _ _ e => e.elim))
  have hs : Ch (fun t => t = Ab) w2 (w2.setCell ⟨Ab, k, none⟩ (.slice q' (L k + m) c')) := Ch.setCell (S := fun t => t = Ab) (Ch.refl _ w2) (fun _ => rfl) _
  have hA2 := hc.heap h.rowA (fun e : Ab = r k => hrk.2.2.2.2.1 e.symm)
  have hAl : Ab < w1.heap.size := Nat.lt_of_lt_of_le (row_lt h.rowA) hc1.size
  have hKl : Kb < w1.heap.size := Nat.lt_of_lt_of_le (row_lt h.rowK) hc1.size
  have hMl : Mb < w1.heap.size := Nat.lt_of_lt_of_le (row_lt h.rowM) hc1.size
  refine ⟨hs.heap (hc.heap h.rowM (fun e => hrk.2.2.1 e.symm)) h3.2.2.2.2.1, hs.heap (hc.heap h.rowK (fun e => hrk.2.2.2.1 e.symm)) h3.2.2.2.2.2, ?_, ?_, ?_, h.short, ?_, h3, h.runs, h.apart, h.keys, ?_⟩
  · rw [heap_set hA2 k]
    congr 2
    refine arr_congr (fun i _ => ?_)
    unfold put2
    by_cases e : i = k
    · rw [if_pos e, if_pos e, if_pos e, if_pos e]
    · rw [if_neg e, if_neg e, if_neg e, if_neg e]
  · intro i hi
    have hri := h.runs i hi
    by_cases e : i = k
    · subst e
      rw [put2_self, put2_self]
      exact (hm.ch hc2 id id).ch hs hri.2.2.2.2.2.2.2 hri.2.2.2.2.1
    · rw [put2_ne _ _ _ _ e, put2_ne _ _ _ _ e]
      have hne : r i ≠ r k := by
        obtain rfl | rfl : i = 0 ∨ i = 1 := by omega
        · obtain rfl : k = 1 := by omega
          exact h.apart.1
        · obtain rfl : k = 0 := by omega
          exact fun e => h.apart.1 e.symm
      exact ((h.mac i hi).ch hc (h.apart.2 i k hi hk) hne).ch hs hri.2.2.2.2.2.2.2 hri.2.2.2.2.1
  · intro i hi
    refine bytes_ch_but (bytes_ch_but (h.key i hi) hc (fun z ad e => ?_)) hs (fun z ad e => ?_)
    · have := h.keys i ad hi z e; have := hrk.1; show ¬ ad.block = r k; omega
    · have := h.keys i ad hi z e; show ¬ ad.block = Ab; omega
  · intro i hi
    by_cases e : i = k
    · subst e
      rw [put2_self, put2_self, put2_self, put2_self]
      refine bytes_ch_but hb hs (fun _ ad e => ?_)
      have := hq ad e; show ¬ ad.block = Ab; omega
    · rw [put2_ne _ _ _ _ e, put2_ne _ _ _ _ e, put2_ne _ _ _ _ e, put2_ne _ _ _ _ e]
      refine bytes_ch_but (bytes_ch_but (h.all i hi) hc (fun _ ad e => ?_)) hs (fun _ ad e => (h.alls i ad hi e).2.2.1)
      have ha := h.alls i ad hi e
      obtain rfl | rfl : k = 0 ∨ k = 1 := by omega
      · exact ha.2.2.2.1
      · exact ha.2.2.2.2.1
  · intro i ad hi e
    by_cases e2 : i = k
    · subst e2
      rw [put2_self] at e
      have hge := hq ad e
      have l0 := cell_lt ((h.mac 0 (by omega)).run.cnt); have l1 := cell_lt ((h.mac 1 (by omega)).run.cnt)
      simp only at l0 l1
      have := hc1.size
      have := hs.size
      refine ⟨?_, ?_, ?_, ?_, ?_, ?_⟩ <;> omega
    · rw [put2_ne _ _ _ _ e2] at e
      have := h.alls i ad hi e
      have := hc.size; have := hs.size
      omega

/-- The k-th becomes a copy of the other one. -/
theorem PlayAt.copied {w1 : World} (h : PlayAt w S Mb Kb Ab b r kp kn kc kf q L c F) {k l : Nat} (hkl : (k = 0 ∧ l = 1) ∨ (k = 1 ∧ l = 0)) (hc1 : Ch (fun _ => False) w w1) {b' r' : Nat} (hr' : w.heap.size ≤ r') (hb' : r' < b')
    (hm : MacAt w1 b' r' (inK (kb (kf l) (kn l)) (F l)) (64 + L l) (fun j => kb (kf l) (kn l) j ^^^ 92)) (hS : S ≤ w.heap.size) :
    PlayAt (((w1.setCell ⟨Mb, k, none⟩ (.pointer (some ⟨b', 0, none⟩))).setCell ⟨Kb, k, none⟩ (.slice (kp l) (kn l) (kc l))).setCell ⟨Ab, k, none⟩ (.slice (q l) (L l) (c l))) S Mb Kb Ab (put2 b k b') (put2 r k r') (put2 kp k (kp l)) (put2 kn k (kn l)) (put2 kc k (kc l)) (put2 kf k (kf l)) (put2 q k (q l)) (put2 L k (L l)) (put2 c k (c l)) (put2 F k (F l)) := by
  have hk : k < 2 := by omega
  have hl : l < 2 := by omega
  have h3 := h.three
  have hMl := row_lt h.rowM; have hKl := row_lt h.rowK; have hAl := row_lt h.rowA
  have s1 : Ch (fun t => t = Mb) w1 (w1.setCell ⟨Mb, k, none⟩ (.pointer (some ⟨b', 0, none⟩))) := Ch.setCell (S := fun t => t = Mb) (Ch.refl _ w1) (fun _ => rfl) _
  generalize hW2 : w1.setCell ⟨Mb, k, none⟩ (.pointer (some ⟨b', 0, none⟩)) = w2 at *
  have s2 : Ch (fun t => t = Kb) w2 (w2.setCell ⟨Kb, k, none⟩ (.slice (kp l) (kn l) (kc l))) := Ch.setCell (S := fun t => t = Kb) (Ch.refl _ w2) (fun _ => rfl) _
  generalize hW3 : w2.setCell ⟨Kb, k, none⟩ (.slice (kp l) (kn l) (kc l)) = w3 at *
  have s3 : Ch (fun t => t = Ab) w3 (w3.setCell ⟨Ab, k, none⟩ (.slice (q l) (L l) (c l))) := Ch.setCell (S := fun t => t = Ab) (Ch.refl _ w3) (fun _ => rfl) _
  have hM2 : w2.heap[Mb]? = some (.cells (arr 2 fun i => if i = k then .pointer (some ⟨b', 0, none⟩) else .pointer (some ⟨b i, 0, none⟩)) 49) := by rw [← hW2]; exact heap_set (hc1.heap h.rowM id) k _
  have hK2 := s1.heap (hc1.heap h.rowK id) (fun e => h3.2.2.2.1 e.symm)
  have hA2 := s1.heap (hc1.heap h.rowA id) (fun e => h3.2.2.2.2.1 e.symm)
  have hM3 := s2.heap hM2 h3.2.2.2.1
  have hK3 : w3.heap[Kb]? = some (.cells (arr 2 fun i => if i = k then .slice (kp l) (kn l) (kc l) else .slice (kp i) (kn i) (kc i)) 52) := by rw [← hW3]; exact heap_set hK2 k _
  have hA3 := s2.heap hA2 (fun e => h3.2.2.2.2.2 e.symm)
  have hall : Ch (fun t => t = Mb ∨ t = Kb ∨ t = Ab) w1 (w3.setCell ⟨Ab, k, none⟩ (.slice (q l) (L l) (c l))) := ((s1.mono (fun _ _ e => .inl e)).trans (s2.mono (fun _ _ e => .inr (.inl e)))).trans (s3.mono (fun _ _ e => .inr (.inr e)))
  have hA4 := heap_set hA3 k (.slice (q l) (L l) (c l))
  generalize w3.setCell ⟨Ab, k, none⟩ (.slice (q l) (L l) (c l)) = w4 at *
  have old : ∀ i, i < 2 → MacAt w4 (b i) (r i) (inK (kb (kf i) (kn i)) (F i)) (64 + L i) (fun j => kb (kf i) (kn i) j ^^^ 92) := fun i hi => by
    have := h.runs i hi
    exact ((h.mac i hi).ch hc1 id id).ch hall (by omega) (by omega)
  have hkey : ∀ i, i < 2 → BytesAt w4 (kp i) (kn i) (kc i) (kf i) := fun i hi => bytes_ch_but (bytes_ch_but (h.key i hi) hc1 (fun _ _ _ => id)) hall (fun z ad e => by have := h.keys i ad hi z e; omega)
  have hal : ∀ i, i < 2 → BytesAt w4 (q i) (L i) (c i) (F i) := fun i hi => bytes_ch_but (bytes_ch_but (h.all i hi) hc1 (fun _ _ _ => id)) hall (fun _ ad e => by have := h.alls i ad hi e; omega)
  have hrl : ∀ i, i < 2 → r i < w.heap.size ∧ b i < w.heap.size := fun i hi => ⟨cell_lt ((h.mac i hi).run.cnt), cell_lt ((h.mac i hi).ptr)⟩
  have hql : ∀ i ad, i < 2 → q i = some ad → L i ≠ 0 → ad.block < w.heap.size := fun i ad hi e h0 => by
    rcases h.all i hi with ⟨x, y, e2, h1, h2⟩ | ⟨_, h1, _⟩
    · rw [e2] at e; cases e; exact cell_lt (h2 0 (by omega))
    · exact absurd h1 h0
  refine ⟨?_, ?_, ?_, ?_, ?_, ?_, ?_, h3, ?_, ?_, ?_, ?_⟩
  · refine (s3.heap hM3 h3.2.2.2.2.1).trans ?_
    congr 2
    refine arr_congr (fun i _ => ?_)
    unfold put2; split <;> rfl
  · refine (s3.heap hK3 h3.2.2.2.2.2).trans ?_
    congr 2
    refine arr_congr (fun i _ => ?_)
    unfold put2; split <;> rfl
  · rw [hA4]
    congr 2
    refine arr_congr (fun i _ => ?_)
    unfold put2; split <;> rfl
  · intro i hi
    by_cases e : i = k
    · subst e
      simp only [put2_self]
      have := hrl l hl
      exact hm.ch hall (by omega) (by omega)
    · simp only [put2_ne _ _ _ _ e]
      exact old i hi
  · intro i hi
    by_cases e : i = k
    · subst e; simp only [put2_self]; exact hkey l hl
    · simp only [put2_ne _ _ _ _ e]; exact hkey i hi
  · intro i hi
    by_cases e : i = k
    · subst e; simp only [put2_self]; exact h.short l hl
    · simp only [put2_ne _ _ _ _ e]; exact h.short i hi
  · intro i hi
    by_cases e : i = k
    · subst e; simp only [put2_self]; exact hal l hl
    · simp only [put2_ne _ _ _ _ e]; exact hal i hi
  · intro i hi
    by_cases e : i = k
    · subst e; simp only [put2_self]
      refine ⟨?_, ?_, ?_, ?_, ?_, ?_, ?_, ?_⟩ <;> omega
    · simp only [put2_ne _ _ _ _ e]; exact h.runs i hi
  · have h0 := hrl 0 (by omega); have h1 := hrl 1 (by omega)
    refine ⟨?_, fun i j hi hj => ?_⟩
    · rcases hkl with ⟨rfl, rfl⟩ | ⟨rfl, rfl⟩
      · rw [put2_self, put2_ne _ _ _ _ (by omega)]; omega
      · rw [put2_self, put2_ne _ _ _ _ (by omega)]; omega
    · have hi2 := hrl i hi; have hj2 := hrl j hj
      by_cases e : i = k
      · subst e
        rw [put2_self]
        by_cases e2 : j = i
        · subst e2; rw [put2_self]; omega
        · rw [put2_ne _ _ _ _ e2]; omega
      · rw [put2_ne _ _ _ _ e]
        by_cases e2 : j = k
        · subst e2; rw [put2_self]; omega
        · rw [put2_ne _ _ _ _ e2]; exact h.apart.2 i j hi hj
  · intro i ad hi z e
    by_cases e2 : i = k
    · subst e2; rw [put2_self] at e z; exact h.keys l ad hl z e
    · rw [put2_ne _ _ _ _ e2] at e z; exact h.keys i ad hi z e
  · intro i ad hi e
    have hz1 := hc1.size; have hz2 := hall.size
    have key2 : ∀ t, t < 2 → q t = some ad → ad.block ≠ Mb ∧ ad.block ≠ Kb ∧ ad.block ≠ Ab ∧ ad.block ≠ put2 r k r' 0 ∧ ad.block ≠ put2 r k r' 1 ∧ ad.block < w4.heap.size := fun t ht et => by
      have ha := h.alls t ad ht et
      rcases hkl with ⟨rfl, rfl⟩ | ⟨rfl, rfl⟩
      · rw [put2_self, put2_ne _ _ _ _ (by omega)]; omega
      · rw [put2_self, put2_ne _ _ _ _ (by omega)]; omega
    by_cases e2 : i = k
    · subst e2; rw [put2_self] at e; exact key2 l hl e
    · rw [put2_ne _ _ _ _ e2] at e; exact key2 i hi e
end
structure CopyOf (W0 v : World) (b' r' : Nat) (f : Nat → UInt8) (n : Nat) (o : Nat → UInt8) : Prop where
  mac : MacAt v b' r' f n o
  late : W0.heap.size ≤ r' ∧ r' < b'
theorem CopyOf.ch {W0 v v' : World} {b' r' n : Nat} {f o : Nat → UInt8} (h : CopyOf W0 v b' r' f n o) (hc : Ch (fun _ => False) v v') (_ : ∀ (_ : Nat) (_ : Nat), False → False) : CopyOf W0 v' b' r' f n o := ⟨h.mac.ch hc id id, h.late⟩
end Go.Proofs.YtikdpiedjkailaaDoor
