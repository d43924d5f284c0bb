/- Texts and truths, as a writer lays them. -/
import Derived.Test.YtljllfdigfojdaaV15
import Derived.Lib.AppendStr
namespace Go.Proofs.Ytljllfdigfojdaa
open Go Go.RowKit

def sByte (s : ByteArray) (j : Nat) : UInt8 := s.data.getD j 0
theorem strCells_fL (s : ByteArray) : Lib.strCells s = fL (sByte s) s.size := by
  unfold Lib.strCells fL sByte
  apply List.ext_getElem?
  intro j
  by_cases h : j < s.size
  · have h' : j < s.data.size := h
    simp [h, h']
  · have h' : ¬ j < s.data.size := h
    simp [h, h']
theorem append_whereS {w : World} {i0 : TypeInfo} (hi : Try.prog.info? 5 = some i0) (hz0 : i0.zero = some (.int .u8 0)) (hz1 : i0.size = 1) (hz2 : i0.bytes = 1) {base : Nat} {v : Value} {k : Nat} {xs : List Value} (hown : w.ownsRow base 5 1 v k xs)
    (s : ByteArray) (hk : k + s.size ≤ 100000000000000) {ty : TypeId} {v' : Value} {w' : World}
    (hr : (Builtin.append_ #[27, 9] ty #[v, .string s]).run Try.prog w = .ok v' w') : ∀ g, v'.ownBlock = some g → v.ownBlock = some g ∨ w.heap.size ≤ g := by
  rcases hown.2 with ⟨rfl, rfl⟩ | ⟨g, cap, cur, rfl, hbg, hg, hnc, hcm, hcs, htake⟩
  · by_cases hm : s.size = 0
    · have hf := Lib.run_firstCells_string (P := Try.prog) w 1 s
      rw [hm] at hf
      have hr2 : (Builtin.append_ #[27, 9] ty #[.slice none 0 0, .string s]).run Try.prog w = .ok (.slice none 0 0) w := by
        simp [Builtin.append_, run_underlying Try.underlying27, run_underlying Try.underlying9, sizeOf, typeInfo, hi, hz1, Builtin.lenOf, hm, hf]
      rw [hr2] at hr
      cases hr
      exact fun _ h => .inl h
    · have hr2 := run_append_nil_string (P := Try.prog) w 27 9 ty 5 i0 (.int .u8 0) Try.underlying27 Try.underlying9 hi hz0 s (by omega) (by omega) (by rw [hz2]; omega)
      rw [hr2] at hr
      cases hr
      intro g hg
      cases hg
      exact .inr (Nat.le_refl _)
  · by_cases hroom : k + s.size ≤ cap
    · have hr2 := Lib.run_append_room_string (P := Try.prog) w 27 9 ty 5 i0 Try.underlying27 Try.underlying9 hi hz1 g k cap cur hg s hroom (by have : cur.size = cap := (by simpa using hcs); omega)
      rw [hr2] at hr
      cases hr
      exact fun _ h => .inl h
    · have hr2 := Lib.run_append_grow_string (P := Try.prog) w 27 9 ty 5 i0 (.int .u8 0) Try.underlying27 Try.underlying9 hi hz0 ⟨g, 0, none⟩ k cap xs (by rw [hz1]; exact hown.1) (hown.cells (g := g) rfl) s (by omega) (by omega) (by rw [hz2]; exact growslice_fits (by omega) (by omega))
      rw [hr2] at hr
      cases hr
      intro g' hg'
      cases hg'
      exact .inr (Nat.le_refl _)
set_option maxRecDepth 100000 in
/-- 'append(s, t...)', t a string. -/
theorem wpList_append_text {w : World} {ops : Array Oper} {rest : List Oper} {o : Oper} {a : Act} {Q : Exit → Act → World → Prop} (hgd : o.guard = none) (s x : Operand)
    (ho : o.op = .call { callee := .builtin .append, args := #[s, x], argTypes := #[27, 9] }) (base k : Nat) (v : Value) (F : Nat → UInt8) (t : ByteArray) (hs : a.eval s = v) (hown : w.ownsRow base 5 1 v k (fL F k))
    (hx : a.eval x = .string t) (hF : ∀ j, j < t.size → F (k + j) = sByte t j) (hk : k + t.size ≤ 10000000000000) (hbase : base ≤ w.heap.size)
    (h : ∀ v' w', w'.ownsRow base 5 1 v' (k + t.size) (fL F (k + t.size)) → Gw w w' v v' → wpList Try.prog ops Q rest (a.put o.dst v') w') : wpList Try.prog ops Q (o :: rest) a w := by
  obtain ⟨i0, hi, hz0, hz1, hz2⟩ := info_parts info5
  have hcat : fL F k ++ Lib.strCells t = fL F (k + t.size) := by rw [← fL_part F k t.size, strCells_fL]; congr 1; exact fL_congr _ (fun j hj => (hF j hj).symm)
  refine wpList_plain hgd fun K hK => ?_
  obtain ⟨v', w', hr, h2, h3, _⟩ := Lib.run_append_own_string (P := Try.prog) w base 27 9 o.type 5 i0 Try.underlying27 Try.underlying9 hi hz0 hz1 hz2 v k (fL F k) hown t (by simp [maxLen]; omega) (by omega) hbase
  have h4 := append_whereS hi hz0 hz1 hz2 hown t (by omega) hr
  unfold Oper.wp execOp
  simp only [ho, resolve, invoke, builtin, Sem.run_bind, Sem.run_pure, Result.andThen_ok, List.map_toArray, List.map_cons, List.map_nil, hs, hx, hr]
  exact hK _ _ (h v' w' (by rw [← hcat]; exact h2) ⟨Ch.grown (Ch.refl _ w) h3 (fun k e _ => e), h4⟩)
def textL (s : ByteArray) : Nat := numL s.size + s.size
def textB (s : ByteArray) (j : Nat) : UInt8 := if j < numL s.size then numB s.size j else sByte s (j - numL s.size)
set_option maxRecDepth 100000 in
theorem withText_any (base k : Nat) (s : ByteArray) (v : Value) (F : Nat → UInt8) (w : World) (hown : w.ownsRow base 5 1 v k (fL F k)) (hbase : base ≤ w.heap.size) (hk : k ≤ 100000000000) (hn : s.size ≤ 10000000) (hF : ∀ j, j < textL s → F (k + j) = textB s j) :
    Calls Try.prog 49 #[v, .string s] w fun e w' => ∃ v', e = .returned v' ∧ w'.ownsRow base 5 1 v' (k + textL s) (fL F (k + textL s)) ∧ Gw w w' v v' := by
  have HN := Go.Lib.hid (withNumber_any base k s.size v F w hown hbase (by omega) (by omega) (fun j hj => by
    rw [hF j (by unfold textL; omega)]
    exact if_pos hj))
  have HF2 := Go.Lib.hid (show ∀ j, j < s.size → F (k + numL s.size + j) = sByte s j from fun j hj => by
    rw [Nat.add_assoc, hF (numL s.size + j) (by unfold textL; omega)]
    unfold textB
    rw [if_neg (by omega), show numL s.size + j - numL s.size = j by omega])
  have hnl := numL_le s.size
  have HT := Go.Lib.hid (show k + textL s = k + numL s.size + s.size by unfold textL; omega)
  clear hown hF
  rw [HT.out]
  generalize numL s.size = nl at *
  go_enter Try.func49, Try.ntmps49
  go_wp2_with fail
  refine HN.out.mono ?_
  rintro e w2 ⟨v2, rfl, ho, hg⟩
  obtain ⟨p2, c2, rfl, -⟩ := own_bytes ho
  have HO := Go.Lib.hid ho; have HG := Go.Lib.hid hg
  have hb2 : base ≤ w2.heap.size := Nat.le_trans hbase hg.ch.size
  clear ho hg HN
  go_wp2_with (at_builtin; refine wpList_append_text rfl (.tmp 8) (.tmp 9) rfl base (k + nl) (.slice p2 (k + nl) c2) F s rfl HO.out rfl HF2.out (by omega) hb2 ?_; intro v3 w3 ho3 hg3; have HO3 := Go.Lib.hid ho3; have HG3 := Go.Lib.hid (HG.out.trans hg3); clear ho3 hg3)
  go_ret
  exact ⟨_, rfl, HO3.out, HG3.out⟩
theorem withTruth_any (base k : Nat) (b : Bool) (v : Value) (F : Nat → UInt8) (w : World) (hown : w.ownsRow base 5 1 v k (fL F k)) (hbase : base ≤ w.heap.size) (hk : k ≤ 100000000000) (hF : F k = if b then 1 else 0) :
    Calls Try.prog 45 #[v, .bool b] w fun e w' => ∃ v', e = .returned v' ∧ w'.ownsRow base 5 1 v' (k + 1) (fL F (k + 1)) ∧ Gw w w' v v' := by
  have HO := Go.Lib.hid hown
  clear hown
  cases b with
  | true =>
    have hF1 : (1 : Int) = ((F k).toNat : Int) := by rw [hF]; rfl
    clear hF
    have HF1 := Go.Lib.hid hF1
    clear hF1
    go_enter Try.func45, Try.ntmps45
    go_wp2_with (at_builtin; refine wpList_append_byte rfl (.tmp 6) (.tmp 7) rfl base v k F rfl (HO.out.alloc _) w.heap.size _ rfl (cell_new w _ 5) HF1.out (by omega) (by simp; omega) ?_; intro v1 w1 ho1 hg1; have HO1 := Go.Lib.hid ho1; have HG1 := Go.Lib.hid (show Gw w w1 v v1 from ⟨((Ch.refl _ w).alloc _).trans hg1.ch, fun g e => (hg1.own g e).imp id (fun h => by simp at h; omega)⟩); clear ho1 hg1)
    go_ret
    exact ⟨_, rfl, HO1.out, HG1.out⟩
  | false =>
    have hF1 : (0 : Int) = ((F k).toNat : Int) := by rw [hF]; rfl
    clear hF
    have HF1 := Go.Lib.hid hF1
    clear hF1
    go_enter Try.func45, Try.ntmps45
    go_wp2_with (at_builtin; refine wpList_append_byte rfl (.tmp 9) (.tmp 10) rfl base v k F rfl (HO.out.alloc _) w.heap.size _ rfl (cell_new w _ 5) HF1.out (by omega) (by simp; omega) ?_; intro v1 w1 ho1 hg1; have HO1 := Go.Lib.hid ho1; have HG1 := Go.Lib.hid (show Gw w w1 v v1 from ⟨((Ch.refl _ w).alloc _).trans hg1.ch, fun g e => (hg1.own g e).imp id (fun h => by simp at h; omega)⟩); clear ho1 hg1)
    go_ret
    exact ⟨_, rfl, HO1.out, HG1.out⟩
end Go.Proofs.Ytljllfdigfojdaa
