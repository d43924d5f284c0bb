/- One byte behind a row of one's own; what became of a row; withNumber. -/
import Derived.Test.YtljllfdigfojdaaV1
namespace Go.Proofs.Ytljllfdigfojdaa
open Go Go.RowKit

/-- A row of bytes v became v': it lies where it lay, or in new memory; else memory only grew. -/
structure Gw (w w' : World) (v v' : Value) : Prop where
  ch : Ch (fun q => v.ownBlock = some q) w w'
  own : ∀ g, v'.ownBlock = some g → v.ownBlock = some g ∨ w.heap.size ≤ g
theorem Gw.refl (w : World) (v : Value) : Gw w w v v := ⟨Ch.refl _ w, fun _ h => .inl h⟩
theorem Gw.trans {w w1 w2 : World} {v v1 v2 : Value} (h : Gw w w1 v v1) (k : Gw w1 w2 v1 v2) : Gw w w2 v v2 := by
  refine ⟨h.ch.then k.ch (fun i hi e => ?_), fun g e => ?_⟩
  · rcases h.own i e with e1 | e1
    · exact e1
    · omega
  · rcases k.own g e with e1 | e1
    · exact h.own g e1
    · exact .inr (Nat.le_trans h.ch.size e1)
theorem Gw.alloc {w w' : World} {v v' : Value} (h : Gw w w' v v') (o : Obj) : Gw w (w'.alloc o) v v' := ⟨h.ch.alloc o, h.own⟩
theorem append_where {w : World} {i0 : TypeInfo} (hi : Try.prog.info? 5 = some i0) (hz0 : i0.zero = some (.int .u8 0)) (hz1 : i0.size = 1) (hz2 : i0.bytes = 1) {base : Nat} {v : Value} {k : Nat} {xs : List Value} (hown : w.ownsRow base 5 1 v k xs)
    (ad : Addr) (m c : Nat) (news : List Value) (hl : news.length = m) (hnews : ∀ j u, news[j]? = some u → w.cell? (ad.add j) = some u) (h1 : ∀ u ∈ news, u.oneCell' = true) (hm0 : 0 < m) (hk : k + m ≤ 100000000000000) {ty : TypeId} {v' : Value} {w' : World}
    (hr : (Builtin.append_ #[27, 27] ty #[v, .slice (some ad) m c]).run Try.prog w = .ok v' w') : ∀ g, v'.ownBlock = some g → v.ownBlock = some g ∨ w.heap.size ≤ g := by
  rcases hown.2 with ⟨rfl, rfl⟩ | ⟨g, cap, cur, rfl, hbg, hg, hnc, hcm, hcs, htake⟩
  · have hr2 := run_append_nil (P := Try.prog) w 27 ty 5 i0 (.int .u8 0) Try.underlying27 hi hz0 ad m c news (by rw [hz1]; omega) hnews hm0 (by omega) (by rw [hz2]; omega)
    rw [hr2] at hr
    cases hr
    intro g hg
    cases hg
    exact .inr (Nat.le_refl _)
  · by_cases hroom : k + m ≤ cap
    · obtain ⟨w2, hr2, _⟩ := run_append_fits (P := Try.prog) w base 27 ty 5 i0 1 Try.underlying27 hi hz1 g k cap xs hown ad m c news (by omega) hnews h1 hroom
      rw [hr2] at hr
      cases hr
      exact fun _ h => .inl h
    · have hr2 := run_append_grow (P := Try.prog) w 27 ty 5 i0 (.int .u8 0) Try.underlying27 hi hz0 ⟨g, 0, none⟩ k cap xs (by rw [hz1]; exact hown.1) (hown.cells (g := g) rfl) ad m c news (by rw [hz1]; omega) hnews (by omega) (by omega) (growslice_fits (by omega) (by rw [hz2]; omega))
      rw [hr2] at hr
      cases hr
      intro g' hg'
      cases hg'
      exact .inr (Nat.le_refl _)
/-- 'append(s, x)', x one byte in a row of its own. -/
theorem wpList_append_byte {w : World} {ops : Array Oper} {rest : List Oper} {o : Oper} {a : Act} {Q : Exit → Act → World → Prop} (hgd : o.guard = none) (s x : Operand)
    (ho : o.op = .call { callee := .builtin .append, args := #[s, x], argTypes := #[27, 27] }) (base : Nat) (v : Value) (k : Nat) (F : Nat → UInt8) (hs : a.eval s = v) (hown : w.ownsRow base 5 1 v k (fL F k))
    (b : Nat) (z : Int) (hx : a.eval x = .slice (some ⟨b, 0, none⟩) 1 1) (hb : w.cell? ⟨b, 0, none⟩ = some (.int .u8 z)) (hz : z = ((F k).toNat : Int)) (hk : k ≤ 10000000000000) (hbase : base ≤ w.heap.size)
    (h : ∀ v' w', w'.ownsRow base 5 1 v' (k + 1) (fL F (k + 1)) → Gw w w' v v' → wpList Try.prog ops Q rest (a.put o.dst v') w') : wpList Try.prog ops Q (o :: rest) a w := by
  obtain ⟨i0, hi, hz0, hz1, hz2⟩ := info_parts info5
  subst hz
  have hn : ∀ j u, [Value.int .u8 ((F k).toNat : Int)][j]? = some u → w.cell? ((⟨b, 0, none⟩ : Addr).add j) = some u := fun j u hj => by
    match j, hj with
    | 0, hj => obtain rfl : Value.int .u8 ((F k).toNat : Int) = u := by simpa using hj
               rw [show (⟨b, 0, none⟩ : Addr).add 0 = ⟨b, 0, none⟩ by simp [Addr.add]]; exact hb
  refine wpList_plain hgd fun K hK => ?_
  obtain ⟨v', w', hr, h2, h3, _⟩ := run_append_own (P := Try.prog) w base 27 o.type 5 i0 (.int .u8 0) 1 1 Try.underlying27 hi hz0 hz1 hz2 rfl (by decide) v k (fL F k) hown ⟨b, 0, none⟩ 1 1 [.int .u8 ((F k).toNat : Int)] rfl hn (by simp [Value.oneCell']) (by simp [maxLen]; omega) (by omega) hbase
  have h4 := append_where hi hz0 hz1 hz2 hown ⟨b, 0, none⟩ 1 1 [.int .u8 ((F k).toNat : Int)] rfl hn (by simp [Value.oneCell']) (by omega) (by omega) hr
  unfold Oper.wp
  simp [execOp, ho, resolve, invoke, builtin, hs, hx, hr, Result.andThen]
  exact hK _ _ (h v' w' (by rw [fL_succ]; exact h2) ⟨Ch.grown (Ch.refl _ w) h3 (fun k e _ => e), h4⟩)
theorem cell_new (w : World) (u : Value) (t : TypeId) : (w.alloc (.cells #[u] t)).cell? ⟨w.heap.size, 0, none⟩ = some u := cell_fresh w #[u] t 0

set_option maxRecDepth 100000 in
set_option maxHeartbeats 1000000 in
theorem withNumber_any (base k n : Nat) (v : Value) (F : Nat → UInt8) (w : World) (hown : w.ownsRow base 5 1 v k (fL F k)) (hbase : base ≤ w.heap.size) (hk : k ≤ 1000000000000) (hn : n ≤ 4611686018427387904) (hF : ∀ j, j < numL n → F (k + j) = numB n j) :
    Calls Try.prog 43 #[v, .int .i64 (n : Int)] w fun e w' => ∃ v', e = .returned v' ∧ w'.ownsRow base 5 1 v' (k + numL n) (fL F (k + numL n)) ∧ Gw w w' v v' := by
  have HO := Go.Lib.hid hown; have HF := Go.Lib.hid hF
  have hw : IntKind.u64.wrap (n : Int) = (n : Int) := by simp [IntKind.wrap, IntKind.bits, IntKind.signed]; omega
  have hm := Go.Lib.hid (mkN_lt n)
  have hF0 := Go.Lib.hid (show ((mkN n : Nat) : Int) = ((F k).toNat : Int) by
    have h0 : 0 < numL n := by unfold numL; split <;> omega
    have := hF 0 h0
    rw [Nat.add_zero] at this
    rw [this]
    show _ = (((if 0 = 0 then UInt8.ofNat (mkN n) else _ : UInt8).toNat : Nat) : Int)
    rw [if_pos rfl, u8_small (mkN_lt n)])
  clear hown hF
  have HMK := Go.Lib.hid (fun W => mark_any n W)
  by_cases h253 : n < 253
  · have HL := Go.Lib.hid (show numL n = 1 by unfold numL; rw [if_pos h253])
    have HM := Go.Lib.hid (show ((mkN n : Nat) : Int) < 253 by unfold mkN; rw [if_pos h253]; omega)
    generalize mkN n = m at *
    have hm1 := HM.out
    go_enter Try.func43, Try.ntmps43
    go_wp2_with (first
      | (go_at_call 79; refine (HMK.out _).mono ?_; rintro e w' ⟨rfl, rfl⟩)
      | (at_builtin; refine wpList_append_byte rfl (.tmp 10) (.tmp 12) rfl base v k F rfl (HO.out.alloc _) w.heap.size _ rfl (cell_new w _ 5) hF0.out (by omega) (by simp; omega) ?_; intro v1 w1 ho1 hg1; have HO1 := Go.Lib.hid ho1; have HG1 := Go.Lib.hid hg1; clear ho1 hg1))
    go_ret
    rw [HL.out]
    exact ⟨_, rfl, HO1.out, ⟨(((Ch.refl _ w).alloc _).trans HG1.out.ch), fun g e => (HG1.out.own g e).imp id (fun h => by simp at h; omega)⟩⟩
  · have hmm : mkN n = 253 ∨ mkN n = 254 ∨ mkN n = 255 := by
      unfold mkN; rw [if_neg h253]; split
      · exact .inl rfl
      · split
        · exact .inr (.inl rfl)
        · exact .inr (.inr rfl)
    have HL := Go.Lib.hid (show numL n = 1 + wdN (mkN n) by unfold numL; rw [if_neg h253])
    have HWW := Go.Lib.hid (show 0 < wdN (mkN n) ∧ wdN (mkN n) ≤ 8 by unfold wdN; split <;> (try split) <;> omega)
    have HFN := Go.Lib.hid (show ∀ i p, wdN (mkN n) = i + 1 + p → IntKind.u8.wrap ((n : Int) / 2 ^ (8 * p)) = ((F (k + 1 + i)).toNat : Int) from fun i p e => by
      rw [show (n : Int) / 2 ^ (8 * p) = ((n / 2 ^ (8 * p) : Nat) : Int) by push_cast; rfl]
      rw [show k + 1 + i = k + (1 + i) by omega, HF.out (1 + i) (by rw [HL.out]; omega), u8_wrap]
      unfold numB
      rw [if_neg (by omega), HL.out, show 1 + wdN (mkN n) - 1 - (1 + i) = p by omega])
    have HMM := Go.Lib.hid (fun W => width_any (mkN n) W hmm)
    have hm1 : ¬ ((mkN n : Nat) : Int) < 253 := by omega
    clear HF hmm
    generalize wdN (mkN n) = W at *
    generalize mkN n = m at *
    obtain ⟨hW1, hW2⟩ := HWW.out
    go_enter Try.func43, Try.ntmps43
    go_wp2_with (first
      | (go_at_call 79; refine (HMK.out _).mono ?_; rintro e w' ⟨rfl, rfl⟩)
      | (go_at_call 80; refine (HMM.out _).mono ?_; rintro e w' ⟨rfl, rfl⟩)
      | (at_builtin; refine wpList_append_byte rfl (.tmp 10) (.tmp 12) rfl base v k F rfl (HO.out.alloc _) w.heap.size _ rfl (cell_new w _ 5) hF0.out (by omega) (by simp; omega) ?_; intro v1 w1 ho1 hg1; have HO1 := Go.Lib.hid ho1; have HG1 := Go.Lib.hid (show Gw w w1 v v1 from ⟨((Ch.refl _ w).alloc _).trans hg1.ch, fun g e => (hg1.own g e).imp id (fun h => by simp at h; omega)⟩); clear ho1 hg1))
    go_loopw [0, 6] (fun v' pl wr => ∃ i : Nat, i ≤ W ∧ pl = .int .i64 ((W : Int) - 1 - i) ∧ wr.ownsRow base 5 1 v' (k + 1 + i) (fL F (k + 1 + i)) ∧ Gw w wr v v') (fun _ pl _ => (intOf pl + 1).toNat)
    case atStart => exact ⟨0, by omega, by go_num, HO1.out, HG1.out⟩
    case round =>
      obtain ⟨i, hi, rfl, ho, hg⟩ := hrel
      have HOI := Go.Lib.hid ho; have HGI := Go.Lib.hid hg
      clear ho hg HO1 HG1
      by_cases hlt : i < W
      · obtain ⟨p, hp⟩ : ∃ p, W = i + 1 + p := ⟨W - (i + 1), by omega⟩
        have HFP := Go.Lib.hid (HFN.out i p hp)
        have hpe : (W : Int) - 1 - i = (p : Int) := by omega
        have hp8 : p ≤ 7 := by omega
        rw [hpe]
        have HP := Go.Lib.hid hpe
        clear hpe hp
        have hsz := HGI.out.ch.size
        go_wp2_with (at_builtin; refine wpList_append_byte rfl (.tmp 24) (.tmp 30) rfl base _ (k + 1 + i) F rfl (HOI.out.alloc _) wr.heap.size _ rfl (cell_new wr _ 5) HFP.out (by omega) (by simp; omega) ?_; intro v2 w2 ho2 hg2; have HO2 := Go.Lib.hid ho2; have HG2 := Go.Lib.hid (HGI.out.trans (show Gw wr w2 _ v2 from ⟨((Ch.refl _ wr).alloc _).trans hg2.ch, fun g e => (hg2.own g e).imp id (fun h => by simp at h; omega)⟩)); clear ho2 hg2)
        go_roundw
        case rel => exact ⟨i + 1, by omega, by have := HP.out; go_num, HO2.out, HG2.out⟩
        case measure => simp [intOf]
      · obtain rfl : W = i := by omega
        have he : (W : Int) - 1 - W = -1 := by omega
        rw [he]
        go_wp2_with fail
        go_ret
        rw [HL.out, ← Nat.add_assoc]
        exact ⟨_, rfl, HOI.out, HGI.out⟩
end Go.Proofs.Ytljllfdigfojdaa
