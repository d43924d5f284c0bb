/- The reference's Number. -/
import Derived.Test.YtljllfdigfojdaaV14
namespace Go.Proofs.Ytljllfdigfojdaa
open Go Go.RowKit

set_option maxRecDepth 100000 in
/-- 'append(s, b...)', both rows of one's own, b not empty. -/
theorem wpList_append_row {w : World} {ops : Array Oper} {rest : List Oper} {o : Oper} {a : Act} {Q : Exit → Act → World → Prop} (hgd : o.guard = none) (s x : Operand)
    (ho : o.op = .call { callee := .builtin .append, args := #[s, x], argTypes := #[27, 27] }) (base k n : Nat) (v : Value) (F f : Nat → UInt8) (hs : a.eval s = v) (hown : w.ownsRow base 5 1 v k (fL F k))
    (p : Option Addr) (c : Nat) (hx : a.eval x = .slice p n c) (hb : BytesAt w p n c f) (hn : 0 < n) (hF : ∀ j, j < n → F (k + j) = f j) (hk : k + n ≤ 10000000000000) (hbase : base ≤ w.heap.size)
    (h : ∀ v' w', w'.ownsRow base 5 1 v' (k + n) (fL F (k + n)) → Gw w w' v v' → wpList Try.prog ops Q rest (a.put o.dst v') w') : wpList Try.prog ops Q (o :: rest) a w := by
  obtain ⟨x0, y, rfl, _, hc⟩ := hb.at0 hn
  obtain ⟨i0, hi, hz0, hz1, hz2⟩ := info_parts info5
  have hnew : ∀ j u, (fL f n)[j]? = some u → w.cell? ((⟨x0, y, none⟩ : Addr).add j) = some u := fun j u hj => by
    obtain ⟨h1, rfl⟩ := fL_get _ _ j u hj
    rw [show (⟨x0, y, none⟩ : Addr).add j = ⟨x0, y + j, none⟩ by simp [Addr.add]]
    exact hc j h1
  have hcat : fL F k ++ fL f n = fL F (k + n) := by rw [← fL_part F k n]; congr 1; exact fL_congr _ (fun j hj => (hF j hj).symm)
  refine wpList_plain hgd fun K hK => ?_
  obtain ⟨v', w', hr, h2, h3, _⟩ := run_append_own (P := Try.prog) w base 27 o.type 5 i0 (.int .u8 0) 1 1 Try.underlying27 hi hz0 hz1 hz2 rfl (by decide) v k (fL F k) hown ⟨x0, y, none⟩ n c (fL f n) (by rw [fL_len]; omega) hnew (fL_one _ _) (by simp [maxLen]; omega) (by omega) hbase
  have h4 := append_where hi hz0 hz1 hz2 hown ⟨x0, y, none⟩ n c (fL f n) (fL_len _ _) hnew (fL_one _ _) hn (by omega) hr
  unfold Oper.wp
  simp [execOp, ho, resolve, invoke, builtin, hs, hx, hr, Result.andThen]
  exact hK _ _ (h v' w' (by rw [← hcat]; exact h2) ⟨Ch.grown (Ch.refl _ w) h3 (fun k e _ => e), h4⟩)
set_option maxRecDepth 100000 in
set_option maxHeartbeats 1000000 in
theorem rnum_any (n : Nat) (w : World) (hn : n ≤ 4611686018427387904) :
    Calls Try.prog 28 #[.int .i64 (n : Int)] w fun e w' => ∃ v', e = .returned v' ∧ w'.ownsRow w.heap.size 5 1 v' (numL n) (fL (numB n) (numL n)) ∧ Ch (fun _ => False) w w' := by
  by_cases h1 : n < 253
  · have h1' : (n : Int) < 253 := by omega
    have hw : IntKind.u8.wrap (n : Int) = ((numB n 0).toNat : Int) := by
      rw [u8_wrap]; show _ = (((if 0 = 0 then UInt8.ofNat (mkN n) else _ : UInt8).toNat : Nat) : Int)
      rw [if_pos rfl]; unfold mkN; rw [if_pos h1]
    have HL := Go.Lib.hid (show numL n = 1 by unfold numL; rw [if_pos h1])
    clear h1
    go_enter Try.func28, Try.ntmps28
    go_wp2_with fail
    go_ret
    rw [HL.out]
    exact ⟨_, rfl, own_new w (numB n 0) (numB n) rfl, (Ch.refl _ w).alloc _⟩
  · have h1' : ¬ (n : Int) < 253 := by omega
    by_cases h2 : n < 65536
    · have h2' : (n : Int) < 65536 := by omega
      have HL := Go.Lib.hid (show numL n = 1 + 2 by unfold numL mkN wdN; rw [if_neg h1, if_neg h1, if_pos (show n ≤ 65535 by omega)]; rfl)
      have HB0 := Go.Lib.hid (show ((numB n 0).toNat : Int) = 253 by unfold numB mkN; rw [if_pos rfl, if_neg h1, if_pos (show n ≤ 65535 by omega)]; rfl)
      have HJ := Go.Lib.hid (show ∀ j, j < 2 → numB n (1 + j) = hiB n 2 j from fun j hj => by
        have hl := HL.out
        unfold numB hiB
        rw [if_neg (by omega), hl, show 1 + 2 - 1 - (1 + j) = 2 - 1 - j by omega])
      have HH := Go.Lib.hid (fun W => high_any n 2 W (by omega) hn)
      have ho0 := own_new w (numB n 0) (numB n) rfl
      rw [HB0.out] at ho0
      have HO0 := Go.Lib.hid ho0
      clear ho0 h1 h2
      go_enter Try.func28, Try.ntmps28
      go_wp2_with fail
      refine (HH.out _).mono ?_
      rintro e w2 ⟨v2, rfl, ho2, hc2⟩
      obtain ⟨p2, c2, rfl, hb2⟩ := own_bytes ho2
      have HB2 := Go.Lib.hid hb2; have HO1 := Go.Lib.hid (own_ch1 HO0.out hc2 (fun _ _ => id)); have HC2 := Go.Lib.hid (((Ch.refl (fun _ => False) w).alloc _).trans hc2)
      have hsz := HC2.out.size
      clear ho2 hb2 hc2
      go_wp2_with (at_builtin; refine wpList_append_row rfl (.tmp 12) (.tmp 14) rfl w.heap.size 1 2 (.slice (some ⟨w.heap.size, 0, none⟩) 1 1) (numB n) (hiB n 2) rfl HO1.out p2 c2 rfl HB2.out (by omega) HJ.out (by omega) hsz ?_; intro v3 w3 ho3 hg3; have HO3 := Go.Lib.hid ho3; have HC3 := Go.Lib.hid (HC2.out.then hg3.ch (fun i hi e => by simp [Value.ownBlock] at e; omega)); clear ho3 hg3)
      go_ret
      rw [HL.out]
      exact ⟨_, rfl, HO3.out, HC3.out⟩
    · have h2' : ¬ (n : Int) < 65536 := by omega
      by_cases h3 : n < 4294967296
      · have h3' : (n : Int) < 4294967296 := by omega
        have HL := Go.Lib.hid (show numL n = 1 + 4 by unfold numL mkN wdN; rw [if_neg h1, if_neg h1, if_neg (show ¬ n ≤ 65535 by omega), if_pos (show n ≤ 4294967295 by omega)]; rfl)
        have HB0 := Go.Lib.hid (show ((numB n 0).toNat : Int) = 254 by unfold numB mkN; rw [if_pos rfl, if_neg h1, if_neg (show ¬ n ≤ 65535 by omega), if_pos (show n ≤ 4294967295 by omega)]; rfl)
        have HJ := Go.Lib.hid (show ∀ j, j < 4 → numB n (1 + j) = hiB n 4 j from fun j hj => by
          have hl := HL.out
          unfold numB hiB
          rw [if_neg (by omega), hl, show 1 + 4 - 1 - (1 + j) = 4 - 1 - j by omega])
        have HH := Go.Lib.hid (fun W => high_any n 4 W (by omega) hn)
        have ho0 := own_new w (numB n 0) (numB n) rfl
        rw [HB0.out] at ho0
        have HO0 := Go.Lib.hid ho0
        clear ho0 h1 h2 h3
        go_enter Try.func28, Try.ntmps28
        go_wp2_with fail
        refine (HH.out _).mono ?_
        rintro e w2 ⟨v2, rfl, ho2, hc2⟩
        obtain ⟨p2, c2, rfl, hb2⟩ := own_bytes ho2
        have HB2 := Go.Lib.hid hb2; have HO1 := Go.Lib.hid (own_ch1 HO0.out hc2 (fun _ _ => id)); have HC2 := Go.Lib.hid (((Ch.refl (fun _ => False) w).alloc _).trans hc2)
        have hsz := HC2.out.size
        clear ho2 hb2 hc2
        go_wp2_with (at_builtin; refine wpList_append_row rfl (.tmp 19) (.tmp 21) rfl w.heap.size 1 4 (.slice (some ⟨w.heap.size, 0, none⟩) 1 1) (numB n) (hiB n 4) rfl HO1.out p2 c2 rfl HB2.out (by omega) HJ.out (by omega) hsz ?_; intro v3 w3 ho3 hg3; have HO3 := Go.Lib.hid ho3; have HC3 := Go.Lib.hid (HC2.out.then hg3.ch (fun i hi e => by simp [Value.ownBlock] at e; omega)); clear ho3 hg3)
        go_ret
        rw [HL.out]
        exact ⟨_, rfl, HO3.out, HC3.out⟩
      · have h3' : ¬ (n : Int) < 4294967296 := by omega
        have HL := Go.Lib.hid (show numL n = 1 + 8 by unfold numL mkN wdN; rw [if_neg h1, if_neg h1, if_neg (show ¬ n ≤ 65535 by omega), if_neg (show ¬ n ≤ 4294967295 by omega)]; rfl)
        have HB0 := Go.Lib.hid (show ((numB n 0).toNat : Int) = 255 by unfold numB mkN; rw [if_pos rfl, if_neg h1, if_neg (show ¬ n ≤ 65535 by omega), if_neg (show ¬ n ≤ 4294967295 by omega)]; rfl)
        have HJ := Go.Lib.hid (show ∀ j, j < 8 → numB n (1 + j) = hiB n 8 j from fun j hj => by
          have hl := HL.out
          unfold numB hiB
          rw [if_neg (by omega), hl, show 1 + 8 - 1 - (1 + j) = 8 - 1 - j by omega])
        have HH := Go.Lib.hid (fun W => high_any n 8 W (by omega) hn)
        have ho0 := own_new w (numB n 0) (numB n) rfl
        rw [HB0.out] at ho0
        have HO0 := Go.Lib.hid ho0
        clear ho0 h1 h2 h3
        go_enter Try.func28, Try.ntmps28
        go_wp2_with fail
        refine (HH.out _).mono ?_
        rintro e w2 ⟨v2, rfl, ho2, hc2⟩
        obtain ⟨p2, c2, rfl, hb2⟩ := own_bytes ho2
        have HB2 := Go.Lib.hid hb2; have HO1 := Go.Lib.hid (own_ch1 HO0.out hc2 (fun _ _ => id)); have HC2 := Go.Lib.hid (((Ch.refl (fun _ => False) w).alloc _).trans hc2)
        have hsz := HC2.out.size
        clear ho2 hb2 hc2
        go_wp2_with (at_builtin; refine wpList_append_row rfl (.tmp 23) (.tmp 25) rfl w.heap.size 1 8 (.slice (some ⟨w.heap.size, 0, none⟩) 1 1) (numB n) (hiB n 8) rfl HO1.out p2 c2 rfl HB2.out (by omega) HJ.out (by omega) hsz ?_; intro v3 w3 ho3 hg3; have HO3 := Go.Lib.hid ho3; have HC3 := Go.Lib.hid (HC2.out.then hg3.ch (fun i hi e => by simp [Value.ownBlock] at e; omega)); clear ho3 hg3)
        go_ret
        rw [HL.out]
        exact ⟨_, rfl, HO3.out, HC3.out⟩
end Go.Proofs.Ytljllfdigfojdaa
