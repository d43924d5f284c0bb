/- The reference's sums, and its Seal. -/
import Derived.Test.YthbpfgcgfhlmnaaT16
namespace Go.Proofs.Ythbpfgcgfhlmnaa
open Go Go.RowKit
attribute [local go_sem high] b_add b_xor b_and b_or b_shr b_shl not32 wrap_un beq32 neg32 b_turn lowB_wrap

set_option maxRecDepth 100000 in
set_option maxHeartbeats 1000000 in
theorem rmore_any (x : BitVec 32) (p : Option Addr) (n c : Nat) (f : Nat → UInt8) (w : World) (hb : BytesAt w p n c f) (hn : n ≤ 1000000000000) :
    Calls Try.prog 15 #[.int .u32 (un x), .slice p n c] w fun e w' => e = .returned (.int .u32 (un (~~~(cw (~~~x) f n)))) ∧ w = w' := by
  have HB := Go.Lib.hid hb
  clear hb
  go_enter Try.func15, Try.ntmps15
  go_wp2
  go_loop [5, 6] (fun z i => ∃ k : Nat, k ≤ n ∧ i = .int .i64 k ∧ z = .int .u32 (un (cw (~~~x) f k))) (fun _ i => n - (intOf i).toNat)
  case atStart => exact ⟨0, by omega, rfl, rfl⟩
  case round =>
    obtain ⟨k, hk, rfl, rfl⟩ := hrel
    by_cases hlt : k < n
    · obtain ⟨a, y, rfl, _, hcell⟩ := HB.out.at0 (by omega)
      have hbyte : w.cell? ⟨a, y + k, none⟩ = some (.int .u8 ((f k).toNat : Int)) := hcell k hlt
      have HS := Go.Lib.hid (show cw (~~~x) f (k + 1) = behind (cw (~~~x) f k) (f k) from rfl)
      have HBO := Go.Lib.hid (fun W => (show Calls Try.prog 30 #[.int .u32 (un (cw (~~~x) f k)), .int .u8 ((f k).toNat : Int)] W fun e w' => e = .returned (.int .u32 (un (behind (cw (~~~x) f k) (f k)))) ∧ W = w' from byteOn_any _ _ W))
      clear hcell
      generalize cw (~~~x) f k = z at *
      generalize f k = d at *
      generalize behind z d = z2 at *
      go_wp2_with (go_at_call 30; refine (HBO.out _).mono ?_; rintro e w' ⟨rfl, rfl⟩)
      go_round
      case rel => exact ⟨k + 1, by omega, by go_num, by rw [HS.out]⟩
      case measure => simp [intOf]; omega
    · obtain rfl : k = n := by omega
      generalize hz : cw (~~~x) f k = z at *
      have HZ := Go.Lib.hid hz
      clear hz
      go_wp2
      go_ret
      exact ⟨by rw [HZ.out]; rfl, rfl⟩
theorem rsum_any (p : Option Addr) (n c : Nat) (f : Nat → UInt8) (w : World) (hb : BytesAt w p n c f) (hn : n ≤ 1000000000000) :
    Calls Try.prog 14 #[.slice p n c] w fun e w' => e = .returned (.int .u32 (un (sumF f n))) ∧ w = w' := by
  have HM := Go.Lib.hid (show Calls Try.prog 15 #[.int .u32 0, .slice p n c] w fun e w' => e = .returned (.int .u32 (un (sumF f n))) ∧ w = w' from rmore_any 0#32 p n c f w hb hn)
  clear hb
  generalize un (sumF f n) = z at *
  go_enter Try.func14, Try.ntmps14
  go_wp2_with (go_at_call 15; refine HM.out.mono ?_; rintro e w1 ⟨rfl, rfl⟩)
  go_ret
  exact ⟨rfl, rfl⟩
theorem un_shr8 (z : BitVec 32) (j : Nat) : IntKind.u8.wrap (un (z >>> (8 * j))) = ((sumB z j).toNat : Int) := lowB_wrap _

theorem ownsRow_empty (w : World) (base : Nat) (h : base ≤ w.heap.size) : (w.alloc (.cells #[] 5)).ownsRow base 5 1 (.slice (some ⟨w.heap.size, 0, none⟩) 0 0) 0 [] :=
  World.ownsRow_made w #[] 0 h (by simp [maxLen]) rfl
theorem BytesAt.news {w : World} {ad : Addr} {n c : Nat} {f : Nat → UInt8} (h : BytesAt w (some ad) n c f) : ∀ j u, (fL f n)[j]? = some u → w.cell? (ad.add j) = some u := fun j u hj => by
  obtain ⟨h1, rfl⟩ := fL_get f n j u hj
  rcases h with ⟨x, y, e, _, _, hb⟩ | ⟨h0, _⟩
  · cases e
    rw [show (⟨x, y, none⟩ : Addr).add j = ⟨x, y + j, none⟩ by simp [Addr.add]]
    exact hb j h1
  · omega
/-- 'append(s, b...)', s a row of one's own, b any bytes. -/
theorem wpList_append_bytes {w : World} {ops : Array Oper} {rest : List Oper} {o : Oper} {a : Act} {Q : Exit → Act → World → Prop} (hgd : o.guard = none) (s x : Operand)
    (ho : o.op = .call { callee := .builtin .append, args := #[s, x], argTypes := #[24, 24] }) (base : Nat) (v : Value) (k : Nat) (xs : List Value) (hs : a.eval s = v) (hown : w.ownsRow base 5 1 v k xs)
    (p : Option Addr) (n c : Nat) (f : Nat → UInt8) (hx : a.eval x = .slice p n c) (hb : BytesAt w p n c f) (hk : k + n ≤ 100000000000000) (hbase : base ≤ w.heap.size)
    (h : ∀ v' w', w'.ownsRow base 5 1 v' (k + n) (xs ++ fL f n) → w.grownBy w' v.ownBlock → wpList Try.prog ops Q rest (a.put o.dst v') w') : wpList Try.prog ops Q (o :: rest) a w := by
  obtain ⟨i0, hi, hz0, hz1, hz2⟩ := info_parts info5
  cases p with
  | some ad => exact wpList_append_own _ hgd s x 24 ho base 5 i0 (.int .u8 0) 1 1 Try.underlying24 hi hz0 hz1 hz2 rfl (by decide) v k xs hs hown ad n c (fL f n) hx (by rw [fL_len]; omega) hb.news (fL_one _ _) (by simp [maxLen]; omega) (by omega) hbase (fun v' w' h1 h2 _ => h v' w' h1 h2)
  | none =>
    rcases hb with ⟨x, y, e, _⟩ | ⟨rfl, hc⟩
    · cases e
    · have hc0 := hc rfl
      subst hc0
      exact wpList_append_own_none hgd s x 24 ho base 5 i0 1 Try.underlying24 hi v k xs hs hown hx (h v w (by simpa [fL] using hown) ⟨rfl, rfl, rfl, Nat.le_refl _, fun _ _ _ => rfl⟩)
theorem four_at (wr : World) (u0 u1 u2 u3 : Value) (t : TypeId) : ∀ j u, [u0, u1, u2, u3][j]? = some u → (wr.alloc (.cells #[u0, u1, u2, u3] t)).cell? ((⟨wr.heap.size, 0, none⟩ : Addr).add j) = some u := fun j u h => by
  have := cell_fresh wr #[u0, u1, u2, u3] t j
  rw [show (⟨wr.heap.size, 0, none⟩ : Addr).add j = ⟨wr.heap.size, j, none⟩ by (simp [Addr.add]; omega), this]
  rw [← h]; simp

set_option maxRecDepth 100000 in
set_option maxHeartbeats 1000000 in
theorem rseal_any (p : Option Addr) (n c : Nat) (f : Nat → UInt8) (w : World) (hb : BytesAt w p n c f) (hn : n ≤ 1000000000000) :
    Calls Try.prog 26 #[.slice p n c] w fun e w' => ∃ v, e = .returned v ∧ w'.ownsRow w.heap.size 5 1 v (n + 4) (fL (sealF f n) (n + 4)) ∧ Ch (fun _ => False) w w' := by
  obtain ⟨i0, hi, hz0, hz1, hz2⟩ := info_parts info5
  have HB := Go.Lib.hid hb
  have HR := Go.Lib.hid (rsum_any p n c f w hb hn)
  have h8 := un_shr8 (sumF f n) 1
  have h16 := un_shr8 (sumF f n) 2
  have h24 := un_shr8 (sumF f n) 3
  have h0 := un_shr8 (sumF f n) 0
  have HFS := Go.Lib.hid (fL_seal f n)
  have HF4 := Go.Lib.hid (show fL (sumB (sumF f n)) 4 = [.int .u8 ((sumB (sumF f n) 0).toNat : Int), .int .u8 ((sumB (sumF f n) 1).toNat : Int), .int .u8 ((sumB (sumF f n) 2).toNat : Int), .int .u8 ((sumB (sumF f n) 3).toNat : Int)] from rfl)
  clear hb
  generalize hbz : sumB (sumF f n) = bz at *
  clear hbz
  generalize sumF f n = z at *
  simp only [Nat.mul_zero, BitVec.ushiftRight_zero, Nat.mul_one] at h0 h8
  go_enter Try.func26, Try.ntmps26
  go_wp2_with (first | (go_at_call 14; refine HR.out.mono ?_; rintro e w1 ⟨rfl, rfl⟩) | (at_builtin; first
    | (refine wpList_append_bytes rfl (.tmp 6) (.tmp 7) rfl w.heap.size _ _ _ rfl (ownsRow_empty w _ (Nat.le_refl _)) p n c f rfl (HB.out.ch ((Ch.refl (fun _ => False) w).alloc _) (fun _ _ h => h)) (by omega) (by simp) ?_
       intro v1 w1 hown1 hgrow1
       rw [Nat.zero_add, List.nil_append] at hown1
       have HO1 := Go.Lib.hid hown1; have HW1 := Go.Lib.hid hgrow1; clear hown1 hgrow1)
    | (refine wpList_append_own _ rfl (.tmp 8) (.tmp 20) 24 rfl w.heap.size 5 i0 (.int .u8 0) 1 1 Try.underlying24 hi hz0 hz1 hz2 rfl (by decide) _ _ _ rfl (HO1.out.alloc _) ⟨w1.heap.size, 0, none⟩ 4 4 _ rfl rfl (four_at w1 _ _ _ _ _) (by simp [Value.oneCell']) (by simp [maxLen]; omega) (by omega) (by have := HW1.out.size; simp at this ⊢; omega) ?_
       intro v2 w2 hown2 hgrow2 hx2; clear hx2
       have HO2 := Go.Lib.hid hown2; have HW2 := Go.Lib.hid hgrow2; clear hown2 hgrow2)))
  go_ret
  refine ⟨_, rfl, ?_, ?_⟩
  · have := HO2.out
    rw [← HF4.out, HFS.out] at this
    exact this
  · refine Ch.grown (Ch.alloc (Ch.grown ((Ch.refl _ w).alloc _) HW1.out (fun k hk hlt => ?_)) _) HW2.out (fun k hk hlt => ?_)
    · have h : some w.heap.size = some k := hk
      cases h; omega
    · have := (World.ownsRow.lt HO1.out) k hk; omega
end Go.Proofs.Ythbpfgcgfhlmnaa
