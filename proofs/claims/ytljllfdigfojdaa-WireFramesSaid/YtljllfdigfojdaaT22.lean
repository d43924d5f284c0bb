/- The reference's sums, and its Seal. -/
import Derived.Test.YtljllfdigfojdaaV16
import Derived.Laws.AppendOwnNone
import Derived.Test.YtljllfdigfojdaaRegP
namespace Go.Proofs.Ytljllfdigfojdaa
open Go Go.RowKit
attribute [local go_sem high] b_add b_xor b_and b_or b_shr b_shl not32 wrap_un beq32 neg32 lowB_wrap
theorem b_turn (t : TypeId) (x : BitVec 32) : binOp .sub t (.int .u32 4294967295) (.int .u32 (un x)) = pure (.int .u32 (un (~~~x))) := by
  show pure (Value.int .u32 (IntKind.u32.wrap (4294967295 - un x))) = _
  congr 2
  rw [IntKind.wrap_u32']
  unfold un
  rw [BitVec.toNat_not]
  have := x.isLt
  omega
attribute [local go_sem high] b_turn


set_option maxRecDepth 100000 in
set_option maxHeartbeats 1000000 in
theorem rmore_any (x : BitVec 32) (p : Option Addr) (n c : Nat) (f : Nat → UInt8) (w : World) (hb : BytesAt w p n c f) (hn : n ≤ 1000000000000) :
    Calls Try.prog 96 #[.int .u32 (un x), .slice p n c] w fun e w' => e = .returned (.int .u32 (un (~~~(cw (~~~x) f n)))) ∧ w = w' := by
  have HB := Go.Lib.hid hb
  clear hb
  go_enter Try.func96, Try.ntmps96
  go_wp2
  go_loop [5, 6] (fun z i => ∃ k : Nat, k ≤ n ∧ i = .int .i64 k ∧ z = .int .u32 (un (cw (~~~x) f k))) (fun _ i => n - (intOf i).toNat)
  case atStart => exact ⟨0, by omega, rfl, rfl⟩
  case round =>
    obtain ⟨k, hk, rfl, rfl⟩ := hrel
    by_cases hlt : k < n
    · obtain ⟨a, y, rfl, _, hcell⟩ := HB.out.at0 (by omega)
      have hbyte : w.cell? ⟨a, y + k, none⟩ = some (.int .u8 ((f k).toNat : Int)) := hcell k hlt
      have HS := Go.Lib.hid (show cw (~~~x) f (k + 1) = behind (cw (~~~x) f k) (f k) from rfl)
      have HBO := Go.Lib.hid (fun W => (show Calls Try.prog 101 #[.int .u32 (un (cw (~~~x) f k)), .int .u8 ((f k).toNat : Int)] W fun e w' => e = .returned (.int .u32 (un (behind (cw (~~~x) f k) (f k)))) ∧ W = w' from byteOn_any _ _ W))
      clear hcell
      generalize cw (~~~x) f k = z at *
      generalize f k = d at *
      generalize behind z d = z2 at *
      go_wp2_with (go_at_call 101; refine (HBO.out _).mono ?_; rintro e w' ⟨rfl, rfl⟩)
      go_round
      case rel => exact ⟨k + 1, by omega, by go_num, by rw [HS.out]⟩
      case measure => simp [intOf]; omega
    · obtain rfl : k = n := by omega
      generalize hz : cw (~~~x) f k = z at *
      have HZ := Go.Lib.hid hz
      clear hz
      go_wp2
      go_ret
      exact ⟨by rw [HZ.out]; rfl, rfl⟩
theorem rsum_any (p : Option Addr) (n c : Nat) (f : Nat → UInt8) (w : World) (hb : BytesAt w p n c f) (hn : n ≤ 1000000000000) :
    Calls Try.prog 93 #[.slice p n c] w fun e w' => e = .returned (.int .u32 (un (sumF f n))) ∧ w = w' := by
  have HM := Go.Lib.hid (show Calls Try.prog 96 #[.int .u32 0, .slice p n c] w fun e w' => e = .returned (.int .u32 (un (sumF f n))) ∧ w = w' from rmore_any 0#32 p n c f w hb hn)
  clear hb
  generalize un (sumF f n) = z at *
  go_enter Try.func93, Try.ntmps93
  go_wp2_with (go_at_call 96; refine HM.out.mono ?_; rintro e w1 ⟨rfl, rfl⟩)
  go_ret
  exact ⟨rfl, rfl⟩
theorem un_shr8 (z : BitVec 32) (j : Nat) : IntKind.u8.wrap (un (z >>> (8 * j))) = ((sumB z j).toNat : Int) := lowB_wrap _

theorem ownsRow_empty (w : World) (base : Nat) (h : base ≤ w.heap.size) : (w.alloc (.cells #[] 5)).ownsRow base 5 1 (.slice (some ⟨w.heap.size, 0, none⟩) 0 0) 0 [] :=
  World.ownsRow_made w #[] 0 h (by simp [maxLen]) rfl
theorem BytesAt.news {w : World} {ad : Addr} {n c : Nat} {f : Nat → UInt8} (h : BytesAt w (some ad) n c f) : ∀ j u, (fL f n)[j]? = some u → w.cell? (ad.add j) = some u := fun j u hj => by
  obtain ⟨h1, rfl⟩ := fL_get f n j u hj
  rcases h with ⟨x, y, e, _, _, hb⟩ | ⟨h0, _⟩
  · cases e
    rw [show (⟨x, y, none⟩ : Addr).add j = ⟨x, y + j, none⟩ by simp [Addr.add]]
    exact hb j h1
  · omega
/-- 'append(s, b...)', s a row of one's own, b any bytes. -/
theorem wpList_append_bytes {w : World} {ops : Array Oper} {rest : List Oper} {o : Oper} {a : Act} {Q : Exit → Act → World → Prop} (hgd : o.guard = none) (s x : Operand)
    (ho : o.op = .call { callee := .builtin .append, args := #[s, x], argTypes := #[27, 27] }) (base : Nat) (v : Value) (k : Nat) (xs : List Value) (hs : a.eval s = v) (hown : w.ownsRow base 5 1 v k xs)
    (p : Option Addr) (n c : Nat) (f : Nat → UInt8) (hx : a.eval x = .slice p n c) (hb : BytesAt w p n c f) (hk : k + n ≤ 100000000000000) (hbase : base ≤ w.heap.size)
    (h : ∀ v' w', w'.ownsRow base 5 1 v' (k + n) (xs ++ fL f n) → w.grownBy w' v.ownBlock → wpList Try.prog ops Q rest (a.put o.dst v') w') : wpList Try.prog ops Q (o :: rest) a w := by
  obtain ⟨i0, hi, hz0, hz1, hz2⟩ := info_parts info5
  cases p with
  | some ad => exact wpList_append_own _ hgd s x 27 ho base 5 i0 (.int .u8 0) 1 1 Try.underlying27 hi hz0 hz1 hz2 rfl (by decide) v k xs hs hown ad n c (fL f n) hx (by rw [fL_len]; omega) hb.news (fL_one _ _) (by simp [maxLen]; omega) (by omega) hbase (fun v' w' h1 h2 _ => h v' w' h1 h2)
  | none =>
    rcases hb with ⟨x, y, e, _⟩ | ⟨rfl, hc⟩
    · cases e
    · have hc0 := hc rfl
      subst hc0
      exact wpList_append_own_none hgd s x 27 ho base 5 i0 1 Try.underlying27 hi v k xs hs hown hx (h v w (by simpa [fL] using hown) ⟨rfl, rfl, rfl, Nat.le_refl _, fun _ _ _ => rfl⟩)
theorem four_at (wr : World) (u0 u1 u2 u3 : Value) (t : TypeId) : ∀ j u, [u0, u1, u2, u3][j]? = some u → (wr.alloc (.cells #[u0, u1, u2, u3] t)).cell? ((⟨wr.heap.size, 0, none⟩ : Addr).add j) = some u := fun j u h => by
  have := cell_fresh wr #[u0, u1, u2, u3] t j
  rw [show (⟨wr.heap.size, 0, none⟩ : Addr).add j = ⟨wr.heap.size, j, none⟩ by (simp [Addr.add]; omega), this]
  rw [← h]; simp

set_option maxRecDepth 100000 in
set_option maxHeartbeats 1000000 in
theorem rseal_any (p : Option Addr) (n c : Nat) (f : Nat → UInt8) (w : World) (hb : BytesAt w p n c f) (hn : n ≤ 1000000000000) :
    Calls Try.prog 75 #[.slice p n c] w fun e w' => ∃ v, e = .returned v ∧ w'.ownsRow w.heap.size 5 1 v (n + 4) (fL (sealF f n) (n + 4)) ∧ Ch (fun _ => False) w w' := by
  obtain ⟨i0, hi, hz0, hz1, hz2⟩ := info_parts info5
  have HB := Go.Lib.hid hb
  have HR := Go.Lib.hid (rsum_any p n c f w hb hn)
  have h8 := un_shr8 (sumF f n) 1
  have h16 := un_shr8 (sumF f n) 2
  have h24 := un_shr8 (sumF f n) 3
  have h0 := un_shr8 (sumF f n) 0
  have HFS := Go.Lib.hid (fL_seal f n)
  have HF4 := Go.Lib.hid (show fL (sumB (sumF f n)) 4 = [.int .u8 ((sumB (sumF f n) 0).toNat : Int), .int .u8 ((sumB (sumF f n) 1).toNat : Int), .int .u8 ((sumB (sumF f n) 2).toNat : Int), .int .u8 ((sumB (sumF f n) 3).toNat : Int)] from rfl)
  clear hb
  generalize hbz : sumB (sumF f n) = bz at *
  clear hbz
  generalize sumF f n = z at *
  simp only [Nat.mul_zero, BitVec.ushiftRight_zero, Nat.mul_one] at h0 h8
  go_enter Try.func75, Try.ntmps75
  go_wp2_with (first | (go_at_call 93; refine HR.out.mono ?_; rintro e w1 ⟨rfl, rfl⟩) | (at_builtin; first
    | (refine wpList_append_bytes rfl (.tmp 6) (.tmp 7) rfl w.heap.size _ _ _ rfl (ownsRow_empty w _ (Nat.le_refl _)) p n c f rfl (HB.out.ch ((Ch.refl (fun _ => False) w).alloc _) (fun _ _ h => h)) (by omega) (by simp) ?_
       intro v1 w1 hown1 hgrow1
       rw [Nat.zero_add, List.nil_append] at hown1
       have HO1 := Go.Lib.hid hown1; have HW1 := Go.Lib.hid hgrow1; clear hown1 hgrow1)
    | (refine wpList_append_own _ rfl (.tmp 8) (.tmp 20) 27 rfl w.heap.size 5 i0 (.int .u8 0) 1 1 Try.underlying27 hi hz0 hz1 hz2 rfl (by decide) _ _ _ rfl (HO1.out.alloc _) ⟨w1.heap.size, 0, none⟩ 4 4 _ rfl rfl (four_at w1 _ _ _ _ _) (by simp [Value.oneCell']) (by simp [maxLen]; omega) (by omega) (by have := HW1.out.size; simp at this ⊢; omega) ?_
       intro v2 w2 hown2 hgrow2 hx2; clear hx2
       have HO2 := Go.Lib.hid hown2; have HW2 := Go.Lib.hid hgrow2; clear hown2 hgrow2)))
  go_ret
  refine ⟨_, rfl, ?_, ?_⟩
  · have := HO2.out
    rw [← HF4.out, HFS.out] at this
    exact this
  · refine Ch.grown (Ch.alloc (Ch.grown ((Ch.refl _ w).alloc _) HW1.out (fun k hk hlt => ?_)) _) HW2.out (fun k hk hlt => ?_)
    · have h : some w.heap.size = some k := hk
      cases h; omega
    · have := (World.ownsRow.lt HO1.out) k hk; omega
end Go.Proofs.Ytljllfdigfojdaa
/- The reference's Open; both Opens. -/
namespace Go.Proofs.Ytljllfdigfojdaa
open Go Go.RowKit
attribute [local go_sem high] b_add b_xor b_and b_or b_shr b_shl not32 wrap_un beq32 neg32 b_turn lowB_wrap

theorem BytesAt.short {w : World} {p : Option Addr} {n c m : Nat} {f : Nat → UInt8} (h : BytesAt w p n c f) (hm : m ≤ n) : BytesAt w p m c f := by
  rcases h with ⟨x, y, h1, h2, h3, h4⟩ | ⟨h1, h2⟩
  · exact .inl ⟨x, y, h1, by omega, h3, fun j hj => h4 j (by omega)⟩
  · exact .inr ⟨by omega, h2⟩
theorem slice_to (q : Option Addr) (n c k : Nat) (h : k ≤ c) (w : World) : (Instr.slice 27 (.slice q n c) none (some (.int .i64 (k : Int))) none).run Try.prog w = .ok (.slice q k c) w := by
  have e : ¬ c < k := by omega
  cases q with
  | none => simp [Instr.slice, Instr.sliceBounds, Instr.sliceBound, run_underlying Try.underlying27, asIntOf, go_sem, e]
  | some a => simp [Instr.slice, Instr.sliceBounds, Instr.sliceBound, run_underlying Try.underlying27, asIntOf, go_sem, e, Addr.add]
set_option maxRecDepth 100000 in
set_option maxHeartbeats 4000000 in
theorem ropen_short (p : Option Addr) (n c : Nat) (w : World) (hn : n < 4) :
    Calls Try.prog 74 #[.slice p n c] w fun e w' => e = .returned (.tuple #[.slice none 0 0, .int .i64 130]) ∧ Ch (fun _ => False) w w' := by
  have hlt : (n : Int) < 4 := by omega
  go_enter Try.func74, Try.ntmps74
  go_upto_region 1 with (fail)
  refine wp_region_any (by kernel_rfl) ?_
  generalize hwx : ({ w with drawn := w.drawn + 1 } : World) = wx
  have HWX := Go.Lib.hid (show Ch (fun _ => False) w wx by rw [← hwx]; exact (Ch.refl _ _).drew)
  clear hwx
  generalize hax : Act.mk _ _ = ax
  have HSZ := Go.Lib.hid (show ax.tmps.size = 24 by rw [← hax]; rfl)
  have F0 := Go.Lib.hid (show gt ax 0 = .slice p n c by rw [← hax]; rfl)
  have HAX := Go.Lib.hid hax
  clear hax
  have HND := Go.Lib.hid (show ([4, 5, 6, 7, 8, 9, 10, 11, 12, 13, 14, 15, 16, 17, 18] : List Nat).Nodup by decide)
  have HLS : Hid (Lasts [(4, fun x _ => x = .slice p n c), (5, fun x _ => x = .int .i64 (n : Int)), (6, fun x _ => x = .bool true), (7, fun x _ => x = .bool true), (8, fun x _ => x = undef), (9, fun x _ => x = undef), (10, fun x _ => x = undef), (11, fun x _ => x = undef), (12, fun x _ => x = undef), (13, fun x _ => x = undef), (14, fun x _ => x = undef), (15, fun x _ => x = undef), (16, fun x _ => x = undef), (17, fun x _ => x = undef), (18, fun x _ => x = .bool true)]) := Go.Lib.hid (by
    intro p hp v w1 w2 hc h
    simp only [List.mem_cons, List.not_mem_nil, or_false] at hp
    rcases hp with rfl | rfl | rfl | rfl | rfl | rfl | rfl | rfl | rfl | rfl | rfl | rfl | rfl | rfl | rfl
    all_goals first | exact h | (obtain ⟨g, h1, h2⟩ := h; exact ⟨g, h1, hc.heap h2 id⟩) | (obtain ⟨g, c, h1, h2⟩ := h; exact ⟨g, c, h1, h2.ch hc (fun _ _ h => h)⟩))
  refine wpAny_inv (InvP 24 [(4, fun x _ => x = .slice p n c), (5, fun x _ => x = .int .i64 (n : Int)), (6, fun x _ => x = .bool true), (7, fun x _ => x = .bool true), (8, fun x _ => x = undef), (9, fun x _ => x = undef), (10, fun x _ => x = undef), (11, fun x _ => x = undef), (12, fun x _ => x = undef), (13, fun x _ => x = undef), (14, fun x _ => x = undef), (15, fun x _ => x = undef), (16, fun x _ => x = undef), (17, fun x _ => x = undef), (18, fun x _ => x = .bool true)] (fun _ w' => Ch (fun _ => False) wx w') ax) ?_ ?_ _ _ _ _ rfl (by decide) (InvP.start rfl HSZ.out (Ch.refl _ _))
  · intro L a w' i hI hr
    obtain ⟨h1, o, ho, hall⟩ := mem_ready.1 hr
    have hlt : i < 15 := (Array.getElem?_eq_some_iff.1 ho).1
    have hsplit : i = 0 ∨ i = 1 ∨ i = 2 ∨ i = 3 ∨ i = 4 ∨ i = 5 ∨ i = 6 ∨ i = 7 ∨ i = 8 ∨ i = 9 ∨ i = 10 ∨ i = 11 ∨ i = 12 ∨ i = 13 ∨ i = 14 := by omega
    clear hlt h1 hr
    rcases hsplit with rfl | rfl | rfl | rfl | rfl | rfl | rfl | rfl | rfl | rfl | rfl | rfl | rfl | rfl | rfl
    · have q0 := (hI.fixed 0 (by simp)).trans F0.out
      unfold gt at q0
      clear hall
      refine wpOp_step (o := _) rfl (fun K' hK' => ?_)
      go_simp
      exact hK' _ _ (hI.put 0 rfl (by decide) HND.out HLS.out  (Ch.refl _ _) rfl hI.wld)
    · simp at ho
      have e0 : lg L 0 = true := by unfold lg; simpa using hall ⟨0, .data⟩ (by rw [← ho]; simp) rfl
      have f0 : gt a 4 = .slice p n c := hI.val 0 _ rfl e0
      unfold gt at f0
      clear hall
      clear ho
      refine wpOp_step (o := _) rfl (fun K' hK' => ?_)
      go_simp
      exact hK' _ _ (hI.put 1 rfl (by decide) HND.out HLS.out  (Ch.refl _ _) rfl hI.wld)
    · simp at ho
      have e1 : lg L 1 = true := by unfold lg; simpa using hall ⟨1, .data⟩ (by rw [← ho]; simp) rfl
      have f1 : gt a 5 = .int .i64 (n : Int) := hI.val 1 _ rfl e1
      unfold gt at f1
      clear hall
      clear ho
      refine wpOp_step (o := _) rfl (fun K' hK' => ?_)
      go_simp
      exact hK' _ _ (hI.put 2 rfl (by decide) HND.out HLS.out  (Ch.refl _ _) rfl hI.wld)
    · simp at ho
      have e2 : lg L 2 = true := by unfold lg; simpa using hall ⟨2, .data⟩ (by rw [← ho]; simp) rfl
      have f2 : gt a 6 = .bool true := hI.val 2 _ rfl e2
      unfold gt at f2
      clear hall
      clear ho
      refine wpOp_step (o := _) rfl (fun K' hK' => ?_)
      go_simp
      exact hK' _ _ (hI.put 3 rfl (by decide) HND.out HLS.out  (Ch.refl _ _) rfl hI.wld)
    · simp at ho
      have eg : lg L 3 = true := by unfold lg; simpa using hall ⟨3, .guard⟩ (by rw [← ho]; simp) rfl
      have fg0 : gt a 7 = .bool true := hI.val 3 _ rfl eg
      have fg := guard_of fg0 (by rw [hI.size]; decide)
      clear eg fg0
      clear hall
      clear ho
      refine wpOp_step (o := _) rfl (fun K' hK' => ?_)
      rw [if_neg (by simp [Region.wanted, yielded, fg])]
      exact hK' _ _ (hI.put 4 rfl (by decide) HND.out HLS.out  (Ch.refl _ _) rfl hI.wld)
    · simp at ho
      have eg : lg L 3 = true := by unfold lg; simpa using hall ⟨3, .guard⟩ (by rw [← ho]; simp) rfl
      have fg0 : gt a 7 = .bool true := hI.val 3 _ rfl eg
      have fg := guard_of fg0 (by rw [hI.size]; decide)
      clear eg fg0
      clear hall
      clear ho
      refine wpOp_step (o := _) rfl (fun K' hK' => ?_)
      rw [if_neg (by simp [Region.wanted, yielded, fg])]
      exact hK' _ _ (hI.put 5 rfl (by decide) HND.out HLS.out  (Ch.refl _ _) rfl hI.wld)
    · simp at ho
      have eg : lg L 3 = true := by unfold lg; simpa using hall ⟨3, .guard⟩ (by rw [← ho]; simp) rfl
      have fg0 : gt a 7 = .bool true := hI.val 3 _ rfl eg
      have fg := guard_of fg0 (by rw [hI.size]; decide)
      clear eg fg0
      clear hall
      clear ho
      refine wpOp_step (o := _) rfl (fun K' hK' => ?_)
      rw [if_neg (by simp [Region.wanted, yielded, fg])]
      exact hK' _ _ (hI.put 6 rfl (by decide) HND.out HLS.out  (Ch.refl _ _) rfl hI.wld)
    · simp at ho
      have eg : lg L 3 = true := by unfold lg; simpa using hall ⟨3, .guard⟩ (by rw [← ho]; simp) rfl
      have fg0 : gt a 7 = .bool true := hI.val 3 _ rfl eg
      have fg := guard_of fg0 (by rw [hI.size]; decide)
      clear eg fg0
      clear hall
      clear ho
      refine wpOp_step (o := _) rfl (fun K' hK' => ?_)
      rw [if_neg (by simp [Region.wanted, yielded, fg])]
      exact hK' _ _ (hI.put 7 rfl (by decide) HND.out HLS.out  (Ch.refl _ _) rfl hI.wld)
    · simp at ho
      have eg : lg L 3 = true := by unfold lg; simpa using hall ⟨3, .guard⟩ (by rw [← ho]; simp) rfl
      have fg0 : gt a 7 = .bool true := hI.val 3 _ rfl eg
      have fg := guard_of fg0 (by rw [hI.size]; decide)
      clear eg fg0
      clear hall
      clear ho
      refine wpOp_step (o := _) rfl (fun K' hK' => ?_)
      rw [if_neg (by simp [Region.wanted, yielded, fg])]
      exact hK' _ _ (hI.put 8 rfl (by decide) HND.out HLS.out  (Ch.refl _ _) rfl hI.wld)
    · simp at ho
      have eg : lg L 3 = true := by unfold lg; simpa using hall ⟨3, .guard⟩ (by rw [← ho]; simp) rfl
      have fg0 : gt a 7 = .bool true := hI.val 3 _ rfl eg
      have fg := guard_of fg0 (by rw [hI.size]; decide)
      clear eg fg0
      clear hall
      clear ho
      refine wpOp_step (o := _) rfl (fun K' hK' => ?_)
      rw [if_neg (by simp [Region.wanted, yielded, fg])]
      exact hK' _ _ (hI.put 9 rfl (by decide) HND.out HLS.out  (Ch.refl _ _) rfl hI.wld)
    · simp at ho
      have eg : lg L 3 = true := by unfold lg; simpa using hall ⟨3, .guard⟩ (by rw [← ho]; simp) rfl
      have fg0 : gt a 7 = .bool true := hI.val 3 _ rfl eg
      have fg := guard_of fg0 (by rw [hI.size]; decide)
      clear eg fg0
      clear hall
      clear ho
      refine wpOp_step (o := _) rfl (fun K' hK' => ?_)
      rw [if_neg (by simp [Region.wanted, yielded, fg])]
      exact hK' _ _ (hI.put 10 rfl (by decide) HND.out HLS.out  (Ch.refl _ _) rfl hI.wld)
    · simp at ho
      have eg : lg L 3 = true := by unfold lg; simpa using hall ⟨3, .guard⟩ (by rw [← ho]; simp) rfl
      have fg0 : gt a 7 = .bool true := hI.val 3 _ rfl eg
      have fg := guard_of fg0 (by rw [hI.size]; decide)
      clear eg fg0
      clear hall
      clear ho
      refine wpOp_step (o := _) rfl (fun K' hK' => ?_)
      rw [if_neg (by simp [Region.wanted, yielded, fg])]
      exact hK' _ _ (hI.put 11 rfl (by decide) HND.out HLS.out  (Ch.refl _ _) rfl hI.wld)
    · simp at ho
      have eg : lg L 3 = true := by unfold lg; simpa using hall ⟨3, .guard⟩ (by rw [← ho]; simp) rfl
      have fg0 : gt a 7 = .bool true := hI.val 3 _ rfl eg
      have fg := guard_of fg0 (by rw [hI.size]; decide)
      clear eg fg0
      clear hall
      clear ho
      refine wpOp_step (o := _) rfl (fun K' hK' => ?_)
      rw [if_neg (by simp [Region.wanted, yielded, fg])]
      exact hK' _ _ (hI.put 12 rfl (by decide) HND.out HLS.out  (Ch.refl _ _) rfl hI.wld)
    · simp at ho
      have eg : lg L 3 = true := by unfold lg; simpa using hall ⟨3, .guard⟩ (by rw [← ho]; simp) rfl
      have fg0 : gt a 7 = .bool true := hI.val 3 _ rfl eg
      have fg := guard_of fg0 (by rw [hI.size]; decide)
      clear eg fg0
      clear hall
      clear ho
      refine wpOp_step (o := _) rfl (fun K' hK' => ?_)
      rw [if_neg (by simp [Region.wanted, yielded, fg])]
      exact hK' _ _ (hI.put 13 rfl (by decide) HND.out HLS.out  (Ch.refl _ _) rfl hI.wld)
    · simp at ho
      have e3 : lg L 3 = true := by unfold lg; simpa using hall ⟨3, .data⟩ (by rw [← ho]; simp) rfl
      have f3 : gt a 7 = .bool true := hI.val 3 _ rfl e3
      have e13 : lg L 13 = true := by unfold lg; simpa using hall ⟨13, .data⟩ (by rw [← ho]; simp) rfl
      have f13 : gt a 17 = undef := hI.val 13 _ rfl e13
      unfold gt at f3 f13
      clear hall
      clear ho
      refine wpOp_step (o := _) rfl (fun K' hK' => ?_)
      go_simp
      exact hK' _ _ (hI.put 14 rfl (by decide) HND.out HLS.out  (Ch.refl _ _) rfl hI.wld)
  · intro L a w' hI hr
    have hal := all_listed' (md := .any) (by kernel_rfl) hI.lsize hr
    have hfr := hI.frame HSZ.out (by simp) (fun i hi => hal i hi)
    have k0 : gt a 4 = .slice p n c := hI.val 0 _ rfl (hal 0 (by decide))
    have k1 : gt a 5 = .int .i64 (n : Int) := hI.val 1 _ rfl (hal 1 (by decide))
    have k2 : gt a 6 = .bool true := hI.val 2 _ rfl (hal 2 (by decide))
    have k3 : gt a 7 = .bool true := hI.val 3 _ rfl (hal 3 (by decide))
    have k4 : gt a 8 = undef := hI.val 4 _ rfl (hal 4 (by decide))
    have k5 : gt a 9 = undef := hI.val 5 _ rfl (hal 5 (by decide))
    have k6 : gt a 10 = undef := hI.val 6 _ rfl (hal 6 (by decide))
    have k7 : gt a 11 = undef := hI.val 7 _ rfl (hal 7 (by decide))
    have k8 : gt a 12 = undef := hI.val 8 _ rfl (hal 8 (by decide))
    have k9 : gt a 13 = undef := hI.val 9 _ rfl (hal 9 (by decide))
    have k10 : gt a 14 = undef := hI.val 10 _ rfl (hal 10 (by decide))
    have k11 : gt a 15 = undef := hI.val 11 _ rfl (hal 11 (by decide))
    have k12 : gt a 16 = undef := hI.val 12 _ rfl (hal 12 (by decide))
    have k13 : gt a 17 = undef := hI.val 13 _ rfl (hal 13 (by decide))
    have k14 : gt a 18 = .bool true := hI.val 14 _ rfl (hal 14 (by decide))
    rw [hfr, ← HAX.out]
    have HCZ := Go.Lib.hid (HWX.out.trans hI.wld)
    simp only [List.map_cons, List.map_nil, List.foldl_cons, List.foldl_nil, k0, k1, k2, k3, k4, k5, k6, k7, k8, k9, k10, k11, k12, k13, k14, List.setIfInBounds_toArray, List.set_cons_succ, List.set_cons_zero]
    clear hfr hI hr hal k0 k1 k2 k3 k4 k5 k6 k7 k8 k9 k10 k11 k12 k13 k14
    go_wp2_with fail
    refine bodyPost_ret (v := .tuple #[.slice none 0 0, .int .i64 130]) (by simp [results, Try.results74, go_sem]) rfl ⟨rfl, HCZ.out⟩

set_option maxRecDepth 100000 in
set_option maxHeartbeats 4000000 in
theorem ropen_long (p : Option Addr) (m c : Nat) (g : Nat → UInt8) (w : World) (hm : m ≤ 100000000000) (hc : m + 4 ≤ c) (hb : BytesAt w p (m + 4) c g) :
    Calls Try.prog 74 #[.slice p (m + 4) c] w fun e w' => Ch (fun _ => False) w w' ∧
      ((bL (sealF g m) (m + 4) == bL g (m + 4)) = false ∧ e = .returned (.tuple #[.slice none 0 0, .int .i64 130]) ∨
       (bL (sealF g m) (m + 4) == bL g (m + 4)) = true ∧ e = .returned (.tuple #[.slice p m c, .int .i64 0])) := by
  have HB := Go.Lib.hid hb
  have HS := Go.Lib.hid (fun w => slice_to p (m + 4) c m (by omega) w)
  have hs := HS.out
  have HX := Go.Lib.hid (fun w' (h : Ch (fun _ => False) w w') => (rseal_any p m c g w' ((hb.ch h (fun _ _ h => h)).short (by omega)) (by omega)).mono (fun e w2 h2 => (show ∃ q d, e = .returned (.slice q (m + 4) d) ∧ BytesAt w2 q (m + 4) d (sealF g m) ∧ Ch (fun _ => False) w' w2 from by
    obtain ⟨v, rfl, ho, hc⟩ := h2
    obtain ⟨q, d, rfl, hq⟩ := own_bytes ho
    exact ⟨q, d, rfl, hq, hc⟩)))
  have HCX := Go.Lib.hid (fun q d w' (h : BytesAt w' q (m + 4) d (sealF g m)) => conv_bytes h)
  have HCY := Go.Lib.hid (fun w' (h : Ch (fun _ => False) w w') => conv_bytes (hb.ch h (fun _ _ h => h)))
  have HE1 := Go.Lib.hid (show ((bS (sealF g m) (m + 4)).toList == (bS g (m + 4)).toList) = (bL (sealF g m) (m + 4) == bL g (m + 4)) by rw [bS_list, bS_list])
  have HE2 := Go.Lib.hid (show ((bS (sealF g m) (m + 4)).toList != (bS g (m + 4)).toList) = !(bL (sealF g m) (m + 4) == bL g (m + 4)) by rw [bS_list, bS_list]; rfl)
  generalize hE : (bL (sealF g m) (m + 4) == bL g (m + 4)) = E at *
  generalize bS (sealF g m) (m + 4) = X at *
  generalize bS g (m + 4) = Y at *
  clear hE hb
  have hm4 : (m : Int) ≤ 100000000000 := by omega
  go_enter Try.func74, Try.ntmps74
  go_upto_region 1 with (fail)
  refine wp_region_any (by kernel_rfl) ?_
  generalize hwx : ({ w with drawn := w.drawn + 1 } : World) = wx
  have HWX := Go.Lib.hid (show Ch (fun _ => False) w wx by rw [← hwx]; exact (Ch.refl _ _).drew)
  clear hwx
  generalize hax : Act.mk _ _ = ax
  have HSZ := Go.Lib.hid (show ax.tmps.size = 24 by rw [← hax]; rfl)
  have F0 := Go.Lib.hid (show gt ax 0 = .slice p (m + 4) c by rw [← hax]; rfl)
  have HAX := Go.Lib.hid hax
  clear hax
  have HND := Go.Lib.hid (show ([4, 5, 6, 7, 8, 9, 10, 11, 12, 13, 14, 15, 16, 17, 18] : List Nat).Nodup by decide)
  have HLS : Hid (Lasts [(4, fun x _ => x = .slice p (m + 4) c), (5, fun x _ => x = .int .i64 ((m : Int) + 4)), (6, fun x _ => x = .bool false), (7, fun x _ => x = .bool false), (8, fun x _ => x = .slice p (m + 4) c), (9, fun x _ => x = .slice p (m + 4) c), (10, fun x _ => x = .int .i64 ((m : Int) + 4)), (11, fun x _ => x = .int .i64 (m : Int)), (12, fun x _ => x = .slice p m c), (13, fun x v => ∃ q d, x = .slice q (m + 4) d ∧ BytesAt v q (m + 4) d (sealF g m)), (14, fun x _ => x = .string X), (15, fun x _ => x = .slice p (m + 4) c), (16, fun x _ => x = .string Y), (17, fun x _ => x = .bool !E), (18, fun x _ => x = .bool !E)]) := Go.Lib.hid (by
    intro p hp v w1 w2 hc h
    simp only [List.mem_cons, List.not_mem_nil, or_false] at hp
    rcases hp with rfl | rfl | rfl | rfl | rfl | rfl | rfl | rfl | rfl | rfl | rfl | rfl | rfl | rfl | rfl
    all_goals first | exact h | (obtain ⟨g, h1, h2⟩ := h; exact ⟨g, h1, hc.heap h2 id⟩) | (obtain ⟨g, c, h1, h2⟩ := h; exact ⟨g, c, h1, h2.ch hc (fun _ _ h => h)⟩))
  refine wpAny_inv (InvP 24 [(4, fun x _ => x = .slice p (m + 4) c), (5, fun x _ => x = .int .i64 ((m : Int) + 4)), (6, fun x _ => x = .bool false), (7, fun x _ => x = .bool false), (8, fun x _ => x = .slice p (m + 4) c), (9, fun x _ => x = .slice p (m + 4) c), (10, fun x _ => x = .int .i64 ((m : Int) + 4)), (11, fun x _ => x = .int .i64 (m : Int)), (12, fun x _ => x = .slice p m c), (13, fun x v => ∃ q d, x = .slice q (m + 4) d ∧ BytesAt v q (m + 4) d (sealF g m)), (14, fun x _ => x = .string X), (15, fun x _ => x = .slice p (m + 4) c), (16, fun x _ => x = .string Y), (17, fun x _ => x = .bool !E), (18, fun x _ => x = .bool !E)] (fun _ w' => Ch (fun _ => False) wx w') ax) ?_ ?_ _ _ _ _ rfl (by decide) (InvP.start rfl HSZ.out (Ch.refl _ _))
  · intro L a w' i hI hr
    obtain ⟨h1, o, ho, hall⟩ := mem_ready.1 hr
    have hlt : i < 15 := (Array.getElem?_eq_some_iff.1 ho).1
    have hsplit : i = 0 ∨ i = 1 ∨ i = 2 ∨ i = 3 ∨ i = 4 ∨ i = 5 ∨ i = 6 ∨ i = 7 ∨ i = 8 ∨ i = 9 ∨ i = 10 ∨ i = 11 ∨ i = 12 ∨ i = 13 ∨ i = 14 := by omega
    clear hlt h1 hr
    rcases hsplit with rfl | rfl | rfl | rfl | rfl | rfl | rfl | rfl | rfl | rfl | rfl | rfl | rfl | rfl | rfl
    · have q0 := (hI.fixed 0 (by simp)).trans F0.out
      unfold gt at q0
      clear hall
      refine wpOp_step (o := _) rfl (fun K' hK' => ?_)
      go_simp
      exact hK' _ _ (hI.put 0 rfl (by decide) HND.out HLS.out  (Ch.refl _ _) rfl hI.wld)
    · simp at ho
      have e0 : lg L 0 = true := by unfold lg; simpa using hall ⟨0, .data⟩ (by rw [← ho]; simp) rfl
      have f0 : gt a 4 = .slice p (m + 4) c := hI.val 0 _ rfl e0
      unfold gt at f0
      clear hall
      clear ho
      refine wpOp_step (o := _) rfl (fun K' hK' => ?_)
      go_simp
      exact hK' _ _ (hI.put 1 rfl (by decide) HND.out HLS.out  (Ch.refl _ _) rfl hI.wld)
    · simp at ho
      have e1 : lg L 1 = true := by unfold lg; simpa using hall ⟨1, .data⟩ (by rw [← ho]; simp) rfl
      have f1 : gt a 5 = .int .i64 ((m : Int) + 4) := hI.val 1 _ rfl e1
      have hlt4 : ¬ ((m : Int) + 4 < 4) := by omega
      unfold gt at f1
      clear hall
      clear ho
      refine wpOp_step (o := _) rfl (fun K' hK' => ?_)
      go_simp
      exact hK' _ _ (hI.put 2 rfl (by decide) HND.out HLS.out  (Ch.refl _ _) rfl hI.wld)
    · simp at ho
      have e2 : lg L 2 = true := by unfold lg; simpa using hall ⟨2, .data⟩ (by rw [← ho]; simp) rfl
      have f2 : gt a 6 = .bool false := hI.val 2 _ rfl e2
      unfold gt at f2
      clear hall
      clear ho
      refine wpOp_step (o := _) rfl (fun K' hK' => ?_)
      go_simp
      exact hK' _ _ (hI.put 3 rfl (by decide) HND.out HLS.out  (Ch.refl _ _) rfl hI.wld)
    · simp at ho
      have q0 := (hI.fixed 0 (by simp)).trans F0.out
      have eg : lg L 3 = true := by unfold lg; simpa using hall ⟨3, .guard⟩ (by rw [← ho]; simp) rfl
      have fg0 : gt a 7 = .bool false := hI.val 3 _ rfl eg
      have fg := guard_of fg0 (by rw [hI.size]; decide)
      clear eg fg0
      unfold gt at q0
      clear hall
      clear ho
      refine wpOp_step (o := _) rfl (fun K' hK' => ?_)
      go_simp
      exact hK' _ _ (hI.put 4 rfl (by decide) HND.out HLS.out  (Ch.refl _ _) rfl hI.wld)
    · simp at ho
      have q0 := (hI.fixed 0 (by simp)).trans F0.out
      have eg : lg L 3 = true := by unfold lg; simpa using hall ⟨3, .guard⟩ (by rw [← ho]; simp) rfl
      have fg0 : gt a 7 = .bool false := hI.val 3 _ rfl eg
      have fg := guard_of fg0 (by rw [hI.size]; decide)
      clear eg fg0
      unfold gt at q0
      clear hall
      clear ho
      refine wpOp_step (o := _) rfl (fun K' hK' => ?_)
      go_simp
      exact hK' _ _ (hI.put 5 rfl (by decide) HND.out HLS.out  (Ch.refl _ _) rfl hI.wld)
    · simp at ho
      have e5 : lg L 5 = true := by unfold lg; simpa using hall ⟨5, .data⟩ (by rw [← ho]; simp) rfl
      have f5 : gt a 9 = .slice p (m + 4) c := hI.val 5 _ rfl e5
      have eg : lg L 3 = true := by unfold lg; simpa using hall ⟨3, .guard⟩ (by rw [← ho]; simp) rfl
      have fg0 : gt a 7 = .bool false := hI.val 3 _ rfl eg
      have fg := guard_of fg0 (by rw [hI.size]; decide)
      clear eg fg0
      unfold gt at f5
      clear hall
      clear ho
      refine wpOp_step (o := _) rfl (fun K' hK' => ?_)
      go_simp
      exact hK' _ _ (hI.put 6 rfl (by decide) HND.out HLS.out  (Ch.refl _ _) rfl hI.wld)
    · simp at ho
      have e6 : lg L 6 = true := by unfold lg; simpa using hall ⟨6, .data⟩ (by rw [← ho]; simp) rfl
      have f6 : gt a 10 = .int .i64 ((m : Int) + 4) := hI.val 6 _ rfl e6
      have eg : lg L 3 = true := by unfold lg; simpa using hall ⟨3, .guard⟩ (by rw [← ho]; simp) rfl
      have fg0 : gt a 7 = .bool false := hI.val 3 _ rfl eg
      have fg := guard_of fg0 (by rw [hI.size]; decide)
      clear eg fg0
      have hwm : IntKind.i64.wrap (m : Int) = (m : Int) := by rw [IntKind.wrap_i64]; omega
      unfold gt at f6
      clear hall
      clear ho
      refine wpOp_step (o := _) rfl (fun K' hK' => ?_)
      go_simp
      exact hK' _ _ (hI.put 7 rfl (by decide) HND.out HLS.out  (Ch.refl _ _) rfl hI.wld)
    · simp at ho
      have e4 : lg L 4 = true := by unfold lg; simpa using hall ⟨4, .data⟩ (by rw [← ho]; simp) rfl
      have f4 : gt a 8 = .slice p (m + 4) c := hI.val 4 _ rfl e4
      have e7 : lg L 7 = true := by unfold lg; simpa using hall ⟨7, .data⟩ (by rw [← ho]; simp) rfl
      have f7 : gt a 11 = .int .i64 (m : Int) := hI.val 7 _ rfl e7
      have eg : lg L 3 = true := by unfold lg; simpa using hall ⟨3, .guard⟩ (by rw [← ho]; simp) rfl
      have fg0 : gt a 7 = .bool false := hI.val 3 _ rfl eg
      have fg := guard_of fg0 (by rw [hI.size]; decide)
      clear eg fg0
      have hsl := HS.out w'
      unfold gt at f4 f7
      clear hall
      clear ho
      refine wpOp_step (o := _) rfl (fun K' hK' => ?_)
      go_simp
      exact hK' _ _ (hI.put 8 rfl (by decide) HND.out HLS.out  (Ch.refl _ _) rfl hI.wld)
    · simp at ho
      have e8 : lg L 8 = true := by unfold lg; simpa using hall ⟨8, .data⟩ (by rw [← ho]; simp) rfl
      have f8 : gt a 12 = .slice p m c := hI.val 8 _ rfl e8
      have eg : lg L 3 = true := by unfold lg; simpa using hall ⟨3, .guard⟩ (by rw [← ho]; simp) rfl
      have fg0 : gt a 7 = .bool false := hI.val 3 _ rfl eg
      have fg := guard_of fg0 (by rw [hI.size]; decide)
      clear eg fg0
      unfold gt at f8
      clear hall
      clear ho
      have HCT := Go.Lib.hid (HX.out w' (HWX.out.trans hI.wld))
      refine wpOp_step (o := _) rfl (fun K' hK' => ?_)
      go_simp
      refine HCT.out.mono ?_
      rintro e w3 ⟨q, d, rfl, hq, hc⟩
      exact hK' _ _ (hI.put 9 rfl (by decide) HND.out HLS.out hc ⟨q, d, rfl, hq⟩ (hI.wld.trans hc))
    · simp at ho
      have e9 : lg L 9 = true := by unfold lg; simpa using hall ⟨9, .data⟩ (by rw [← ho]; simp) rfl
      obtain ⟨g9, c9, f9, hh9⟩ : (fun x v => ∃ q d, x = .slice q (m + 4) d ∧ BytesAt v q (m + 4) d (sealF g m)) (gt a 13) w' := hI.val 9 _ rfl e9
      have eg : lg L 3 = true := by unfold lg; simpa using hall ⟨3, .guard⟩ (by rw [← ho]; simp) rfl
      have fg0 : gt a 7 = .bool false := hI.val 3 _ rfl eg
      have fg := guard_of fg0 (by rw [hI.size]; decide)
      clear eg fg0
      have hcv := HCX.out _ _ w' hh9
      unfold gt at f9
      clear hall
      clear ho
      refine wpOp_step (o := _) rfl (fun K' hK' => ?_)
      go_simp
      exact hK' _ _ (hI.put 10 rfl (by decide) HND.out HLS.out  (Ch.refl _ _) rfl hI.wld)
    · simp at ho
      have q0 := (hI.fixed 0 (by simp)).trans F0.out
      have eg : lg L 3 = true := by unfold lg; simpa using hall ⟨3, .guard⟩ (by rw [← ho]; simp) rfl
      have fg0 : gt a 7 = .bool false := hI.val 3 _ rfl eg
      have fg := guard_of fg0 (by rw [hI.size]; decide)
      clear eg fg0
      unfold gt at q0
      clear hall
      clear ho
      refine wpOp_step (o := _) rfl (fun K' hK' => ?_)
      go_simp
      exact hK' _ _ (hI.put 11 rfl (by decide) HND.out HLS.out  (Ch.refl _ _) rfl hI.wld)
    · simp at ho
      have e11 : lg L 11 = true := by unfold lg; simpa using hall ⟨11, .data⟩ (by rw [← ho]; simp) rfl
      have f11 : gt a 15 = .slice p (m + 4) c := hI.val 11 _ rfl e11
      have eg : lg L 3 = true := by unfold lg; simpa using hall ⟨3, .guard⟩ (by rw [← ho]; simp) rfl
      have fg0 : gt a 7 = .bool false := hI.val 3 _ rfl eg
      have fg := guard_of fg0 (by rw [hI.size]; decide)
      clear eg fg0
      have hcv := HCY.out w' (HWX.out.trans hI.wld)
      unfold gt at f11
      clear hall
      clear ho
      refine wpOp_step (o := _) rfl (fun K' hK' => ?_)
      go_simp
      exact hK' _ _ (hI.put 12 rfl (by decide) HND.out HLS.out  (Ch.refl _ _) rfl hI.wld)
    · simp at ho
      have e10 : lg L 10 = true := by unfold lg; simpa using hall ⟨10, .data⟩ (by rw [← ho]; simp) rfl
      have f10 : gt a 14 = .string X := hI.val 10 _ rfl e10
      have e12 : lg L 12 = true := by unfold lg; simpa using hall ⟨12, .data⟩ (by rw [← ho]; simp) rfl
      have f12 : gt a 16 = .string Y := hI.val 12 _ rfl e12
      have eg : lg L 3 = true := by unfold lg; simpa using hall ⟨3, .guard⟩ (by rw [← ho]; simp) rfl
      have fg0 : gt a 7 = .bool false := hI.val 3 _ rfl eg
      have fg := guard_of fg0 (by rw [hI.size]; decide)
      clear eg fg0
      have hq1 := HE1.out
      have hq2 := HE2.out
      unfold gt at f10 f12
      clear hall
      clear ho
      refine wpOp_step (o := _) rfl (fun K' hK' => ?_)
      go_simp
      exact hK' _ _ (hI.put 13 rfl (by decide) HND.out HLS.out  (Ch.refl _ _) rfl hI.wld)
    · simp at ho
      have e3 : lg L 3 = true := by unfold lg; simpa using hall ⟨3, .data⟩ (by rw [← ho]; simp) rfl
      have f3 : gt a 7 = .bool false := hI.val 3 _ rfl e3
      have e13 : lg L 13 = true := by unfold lg; simpa using hall ⟨13, .data⟩ (by rw [← ho]; simp) rfl
      have f13 : gt a 17 = .bool !E := hI.val 13 _ rfl e13
      unfold gt at f3 f13
      clear hall
      clear ho
      refine wpOp_step (o := _) rfl (fun K' hK' => ?_)
      go_simp
      exact hK' _ _ (hI.put 14 rfl (by decide) HND.out HLS.out  (Ch.refl _ _) rfl hI.wld)
  · intro L a w' hI hr
    have hal := all_listed' (md := .any) (by kernel_rfl) hI.lsize hr
    have hfr := hI.frame HSZ.out (by simp) (fun i hi => hal i hi)
    have k0 : gt a 4 = .slice p (m + 4) c := hI.val 0 _ rfl (hal 0 (by decide))
    have k1 : gt a 5 = .int .i64 ((m : Int) + 4) := hI.val 1 _ rfl (hal 1 (by decide))
    have k2 : gt a 6 = .bool false := hI.val 2 _ rfl (hal 2 (by decide))
    have k3 : gt a 7 = .bool false := hI.val 3 _ rfl (hal 3 (by decide))
    have k4 : gt a 8 = .slice p (m + 4) c := hI.val 4 _ rfl (hal 4 (by decide))
    have k5 : gt a 9 = .slice p (m + 4) c := hI.val 5 _ rfl (hal 5 (by decide))
    have k6 : gt a 10 = .int .i64 ((m : Int) + 4) := hI.val 6 _ rfl (hal 6 (by decide))
    have k7 : gt a 11 = .int .i64 (m : Int) := hI.val 7 _ rfl (hal 7 (by decide))
    have k8 : gt a 12 = .slice p m c := hI.val 8 _ rfl (hal 8 (by decide))
    obtain ⟨g9, c9, k9, _⟩ : (fun x v => ∃ q d, x = .slice q (m + 4) d ∧ BytesAt v q (m + 4) d (sealF g m)) (gt a 13) w' := hI.val 9 _ rfl (hal 9 (by decide))
    have k10 : gt a 14 = .string X := hI.val 10 _ rfl (hal 10 (by decide))
    have k11 : gt a 15 = .slice p (m + 4) c := hI.val 11 _ rfl (hal 11 (by decide))
    have k12 : gt a 16 = .string Y := hI.val 12 _ rfl (hal 12 (by decide))
    have k13 : gt a 17 = .bool !E := hI.val 13 _ rfl (hal 13 (by decide))
    have k14 : gt a 18 = .bool !E := hI.val 14 _ rfl (hal 14 (by decide))
    rw [hfr, ← HAX.out]
    have HCZ := Go.Lib.hid (HWX.out.trans hI.wld)
    simp only [List.map_cons, List.map_nil, List.foldl_cons, List.foldl_nil, k0, k1, k2, k3, k4, k5, k6, k7, k8, k9, k10, k11, k12, k13, k14, List.setIfInBounds_toArray, List.set_cons_succ, List.set_cons_zero]
    clear hfr hI hr hal k0 k1 k2 k3 k4 k5 k6 k7 k8 k9 k10 k11 k12 k13 k14 HX HCX HCY HE1 HE2
    cases E with
    | false =>
      go_wp2_with fail
      refine bodyPost_ret (v := .tuple #[.slice none 0 0, .int .i64 130]) (by simp [results, Try.results74, go_sem]) rfl ⟨HCZ.out, rfl⟩
    | true =>
      go_wp2_with fail
      refine bodyPost_ret (v := .tuple #[.slice p m c, .int .i64 0]) (by simp [results, Try.results74, go_sem]) rfl ⟨HCZ.out, rfl⟩

end Go.Proofs.Ytljllfdigfojdaa
