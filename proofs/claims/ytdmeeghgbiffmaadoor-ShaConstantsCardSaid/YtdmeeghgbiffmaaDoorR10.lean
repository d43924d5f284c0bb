/- ShaChains: the function. -/
import Derived.Test.YtdmeeghgbiffmaaDoorR8
import Derived.Test.YtdmeeghgbiffmaaDoorR9
import Derived.Test.YtdmeeghgbiffmaaDoorRegG
namespace Go.Proofs.YtdmeeghgbiffmaaDoor
open Go Go.RowKit

theorem run_equalIn_refl {P : Program} (w : World) (d : Nat) (t e : TypeId) (n : Nat) (k : IntKind) (ht : P.underlying t = some (.array n e)) (he : P.underlying e = some (.int k)) (hsz : ∀ w, (sizeOf e).run P w = .ok 1 w) (z : Nat → Int) :
    (Op.equalIn (d + 2) t (.agg (arr n fun i => .int k (z i))) (.agg (arr n fun i => .int k (z i)))).run P w = .ok true w := by
  rw [Op.equalIn]
  simp only [Sem.run_bind, run_underlying ht, Result.andThen_ok, hsz, Std.Legacy.Range.forIn_eq_forIn_range', Std.Legacy.Range.size, Nat.sub_zero, Nat.add_sub_cancel, Nat.div_one]
  have hl : ∀ i ∈ List.range' 0 n 1, i < n := fun i hi => by simpa using (List.mem_range'_1.1 hi).2
  generalize List.range' 0 n 1 = l at hl ⊢
  induction l with
  | nil => simp
  | cons i l ih =>
    have hi : i < n := hl i (by simp)
    have px : (part e (arr n fun i => .int k (z i)) (i * 1)).run P w = .ok (.int k (z i)) w := by
      simp [part, isAgg, run_underlying he, arr_get n _ i hi]
    have pe : (Op.equalIn (d + 1) e (.int k (z i)) (.int k (z i))).run P w = .ok true w := by
      rw [run_equalIn_int w d e k k _ _ he]
      simp
    simp only [List.forIn_cons, Sem.run_bind, px, pe, Result.andThen_ok]
    simp only [Bool.not_true, Bool.false_eq_true, if_false, Sem.run_pure, Result.andThen_ok]
    exact ih fun j hj => hl j (by simp [hj])
theorem wpList_neq_wanted {P : Program} {ops : Array Oper} {rest : List Oper} {o : Oper} {a : Act} {w : World} {Q : Exit → Act → World → Prop} (hgd : Region.wanted o (yielded ops a.tmps) = true) (x y : Operand) (t t2 : TypeId) (ho : o.op = .binOp .neq t x y t2)
    (R S : Array Value) (hx : a.eval x = .agg R) (hy : a.eval y = .agg S) (hg : P.eqGuardType P.depth t = false) {b : Bool} (he : (Op.equalIn 10000 t (.agg R) (.agg S)).run P w = .ok b w) (h : wpList P ops Q rest (a.put o.dst (.bool !b)) w) : wpList P ops Q (o :: rest) a w :=
  wpList_step fun K hK => by
    rw [if_pos hgd]
    unfold Oper.wp execOp
    have h1 : (eqGuard .neq t x y (.agg R) (.agg S)).run P w = .ok () w := by
      simp [eqGuard, hg]
    have h2 : (binOp .neq t (.agg R) (.agg S)).run P w = .ok (.bool !b) w := by
      simp only [binOp, Op.equal, Sem.run_bind]
      rw [show (Op.equalIn Op.maxDepth t (.agg R) (.agg S)).run P w = .ok b w from he]
      rfl
    simp only [ho, hx, hy, Sem.run_bind, h1, h2, Result.andThen]
    exact hK _ _ h
theorem eqg26 : Tryd.prog.eqGuardType Tryd.prog.depth 26 = false := by kernel_rfl
theorem eq_st (s : St) (w : World) : (Op.equalIn 10000 26 (.agg s.cells) (.agg s.cells)).run Tryd.prog w = .ok true w := by
  rw [cells_arr]
  exact run_equalIn_refl (P := Tryd.prog) w 9998 26 24 8 .u32 Tryd.underlying26 Tryd.underlying24 (fun w => by kernel_rfl) (fun j => un (s.word j))

theorem arr_byte_all (g : Nat → UInt8) : (arr 64 fun i => (.int .u8 ((g i).toNat : Int) : Value)).all (·.oneCell') = true := arr_all _ _ (fun _ _ => rfl)
/-- What the region of both Presses leaves. -/
structure IChain (W : World) (A X : Nat) (pc pc' B : Array Value) (L : Array Bool) (w : World) : Prop where
  ch : Ch (fun k => k = A ∨ k = X) W w
  x : w.heap[A]? = some (.cells (if lg L 6 = true then pc' else pc) 26)
  y : w.heap[X]? = some (.cells (if lg L 7 = true then pc' else pc) 26)
  b : w.heap[A + 1]? = some (.cells B 22)
  late6 : lg L 6 = true → ∀ j, j < 6 → lg L j = true
  late7 : lg L 7 = true → ∀ j, j < 6 → lg L j = true
  pre5 : lg L 5 = true → lg L 3 = true ∧ lg L 4 = true
section
variable {W : World} {A X : Nat} {pc pc' B : Array Value} {L : Array Bool} {w w' : World}
theorem IChain.val (h : IChain W A X pc pc' B L w) (hs : L.size = 8) (j : Nat) (hj : j < 6) (hc : Ch (fun _ => False) w w') (h5 : j = 5 → lg L 3 = true ∧ lg L 4 = true) : IChain W A X pc pc' B (L.setIfInBounds j true) w' := by
  have l := fun k => lg_set L j k (by omega)
  refine ⟨h.ch.trans (hc.mono (fun _ _ e => e.elim)), ?_, ?_, hc.heap h.b id, fun e k hk => ?_, fun e k hk => ?_, fun e => ?_⟩
  · rw [show lg (L.setIfInBounds j true) 6 = lg L 6 by rw [l, if_neg (by omega)]]; exact hc.heap h.x id
  · rw [show lg (L.setIfInBounds j true) 7 = lg L 7 by rw [l, if_neg (by omega)]]; exact hc.heap h.y id
  · rw [l, if_neg (by omega)] at e; rw [l]; split
    · rfl
    · exact h.late6 e k hk
  · rw [l, if_neg (by omega)] at e; rw [l]; split
    · rfl
    · exact h.late7 e k hk
  · have h34 : lg L 3 = true ∧ lg L 4 = true := by
      by_cases e5 : j = 5
      · exact h5 e5
      · rw [l, if_neg (by omega)] at e; exact h.pre5 e
    rw [l, l]
    exact ⟨by split <;> first | rfl | exact h34.1, by split <;> first | rfl | exact h34.2⟩
theorem IChain.six (h : IChain W A X pc pc' B L w) (hs : L.size = 8) (hAX : A + 1 < X) (hall : ∀ j, j < 6 → lg L j = true) {t : TypeId} (ho : w.heap[A]? = some (.cells pc t)) (ht : t = 26) : IChain W A X pc pc' B (L.setIfInBounds 6 true) (w.setRow A pc') := by
  subst ht
  have l := fun k => lg_set L 6 k (by omega)
  have hc : Ch (fun k => k = A) w (w.setRow A pc') := (Ch.refl (fun k => k = A) w).setRow (fun _ => rfl) _
  refine ⟨h.ch.trans (hc.mono (fun _ _ e => .inl e)), ?_, ?_, hc.heap h.b (by omega), fun _ k hk => ?_, fun e k hk => ?_, fun _ => ⟨?_, ?_⟩⟩
  · rw [l, if_pos rfl, if_pos rfl]; exact heap_setRow ho
  · rw [show lg (L.setIfInBounds 6 true) 7 = lg L 7 by rw [l, if_neg (by omega)]]; exact hc.heap h.y (by omega)
  · rw [l, if_neg (by omega)]; exact hall k hk
  · rw [l, if_neg (by omega)]; exact hall k hk
  · rw [l, if_neg (by omega)]; exact hall 3 (by omega)
  · rw [l, if_neg (by omega)]; exact hall 4 (by omega)
theorem IChain.seven (h : IChain W A X pc pc' B L w) (hs : L.size = 8) (hAX : A + 1 < X) (hall : ∀ j, j < 6 → lg L j = true) {t : TypeId} (ho : w.heap[X]? = some (.cells pc t)) (ht : t = 26) : IChain W A X pc pc' B (L.setIfInBounds 7 true) (w.setRow X pc') := by
  subst ht
  have l := fun k => lg_set L 7 k (by omega)
  have hc : Ch (fun k => k = X) w (w.setRow X pc') := (Ch.refl (fun k => k = X) w).setRow (fun _ => rfl) _
  refine ⟨h.ch.trans (hc.mono (fun _ _ e => .inr e)), ?_, ?_, hc.heap h.b (by omega), fun e k hk => ?_, fun _ k hk => ?_, fun _ => ⟨?_, ?_⟩⟩
  · rw [show lg (L.setIfInBounds 7 true) 6 = lg L 6 by rw [l, if_neg (by omega)]]; exact hc.heap h.x (by omega)
  · rw [l, if_pos rfl, if_pos rfl]; exact heap_setRow ho
  · rw [l, if_neg (by omega)]; exact hall k hk
  · rw [l, if_neg (by omega)]; exact hall k hk
  · rw [l, if_neg (by omega)]; exact hall 3 (by omega)
  · rw [l, if_neg (by omega)]; exact hall 4 (by omega)
theorem IChain.x0 (h : IChain W A X pc pc' B L w) {j : Nat} (hj : j < 6) (hn : lg L j = false) : w.heap[A]? = some (.cells pc 26) ∧ w.heap[X]? = some (.cells pc 26) := by
  have h6 : ¬ lg L 6 = true := fun e => by have := h.late6 e j hj; rw [hn] at this; cases this
  have h7 : ¬ lg L 7 = true := fun e => by have := h.late7 e j hj; rw [hn] at this; cases this
  have hx := h.x; have hy := h.y
  rw [if_neg h6] at hx; rw [if_neg h7] at hy
  exact ⟨hx, hy⟩
end

set_option maxRecDepth 100000 in
set_option maxHeartbeats 1000000 in
theorem chains_out (cs B : Array Value) (x : Int) (w : World) (hK : KAt w) (hx : 12 < x) :
    Calls Tryd.prog 4 #[.agg cs, .agg B, .int .i64 x] w fun e w' => e = .returned (.bool true) ∧ Ch (fun _ => False) w w' := by
  have hw := Go.Lib.hid (fun (W : World) (h : Ch (fun _ => False) w W) => works_any W (hK.ch h id))
  clear hK
  go_enter Tryd.func4, Tryd.ntmps4
  go_wp2_with fail
  refine (hw.out _ (((Ch.refl _ w).alloc _).alloc _)).mono ?_; rintro e w1 ⟨rfl, hw1⟩; have HC := Go.Lib.hid ((((Ch.refl _ w).alloc _).alloc _).trans hw1); clear hw1
  go_wp2_with fail
  go_ret
  exact ⟨rfl, HC.out⟩

set_option maxRecDepth 100000 in
set_option maxHeartbeats 4000000 in
theorem chains_in (s : St) (f : Nat → UInt8) (x : Int) (w : World) (hK : KAt w) (hx : x ≤ 12) :
    Calls Tryd.prog 4 #[.agg s.cells, .agg (arr 64 fun i => .int .u8 ((f i).toNat : Int)), .int .i64 x] w fun e w' => e = .returned (.bool true) ∧ Ch (fun _ => False) w w' := by
  have HK := Go.Lib.hid hK
  clear hK
  have HS1 := Go.Lib.hid (cells_info s); have HS3 := Go.Lib.hid (st_cells_all s); have HS2 := Go.Lib.hid (cells_size s)
  generalize hcs : s.cells = cs at *
  have HCS := Go.Lib.hid hcs
  generalize hB : (arr 64 fun i => Value.int .u8 ((f i).toNat : Int)) = B
  have HB := Go.Lib.hid hB
  clear hB hcs
  go_enter Tryd.func4, Tryd.ntmps4
  go_upto_region 3 with (fail)
  generalize hW0 : World.alloc (World.alloc w _) _ = W0
  have hg0 : W0.heap[w.heap.size]? = some (.cells cs 26) := by
    rw [← hW0]; exact Ch.heap ((Ch.refl (fun _ => False) _).alloc _) (World.alloc_heap_new w _) id
  have hg1 : W0.heap[w.heap.size + 1]? = some (.cells B 22) := by
    rw [← hW0]; rw [← World.size_alloc w]; exact World.alloc_heap_new _ _
  have hc0 : Ch (fun _ => False) w W0 := by rw [← hW0]; exact ((Ch.refl _ w).alloc _).alloc _
  have hs0 : W0.heap.size = w.heap.size + 2 := by rw [← hW0]; simp
  clear hW0
  generalize hA : w.heap.size = A at *
  have HA := Go.Lib.hid hA
  have HG0 := Go.Lib.hid hg0; have HG1 := Go.Lib.hid hg1; have HC0 := Go.Lib.hid hc0; have HS0 := Go.Lib.hid hs0
  clear hA hg0 hg1 hc0 hs0
  go_upto_region 4 with (first | (refine wpList_load_row rfl 26 (.tmp 3) rfl A rfl 26 cs (0, 0) _ HG0.out Tryd.underlying26 rfl HS1.out ?_) | (refine wpList_store_row rfl 26 (.tmp 7) (.tmp 14) rfl W0.heap.size cs rfl rfl 26 (arr 8 fun _ => .int .u32 0) (World.alloc_heap_new W0 _) HS1.out (by rw [arr_size, HS2.out]) HS3.out ?_))
  generalize hW1 : (W0.alloc _).setRow W0.heap.size cs = W1
  have hx1 : W1.heap[W0.heap.size]? = some (.cells cs 26) := by rw [← hW1]; exact heap_setRow (World.alloc_heap_new W0 _)
  have hc1 : Ch (fun _ => False) W0 W1 := by rw [← hW1]; exact ((Ch.refl _ _).alloc _).setRow (fun h => absurd h (Nat.lt_irrefl _)) _
  have HX1 := Go.Lib.hid hx1; have HA1 := Go.Lib.hid (hc1.heap HG0.out id); have HB1 := Go.Lib.hid (hc1.heap HG1.out id); have HC1 := Go.Lib.hid (HC0.out.trans hc1)
  have hAX : A + 1 < W0.heap.size := by have := HS0.out; omega
  clear hW1 hx1 hc1 HG0 HG1 HC0 HS0
  generalize W0.heap.size = X at *
  have HAX := Go.Lib.hid hAX
  clear hAX
  rw [← HCS.out] at HX1 HA1
  rw [← HB.out] at HB1
  go_wp2_with fail
  go_loopw [8, 9, 10] (fun i _ _ wr => ∃ (t : Nat) (T : St) (g : Nat → UInt8), i = .int .i64 t ∧ (t : Int) ≤ 13 ∧ wr.heap[A]? = some (.cells T.cells 26) ∧ wr.heap[X]? = some (.cells T.cells 26) ∧ wr.heap[A + 1]? = some (.cells (arr 64 fun i => .int .u8 ((g i).toNat : Int)) 22) ∧ Ch (fun k => k = A ∨ k = A + 1 ∨ k = X) W1 wr) (fun i _ _ _ => 13 - (intOf i).toNat)
  case atStart => exact ⟨0, s, f, rfl, by omega, HA1.out, HX1.out, HB1.out, Ch.refl _ _⟩
  case round =>
    obtain ⟨t, T, g, rfl, ht, h1, h2, h3, hC⟩ := hrel
    have HH1 := Go.Lib.hid h1; have HH2 := Go.Lib.hid h2; have HH3 := Go.Lib.hid h3; have HC := Go.Lib.hid hC
    clear h1 h2 h3 hC
    have HWW := Go.Lib.hid (show Ch (fun _ => False) w wr from HC1.out.then HC.out (fun i hi h => by have := HA.out; have := HAX.out; omega))
    by_cases hlt : (t : Int) < x
    · have hP13 : ∀ W, KAt W → Calls Tryd.prog 13 #[.agg T.cells, .agg (arr 64 fun i => .int .u8 ((g i).toNat : Int))] W fun e w' => e = .returned (.agg (press1 T (wordOf g 0)).cells) ∧ Ch (fun _ => False) W w' := fun W h => press_any T g W h
      have hP14 : ∀ W, Calls Tryd.prog 14 #[.agg T.cells, .agg (arr 64 fun i => .int .u8 ((g i).toNat : Int))] W fun e w' => e = .returned (.agg (press1 T (wordOf g 0)).cells) ∧ Ch (fun _ => False) W w' := fun W => rpress_any T g W
      have HP13 := Go.Lib.hid hP13; have HP14 := Go.Lib.hid hP14
      clear hP13 hP14
      generalize press1 T (wordOf g 0) = T' at *
      have HT := Go.Lib.hid (fun W => (show Calls Tryd.prog 16 #[.agg T'.cells] W fun e w' => e = .returned (.agg (hv (outB T'))) ∧ Ch (fun _ => False) W w' from told_any T' W))
      have HEQ := Go.Lib.hid (fun W => eq_st T' W)
      have HI1 := Go.Lib.hid (cells_info T); have HI2 := Go.Lib.hid (cells_info T'); have HI3 := Go.Lib.hid (st_cells_all T'); have HI4 := Go.Lib.hid (cells_same T T')
      have HI5 := Go.Lib.hid (show (Tryd.prog.info? 22).map (·.size) = some (arr 64 fun i => (.int .u8 ((g i).toNat : Int) : Value)).size by rw [arr_size]; exact info22)
      generalize hp1 : T.cells = pc at *
      generalize hp2 : T'.cells = pc' at *
      have HP2 := Go.Lib.hid hp2
      generalize hbb : (arr 64 fun i => Value.int .u8 ((g i).toNat : Int)) = Bg at *
      have HBB := Go.Lib.hid hbb
      clear hp1 hp2 hbb
      go_upto_region 7 with (fail)
      refine wp_region_any (by kernel_rfl) ?_
      generalize hwx : ({ wr with drawn := wr.drawn + 1 } : World) = wx
      have hcx : Ch (fun _ => False) wr wx := by rw [← hwx]; exact (Ch.refl _ wr).drew
      have HX1 := Go.Lib.hid (hcx.heap HH1.out id); have HX2 := Go.Lib.hid (hcx.heap HH2.out id); have HX3 := Go.Lib.hid (hcx.heap HH3.out id)
      have HCX := Go.Lib.hid (HC.out.trans (hcx.mono (fun _ _ h => h.elim)))
      have HKX := Go.Lib.hid (HWW.out.trans hcx)
      clear hwx hcx HH1 HH2 HH3 HC HWW
      generalize hax : Act.mk _ _ = ax
      have hsz : ax.tmps.size = 48 := by rw [← hax]; rfl
      have f3 : gt ax 3 = .pointer (some ⟨A, 0, none⟩) := by rw [← hax]; rfl
      have f4 : gt ax 4 = .pointer (some ⟨A + 1, 0, none⟩) := by rw [← hax]; rfl
      have f7 : gt ax 7 = .pointer (some ⟨X, 0, none⟩) := by rw [← hax]; rfl
      have HSZ := Go.Lib.hid hsz; have F3 := Go.Lib.hid f3; have F4 := Go.Lib.hid f4; have F7 := Go.Lib.hid f7; have HAXE := Go.Lib.hid hax
      clear hsz f3 f4 f7 hax
      refine wpAny_inv (InvG 8 20 6 48 (IChain wx A X pc pc' Bg) ax (fun j => match j with | 0 => .agg pc | 1 => .agg Bg | 2 => .agg pc' | 3 => .agg pc | 4 => .agg Bg | _ => .agg pc')) ?_ ?_ _ _ _ _ rfl (by decide) (InvG.start HSZ.out ⟨Ch.refl _ _, by rw [if_neg (fun e => lg_none _ _ e)]; exact HX1.out, by rw [if_neg (fun e => lg_none _ _ e)]; exact HX2.out, HX3.out, fun e => (lg_none _ _ e).elim, fun e => (lg_none _ _ e).elim, fun e => (lg_none _ _ e).elim⟩)
      · intro L a w' i hI hr
        obtain ⟨h1, o, ho, hall⟩ := mem_ready.1 hr
        have hlt : i < 8 := (Array.getElem?_eq_some_iff.1 ho).1
        have hls := hI.lsize
        have hun : lg L i = false := by
          have h2 : i < L.size := by omega
          unfold lg; simp [h2] at h1 ⊢; exact h1
        have hsplit : i = 0 ∨ i = 1 ∨ i = 2 ∨ i = 3 ∨ i = 4 ∨ i = 5 ∨ i = 6 ∨ i = 7 := by omega
        clear hlt h1 hr
        rcases hsplit with rfl | rfl | rfl | rfl | rfl | rfl | rfl | rfl
        · refine wpOp_step (o := _) rfl (fun K' hK' => ?_)
          have f := (hI.fixed 3 (by omega)).trans F3.out
          have hb := (hI.wld.x0 (by omega) hun).1
          unfold gt at f
          exact wp_load_row 26 (.tmp 3) rfl A (by simpa [Act.eval] using f) 26 pc (0, 0) _ hb Tryd.underlying26 rfl HI1.out (hK' _ _ (hI.put 0 (by omega) (by omega) (by omega) (hI.wld.val hls 0 (by omega) (Ch.refl _ _) (fun h => by omega))))
        · refine wpOp_step (o := _) rfl (fun K' hK' => ?_)
          have f := (hI.fixed 4 (by omega)).trans F4.out
          have hb := hI.wld.b
          unfold gt at f
          exact wp_load_row 22 (.tmp 4) rfl (A + 1) (by simpa [Act.eval] using f) 22 Bg (0, 0) _ hb Tryd.underlying22 rfl HI5.out (hK' _ _ (hI.put 1 (by omega) (by omega) (by omega) (hI.wld.val hls 1 (by omega) (Ch.refl _ _) (fun h => by omega))))
        · refine wpOp_step (o := _) rfl (fun K' hK' => ?_)
          simp at ho
          have e := hall ⟨0, .data⟩ (by rw [← ho]; simp) rfl
          have e1 := hall ⟨1, .data⟩ (by rw [← ho]; simp) rfl
          have f := hI.val 0 (by omega) (by unfold lg; simpa using e)
          have f1 := hI.val 1 (by omega) (by unfold lg; simpa using e1)
          unfold gt at f f1
          clear ho hall
          have HCT := Go.Lib.hid (HP13.out w' (HK.out.ch (HKX.out.then hI.wld.ch (fun i hi h => by have := HA.out; have := HAX.out; omega)) id))
          go_simp
          refine HCT.out.mono ?_
          rintro e w3 ⟨rfl, hc⟩
          exact hK' _ _ (hI.put 2 (by omega) (by omega) (by omega) (hI.wld.val hls 2 (by omega) hc (fun h => by omega)))
        · refine wpOp_step (o := _) rfl (fun K' hK' => ?_)
          have f := (hI.fixed 7 (by omega)).trans F7.out
          have hb := (hI.wld.x0 (by omega) hun).2
          unfold gt at f
          exact wp_load_row 26 (.tmp 7) rfl X (by simpa [Act.eval] using f) 26 pc (0, 0) _ hb Tryd.underlying26 rfl HI1.out (hK' _ _ (hI.put 3 (by omega) (by omega) (by omega) (hI.wld.val hls 3 (by omega) (Ch.refl _ _) (fun h => by omega))))
        · refine wpOp_step (o := _) rfl (fun K' hK' => ?_)
          have f := (hI.fixed 4 (by omega)).trans F4.out
          have hb := hI.wld.b
          unfold gt at f
          exact wp_load_row 22 (.tmp 4) rfl (A + 1) (by simpa [Act.eval] using f) 22 Bg (0, 0) _ hb Tryd.underlying22 rfl HI5.out (hK' _ _ (hI.put 4 (by omega) (by omega) (by omega) (hI.wld.val hls 4 (by omega) (Ch.refl _ _) (fun h => by omega))))
        · refine wpOp_step (o := _) rfl (fun K' hK' => ?_)
          simp at ho
          have e := hall ⟨3, .data⟩ (by rw [← ho]; simp) rfl
          have e1 := hall ⟨4, .data⟩ (by rw [← ho]; simp) rfl
          have l3 : lg L 3 = true := by unfold lg; simpa using e
          have l4 : lg L 4 = true := by unfold lg; simpa using e1
          have f := hI.val 3 (by omega) l3
          have f1 := hI.val 4 (by omega) l4
          unfold gt at f f1
          clear ho hall
          have HCT := Go.Lib.hid (HP14.out w')
          go_simp
          refine HCT.out.mono ?_
          rintro e w3 ⟨rfl, hc⟩
          exact hK' _ _ (hI.put 5 (by omega) (by omega) (by omega) (hI.wld.val hls 5 (by omega) hc (fun _ => ⟨l3, l4⟩)))
        · refine wpOp_step (o := _) rfl (fun K' hK' => ?_)
          simp at ho
          have e0 : lg L 0 = true := by unfold lg; simpa using hall ⟨0, .phase⟩ (by rw [← ho]; simp) rfl
          have e1 : lg L 1 = true := by unfold lg; simpa using hall ⟨1, .phase⟩ (by rw [← ho]; simp) rfl
          have e2 : lg L 2 = true := by unfold lg; simpa using hall ⟨2, .phase⟩ (by rw [← ho]; simp) rfl
          have e5 : lg L 5 = true := by unfold lg; simpa using hall ⟨5, .chain⟩ (by rw [← ho]; simp) rfl
          obtain ⟨e3, e4⟩ := hI.wld.pre5 e5
          have hal : ∀ k, k < 6 → lg L k = true := fun k hk => by
            match k, hk with | 0, _ => exact e0 | 1, _ => exact e1 | 2, _ => exact e2 | 3, _ => exact e3 | 4, _ => exact e4 | 5, _ => exact e5
          have fp := (hI.fixed 3 (by omega)).trans F3.out
          have fv := hI.val 2 (by omega) e2
          have hb := hI.wld.x
          rw [hun, if_neg (by simp)] at hb
          unfold gt at fp fv
          clear ho hall
          exact wp_store_row 26 (.tmp 3) (.tmp 22) rfl A pc' (by simpa [Act.eval] using fp) (by simpa [Act.eval] using fv) 26 pc hb HI2.out HI4.out HI3.out (hK' _ _ (hI.skip 6 (by omega) (by omega) (hI.wld.six hls HAX.out hal hb rfl)))
        · refine wpOp_step (o := _) rfl (fun K' hK' => ?_)
          simp at ho
          have e0 : lg L 0 = true := by unfold lg; simpa using hall ⟨0, .phase⟩ (by rw [← ho]; simp) rfl
          have e1 : lg L 1 = true := by unfold lg; simpa using hall ⟨1, .phase⟩ (by rw [← ho]; simp) rfl
          have e2 : lg L 2 = true := by unfold lg; simpa using hall ⟨2, .phase⟩ (by rw [← ho]; simp) rfl
          have e3 : lg L 3 = true := by unfold lg; simpa using hall ⟨3, .phase⟩ (by rw [← ho]; simp) rfl
          have e4 : lg L 4 = true := by unfold lg; simpa using hall ⟨4, .phase⟩ (by rw [← ho]; simp) rfl
          have e5 : lg L 5 = true := by unfold lg; simpa using hall ⟨5, .phase⟩ (by rw [← ho]; simp) rfl
          have hal : ∀ k, k < 6 → lg L k = true := fun k hk => by
            match k, hk with | 0, _ => exact e0 | 1, _ => exact e1 | 2, _ => exact e2 | 3, _ => exact e3 | 4, _ => exact e4 | 5, _ => exact e5
          have fp := (hI.fixed 7 (by omega)).trans F7.out
          have fv := hI.val 5 (by omega) e5
          have hb := hI.wld.y
          rw [hun, if_neg (by simp)] at hb
          unfold gt at fp fv
          clear ho hall
          exact wp_store_row 26 (.tmp 7) (.tmp 25) rfl X pc' (by simpa [Act.eval] using fp) (by simpa [Act.eval] using fv) 26 pc hb HI2.out HI4.out HI3.out (hK' _ _ (hI.skip 7 (by omega) (by omega) (hI.wld.seven hls HAX.out hal hb rfl)))
      · intro L a w' hI hr
        have hal := all_listed' (md := .any) (by kernel_rfl) hI.lsize hr
        have hfr := hI.frame HSZ.out (by omega) (fun i hi => hal i (Nat.lt_of_lt_of_le hi (by decide)))
        rw [hfr, ← HAXE.out]
        have HWL := Go.Lib.hid hI.wld
        have h6 : lg L 6 = true := hal 6 (by decide)
        have h7 : lg L 7 = true := hal 7 (by decide)
        have hxa := hI.wld.x; have hya := hI.wld.y
        rw [if_pos h6] at hxa; rw [if_pos h7] at hya
        have HXA := Go.Lib.hid hxa; have HYA := Go.Lib.hid hya; have HBA := Go.Lib.hid hI.wld.b
        have HCA := Go.Lib.hid (HCX.out.trans (hI.wld.ch.mono (fun _ _ h => h.elim .inl (fun h => .inr (.inr h)))))
        have HWA := Go.Lib.hid (show Ch (fun _ => False) w w' from HKX.out.then hI.wld.ch (fun i hi h => by have := HA.out; have := HAX.out; omega))
        clear hfr hI hr hal HWL h6 h7 hxa hya HX1 HX2 HX3 HCX HKX F3 F4 F7 HAXE HSZ HP13 HP14
        simp only [sets, Nat.reduceAdd, List.setIfInBounds_toArray, List.set_cons_succ, List.set_cons_zero]
        have hvi := hv_info (outB T'); have hva := hv_all (outB T')
        have hvg : ∀ j, j < 32 → (hv (outB T'))[j]? = some (.int .u8 ((outB T' j).toNat : Int)) := fun j hj => arr_get 32 _ j hj
        have hvs : (arr 32 fun _ => (.int .u8 0 : Value)).size = (hv (outB T')).size := by rw [arr_size]; exact (arr_size _ _).symm
        have HV1 := Go.Lib.hid hvi; have HV2 := Go.Lib.hid hva; have HV3 := Go.Lib.hid hvg; have HV4 := Go.Lib.hid hvs
        clear hvi hva hvg hvs
        generalize outB T' = hb at *
        generalize hv hb = R at *
        go_upto_region 10 with (first | (refine wpList_neq_wanted rfl (.tmp 26) (.tmp 27) 26 26 rfl pc' pc' rfl rfl eqg26 (HEQ.out _) ?_) | (refine wpList_load_row rfl 26 (.tmp 3) rfl A rfl 26 pc' (0, 0) _ HXA.out Tryd.underlying26 rfl HI2.out ?_) | (refine wpList_load_row rfl 26 (.tmp 7) rfl X rfl 26 pc' (0, 0) _ HYA.out Tryd.underlying26 rfl HI2.out ?_))
        clear HEQ
        go_wp2_with (refine wpList_load_row rfl 26 (.tmp 7) rfl X rfl 26 pc' (0, 0) _ HYA.out Tryd.underlying26 rfl HI2.out ?_)
        refine (HT.out _).mono ?_; rintro e w3 ⟨rfl, hw3⟩
        have HX3 := Go.Lib.hid (hw3.heap HXA.out id); have HY3 := Go.Lib.hid (hw3.heap HYA.out id); have HB3 := Go.Lib.hid (hw3.heap HBA.out id)
        have HC3 := Go.Lib.hid (HCA.out.trans (hw3.mono (fun _ _ h => h.elim))); have HW3 := Go.Lib.hid (HWA.out.trans hw3)
        clear hw3 HT HXA HYA HBA HCA HWA
        go_upto_region 11 with (refine wpList_store_row rfl 31 (.tmp 9) (.tmp 30) rfl w3.heap.size R rfl rfl 31 (arr 32 fun _ => .int .u8 0) (World.alloc_heap_new w3 _) HV1.out HV4.out HV2.out ?_)
        generalize hW4 : (w3.alloc _).setRow w3.heap.size R = W4
        have hr4 : W4.heap[w3.heap.size]? = some (.cells R 31) := by rw [← hW4]; exact heap_setRow (World.alloc_heap_new w3 _)
        have hc4 : Ch (fun _ => False) w3 W4 := by rw [← hW4]; exact ((Ch.refl _ _).alloc _).setRow (fun h => absurd h (Nat.lt_irrefl _)) _
        have hbx : A + 1 < w3.heap.size := (Array.getElem?_eq_some_iff.1 HB3.out).1
        have HR4 := Go.Lib.hid hr4
        have HX4 := Go.Lib.hid (hc4.heap HX3.out id); have HY4 := Go.Lib.hid (hc4.heap HY3.out id); have HB4 := Go.Lib.hid (hc4.heap HB3.out id)
        have HC4 := Go.Lib.hid (HC3.out.trans (hc4.mono (fun _ _ h => h.elim))); have HW4 := Go.Lib.hid (HW3.out.trans hc4)
        clear hW4 hr4 hc4 HX3 HY3 HB3 HC3 HW3
        generalize w3.heap.size = Hb at *
        have HHB := Go.Lib.hid hbx
        clear hbx
        rw [← HBB.out] at HB4
        go_wp2_with fail
        go_loopw [10] (fun k wz => ∃ (q : Nat) (g' : Nat → UInt8), q ≤ 64 ∧ k = .int .i64 q ∧ wz.heap[A + 1]? = some (.cells (arr 64 fun i => .int .u8 ((g' i).toNat : Int)) 22) ∧ Ch (fun i => i = A + 1) W4 wz) (fun k _ => 64 - (intOf k).toNat)
        case atStart => exact ⟨0, g, by omega, rfl, HB4.out, Ch.refl _ _⟩
        case round =>
          obtain ⟨q, g', hq, rfl, hb1, hCz⟩ := hrel
          have HBz := Go.Lib.hid hb1; have HCz := Go.Lib.hid hCz
          clear hb1 hCz
          by_cases hlq : q < 64
          · have cB : wr.cell? ⟨A + 1, q, none⟩ = some (.int .u8 ((g' q).toNat : Int)) := (cell_of_heap HBz.out q).trans (arr_get _ _ _ hlq)
            have cR : wr.cell? ⟨Hb, (q + t) % 32, none⟩ = some (.int .u8 ((hb ((q + t) % 32)).toNat : Int)) := (cell_of_heap (HCz.out.heap HR4.out (by have := HHB.out; omega)) _).trans (HV3.out _ (by omega))
            have hqi : (q : Int) < 64 := by omega
            obtain ⟨cc, hcc⟩ := xor_byte ((g' q).toNat : Int) ((hb ((q + t) % 32)).toNat : Int)
            have HCC := Go.Lib.hid hcc
            clear hcc
            have e1 : IntKind.i64.wrap ((q : Int) + (t : Int)) = ((q + t : Nat) : Int) := by simp [IntKind.wrap, IntKind.bits, IntKind.signed]; omega
            have e2 : ((q + t : Nat) : Int).tmod 32 = (((q + t) % 32 : Nat) : Int) := by rw [Int.tmod_eq_emod_of_nonneg (by omega)]; omega
            have e3 : (((q + t) % 32 : Nat) : Int) < 32 := by omega
            generalize (q + t) % 32 = vv at *
            generalize q + t = uu at *
            go_upto_region 14 with (fail)
            refine wp_region_quiet_tail 12 (by kernel_rfl) (by kernel_rfl) ?_
            simp only [List.take_succ_cons, List.take_zero, List.drop_succ_cons, List.drop_zero]
            repeat (quiet_step (fail))
            refine wpQuiet_nil ?_
            intro _ hw'
            obtain ⟨q1, rfl⟩ := hw'
            have cB1 : (wr.drewN q1).cell? ⟨A + 1, q, none⟩ = some (.int .u8 ((g' q).toNat : Int)) := cB
            have fB1 : (wr.drewN q1).frozen? ⟨A + 1, q, none⟩ = false := frozen_of_heap HBz.out q
            clear cB cR
            go_wp2_with fail
            go_roundw
            case rel =>
              refine ⟨q + 1, fun j => if j = q then cc else g' j, by omega, by go_num, ?_, ?_⟩
              · refine (heap_set (show (wr.drewN q1).heap[A + 1]? = some (.cells (arr 64 fun i => .int .u8 ((g' i).toNat : Int)) 22) from HBz.out) q _).trans ?_
                rw [HCC.out]
                congr 2
                exact arr_congr (fun j hj => by
                  by_cases e : j = q
                  · subst e; simp
                  · simp [e])
              · exact Ch.setCell (S := fun i => i = A + 1) (HCz.out.drewN q1) (p := ⟨A + 1, q, none⟩) (fun _ => rfl) _
            case measure => simp [intOf]; omega
          · obtain rfl : q = 64 := by omega
            have HF1 := Go.Lib.hid (HCz.out.heap HX4.out (by omega)); have HF2 := Go.Lib.hid (HCz.out.heap HY4.out (by have := HAX.out; omega))
            have HF3 := Go.Lib.hid (HC4.out.trans (HCz.out.mono (fun _ _ h => .inr (.inl h))))
            have HPE := Go.Lib.hid HP2.out
            clear hlq
            go_wp2_with fail
            go_roundw
            case rel => exact ⟨t + 1, T', g', by go_num, by omega, by rw [HPE.out]; exact HF1.out, by rw [HPE.out]; exact HF2.out, HBz.out, HF3.out⟩
            case measure => simp [intOf]; omega
    · have hw := Go.Lib.hid (works_any wr (HK.out.ch HWW.out id))
      go_wp2_with fail
      refine hw.out.mono ?_; rintro e w2 ⟨rfl, hw2⟩; have HC2 := Go.Lib.hid (HWW.out.trans hw2); clear hw2
      go_wp2_with fail
      go_ret
      exact ⟨rfl, HC2.out⟩
end Go.Proofs.YtdmeeghgbiffmaaDoor
