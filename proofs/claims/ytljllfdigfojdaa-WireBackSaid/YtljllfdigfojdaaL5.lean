/- The law's lay: bad numbers, texts; all calls. -/
import Derived.Test.YtljllfdigfojdaaL4
namespace Go.Proofs.Ytljllfdigfojdaa
open Go Go.RowKit

theorem BytesAt.congr {w : World} {p : Option Addr} {n c : Nat} {f g : Nat → UInt8} (h : BytesAt w p n c f) (e : ∀ j, j < n → f j = g j) : BytesAt w p n c g :=
  h.imp (fun ⟨x, y, h1, h2, h3, h4⟩ => ⟨x, y, h1, h2, h3, fun j hj => e j hj ▸ h4 j hj⟩) id
set_option maxRecDepth 100000 in
set_option maxHeartbeats 2000000 in
theorem lay_bad (b k B : Nat) (v : Value) (F G : Nat → UInt8) (zp : Option Addr) (zN zC : Nat) (bp : Option Addr) (bN bC : Nat) (hp : Option Addr) (hN hC : Nat) (s : ByteArray) (w : World) (hw : WrAt w b v k F) (hB : B ≤ b)
    (z : Nat → Int) (hz : (∃ a o, zp = some ⟨a, o, none⟩ ∧ a < B ∧ ∀ i, i < zN → w.cell? ⟨a, o + i, none⟩ = some (.int .i64 (z i))) ∨ zN = 0) (hN10 : zN ≤ 10) (hbad : ∃ i, i < zN ∧ ¬ goodN (z i)) :
    Calls Try.prog 12 #[.pointer (some ⟨b, 0, none⟩), .agg #[.int .i64 0, .slice zp zN zC, .slice bp bN bC, .slice hp hN hC, .string s]] w fun e w' => ∃ v' q c, e = .returned (.tuple #[.int .i64 2, .slice q 0 c, .int .i64 2]) ∧ WrAt w' b v' k F ∧ Gb b w w' v v' ∧ BytesAt w' q 0 c G := by
  obtain ⟨CS, hCS⟩ : ∃ CS, (#[.int .i64 0, .slice zp zN zC, .slice bp bN bC, .slice hp hN hC, .string s] : Array Value) = CS := ⟨_, rfl⟩
  have hx1 := (Ch.refl (fun _ => False) w).alloc (.cells CS 35)
  obtain ⟨a, o, hsp, hP, ha, hva, hav⟩ := hw.away hB hz
  have hw1 := hw.ch hx1 id (fun _ _ => id)
  have HN := Go.Lib.hid (number_bad b a o zN zC k zp v F z (w.alloc (.cells CS 35)) hsp hw1 (fun i hi => hx1.get (hP.resolve_left (by omega) i hi) id) hbad (by omega))
  have HR := Go.Lib.hid (right_any a o zN zC zp z (w.alloc (.cells CS 35)) hsp (fun i hi => hx1.get (hP.resolve_left (by omega) i hi) id) (by omega))
  have HBAD := Go.Lib.hid hbad
  subst hCS
  have HW1 := Go.Lib.hid hw1; have HG1 := Go.Lib.hid (show Gb b w (w.alloc (.cells #[.int .i64 0, .slice zp zN zC, .slice bp bN bC, .slice hp hN hC, .string s] 35)) v v from ⟨(Ch.refl _ w).alloc _, fun _ h => .inl h⟩)
  clear hw hz hx1 hw1 hP ha hva hsp hav hbad
  go_enter Try.func12, Try.ntmps12
  go_wp2_with (first
    | (go_at_call 15; refine HN.out.mono ?_; rintro e w' ⟨rfl, rfl⟩)
    | (go_at_call 27; refine HR.out.mono ?_; rintro e w' ⟨rfl, hh⟩; obtain rfl : e = .returned (.bool false) := by
        { rcases hh with ⟨_, h1⟩ | ⟨h1, _⟩
          · obtain ⟨i, hi, h2⟩ := HBAD.out
            exact (h2 (h1 i hi)).elim
          · exact h1 }))
  refine bodyPost_ret (v := .tuple #[.int .i64 2, .slice none 0 0, .int .i64 2]) (by simp [results, Try.results12, go_sem]) rfl ⟨v, none, 0, rfl, HW1.out, HG1.out, .inr ⟨rfl, fun _ => rfl⟩⟩
/-- What a call of the writer leaves. -/
structure TxtK (u w0 : World) (b k : Nat) (F : Nat → UInt8) (v x : Value) : Prop where
  w : WrAt u b x k F
  g : Gb b w0 u v x
theorem TxtK.ch {T : Nat → Prop} {u u2 w0 : World} {b k : Nat} {F : Nat → UInt8} {v x : Value} (h : TxtK u w0 b k F v x) (hc : Ch T u u2) (ht : ∀ q : Nat, True → T q → False) : TxtK u2 w0 b k F v x :=
  ⟨h.w.ch hc (fun e => ht b trivial e) (fun q _ e => ht q trivial e), ⟨h.g.ch.then hc (fun i _ e => (ht i trivial e).elim), h.g.own⟩⟩
/-- As I6, and operation m comes up behind j. -/
structure I7 (O : Nat → Prop) (j m : Nat) (w0 : World) (L : Array Bool) (w' : World) : Prop where
  a : lg L j = false → Ch (fun _ => False) w0 w'
  b : Ch O w0 w'
  o : lg L m = true → lg L j = true
theorem I7.start {O : Nat → Prop} {j m : Nat} {w0 w' : World} {n : Nat} (h : Ch (fun _ => False) w0 w') : I7 O j m w0 (Array.replicate n false) w' := ⟨fun _ => h, h.mono (fun _ _ e => e.elim), fun e => (lg_none' _ _ e).elim⟩
theorem I7.step {O : Nat → Prop} {j m i : Nat} {w0 w' w2 : World} {L : Array Bool} (h : I7 O j m w0 L w') (hi : i < L.size) (hij : j ≠ i) (him : m ≠ i) (hc : Ch (fun _ => False) w' w2) : I7 O j m w0 (L.setIfInBounds i true) w2 :=
  ⟨fun e => (h.a (by rw [lg_set L i j hi, if_neg hij] at e; exact e)).trans hc, h.b.then hc (fun _ _ e => e.elim), fun e => by rw [lg_set L i m hi, if_neg him] at e; rw [lg_set L i j hi, if_neg hij]; exact h.o e⟩
theorem I7.last {O : Nat → Prop} {j m : Nat} {w0 w' w2 : World} {L : Array Bool} (h : I7 O j m w0 L w') (hm : m < L.size) (e : lg L j = true) (hjm : j ≠ m) (hc : Ch (fun _ => False) w' w2) : I7 O j m w0 (L.setIfInBounds m true) w2 :=
  ⟨fun e2 => (by rw [lg_set L m j hm, if_neg hjm, e] at e2; cases e2), h.b.then hc (fun _ _ e => e.elim), fun _ => by rw [lg_set L m j hm, if_neg hjm]; exact e⟩
theorem I7.call {O : Nat → Prop} {j m : Nat} {w0 w' w2 : World} {L : Array Bool} (h : I7 O j m w0 L w') (hj : j < L.size) (hc : Ch O w' w2) : I7 O j m w0 (L.setIfInBounds j true) w2 :=
  ⟨fun e => (by rw [lg_set L j j hj, if_pos rfl] at e; cases e), h.b.trans hc, fun _ => by rw [lg_set L j j hj, if_pos rfl]⟩
set_option maxRecDepth 100000 in
set_option maxHeartbeats 2000000 in
theorem lay_text (b k B : Nat) (v : Value) (F : Nat → UInt8) (what : Int) (zp : Option Addr) (zN zC : Nat) (bp : Option Addr) (bN bC : Nat) (hp : Option Addr) (hN hC : Nat) (s : ByteArray) (w : World) (hw : WrAt w b v k F) (hk : k ≤ 100000000)
    (hs : s.size ≤ 200) (h0 : what ≠ 0) (h1 : what ≠ 1) (h2 : what ≠ 2) (hFG : ∀ j, j < textL s → F (k + j) = textB s j) :
    Calls Try.prog 12 #[.pointer (some ⟨b, 0, none⟩), .agg #[.int .i64 what, .slice zp zN zC, .slice bp bN bC, .slice hp hN hC, .string s]] w fun e w' => ∃ v' q c, e = .returned (.tuple #[.int .i64 0, .slice q (textL s) c, .int .i64 0]) ∧ WrAt w' b v' (k + textL s) F ∧ Gb b w w' v v' ∧ BytesAt w' q (textL s) c (textB s) := by
  have hbw := row_lt hw.row
  have HW0' := Go.Lib.hid (hw.ch ((Ch.refl (fun _ => False) w).alloc (.cells #[.int .i64 what, .slice zp zN zC, .slice bp bN bC, .slice hp hN hC, .string s] 35)) id (fun _ _ => id))
  have HX := Go.Lib.hid (World.alloc_heap_new w (.cells #[.int .i64 what, .slice zp zN zC, .slice bp bN bC, .slice hp hN hC, .string s] 35))
  have HC0 := Go.Lib.hid ((Ch.refl (fun _ => False) w).alloc (.cells #[.int .i64 what, .slice zp zN zC, .slice bp bN bC, .slice hp hN hC, .string s] 35))
  have HNX' := Go.Lib.hid (show ¬ (w.heap.size = b ∨ v.ownBlock = some w.heap.size) from by
    rintro (e | e)
    · omega
    · have := (hw.own.lt _ e).2; omega)
  have HFG := Go.Lib.hid hFG
  clear hw hbw hFG
  go_enter Try.func12, Try.ntmps12
  go_upto_region 26 with fail
  generalize w.alloc (.cells #[.int .i64 what, .slice zp zN zC, .slice bp bN bC, .slice hp hN hC, .string s] 35) = w0 at *
  generalize w.heap.size = bx at *
  have HW0 := Go.Lib.hid HW0'.out; have HNX := Go.Lib.hid HNX'.out
  have HC4 := Go.Lib.hid (show w0.cell? ⟨bx, 4, none⟩ = some (.string s) from (cell_of_heap HX.out 4).trans rfl)
  clear HW0' HNX'
  generalize hax : Act.mk _ _ = ax
  have HSZ := Go.Lib.hid (show ax.tmps.size = 96 by rw [← hax]; rfl)
  have F0 := Go.Lib.hid (show gt ax 0 = .pointer (some ⟨b, 0, none⟩) by rw [← hax]; rfl)
  have F3 := Go.Lib.hid (show gt ax 3 = .pointer (some ⟨bx, 0, none⟩) by rw [← hax]; rfl)
  have HAX := Go.Lib.hid hax
  clear hax
  have HND := Go.Lib.hid (show ([89, 90, 91, 92, 93, 94, 95] : List Nat).Nodup by decide)
  have HLS : Hid (Lasts [(89, fun x _ => x = .pointer (some ⟨b, 0, none⟩)), (90, fun x _ => x = .pointer (some ⟨bx, 4, none⟩)), (91, fun x _ => x = .string s), (92, fun x u => ∃ (g : Value) (c : Nat), x = .int .i64 0 ∧ TxtK u w0 b (k + textL s) F v g), (93, fun x _ => x = .pointer (some ⟨bx, 4, none⟩)), (94, fun x _ => x = .string s), (95, fun x u => ∃ (g : Option Addr) (c : Nat), x = .slice g (textL s) c ∧ BytesAt u g (textL s) c (textB s))]) := Go.Lib.hid (by
    intro p hp v w1 w2 hc h
    simp only [List.mem_cons, List.not_mem_nil, or_false] at hp
    rcases hp with rfl | rfl | rfl | rfl | rfl | rfl | rfl
    all_goals first | exact h | (obtain ⟨g, h1, h2⟩ := h; exact ⟨g, h1, hc.heap h2 id⟩) | (obtain ⟨g, c, h1, h2⟩ := h; exact ⟨g, c, h1, h2.ch hc (fun _ _ h => h)⟩))
  refine wp_region_open_tail 7 (InvQ 96 [(89, fun x _ => x = .pointer (some ⟨b, 0, none⟩)), (90, fun x _ => x = .pointer (some ⟨bx, 4, none⟩)), (91, fun x _ => x = .string s), (92, fun x u => ∃ (g : Value) (c : Nat), x = .int .i64 0 ∧ TxtK u w0 b (k + textL s) F v g), (93, fun x _ => x = .pointer (some ⟨bx, 4, none⟩)), (94, fun x _ => x = .string s), (95, fun x u => ∃ (g : Option Addr) (c : Nat), x = .slice g (textL s) c ∧ BytesAt u g (textL s) c (textB s))] (fun L w' => I7 (fun q => q = b ∨ v.ownBlock = some q) 3 6 w0 L w') ax) (by kernel_rfl) (by kernel_rfl) (InvQ.start (by simp) HSZ.out (I7.start (Ch.refl _ _).drew)) ?_ ?_
  · intro L a w' i hI hr hlt
    obtain ⟨h1, o, ho, hall⟩ := mem_ready.1 hr
    have hun : lg L i = false := by
      have h2 : i < L.size := Nat.lt_of_lt_of_le hlt hI.lsize
      unfold lg; simp [h2] at h1 ⊢; exact h1
    have hsplit : i = 0 ∨ i = 1 ∨ i = 2 ∨ i = 3 ∨ i = 4 ∨ i = 5 ∨ i = 6 := by omega
    clear hlt h1 hr
    rcases hsplit with rfl | rfl | rfl | rfl | rfl | rfl | rfl
    · have q0 := (hI.fixed 0 (by simp)).trans F0.out
      unfold gt at q0
      clear hall
      refine wpOp_step (o := _) rfl (fun K' hK' => ?_)
      go_simp
      exact hK' _ _ (hI.put 0 rfl (by decide) HND.out HLS.out (Ch.refl _ _) rfl (hI.wld.step (Nat.lt_of_lt_of_le (show _ < 7 by decide) hI.lsize) (by decide) (by decide) (Ch.refl _ _)))
    · have q3 := (hI.fixed 3 (by simp)).trans F3.out
      unfold gt at q3
      clear hall
      refine wpOp_step (o := _) rfl (fun K' hK' => ?_)
      go_simp
      exact hK' _ _ (hI.put 1 rfl (by decide) HND.out HLS.out (Ch.refl _ _) rfl (hI.wld.step (Nat.lt_of_lt_of_le (show _ < 7 by decide) hI.lsize) (by decide) (by decide) (Ch.refl _ _)))
    · simp at ho
      have e1 : lg L 1 = true := by unfold lg; simpa using hall ⟨1, .data⟩ (by rw [← ho]; simp) rfl
      have f1 : gt a 90 = .pointer (some ⟨bx, 4, none⟩) := hI.val 1 _ rfl e1
      have hcl := hI.wld.b.get HC4.out HNX.out
      unfold gt at f1
      clear hall
      clear ho
      refine wpOp_step (o := _) rfl (fun K' hK' => ?_)
      go_simp
      exact hK' _ _ (hI.put 2 rfl (by decide) HND.out HLS.out (Ch.refl _ _) rfl (hI.wld.step (Nat.lt_of_lt_of_le (show _ < 7 by decide) hI.lsize) (by decide) (by decide) (Ch.refl _ _)))
    · simp at ho
      have e0 : lg L 0 = true := by unfold lg; simpa using hall ⟨0, .data⟩ (by rw [← ho]; simp) rfl
      have f0 : gt a 89 = .pointer (some ⟨b, 0, none⟩) := hI.val 0 _ rfl e0
      have e2 : lg L 2 = true := by unfold lg; simpa using hall ⟨2, .data⟩ (by rw [← ho]; simp) rfl
      have f2 : gt a 91 = .string s := hI.val 2 _ rfl e2
      unfold gt at f0 f2
      clear hall
      clear ho
      have hq := hI.wld.a hun
      have HCT := Go.Lib.hid (wText_ok b k v F s w' (HW0.out.ch hq id (fun _ _ => id)) (by omega) (by omega) HFG.out)
      refine wpOp_step (o := _) rfl (fun K' hK' => ?_)
      go_simp
      refine HCT.out.mono ?_
      rintro e w3 ⟨rfl, v3, hw3, hg3⟩
      exact hK' _ _ (hI.putX 3 rfl (by decide) HND.out (fun k p hp hk hl h => by
        have hk8 : k < 7 := (List.getElem?_eq_some_iff.1 hp).1
        obtain rfl | rfl | rfl | rfl | rfl | rfl | rfl : k = 0 ∨ k = 1 ∨ k = 2 ∨ k = 3 ∨ k = 4 ∨ k = 5 ∨ k = 6 := by omega
        all_goals first
          | exact absurd rfl hk
          | (cases hp; exact h)
          | (exfalso; have e3 := hI.wld.o hl; rw [hun] at e3; cases e3)) ⟨v3, 0, rfl, ⟨hw3, ⟨(hq.mono (fun _ _ h => h.elim)).trans hg3.ch, fun g e => (hg3.own g e).imp id (fun h => Nat.le_trans hq.size h)⟩⟩⟩ (hI.wld.call (Nat.lt_of_lt_of_le (show _ < 7 by decide) hI.lsize) hg3.ch))
    · have q3 := (hI.fixed 3 (by simp)).trans F3.out
      unfold gt at q3
      clear hall
      refine wpOp_step (o := _) rfl (fun K' hK' => ?_)
      go_simp
      exact hK' _ _ (hI.put 4 rfl (by decide) HND.out HLS.out (Ch.refl _ _) rfl (hI.wld.step (Nat.lt_of_lt_of_le (show _ < 7 by decide) hI.lsize) (by decide) (by decide) (Ch.refl _ _)))
    · simp at ho
      have e4 : lg L 4 = true := by unfold lg; simpa using hall ⟨4, .data⟩ (by rw [← ho]; simp) rfl
      have f4 : gt a 93 = .pointer (some ⟨bx, 4, none⟩) := hI.val 4 _ rfl e4
      have hcl := hI.wld.b.get HC4.out HNX.out
      unfold gt at f4
      clear hall
      clear ho
      refine wpOp_step (o := _) rfl (fun K' hK' => ?_)
      go_simp
      exact hK' _ _ (hI.put 5 rfl (by decide) HND.out HLS.out (Ch.refl _ _) rfl (hI.wld.step (Nat.lt_of_lt_of_le (show _ < 7 by decide) hI.lsize) (by decide) (by decide) (Ch.refl _ _)))
    · simp at ho
      have e5 : lg L 5 = true := by unfold lg; simpa using hall ⟨5, .data⟩ (by rw [← ho]; simp) rfl
      have f5 : gt a 94 = .string s := hI.val 5 _ rfl e5
      have e3 : lg L 3 = true := by unfold lg; simpa using hall ⟨3, .chain⟩ (by rw [← ho]; simp) rfl
      unfold gt at f5
      clear hall
      clear ho
      have HCT := Go.Lib.hid (rtext_any s w' (by omega))
      refine wpOp_step (o := _) rfl (fun K' hK' => ?_)
      go_simp
      refine HCT.out.mono ?_
      rintro e w3 ⟨v3, rfl, ho3, hc3⟩
      obtain ⟨p3, c3, rfl, hb3⟩ := own_bytes ho3
      exact hK' _ _ (hI.put 6 rfl (by decide) HND.out HLS.out hc3 ⟨p3, c3, rfl, hb3⟩ (hI.wld.last (Nat.lt_of_lt_of_le (show _ < 7 by decide) hI.lsize) e3 (by decide) hc3))
  · intro L a w' hI hal
    have hfr := hI.frame HSZ.out (by simp) (fun i hi => hal i hi)
    have k0 : gt a 89 = .pointer (some ⟨b, 0, none⟩) := hI.val 0 _ rfl (hal 0 (by decide))
    have k1 : gt a 90 = .pointer (some ⟨bx, 4, none⟩) := hI.val 1 _ rfl (hal 1 (by decide))
    have k2 : gt a 91 = .string s := hI.val 2 _ rfl (hal 2 (by decide))
    obtain ⟨g3, c3, k3, hh3⟩ : (fun x u => ∃ (g : Value) (c : Nat), x = .int .i64 0 ∧ TxtK u w0 b (k + textL s) F v g) (gt a 92) w' := hI.val 3 _ rfl (hal 3 (by decide))
    have H3 := Go.Lib.hid hh3
    have k4 : gt a 93 = .pointer (some ⟨bx, 4, none⟩) := hI.val 4 _ rfl (hal 4 (by decide))
    have k5 : gt a 94 = .string s := hI.val 5 _ rfl (hal 5 (by decide))
    obtain ⟨g6, c6, k6, hh6⟩ : (fun x u => ∃ (g : Option Addr) (c : Nat), x = .slice g (textL s) c ∧ BytesAt u g (textL s) c (textB s)) (gt a 95) w' := hI.val 6 _ rfl (hal 6 (by decide))
    have H6 := Go.Lib.hid hh6
    rw [hfr, ← HAX.out]
    have HCR := Go.Lib.hid hI.wld
    simp only [List.map_cons, List.map_nil, List.foldl_cons, List.foldl_nil, k0, k1, k2, k3, k4, k5, k6, List.setIfInBounds_toArray, List.set_cons_succ, List.set_cons_zero]
    clear hfr hI hal k0 k1 k2 k3 k4 k5 k6 hh3 hh6 HSZ HND HLS HAX F0 F3
    simp only [List.drop_succ_cons, List.drop_zero]
    have HG2 := Go.Lib.hid (show Gb b w w' v g3 from ⟨(HC0.out.mono (fun _ _ h => h.elim)).trans H3.out.g.ch, fun g e => (H3.out.g.own g e).imp id (fun h => Nat.le_trans HC0.out.size h)⟩)
    go_wp2_with fail
    refine bodyPost_ret (v := .tuple #[.int .i64 0, .slice g6 (textL s) c6, .int .i64 0]) (by simp [results, Try.results12, go_sem]) rfl ⟨g3, g6, c6, rfl, H3.out.w, HG2.out, H6.out⟩
end Go.Proofs.Ytljllfdigfojdaa
