/- ShaNames: the function. -/
import Derived.Test.YtdmeeghgbiffmaaDoorN1
import Derived.Test.YtdmeeghgbiffmaaDoorR8
namespace Go.Proofs.YtdmeeghgbiffmaaDoor
open Go Go.RowKit

theorem wp_eqls {P : Program} {o : Oper} {a : Act} {w : World} {K : Act → World → Prop} {Q : Exit → Act → World → Prop} (x y : Operand) (t t2 : TypeId) (ho : o.op = .binOp .eql t x y t2)
    (R S : Array Value) (hx : a.eval x = .agg R) (hy : a.eval y = .agg S) (hg : P.eqGuardType P.depth t = false) {b : Bool} (he : (Op.equalIn 10000 t (.agg R) (.agg S)).run P w = .ok b w) (h : K (a.put o.dst (.bool b)) w) : o.wp P a w K Q := by
  unfold Oper.wp execOp
  have h1 : (eqGuard .eql t x y (.agg R) (.agg S)).run P w = .ok () w := by
    simp [eqGuard, hg]
  have h2 : (binOp .eql t (.agg R) (.agg S)).run P w = .ok (.bool b) w := by
    simp only [binOp, Op.equal, Sem.run_bind]
    rw [show (Op.equalIn Op.maxDepth t (.agg R) (.agg S)).run P w = .ok b w from he]
    rfl
  simp only [ho, hx, hy, Sem.run_bind, h1, h2, Result.andThen]
  exact h
theorem wp_append_bytes {w : World} {o : Oper} {a : Act} {K : Act → World → Prop} {Q : Exit → Act → World → Prop} (s x : Operand)
    (ho : o.op = .call { callee := .builtin .append, args := #[s, x], argTypes := #[34, 34] }) (base : Nat) (v : Value) (k : Nat) (xs : List Value) (hs : a.eval s = v) (hown : w.ownsRow base 5 1 v k xs)
    (p : Option Addr) (n c : Nat) (f : Nat → UInt8) (hx : a.eval x = .slice p n c) (hb : BytesAt w p n c f) (hk : k + n ≤ 100000000000000) (hbase : base ≤ w.heap.size)
    (h : ∀ v' w', w'.ownsRow base 5 1 v' (k + n) (xs ++ fL f n) → w.grownBy w' v.ownBlock → K (a.put o.dst v') w') : o.wp Tryd.prog a w K Q := by
  obtain ⟨i0, hi, hz0, hz1, hz2⟩ := info_parts info5
  cases p with
  | some ad => exact wp_append_own w s x 34 ho base 5 i0 (.int .u8 0) 1 1 Tryd.underlying34 hi hz0 hz1 hz2 rfl (by decide) v k xs hs hown ad n c (fL f n) hx (by rw [fL_len]; omega) hb.news (fL_one _ _) (by simp [maxLen]; omega) (by omega) hbase (fun v' w' h1 h2 _ => h v' w' h1 h2)
  | none =>
    rcases hb with ⟨x, y, e, _⟩ | ⟨_, rfl, rfl⟩
    · cases e
    · have hrun := run_append_owned_none (P := Tryd.prog) (w := w) base 34 o.type 5 i0 1 Tryd.underlying34 hi v k xs hown
      unfold Oper.wp
      simp [execOp, ho, resolve, invoke, builtin, hs, hx, hrun, Result.andThen]
      exact h v w (by simpa [fL] using hown) ⟨rfl, rfl, rfl, Nat.le_refl _, fun _ _ _ => rfl⟩

def bL (f : Nat → UInt8) (n : Nat) : List UInt8 := (List.range n).map f
def bS (f : Nat → UInt8) (n : Nat) : ByteArray := ⟨(bL f n).toArray⟩
theorem bL_len (f : Nat → UInt8) (n : Nat) : (bL f n).length = n := by simp [bL]
theorem conv_bytes {w : World} {p : Option Addr} {n c : Nat} {f : Nat → UInt8} (h : BytesAt w p n c f) : (convert 34 9 (.slice p n c)).run Tryd.prog w = .ok (.string (bS f n)) w := by
  rcases h with ⟨x, y, rfl, _, hb⟩ | ⟨rfl, rfl, rfl⟩
  · have hc := run_convert_bytes_back (P := Tryd.prog) w 34 9 5 ⟨x, y, none⟩ c (bL f n) Tryd.underlying34 Tryd.underlying5 Tryd.underlying9 (fun j hj => by
      rw [bL_len] at hj
      rw [show (⟨x, y, none⟩ : Addr).add j = ⟨x, y + j, none⟩ by simp [Addr.add]]
      rw [hb j hj]
      simp [bL])
    rw [bL_len] at hc
    exact hc
  · simp [convert, run_underlying Tryd.underlying34, run_underlying Tryd.underlying9, run_underlying Tryd.underlying5, bS, bL, go_sem, Conv.bytesToString]; rfl
theorem parts_of {w : World} {a N : Nat} {P : Nat → Option Addr} {L C : Nat → Nat} {f : Nat → UInt8} (hr : ∀ i, i < N → w.cell? ⟨a, i, none⟩ = some (.slice (P i) (L i) (C i))) (hb : ∀ i, i < N → BytesAt w (P i) (L i) (C i) (fun j => f (upto L i + j))) : PartsAt w a 0 N P L C f := by
  refine ⟨fun i hi => by rw [Nat.zero_add]; exact hr i hi, fun i hi => ?_⟩
  have ha := cell_lt (hr i hi)
  rcases hb i hi with ⟨x, y, h1, h2, h3⟩ | ⟨h1, h2, h3⟩
  · by_cases e : L i = 0
    · exact ⟨a, 0, .inr e, ha, fun j hj => by omega⟩
    · exact ⟨x, y, .inl h1, cell_lt (h3 0 (by omega)), h3⟩
  · exact ⟨a, 0, .inr h2, ha, fun j hj => by omega⟩
def joined (e f : Nat → UInt8) : Nat → UInt8 := fun i => if i < 32 then e i else f (i - 32)

set_option maxRecDepth 100000 in
set_option maxHeartbeats 4000000 in
theorem names_in (s : ByteArray) (e0 : Nat → UInt8) (p : Option Addr) (n c : Nat) (f : Nat → UInt8) (w : World) (hK : KAt w) (hs : s.size ≤ 200) (hn : n ≤ 300) (hb : BytesAt w p n c f) :
    Calls Tryd.prog 6 #[.string s, .agg (hv e0), .slice p n c] w fun e w' => e = .returned (.bool true) ∧ Ch (fun _ => False) w w' := by
  have HK := Go.Lib.hid hK
  have HB := Go.Lib.hid hb
  clear hK hb
  have hs' : (s.size : Int) ≤ 200 := by omega
  have hn' : (n : Int) ≤ 300 := by omega
  have HIE := Go.Lib.hid (hv_info e0); have HAE := Go.Lib.hid (hv_all e0)
  have HSE := Go.Lib.hid (show (arr 32 fun _ => (.int .u8 0 : Value)).size = (hv e0).size by rw [arr_size]; exact (arr_size _ _).symm)
  generalize hE : hv e0 = E at *
  have HE := Go.Lib.hid hE
  clear hE
  go_enter Tryd.func6, Tryd.ntmps6
  go_upto_region 3 with (fail)
  refine wp_region_any (by kernel_rfl) ?_
  generalize hwx : ({ (w.alloc (.cells E 31)) with drawn := (w.alloc (.cells E 31)).drawn + 1 } : World) = wx
  have hcx : Ch (fun _ => False) (w.alloc (.cells E 31)) wx := by rw [← hwx]; exact (Ch.refl _ _).drew
  have HC0 := Go.Lib.hid (((Ch.refl _ w).alloc _).trans hcx)
  have HEX := Go.Lib.hid (hcx.heap (World.alloc_heap_new w (.cells E 31)) id)
  have hszx : wx.heap.size = w.heap.size + 1 := by rw [← hwx]; exact World.size_alloc _ _
  have HBX := Go.Lib.hid (HB.out.ch HC0.out (fun _ _ h => h))
  clear hwx hcx
  generalize hax : Act.mk _ _ = ax
  have HSZ := Go.Lib.hid (show ax.tmps.size = 85 by rw [← hax]; rfl)
  have F2 := Go.Lib.hid (show gt ax 2 = .slice p n c by rw [← hax]; rfl)
  have F4 := Go.Lib.hid (show gt ax 4 = .pointer (some ⟨w.heap.size, 0, none⟩) by rw [← hax]; rfl)
  have HAX := Go.Lib.hid hax
  clear hax
  refine wpAny_inv (InvA 85 12 [21, 22, 23, 24, 25, 26, 27, 28, 29, 7, 8] (fun L g w' => Ch (fun _ => False) wx w' ∧ I3 wx.heap.size n c p f (arr 32 fun _ => .int .u8 0) E L g w') ax) ?_ ?_ _ _ _ _ rfl (by decide) (InvA.start HSZ.out ⟨Ch.refl _ _, I3.start⟩)
  · intro L a w' i hI hr
    obtain ⟨h1, o, ho, hall⟩ := mem_ready.1 hr
    have hlt : i < 12 := (Array.getElem?_eq_some_iff.1 ho).1
    have hun : lg L i = false := by
      have := hI.lsize
      have h2 : i < L.size := by omega
      unfold lg; simp [h2] at h1 ⊢; exact h1
    obtain ⟨hcw, h3⟩ := hI.wld
    have HCW := Go.Lib.hid hcw
    have H3 := Go.Lib.hid h3
    clear hcw h3
    have hsplit : i = 0 ∨ i = 1 ∨ i = 2 ∨ i = 3 ∨ i = 4 ∨ i = 5 ∨ i = 6 ∨ i = 7 ∨ i = 8 ∨ i = 9 ∨ i = 10 ∨ i = 11 := by omega
    clear hlt h1 hr
    rcases hsplit with rfl | rfl | rfl | rfl | rfl | rfl | rfl | rfl | rfl | rfl | rfl | rfl
    · have f := (hI.fixed 4 (by simp)).trans F4.out
      have hh := HCW.out.heap HEX.out id
      unfold gt at f
      refine wpOp_step (o := _) rfl (fun K' hK' => ?_)
      exact wp_load_row 31 (.tmp 4) rfl w.heap.size (by simpa [Act.eval] using f) 31 E (0, 0) _ hh Tryd.underlying31 rfl HIE.out (hK' _ _ (hI.put 0 (by omega) 21 (by omega) (by simp) _ ⟨HCW.out, H3.out.s0⟩))
    · refine wpOp_step (o := _) rfl (fun K' hK' => ?_)
      clear hall
      go_simp
      exact hK' _ _ (hI.put 1 (by omega) 22 (by omega) (by simp) _ ⟨HCW.out.alloc _, (H3.out.ch ((Ch.refl _ _).alloc _)).s1 HCW.out.size (World.alloc_heap_new w' _)⟩)
    · have f := (hI.fixed 2 (by simp)).trans F2.out
      unfold gt at f
      refine wpOp_step (o := _) rfl (fun K' hK' => ?_)
      clear hall
      go_simp
      exact hK' _ _ (hI.put 2 (by omega) 23 (by omega) (by simp) _ ⟨HCW.out, H3.out.s2⟩)
    · simp at ho
      have e1 : lg L 1 = true := by unfold lg; simpa using hall ⟨1, .data⟩ (by rw [← ho]; simp) rfl
      have e2 : lg L 2 = true := by unfold lg; simpa using hall ⟨2, .data⟩ (by rw [← ho]; simp) rfl
      obtain ⟨q, f22, hBq, hq⟩ := H3.out.v22 e1 hun
      have f23 := H3.out.v23 e2
      unfold gt at f22 f23
      refine wpOp_step (o := _) rfl (fun K' hK' => ?_)
      have hql : q < w'.heap.size := row_lt hq
      refine wp_append_bytes (.tmp 22) (.tmp 23) rfl wx.heap.size _ 0 [] (by simpa [Act.eval] using f22) ⟨rfl, .inr ⟨q, 0, #[], rfl, hBq, hq, by simp, by simp [maxLen], by simp, by simp⟩⟩ p n c f (by simpa [Act.eval] using f23) (HBX.out.ch HCW.out (fun _ _ h => h)) (by omega) HCW.out.size ?_
      intro v1 w1 hown hgr
      rw [Nat.zero_add, List.nil_append] at hown
      have hcq : Ch (fun k => k = q) w' w1 := Ch.grown (Ch.refl _ _) hgr (fun k hk _ => by cases hk; rfl)
      exact hK' _ _ (hI.put 3 (by omega) 24 (by omega) (by simp) _ ⟨HCW.out.then hcq (fun k hk e => by omega), H3.out.s3 hun hq hcq hown⟩)
    · refine wpOp_step (o := _) rfl (fun K' hK' => ?_)
      clear hall
      go_simp
      exact hK' _ _ (hI.put 4 (by omega) 25 (by omega) (by simp) _ ⟨HCW.out.alloc _, (H3.out.ch ((Ch.refl _ _).alloc _)).s4 (World.alloc_heap_new w' _)⟩)
    · simp at ho
      have e3 : lg L 3 = true := by unfold lg; simpa using hall ⟨3, .data⟩ (by rw [← ho]; simp) rfl
      have e4 : lg L 4 = true := by unfold lg; simpa using hall ⟨4, .data⟩ (by rw [← ho]; simp) rfl
      have hown0 := H3.out.v24 e3 hun
      obtain ⟨q, f25, hq⟩ := H3.out.v25 e4 hun
      have hlt0 := World.ownsRow.lt hown0
      unfold gt at f25
      refine wpOp_step (o := _) rfl (fun K' hK' => ?_)
      refine wp_append_bytes (.tmp 24) (.tmp 25) rfl wx.heap.size (gt a 24) n (fL f n) (by simp [Act.eval, gt]) hown0 (some ⟨q, 0, none⟩) 1 1 (fun _ => 9) (by simpa [Act.eval] using f25) (.inl ⟨q, 0, rfl, Nat.le_refl _, fun j hj => by
        obtain rfl : j = 0 := by omega
        exact (cell_of_heap hq _).trans rfl⟩) (by omega) HCW.out.size ?_
      intro v1 w1 hown hgr
      have hcq : Ch (fun k => (gt a 24).ownBlock = some k) w' w1 := Ch.grown (Ch.refl _ _) hgr (fun k hk _ => hk)
      exact hK' _ _ (hI.put 5 (by omega) 26 (by omega) (by simp) _ ⟨HCW.out.then hcq (fun k hk e => by have := hlt0 k e; omega), H3.out.s5 hun e3 hcq hown⟩)
    · have f := (hI.fixed 2 (by simp)).trans F2.out
      unfold gt at f
      refine wpOp_step (o := _) rfl (fun K' hK' => ?_)
      clear hall
      go_simp
      exact hK' _ _ (hI.put 6 (by omega) 27 (by omega) (by simp) _ ⟨HCW.out, H3.out.s6⟩)
    · simp at ho
      have e6 : lg L 6 = true := by unfold lg; simpa using hall ⟨6, .data⟩ (by rw [← ho]; simp) rfl
      have f := H3.out.v27 e6
      unfold gt at f
      refine wpOp_step (o := _) rfl (fun K' hK' => ?_)
      clear hall ho
      go_simp
      exact hK' _ _ (hI.put 7 (by omega) 28 (by omega) (by simp) _ ⟨HCW.out, H3.out.s7⟩)
    · simp at ho
      have e5 : lg L 5 = true := by unfold lg; simpa using hall ⟨5, .data⟩ (by rw [← ho]; simp) rfl
      have e7 : lg L 7 = true := by unfold lg; simpa using hall ⟨7, .data⟩ (by rw [← ho]; simp) rfl
      have f28 := H3.out.v28 e7
      have hown := H3.out.v26 e5
      obtain ⟨q, cap, f26, hcap⟩ : ∃ q cap, gt a 26 = .slice (some ⟨q, 0, none⟩) (n + 1) cap ∧ n + 1 ≤ cap := by
        obtain ⟨hlen, h0 | ⟨g, cap, cur, hv0, hbg, hg, hnc, hr⟩⟩ := hown
        · exact absurd h0.2 (by omega)
        · exact ⟨g, cap, hv0, hnc⟩
      have f26' := f26
      have hl1 : 0 ≤ (n : Int) := by omega
      have hl2 : (n : Int) ≤ (cap : Int) := by omega
      unfold gt at f26 f28
      refine wpOp_step (o := _) rfl (fun K' hK' => ?_)
      clear hall ho hown
      go_simp
      exact hK' _ _ (hI.put 8 (by omega) 29 (by omega) (by simp) _ ⟨HCW.out, H3.out.s8 e5 hun f26'⟩)
    · refine wpOp_step (o := _) rfl (fun K' hK' => ?_)
      clear hall
      go_simp
      exact hK' _ _ (hI.put 9 (by omega) 7 (by omega) (by simp) _ ⟨HCW.out.alloc _, (H3.out.ch ((Ch.refl _ _).alloc _)).s9 hun HCW.out.size (World.alloc_heap_new w' _)⟩)
    · simp at ho
      have e9 : lg L 9 = true := by unfold lg; simpa using hall ⟨9, .data⟩ (by rw [← ho]; simp) rfl
      have e0 : lg L 0 = true := by unfold lg; simpa using hall ⟨0, .data⟩ (by rw [← ho]; simp) rfl
      have e5 : lg L 5 = true := by unfold lg; simpa using hall ⟨5, .chain⟩ (by rw [← ho]; simp) rfl
      obtain ⟨q, f7, hBq, hq⟩ := H3.out.v7 e9 hun
      have f21 := H3.out.v21 e0
      have f7' := f7
      unfold gt at f7 f21
      refine wpOp_step (o := _) rfl (fun K' hK' => ?_)
      refine wp_store_row 31 (.tmp 7) (.tmp 21) rfl q E (by simpa [Act.eval] using f7) (by simpa [Act.eval] using f21) 31 _ hq HIE.out HSE.out HAE.out (hK' _ _ ?_)
      have hcq : Ch (fun k => k = q) w' (w'.setRow q E) := Ch.setRow (S := fun k => k = q) (Ch.refl _ w') (fun _ => rfl) _
      exact hI.skip 10 (by omega) ⟨HCW.out.then hcq (fun k hk e => by omega), H3.out.s10 e5 e9 f7' hq hcq (heap_setRow hq)⟩
    · simp at ho
      have e8 : lg L 8 = true := by unfold lg; simpa using hall ⟨8, .data⟩ (by rw [← ho]; simp) rfl
      obtain ⟨q, cap, f26, f29⟩ := H3.out.v29 e8
      have f29' := f29
      unfold gt at f29
      refine wpOp_step (o := _) rfl (fun K' hK' => ?_)
      clear hall ho
      go_simp
      exact hK' _ _ (hI.put 11 (by omega) 8 (by omega) (by simp) _ ⟨HCW.out, H3.out.s11 e8 f29'⟩)
  · intro L a w' hI hr
    have hal := all_listed' (md := .any) (by kernel_rfl) hI.lsize hr
    have hfr := hI.frame HSZ.out (by simp)
    obtain ⟨hcw, h3⟩ := hI.wld
    obtain ⟨b7, k7, hq7⟩ := h3.v7s (hal 10 (by decide))
    obtain ⟨b8, c8, k26, k29⟩ := h3.v29 (hal 8 (by decide))
    have k8 := (h3.v8 (hal 11 (by decide))).trans k29
    have ho8 := h3.v26 (hal 5 (by decide))
    rw [k26] at ho8
    have HO8 := Go.Lib.hid ho8
    have HQ7 := Go.Lib.hid hq7
    have HC3 := Go.Lib.hid (HC0.out.trans hcw)
    have HE3 := Go.Lib.hid (hcw.heap HEX.out id)
    clear ho8 hq7 hcw h3
    rw [hfr, ← HAX.out]
    simp only [List.foldl_cons, List.foldl_nil, k7, k8, k26, k29, List.setIfInBounds_toArray, List.set_cons_succ, List.set_cons_zero]
    clear hfr hI hr hal HSZ F2 F4 HAX k7 k8 k26 k29 HEX HBX HC0
    generalize gt a 21 = u21
    generalize gt a 22 = u22
    generalize gt a 23 = u23
    generalize gt a 24 = u24
    generalize gt a 25 = u25
    generalize gt a 27 = u27
    generalize gt a 28 = u28
    have HB3 := Go.Lib.hid (HB.out.ch HC3.out (fun _ _ h => h))
    have hbe : ∀ W, Ch (fun _ => False) w' W → BytesAt W (some ⟨w.heap.size, 0, none⟩) 32 32 e0 := fun W h => .inl ⟨w.heap.size, 0, rfl, Nat.le_refl _, fun j hj => (cell_of_heap (h.heap HE3.out id) _).trans (by rw [← HE.out, Nat.zero_add]; exact arr_get 32 _ j hj)⟩
    have HBE := Go.Lib.hid hbe
    clear hbe
    go_upto_region 5 with (at_builtin; first
      | (refine wpList_append_bytes rfl (.tmp 30) (.tmp 31) rfl w'.heap.size _ _ _ rfl (ownsRow_empty w' _ (Nat.le_refl _)) (some ⟨w.heap.size, 0, none⟩) 32 32 e0 rfl (HBE.out _ ((Ch.refl _ _).alloc _)) (by omega) (by simp) ?_
         intro v1 w1 hown1 hgrow1
         rw [Nat.zero_add, List.nil_append] at hown1
         have hc1 : Ch (fun _ => False) w' w1 := Ch.grown ((Ch.refl _ w').alloc _) hgrow1 (fun k hk hlt => by
           have h : some w'.heap.size = some k := hk
           cases h; omega)
         have HO1 := Go.Lib.hid hown1; have HC1 := Go.Lib.hid hc1; clear hown1 hgrow1 hc1)
      | (refine wpList_append_bytes rfl (.tmp 32) (.tmp 33) rfl w'.heap.size _ _ _ rfl HO1.out p n c f rfl (HB3.out.ch HC1.out (fun _ _ h => h)) (by omega) HC1.out.size ?_
         intro v2 w2 hown2 hgrow2
         rw [fL_append (joined e0 f) e0 f 32 n (fun j hj => by unfold joined; rw [if_pos hj]) (fun j hj => by unfold joined; rw [if_neg (by omega)]; congr 1; omega)] at hown2
         have hc2 : Ch (fun _ => False) w' w2 := Ch.grown HC1.out hgrow2 (fun k hk hlt => by have := (World.ownsRow.lt HO1.out) k hk; omega)
         obtain ⟨g9, c9, rfl, hbg9, hgl9, hcp9, hb9⟩ := own_pos hown2 (by omega)
         have HB9 := Go.Lib.hid hb9; have HC2 := Go.Lib.hid hc2; clear hown2 hgrow2 hc2 hb9))
    have HBZ := Go.Lib.hid (fun (W : World) (h : Ch (fun _ => False) w2 W) => HB9.out.ch h (fun _ _ h => h))
    have HSZ2 := Go.Lib.hid HC2.out.size
    obtain ⟨cap5, W5, hcv, hc5, hs5, hcap5, hb5⟩ := conv_str s w2
    have HV := Go.Lib.hid hcv
    have HC5 := Go.Lib.hid hc5
    have hal5 : Ch (fun _ => False) W5 (W5.alloc (.cells #[.slice (some ⟨w2.heap.size, 0, none⟩) s.size cap5] 34)) := (Ch.refl _ W5).alloc _
    have h17 := sum_any W5.heap.size 0 1 1 (some ⟨W5.heap.size, 0, none⟩) (fun _ => some ⟨w2.heap.size, 0, none⟩) (fun _ => s.size) (fun _ => cap5) (byteAt s) (W5.alloc (.cells #[.slice (some ⟨w2.heap.size, 0, none⟩) s.size cap5] 34)) (.inl rfl) (by omega) (by show 0 + s.size ≤ _; omega)
      (parts_of (fun i hi => by
        obtain rfl : i = 0 := by omega
        exact cell_fresh W5 _ 34 0) (fun i hi => by
        obtain rfl : i = 0 := by omega
        refine BytesAt.ch ?_ hal5 (fun _ _ h => h)
        simpa [upto] using hb5)) (HK.out.ch (((HC3.out.trans HC2.out).trans hc5).trans hal5) id)
    rw [show upto (fun _ => s.size) 1 = s.size from Nat.zero_add _] at h17
    have H17 := Go.Lib.hid h17
    have HA5 := Go.Lib.hid hal5
    clear hcv hc5 hs5 hb5 h17 hal5
    generalize hT : hashB (byteAt s) s.size = T at *
    have HT := Go.Lib.hid hT
    clear hT
    go_wp2_with fail
    rw [HV.out]
    simp only [Result.andThen]
    rw [Oper.upon_value]
    go_wp2_with fail
    refine H17.out.mono ?_
    rintro e w6 ⟨rfl, hc6⟩
    have HC6 := Go.Lib.hid ((HC5.out.trans HA5.out).trans hc6)
    clear hc6 HV H17 HA5 HC5
    go_upto_region 6 with (refine wpList_store_row rfl 31 (.tmp 10) (.tmp 38) rfl w6.heap.size (hv T) rfl rfl 31 _ (World.alloc_heap_new w6 _) (hv_info _) (by rw [show (hv T).size = 32 from arr_size _ _]; rfl) (hv_all _) ?_)
    generalize hW7 : (w6.alloc _).setRow w6.heap.size (hv T) = W7
    have hc7 : Ch (fun _ => False) w6 W7 := by rw [← hW7]; exact ((Ch.refl _ _).alloc _).setRow (fun h => absurd h (Nat.lt_irrefl _)) _
    have ht7 : W7.heap[w6.heap.size]? = some (.cells (hv T) 31) := by rw [← hW7]; exact heap_setRow (World.alloc_heap_new w6 _)
    have HT7 := Go.Lib.hid ht7
    have HC7 := Go.Lib.hid (HC6.out.trans hc7)
    clear hc7 ht7 hW7 HC6
    generalize w6.heap.size = b10 at *
    have HC37 := Go.Lib.hid (HC2.out.trans HC7.out)
    obtain ⟨hq8, hcur⟩ : n + 1 ≤ c8 ∧ ∃ cur, w'.heap[b8]? = some (.cells cur 5) ∧ ∀ j, j < n + 1 → cur[j]? = (fL f n ++ [.int .u8 9])[j]? := by
      obtain ⟨hlen, h0 | ⟨g, cap, cur, hv0, hbg, hg, hnc, hcm, hcs, htake⟩⟩ := HO8.out
      · exact absurd h0.2 (by omega)
      · cases hv0
        refine ⟨hnc, cur, hg, fun j hj => ?_⟩
        rw [← htake, List.getElem?_take, if_pos (by omega)]
        simp
    obtain ⟨cur8, hg8, hcur8⟩ := hcur
    have HC8 := Go.Lib.hid hq8
    have hb8 : BytesAt w' (some ⟨b8, 0, none⟩) n c8 f := .inl ⟨b8, 0, rfl, by omega, fun j hj => by
      rw [Nat.zero_add]
      refine (cell_of_heap hg8 _).trans ?_
      rw [hcur8 j (by omega), List.getElem?_append_left (by rw [fL_len]; exact hj)]
      simp [fL, hj]⟩
    have hn9 : w'.cell? ⟨b8, n, none⟩ = some (.int .u8 9) := by
      refine (cell_of_heap hg8 _).trans ?_
      rw [hcur8 n (by omega), List.getElem?_append_right (by rw [fL_len]; omega), fL_len]; simp
    have HB8 := Go.Lib.hid hb8
    have HN9' := Go.Lib.hid hn9
    clear hq8 hg8 hcur8 hb8 hn9 HO8
    have hal7 : Ch (fun _ => False) W7 (W7.alloc (.cells #[.slice (some ⟨w.heap.size, 0, none⟩) 32 32, .slice (some ⟨b8, 0, none⟩) n c8] 34)) := (Ch.refl _ W7).alloc _
    have h21 := named_any s W7.heap.size 0 2 2 (some ⟨W7.heap.size, 0, none⟩) (fun i => if i = 0 then some ⟨w.heap.size, 0, none⟩ else some ⟨b8, 0, none⟩) (fun i => if i = 0 then 32 else n) (fun i => if i = 0 then 32 else c8) (joined e0 f)
      (W7.alloc (.cells #[.slice (some ⟨w.heap.size, 0, none⟩) 32 32, .slice (some ⟨b8, 0, none⟩) n c8] 34)) (.inl rfl) (by omega) (by show 0 + 32 + n ≤ _; omega) (by omega)
      (parts_of (fun i hi => by
        obtain rfl | rfl : i = 0 ∨ i = 1 := by omega
        · exact cell_fresh W7 _ 34 0
        · exact cell_fresh W7 _ 34 1) (fun i hi => by
        obtain rfl | rfl : i = 0 ∨ i = 1 := by omega
        · refine BytesAt.ch ?_ hal7 (fun _ _ h => h)
          rcases HBE.out _ HC37.out with ⟨x, y, e1, e2, e3⟩ | h
          · refine .inl ⟨x, y, e1, e2, fun j hj => ?_⟩
            have hj' : j < 32 := hj
            rw [e3 j hj]; show _ = some (Value.int .u8 ((joined e0 f (0 + j)).toNat : Int)); rw [Nat.zero_add]; unfold joined; rw [if_pos hj']
          · exact absurd h.1 (by simp)
        · refine BytesAt.ch ?_ hal7 (fun _ _ h => h)
          rcases HB8.out.ch HC37.out (fun _ _ h => h) with ⟨x, y, e1, e2, e3⟩ | h
          · refine .inl ⟨x, y, e1, e2, fun j hj => ?_⟩
            rw [e3 j hj]; show _ = some (Value.int .u8 ((joined e0 f (0 + 32 + j)).toNat : Int)); unfold joined; rw [if_neg (by omega), show 0 + 32 + j - 32 = j by omega]
          · exact absurd h.1 (by simp))) (HK.out.ch (((HC3.out.trans HC37.out)).trans hal7) id)
    rw [HT.out, show upto (fun i => if i = 0 then 32 else n) 2 = 32 + n from by show 0 + 32 + n = _; omega] at h21
    have H21 := Go.Lib.hid h21
    have HA7 := Go.Lib.hid hal7
    clear h21 hal7
    generalize hRG : hv (hashB (tagged T (joined e0 f)) (64 + (32 + n))) = RG at *
    have HRGS := Go.Lib.hid hRG
    have HIR : Hid ((Tryd.prog.info? 31).map (·.size) = some RG.size) := Go.Lib.hid (by rw [← hRG]; exact hv_info _)
    have HAR : Hid (RG.all (·.oneCell') = true) := Go.Lib.hid (by rw [← hRG]; exact hv_all _)
    have HSR : Hid ((arr 32 fun _ => (.int .u8 0 : Value)).size = RG.size) := Go.Lib.hid (by rw [← hRG, arr_size]; exact (arr_size _ _).symm)
    have HEQR : Hid (∀ W, (Op.equalIn 10000 31 (.agg RG) (.agg RG)).run Tryd.prog W = .ok true W) := Go.Lib.hid (by rw [← hRG]; exact fun W => eq_self' _ W)
    have HEQE : Hid (∀ W, (Op.equalIn 10000 31 (.agg E) (.agg E)).run Tryd.prog W = .ok true W) := Go.Lib.hid (by rw [← HE.out]; exact fun W => eq_self' _ W)
    clear hRG
    go_wp2_with fail
    refine H21.out.mono ?_
    rintro e w8 ⟨rfl, hc8⟩
    have HC78 := Go.Lib.hid (HA7.out.trans hc8)
    clear hc8 H21 HA7
    go_upto_region 7 with (refine wpList_store_row rfl 31 (.tmp 11) (.tmp 43) rfl w8.heap.size RG rfl rfl 31 (arr 32 fun _ => .int .u8 0) (World.alloc_heap_new w8 _) HIR.out HSR.out HAR.out ?_)
    generalize hW9 : (w8.alloc _).setRow w8.heap.size RG = W9
    have hc9 : Ch (fun _ => False) w8 W9 := by rw [← hW9]; exact ((Ch.refl _ _).alloc _).setRow (fun h => absurd h (Nat.lt_irrefl _)) _
    have hr9 : W9.heap[w8.heap.size]? = some (.cells RG 31) := by rw [← hW9]; exact heap_setRow (World.alloc_heap_new w8 _)
    refine wp_region_any (by kernel_rfl) ?_
    generalize hwy : ({ W9 with drawn := W9.drawn + 1 } : World) = wy
    have hcy : Ch (fun _ => False) W9 wy := by rw [← hwy]; exact (Ch.refl _ _).drew
    have HR11 := Go.Lib.hid (hcy.heap hr9 id)
    have HCY7 := Go.Lib.hid (HC78.out.trans (hc9.trans hcy))
    have HCY := Go.Lib.hid (HC37.out.trans HCY7.out)
    have HWY := Go.Lib.hid (HC3.out.trans HCY.out)
    clear hwy hcy hr9 hc9 hW9 HC78
    generalize w8.heap.size = b11 at *
    have HR10 := Go.Lib.hid (HCY7.out.heap HT7.out id)
    have HRE := Go.Lib.hid (HCY.out.heap HE3.out id)
    have HR7 := Go.Lib.hid (HCY.out.heap HQ7.out id)
    have HN9 := Go.Lib.hid (HCY.out.get HN9'.out id)
    have HBY := Go.Lib.hid (HBZ.out _ (HC7.out.trans HCY7.out))
    have HCX := Go.Lib.hid (fun w'' (h : Ch (fun _ => False) wy w'') => conv_bytes (HB8.out.ch (HCY.out.trans h) (fun _ _ h => h)))
    have HCP := Go.Lib.hid (fun w'' (h : Ch (fun _ => False) wy w'') => conv_bytes (HB3.out.ch (HCY.out.trans h) (fun _ _ h => h)))
    have HW := Go.Lib.hid (fun w'' (h : Ch (fun _ => False) wy w'') => works_any w'' (HK.out.ch (HWY.out.trans h) id))
    have HRN := Go.Lib.hid (fun w'' (h : Ch (fun _ => False) wy w'') => (show Calls Tryd.prog 22 #[.string s, .slice (some ⟨g9, 0, none⟩) (32 + n) c9] w'' fun e w2 => e = .returned (.agg RG) ∧ Ch (fun _ => False) w'' w2 from by
      have h22 := rnamed_any s (some ⟨g9, 0, none⟩) (32 + n) c9 (joined e0 f) w'' (by omega) (by omega) (HBY.out.ch h (fun _ _ h => h))
      rw [HT.out, HRGS.out] at h22
      exact h22))
    have HS3 := Go.Lib.hid (fun w'' (q : Nat) (h : Ch (fun _ => False) wy w'') (hq : w''.heap[q]? = some (.cells #[.slice (some ⟨b10, 0, none⟩) 32 32, .slice (some ⟨b10, 0, none⟩) 32 32, .slice (some ⟨g9, 0, none⟩) (32 + n) c9] 34)) => (show Calls Tryd.prog 17 #[.slice (some ⟨q, 0, none⟩) 3 3] w'' fun e w2 => e = .returned (.agg RG) ∧ Ch (fun _ => False) w'' w2 from by
      have h17 := sum_any q 0 3 3 (some ⟨q, 0, none⟩) (fun i => if i < 2 then some ⟨b10, 0, none⟩ else some ⟨g9, 0, none⟩) (fun i => if i < 2 then 32 else 32 + n) (fun i => if i < 2 then 32 else c9) (tagged T (joined e0 f)) w'' (.inl rfl) (by omega) (by show 0 + 32 + 32 + (32 + n) ≤ _; omega)
        (parts_of (fun i hi => by
          obtain rfl | rfl | rfl : i = 0 ∨ i = 1 ∨ i = 2 := by omega
          · exact (cell_of_heap hq _).trans rfl
          · exact (cell_of_heap hq _).trans rfl
          · exact (cell_of_heap hq _).trans rfl) (fun i hi => by
          have h10 : ∀ j, j < 32 → w''.cell? ⟨b10, 0 + j, none⟩ = some (.int .u8 ((T j).toNat : Int)) := fun j hj => (cell_of_heap (h.heap HR10.out id) _).trans (by rw [Nat.zero_add]; exact arr_get 32 _ j hj)
          obtain rfl | rfl | rfl : i = 0 ∨ i = 1 ∨ i = 2 := by omega
          · refine .inl ⟨b10, 0, rfl, Nat.le_refl _, fun j hj => ?_⟩
            have hj' : j < 32 := hj
            rw [h10 j hj]; show _ = some (Value.int .u8 ((tagged T (joined e0 f) (0 + j)).toNat : Int)); rw [Nat.zero_add]; unfold tagged; rw [if_pos hj']
          · refine .inl ⟨b10, 0, rfl, Nat.le_refl _, fun j hj => ?_⟩
            have hj' : j < 32 := hj
            rw [h10 j hj]; show _ = some (Value.int .u8 ((tagged T (joined e0 f) (0 + 32 + j)).toNat : Int)); unfold tagged; rw [if_neg (by omega), if_pos (by omega), show 0 + 32 + j - 32 = j by omega]
          · rcases HBY.out.ch h (fun _ _ h => h) with ⟨x, y, e1, e2, e3⟩ | h'
            · refine .inl ⟨x, y, e1, e2, fun j hj => ?_⟩
              rw [e3 j hj]; show _ = some (Value.int .u8 ((tagged T (joined e0 f) (0 + 32 + 32 + j)).toNat : Int)); unfold tagged; rw [if_neg (by omega), if_neg (by omega), show 0 + 32 + 32 + j - 64 = j by omega]
            · exact absurd h'.1 (by simp))) (HK.out.ch (HWY.out.trans h) id)
      rw [show upto (fun i => if i < 2 then 32 else 32 + n) 3 = 64 + (32 + n) from by show 0 + 32 + 32 + (32 + n) = _; omega, HRGS.out] at h17
      exact h17))
    generalize bS f n = XB at *
    generalize hay : Act.mk _ _ = ay
    have HSZ := Go.Lib.hid (show ay.tmps.size = 85 by rw [← hay]; rfl)
    have F0 := Go.Lib.hid (show gt ay 0 = .string s by rw [← hay]; rfl)
    have F2 := Go.Lib.hid (show gt ay 2 = .slice p n c by rw [← hay]; rfl)
    have F4 := Go.Lib.hid (show gt ay 4 = .pointer (some ⟨w.heap.size, 0, none⟩) by rw [← hay]; rfl)
    have F7 := Go.Lib.hid (show gt ay 7 = .pointer (some ⟨b7, 0, none⟩) by rw [← hay]; rfl)
    have F8 := Go.Lib.hid (show gt ay 8 = .slice (some ⟨b8, 0, none⟩) n c8 by rw [← hay]; rfl)
    have F9 := Go.Lib.hid (show gt ay 9 = .slice (some ⟨g9, 0, none⟩) (32 + n) c9 by rw [← hay]; rfl)
    have F10 := Go.Lib.hid (show gt ay 10 = .pointer (some ⟨b10, 0, none⟩) by rw [← hay]; rfl)
    have F11 := Go.Lib.hid (show gt ay 11 = .pointer (some ⟨b11, 0, none⟩) by rw [← hay]; rfl)
    have HAY := Go.Lib.hid hay
    clear hay
    have HND := Go.Lib.hid (show ([44, 45, 46, 47, 48, 49, 50, 51, 52, 53, 54, 55, 56, 57, 58, 59, 60, 61, 62, 63, 64, 65, 66, 67, 68, 69, 70, 71, 72, 73, 74, 75, 76, 77, 78, 79, 80, 81, 82, 83, 84, 6] : List Nat).Nodup by decide)
    have HLS : Hid (Lasts [(44, fun x _ => x = .agg RG), (45, fun x _ => x = .string s), (46, fun x _ => x = .slice (some ⟨g9, 0, none⟩) (32 + n) c9), (47, fun x _ => x = .agg RG), (48, fun x _ => x = .bool true), (49, fun x _ => x = .bool true), (50, fun x _ => x = .agg RG), (51, fun x _ => x = .slice (some ⟨b10, 0, none⟩) 32 32), (52, fun x _ => x = .slice (some ⟨b10, 0, none⟩) 32 32), (53, fun x _ => x = .slice (some ⟨g9, 0, none⟩) (32 + n) c9), (54, fun x v => ∃ g, x = .slice (some ⟨g, 0, none⟩) 3 3 ∧ v.heap[g]? = some (.cells #[.slice (some ⟨b10, 0, none⟩) 32 32, .slice (some ⟨b10, 0, none⟩) 32 32, .slice (some ⟨g9, 0, none⟩) (32 + n) c9] 34)), (55, fun x _ => x = .agg RG), (56, fun x _ => x = .bool true), (57, fun x _ => x = .bool true), (58, fun x _ => x = .bool true), (59, fun x _ => x = .agg E), (60, fun x _ => x = .agg E), (61, fun x _ => x = .bool true), (62, fun x _ => x = .bool true), (63, fun x _ => x = .bool true), (64, fun x _ => x = .slice (some ⟨b8, 0, none⟩) n c8), (65, fun x _ => x = .string XB), (66, fun x _ => x = .slice p n c), (67, fun x _ => x = .string XB), (68, fun x _ => x = .bool true), (69, fun x _ => x = .bool true), (70, fun x _ => x = .bool true), (71, fun x _ => x = .slice (some ⟨b8, 0, none⟩) n c8), (72, fun x _ => x = .slice p n c), (73, fun x _ => x = .int .i64 (n : Int)), (74, fun x _ => x = .int .i64 ((n : Int) + 1)), (75, fun x _ => x = .slice (some ⟨b8, 0, none⟩) (n + 1) c8), (76, fun x _ => x = .slice p n c), (77, fun x _ => x = .int .i64 (n : Int)), (78, fun x _ => x = .pointer (some ⟨b8, n, none⟩)), (79, fun x _ => x = .int .u8 9), (80, fun x _ => x = .bool true), (81, fun x _ => x = .bool true), (82, fun x _ => x = .bool true), (83, fun x _ => x = .bool true), (84, fun x _ => x = .bool true), (6, fun x _ => x = .bool true)]) := Go.Lib.hid (by
      intro p hp v w1 w2 hc h
      simp only [List.mem_cons, List.not_mem_nil, or_false] at hp
      rcases hp with rfl | rfl | rfl | rfl | rfl | rfl | rfl | rfl | rfl | rfl | rfl | rfl | rfl | rfl | rfl | rfl | rfl | rfl | rfl | rfl | rfl | rfl | rfl | rfl | rfl | rfl | rfl | rfl | rfl | rfl | rfl | rfl | rfl | rfl | rfl | rfl | rfl | rfl | rfl | rfl | rfl | rfl
      all_goals first | exact h | (obtain ⟨g, h1, h2⟩ := h; exact ⟨g, h1, hc.heap h2 id⟩) | (obtain ⟨g, c, h1, h2⟩ := h; exact ⟨g, c, h1, h2.ch hc (fun _ _ h => h)⟩))
    refine wpAny_inv (InvP 85 [(44, fun x _ => x = .agg RG), (45, fun x _ => x = .string s), (46, fun x _ => x = .slice (some ⟨g9, 0, none⟩) (32 + n) c9), (47, fun x _ => x = .agg RG), (48, fun x _ => x = .bool true), (49, fun x _ => x = .bool true), (50, fun x _ => x = .agg RG), (51, fun x _ => x = .slice (some ⟨b10, 0, none⟩) 32 32), (52, fun x _ => x = .slice (some ⟨b10, 0, none⟩) 32 32), (53, fun x _ => x = .slice (some ⟨g9, 0, none⟩) (32 + n) c9), (54, fun x v => ∃ g, x = .slice (some ⟨g, 0, none⟩) 3 3 ∧ v.heap[g]? = some (.cells #[.slice (some ⟨b10, 0, none⟩) 32 32, .slice (some ⟨b10, 0, none⟩) 32 32, .slice (some ⟨g9, 0, none⟩) (32 + n) c9] 34)), (55, fun x _ => x = .agg RG), (56, fun x _ => x = .bool true), (57, fun x _ => x = .bool true), (58, fun x _ => x = .bool true), (59, fun x _ => x = .agg E), (60, fun x _ => x = .agg E), (61, fun x _ => x = .bool true), (62, fun x _ => x = .bool true), (63, fun x _ => x = .bool true), (64, fun x _ => x = .slice (some ⟨b8, 0, none⟩) n c8), (65, fun x _ => x = .string XB), (66, fun x _ => x = .slice p n c), (67, fun x _ => x = .string XB), (68, fun x _ => x = .bool true), (69, fun x _ => x = .bool true), (70, fun x _ => x = .bool true), (71, fun x _ => x = .slice (some ⟨b8, 0, none⟩) n c8), (72, fun x _ => x = .slice p n c), (73, fun x _ => x = .int .i64 (n : Int)), (74, fun x _ => x = .int .i64 ((n : Int) + 1)), (75, fun x _ => x = .slice (some ⟨b8, 0, none⟩) (n + 1) c8), (76, fun x _ => x = .slice p n c), (77, fun x _ => x = .int .i64 (n : Int)), (78, fun x _ => x = .pointer (some ⟨b8, n, none⟩)), (79, fun x _ => x = .int .u8 9), (80, fun x _ => x = .bool true), (81, fun x _ => x = .bool true), (82, fun x _ => x = .bool true), (83, fun x _ => x = .bool true), (84, fun x _ => x = .bool true), (6, fun x _ => x = .bool true)] (fun _ w'' => Ch (fun _ => False) wy w'') ay) ?_ ?_ _ _ _ _ rfl (by decide) (InvP.start rfl HSZ.out (Ch.refl _ _))
    · clear HAY HC3 HE3 HQ7 HB3 HBE HO1 HC1 HC2 HB9 HBZ HSZ2 HC7 HT7 HC37 HB8 HN9' HCY7 HCY HR10 HBY HT HRGS HE HK HB HSE HAE HAR HSR
      intro L a w' i hI hr
      obtain ⟨h1, o, ho, hall⟩ := mem_ready.1 hr
      have hlt : i < 42 := (Array.getElem?_eq_some_iff.1 ho).1
      have hsplit : i = 0 ∨ i = 1 ∨ i = 2 ∨ i = 3 ∨ i = 4 ∨ i = 5 ∨ i = 6 ∨ i = 7 ∨ i = 8 ∨ i = 9 ∨ i = 10 ∨ i = 11 ∨ i = 12 ∨ i = 13 ∨ i = 14 ∨ i = 15 ∨ i = 16 ∨ i = 17 ∨ i = 18 ∨ i = 19 ∨ i = 20 ∨ i = 21 ∨ i = 22 ∨ i = 23 ∨ i = 24 ∨ i = 25 ∨ i = 26 ∨ i = 27 ∨ i = 28 ∨ i = 29 ∨ i = 30 ∨ i = 31 ∨ i = 32 ∨ i = 33 ∨ i = 34 ∨ i = 35 ∨ i = 36 ∨ i = 37 ∨ i = 38 ∨ i = 39 ∨ i = 40 ∨ i = 41 := by omega
      clear hlt h1 hr
      rcases hsplit with rfl | rfl | rfl | rfl | rfl | rfl | rfl | rfl | rfl | rfl | rfl | rfl | rfl | rfl | rfl | rfl | rfl | rfl | rfl | rfl | rfl | rfl | rfl | rfl | rfl | rfl | rfl | rfl | rfl | rfl | rfl | rfl | rfl | rfl | rfl | rfl | rfl | rfl | rfl | rfl | rfl | rfl
      · have q11 := (hI.fixed 11 (by simp)).trans F11.out
        unfold gt at q11
        clear hall
        refine wpOp_step (o := _) rfl (fun K' hK' => ?_)
        exact wp_load_row 31 (.tmp 11) rfl b11 (by simpa [Act.eval] using q11) 31 RG (0, 0) _ (hI.wld.heap HR11.out id) Tryd.underlying31 rfl HIR.out (hK' _ _ (hI.put 0 rfl (by decide) HND.out HLS.out  (Ch.refl _ _) rfl hI.wld))
      · have q0 := (hI.fixed 0 (by simp)).trans F0.out
        unfold gt at q0
        clear hall
        refine wpOp_step (o := _) rfl (fun K' hK' => ?_)
        go_simp
        exact hK' _ _ (hI.put 1 rfl (by decide) HND.out HLS.out  (Ch.refl _ _) rfl hI.wld)
      · have q9 := (hI.fixed 9 (by simp)).trans F9.out
        unfold gt at q9
        clear hall
        refine wpOp_step (o := _) rfl (fun K' hK' => ?_)
        go_simp
        exact hK' _ _ (hI.put 2 rfl (by decide) HND.out HLS.out  (Ch.refl _ _) rfl hI.wld)
      · simp at ho
        have e1 : lg L 1 = true := by unfold lg; simpa using hall ⟨1, .data⟩ (by rw [← ho]; simp) rfl
        have f1 : gt a 45 = .string s := hI.val 1 _ rfl e1
        have e2 : lg L 2 = true := by unfold lg; simpa using hall ⟨2, .data⟩ (by rw [← ho]; simp) rfl
        have f2 : gt a 46 = .slice (some ⟨g9, 0, none⟩) (32 + n) c9 := hI.val 2 _ rfl e2
        unfold gt at f1 f2
        clear hall
        clear ho
        have HCT := Go.Lib.hid (HRN.out w' hI.wld)
        refine wpOp_step (o := _) rfl (fun K' hK' => ?_)
        go_simp
        refine HCT.out.mono ?_
        rintro e w3 ⟨rfl, hc⟩
        exact hK' _ _ (hI.put 3 rfl (by decide) HND.out HLS.out  hc rfl (hI.wld.trans hc))
      · simp at ho
        have e0 : lg L 0 = true := by unfold lg; simpa using hall ⟨0, .data⟩ (by rw [← ho]; simp) rfl
        have f0 : gt a 44 = .agg RG := hI.val 0 _ rfl e0
        have e3 : lg L 3 = true := by unfold lg; simpa using hall ⟨3, .data⟩ (by rw [← ho]; simp) rfl
        have f3 : gt a 47 = .agg RG := hI.val 3 _ rfl e3
        unfold gt at f0 f3
        clear hall
        clear ho
        refine wpOp_step (o := _) rfl (fun K' hK' => ?_)
        exact wp_eqls (.tmp 44) (.tmp 47) 31 31 rfl RG RG (by simpa [Act.eval] using f0) (by simpa [Act.eval] using f3) eqg31 (HEQR.out _) (hK' _ _ (hI.put 4 rfl (by decide) HND.out HLS.out  (Ch.refl _ _) rfl hI.wld))
      · simp at ho
        have e4 : lg L 4 = true := by unfold lg; simpa using hall ⟨4, .data⟩ (by rw [← ho]; simp) rfl
        have f4 : gt a 48 = .bool true := hI.val 4 _ rfl e4
        unfold gt at f4
        clear hall
        clear ho
        refine wpOp_step (o := _) rfl (fun K' hK' => ?_)
        go_simp
        exact hK' _ _ (hI.put 5 rfl (by decide) HND.out HLS.out  (Ch.refl _ _) rfl hI.wld)
      · simp at ho
        have q11 := (hI.fixed 11 (by simp)).trans F11.out
        have eg : lg L 5 = true := by unfold lg; simpa using hall ⟨5, .guard⟩ (by rw [← ho]; simp) rfl
        have fg0 : gt a 49 = .bool true := hI.val 5 _ rfl eg
        have fg := guard_of fg0 (by rw [hI.size]; decide)
        clear eg fg0
        unfold gt at q11
        clear hall
        clear ho
        refine wpOp_step (o := _) rfl (fun K' hK' => ?_)
        rw [if_pos (by simp [Region.wanted, yielded, fg])]
        exact wp_load_row 31 (.tmp 11) rfl b11 (by simpa [Act.eval] using q11) 31 RG (0, 0) _ (hI.wld.heap HR11.out id) Tryd.underlying31 rfl HIR.out (hK' _ _ (hI.put 6 rfl (by decide) HND.out HLS.out  (Ch.refl _ _) rfl hI.wld))
      · simp at ho
        have q10 := (hI.fixed 10 (by simp)).trans F10.out
        have eg : lg L 5 = true := by unfold lg; simpa using hall ⟨5, .guard⟩ (by rw [← ho]; simp) rfl
        have fg0 : gt a 49 = .bool true := hI.val 5 _ rfl eg
        have fg := guard_of fg0 (by rw [hI.size]; decide)
        clear eg fg0
        unfold gt at q10
        clear hall
        clear ho
        refine wpOp_step (o := _) rfl (fun K' hK' => ?_)
        go_simp
        exact hK' _ _ (hI.put 7 rfl (by decide) HND.out HLS.out  (Ch.refl _ _) rfl hI.wld)
      · simp at ho
        have q10 := (hI.fixed 10 (by simp)).trans F10.out
        have eg : lg L 5 = true := by unfold lg; simpa using hall ⟨5, .guard⟩ (by rw [← ho]; simp) rfl
        have fg0 : gt a 49 = .bool true := hI.val 5 _ rfl eg
        have fg := guard_of fg0 (by rw [hI.size]; decide)
        clear eg fg0
        unfold gt at q10
        clear hall
        clear ho
        refine wpOp_step (o := _) rfl (fun K' hK' => ?_)
        go_simp
        exact hK' _ _ (hI.put 8 rfl (by decide) HND.out HLS.out  (Ch.refl _ _) rfl hI.wld)
      · simp at ho
        have q9 := (hI.fixed 9 (by simp)).trans F9.out
        have eg : lg L 5 = true := by unfold lg; simpa using hall ⟨5, .guard⟩ (by rw [← ho]; simp) rfl
        have fg0 : gt a 49 = .bool true := hI.val 5 _ rfl eg
        have fg := guard_of fg0 (by rw [hI.size]; decide)
        clear eg fg0
        unfold gt at q9
        clear hall
        clear ho
        refine wpOp_step (o := _) rfl (fun K' hK' => ?_)
        go_simp
        exact hK' _ _ (hI.put 9 rfl (by decide) HND.out HLS.out  (Ch.refl _ _) rfl hI.wld)
      · simp at ho
        have e7 : lg L 7 = true := by unfold lg; simpa using hall ⟨7, .data⟩ (by rw [← ho]; simp) rfl
        have f7 : gt a 51 = .slice (some ⟨b10, 0, none⟩) 32 32 := hI.val 7 _ rfl e7
        have e8 : lg L 8 = true := by unfold lg; simpa using hall ⟨8, .data⟩ (by rw [← ho]; simp) rfl
        have f8 : gt a 52 = .slice (some ⟨b10, 0, none⟩) 32 32 := hI.val 8 _ rfl e8
        have e9 : lg L 9 = true := by unfold lg; simpa using hall ⟨9, .data⟩ (by rw [← ho]; simp) rfl
        have f9 : gt a 53 = .slice (some ⟨g9, 0, none⟩) (32 + n) c9 := hI.val 9 _ rfl e9
        have eg : lg L 5 = true := by unfold lg; simpa using hall ⟨5, .guard⟩ (by rw [← ho]; simp) rfl
        have fg0 : gt a 49 = .bool true := hI.val 5 _ rfl eg
        have fg := guard_of fg0 (by rw [hI.size]; decide)
        clear eg fg0
        unfold gt at f7 f8 f9
        clear hall
        clear ho
        refine wpOp_step (o := _) rfl (fun K' hK' => ?_)
        go_simp
        exact hK' _ _ (hI.put 10 rfl (by decide) HND.out HLS.out  ((Ch.refl _ _).alloc _) ⟨_, rfl, World.alloc_heap_new w' _⟩ (hI.wld.alloc _))
      · simp at ho
        have e10 : lg L 10 = true := by unfold lg; simpa using hall ⟨10, .data⟩ (by rw [← ho]; simp) rfl
        obtain ⟨g10, f10, hh10⟩ : ∃ g, gt a 54 = .slice (some ⟨g, 0, none⟩) 3 3 ∧ w'.heap[g]? = some (.cells #[.slice (some ⟨b10, 0, none⟩) 32 32, .slice (some ⟨b10, 0, none⟩) 32 32, .slice (some ⟨g9, 0, none⟩) (32 + n) c9] 34) := hI.val 10 _ rfl e10
        have eg : lg L 5 = true := by unfold lg; simpa using hall ⟨5, .guard⟩ (by rw [← ho]; simp) rfl
        have fg0 : gt a 49 = .bool true := hI.val 5 _ rfl eg
        have fg := guard_of fg0 (by rw [hI.size]; decide)
        clear eg fg0
        unfold gt at f10
        clear hall
        clear ho
        have HCT := Go.Lib.hid (HS3.out w' _ hI.wld hh10)
        refine wpOp_step (o := _) rfl (fun K' hK' => ?_)
        go_simp
        refine HCT.out.mono ?_
        rintro e w3 ⟨rfl, hc⟩
        exact hK' _ _ (hI.put 11 rfl (by decide) HND.out HLS.out  hc rfl (hI.wld.trans hc))
      · simp at ho
        have e6 : lg L 6 = true := by unfold lg; simpa using hall ⟨6, .data⟩ (by rw [← ho]; simp) rfl
        have f6 : gt a 50 = .agg RG := hI.val 6 _ rfl e6
        have e11 : lg L 11 = true := by unfold lg; simpa using hall ⟨11, .data⟩ (by rw [← ho]; simp) rfl
        have f11 : gt a 55 = .agg RG := hI.val 11 _ rfl e11
        have eg : lg L 5 = true := by unfold lg; simpa using hall ⟨5, .guard⟩ (by rw [← ho]; simp) rfl
        have fg0 : gt a 49 = .bool true := hI.val 5 _ rfl eg
        have fg := guard_of fg0 (by rw [hI.size]; decide)
        clear eg fg0
        unfold gt at f6 f11
        clear hall
        clear ho
        refine wpOp_step (o := _) rfl (fun K' hK' => ?_)
        rw [if_pos (by simp [Region.wanted, yielded, fg])]
        exact wp_eqls (.tmp 50) (.tmp 55) 31 31 rfl RG RG (by simpa [Act.eval] using f6) (by simpa [Act.eval] using f11) eqg31 (HEQR.out _) (hK' _ _ (hI.put 12 rfl (by decide) HND.out HLS.out  (Ch.refl _ _) rfl hI.wld))
      · simp at ho
        have e5 : lg L 5 = true := by unfold lg; simpa using hall ⟨5, .data⟩ (by rw [← ho]; simp) rfl
        have f5 : gt a 49 = .bool true := hI.val 5 _ rfl e5
        have e12 : lg L 12 = true := by unfold lg; simpa using hall ⟨12, .data⟩ (by rw [← ho]; simp) rfl
        have f12 : gt a 56 = .bool true := hI.val 12 _ rfl e12
        unfold gt at f5 f12
        clear hall
        clear ho
        refine wpOp_step (o := _) rfl (fun K' hK' => ?_)
        go_simp
        exact hK' _ _ (hI.put 13 rfl (by decide) HND.out HLS.out  (Ch.refl _ _) rfl hI.wld)
      · simp at ho
        have e13 : lg L 13 = true := by unfold lg; simpa using hall ⟨13, .data⟩ (by rw [← ho]; simp) rfl
        have f13 : gt a 57 = .bool true := hI.val 13 _ rfl e13
        unfold gt at f13
        clear hall
        clear ho
        refine wpOp_step (o := _) rfl (fun K' hK' => ?_)
        go_simp
        exact hK' _ _ (hI.put 14 rfl (by decide) HND.out HLS.out  (Ch.refl _ _) rfl hI.wld)
      · simp at ho
        have q4 := (hI.fixed 4 (by simp)).trans F4.out
        have eg : lg L 14 = true := by unfold lg; simpa using hall ⟨14, .guard⟩ (by rw [← ho]; simp) rfl
        have fg0 : gt a 58 = .bool true := hI.val 14 _ rfl eg
        have fg := guard_of fg0 (by rw [hI.size]; decide)
        clear eg fg0
        unfold gt at q4
        clear hall
        clear ho
        refine wpOp_step (o := _) rfl (fun K' hK' => ?_)
        rw [if_pos (by simp [Region.wanted, yielded, fg])]
        exact wp_load_row 31 (.tmp 4) rfl w.heap.size (by simpa [Act.eval] using q4) 31 E (0, 0) _ (hI.wld.heap HRE.out id) Tryd.underlying31 rfl HIE.out (hK' _ _ (hI.put 15 rfl (by decide) HND.out HLS.out  (Ch.refl _ _) rfl hI.wld))
      · simp at ho
        have q7 := (hI.fixed 7 (by simp)).trans F7.out
        have eg : lg L 14 = true := by unfold lg; simpa using hall ⟨14, .guard⟩ (by rw [← ho]; simp) rfl
        have fg0 : gt a 58 = .bool true := hI.val 14 _ rfl eg
        have fg := guard_of fg0 (by rw [hI.size]; decide)
        clear eg fg0
        unfold gt at q7
        clear hall
        clear ho
        refine wpOp_step (o := _) rfl (fun K' hK' => ?_)
        rw [if_pos (by simp [Region.wanted, yielded, fg])]
        exact wp_load_row 31 (.tmp 7) rfl b7 (by simpa [Act.eval] using q7) 31 E (0, 0) _ (hI.wld.heap HR7.out id) Tryd.underlying31 rfl HIE.out (hK' _ _ (hI.put 16 rfl (by decide) HND.out HLS.out  (Ch.refl _ _) rfl hI.wld))
      · simp at ho
        have e15 : lg L 15 = true := by unfold lg; simpa using hall ⟨15, .data⟩ (by rw [← ho]; simp) rfl
        have f15 : gt a 59 = .agg E := hI.val 15 _ rfl e15
        have e16 : lg L 16 = true := by unfold lg; simpa using hall ⟨16, .data⟩ (by rw [← ho]; simp) rfl
        have f16 : gt a 60 = .agg E := hI.val 16 _ rfl e16
        have eg : lg L 14 = true := by unfold lg; simpa using hall ⟨14, .guard⟩ (by rw [← ho]; simp) rfl
        have fg0 : gt a 58 = .bool true := hI.val 14 _ rfl eg
        have fg := guard_of fg0 (by rw [hI.size]; decide)
        clear eg fg0
        unfold gt at f15 f16
        clear hall
        clear ho
        refine wpOp_step (o := _) rfl (fun K' hK' => ?_)
        rw [if_pos (by simp [Region.wanted, yielded, fg])]
        exact wp_eqls (.tmp 59) (.tmp 60) 31 31 rfl E E (by simpa [Act.eval] using f15) (by simpa [Act.eval] using f16) eqg31 (HEQE.out _) (hK' _ _ (hI.put 17 rfl (by decide) HND.out HLS.out  (Ch.refl _ _) rfl hI.wld))
      · simp at ho
        have e14 : lg L 14 = true := by unfold lg; simpa using hall ⟨14, .data⟩ (by rw [← ho]; simp) rfl
        have f14 : gt a 58 = .bool true := hI.val 14 _ rfl e14
        have e17 : lg L 17 = true := by unfold lg; simpa using hall ⟨17, .data⟩ (by rw [← ho]; simp) rfl
        have f17 : gt a 61 = .bool true := hI.val 17 _ rfl e17
        unfold gt at f14 f17
        clear hall
        clear ho
        refine wpOp_step (o := _) rfl (fun K' hK' => ?_)
        go_simp
        exact hK' _ _ (hI.put 18 rfl (by decide) HND.out HLS.out  (Ch.refl _ _) rfl hI.wld)
      · simp at ho
        have e18 : lg L 18 = true := by unfold lg; simpa using hall ⟨18, .data⟩ (by rw [← ho]; simp) rfl
        have f18 : gt a 62 = .bool true := hI.val 18 _ rfl e18
        unfold gt at f18
        clear hall
        clear ho
        refine wpOp_step (o := _) rfl (fun K' hK' => ?_)
        go_simp
        exact hK' _ _ (hI.put 19 rfl (by decide) HND.out HLS.out  (Ch.refl _ _) rfl hI.wld)
      · simp at ho
        have q8 := (hI.fixed 8 (by simp)).trans F8.out
        have eg : lg L 19 = true := by unfold lg; simpa using hall ⟨19, .guard⟩ (by rw [← ho]; simp) rfl
        have fg0 : gt a 63 = .bool true := hI.val 19 _ rfl eg
        have fg := guard_of fg0 (by rw [hI.size]; decide)
        clear eg fg0
        unfold gt at q8
        clear hall
        clear ho
        refine wpOp_step (o := _) rfl (fun K' hK' => ?_)
        go_simp
        exact hK' _ _ (hI.put 20 rfl (by decide) HND.out HLS.out  (Ch.refl _ _) rfl hI.wld)
      · simp at ho
        have e20 : lg L 20 = true := by unfold lg; simpa using hall ⟨20, .data⟩ (by rw [← ho]; simp) rfl
        have f20 : gt a 64 = .slice (some ⟨b8, 0, none⟩) n c8 := hI.val 20 _ rfl e20
        have eg : lg L 19 = true := by unfold lg; simpa using hall ⟨19, .guard⟩ (by rw [← ho]; simp) rfl
        have fg0 : gt a 63 = .bool true := hI.val 19 _ rfl eg
        have fg := guard_of fg0 (by rw [hI.size]; decide)
        clear eg fg0
        have hcv := HCX.out w' hI.wld
        unfold gt at f20
        clear hall
        clear ho
        refine wpOp_step (o := _) rfl (fun K' hK' => ?_)
        go_simp
        exact hK' _ _ (hI.put 21 rfl (by decide) HND.out HLS.out  (Ch.refl _ _) rfl hI.wld)
      · simp at ho
        have q2 := (hI.fixed 2 (by simp)).trans F2.out
        have eg : lg L 19 = true := by unfold lg; simpa using hall ⟨19, .guard⟩ (by rw [← ho]; simp) rfl
        have fg0 : gt a 63 = .bool true := hI.val 19 _ rfl eg
        have fg := guard_of fg0 (by rw [hI.size]; decide)
        clear eg fg0
        unfold gt at q2
        clear hall
        clear ho
        refine wpOp_step (o := _) rfl (fun K' hK' => ?_)
        go_simp
        exact hK' _ _ (hI.put 22 rfl (by decide) HND.out HLS.out  (Ch.refl _ _) rfl hI.wld)
      · simp at ho
        have e22 : lg L 22 = true := by unfold lg; simpa using hall ⟨22, .data⟩ (by rw [← ho]; simp) rfl
        have f22 : gt a 66 = .slice p n c := hI.val 22 _ rfl e22
        have eg : lg L 19 = true := by unfold lg; simpa using hall ⟨19, .guard⟩ (by rw [← ho]; simp) rfl
        have fg0 : gt a 63 = .bool true := hI.val 19 _ rfl eg
        have fg := guard_of fg0 (by rw [hI.size]; decide)
        clear eg fg0
        have hcv := HCP.out w' hI.wld
        unfold gt at f22
        clear hall
        clear ho
        refine wpOp_step (o := _) rfl (fun K' hK' => ?_)
        go_simp
        exact hK' _ _ (hI.put 23 rfl (by decide) HND.out HLS.out  (Ch.refl _ _) rfl hI.wld)
      · simp at ho
        have e21 : lg L 21 = true := by unfold lg; simpa using hall ⟨21, .data⟩ (by rw [← ho]; simp) rfl
        have f21 : gt a 65 = .string XB := hI.val 21 _ rfl e21
        have e23 : lg L 23 = true := by unfold lg; simpa using hall ⟨23, .data⟩ (by rw [← ho]; simp) rfl
        have f23 : gt a 67 = .string XB := hI.val 23 _ rfl e23
        have eg : lg L 19 = true := by unfold lg; simpa using hall ⟨19, .guard⟩ (by rw [← ho]; simp) rfl
        have fg0 : gt a 63 = .bool true := hI.val 19 _ rfl eg
        have fg := guard_of fg0 (by rw [hI.size]; decide)
        clear eg fg0
        unfold gt at f21 f23
        clear hall
        clear ho
        refine wpOp_step (o := _) rfl (fun K' hK' => ?_)
        go_simp
        exact hK' _ _ (hI.put 24 rfl (by decide) HND.out HLS.out  (Ch.refl _ _) rfl hI.wld)
      · simp at ho
        have e19 : lg L 19 = true := by unfold lg; simpa using hall ⟨19, .data⟩ (by rw [← ho]; simp) rfl
        have f19 : gt a 63 = .bool true := hI.val 19 _ rfl e19
        have e24 : lg L 24 = true := by unfold lg; simpa using hall ⟨24, .data⟩ (by rw [← ho]; simp) rfl
        have f24 : gt a 68 = .bool true := hI.val 24 _ rfl e24
        unfold gt at f19 f24
        clear hall
        clear ho
        refine wpOp_step (o := _) rfl (fun K' hK' => ?_)
        go_simp
        exact hK' _ _ (hI.put 25 rfl (by decide) HND.out HLS.out  (Ch.refl _ _) rfl hI.wld)
      · simp at ho
        have e25 : lg L 25 = true := by unfold lg; simpa using hall ⟨25, .data⟩ (by rw [← ho]; simp) rfl
        have f25 : gt a 69 = .bool true := hI.val 25 _ rfl e25
        unfold gt at f25
        clear hall
        clear ho
        refine wpOp_step (o := _) rfl (fun K' hK' => ?_)
        go_simp
        exact hK' _ _ (hI.put 26 rfl (by decide) HND.out HLS.out  (Ch.refl _ _) rfl hI.wld)
      · simp at ho
        have q8 := (hI.fixed 8 (by simp)).trans F8.out
        have eg : lg L 26 = true := by unfold lg; simpa using hall ⟨26, .guard⟩ (by rw [← ho]; simp) rfl
        have fg0 : gt a 70 = .bool true := hI.val 26 _ rfl eg
        have fg := guard_of fg0 (by rw [hI.size]; decide)
        clear eg fg0
        unfold gt at q8
        clear hall
        clear ho
        refine wpOp_step (o := _) rfl (fun K' hK' => ?_)
        go_simp
        exact hK' _ _ (hI.put 27 rfl (by decide) HND.out HLS.out  (Ch.refl _ _) rfl hI.wld)
      · simp at ho
        have q2 := (hI.fixed 2 (by simp)).trans F2.out
        have eg : lg L 26 = true := by unfold lg; simpa using hall ⟨26, .guard⟩ (by rw [← ho]; simp) rfl
        have fg0 : gt a 70 = .bool true := hI.val 26 _ rfl eg
        have fg := guard_of fg0 (by rw [hI.size]; decide)
        clear eg fg0
        unfold gt at q2
        clear hall
        clear ho
        refine wpOp_step (o := _) rfl (fun K' hK' => ?_)
        go_simp
        exact hK' _ _ (hI.put 28 rfl (by decide) HND.out HLS.out  (Ch.refl _ _) rfl hI.wld)
      · simp at ho
        have e28 : lg L 28 = true := by unfold lg; simpa using hall ⟨28, .data⟩ (by rw [← ho]; simp) rfl
        have f28 : gt a 72 = .slice p n c := hI.val 28 _ rfl e28
        have eg : lg L 26 = true := by unfold lg; simpa using hall ⟨26, .guard⟩ (by rw [← ho]; simp) rfl
        have fg0 : gt a 70 = .bool true := hI.val 26 _ rfl eg
        have fg := guard_of fg0 (by rw [hI.size]; decide)
        clear eg fg0
        unfold gt at f28
        clear hall
        clear ho
        refine wpOp_step (o := _) rfl (fun K' hK' => ?_)
        go_simp
        exact hK' _ _ (hI.put 29 rfl (by decide) HND.out HLS.out  (Ch.refl _ _) rfl hI.wld)
      · simp at ho
        have e29 : lg L 29 = true := by unfold lg; simpa using hall ⟨29, .data⟩ (by rw [← ho]; simp) rfl
        have f29 : gt a 73 = .int .i64 (n : Int) := hI.val 29 _ rfl e29
        have eg : lg L 26 = true := by unfold lg; simpa using hall ⟨26, .guard⟩ (by rw [← ho]; simp) rfl
        have fg0 : gt a 70 = .bool true := hI.val 26 _ rfl eg
        have fg := guard_of fg0 (by rw [hI.size]; decide)
        clear eg fg0
        have hwn : IntKind.i64.wrap ((n : Int) + 1) = (n : Int) + 1 := by rw [IntKind.wrap_i64]; omega
        unfold gt at f29
        clear hall
        clear ho
        refine wpOp_step (o := _) rfl (fun K' hK' => ?_)
        go_simp
        exact hK' _ _ (hI.put 30 rfl (by decide) HND.out HLS.out  (Ch.refl _ _) rfl hI.wld)
      · simp at ho
        have e27 : lg L 27 = true := by unfold lg; simpa using hall ⟨27, .data⟩ (by rw [← ho]; simp) rfl
        have f27 : gt a 71 = .slice (some ⟨b8, 0, none⟩) n c8 := hI.val 27 _ rfl e27
        have e30 : lg L 30 = true := by unfold lg; simpa using hall ⟨30, .data⟩ (by rw [← ho]; simp) rfl
        have f30 : gt a 74 = .int .i64 ((n : Int) + 1) := hI.val 30 _ rfl e30
        have eg : lg L 26 = true := by unfold lg; simpa using hall ⟨26, .guard⟩ (by rw [← ho]; simp) rfl
        have fg0 : gt a 70 = .bool true := hI.val 26 _ rfl eg
        have fg := guard_of fg0 (by rw [hI.size]; decide)
        clear eg fg0
        have hl1 : 0 ≤ (n : Int) + 1 := by omega
        have hl2 : (n : Int) + 1 ≤ (c8 : Int) := by have := HC8.out; omega
        unfold gt at f27 f30
        clear hall
        clear ho
        refine wpOp_step (o := _) rfl (fun K' hK' => ?_)
        go_simp
        exact hK' _ _ (hI.put 31 rfl (by decide) HND.out HLS.out  (Ch.refl _ _) rfl hI.wld)
      · simp at ho
        have q2 := (hI.fixed 2 (by simp)).trans F2.out
        have eg : lg L 26 = true := by unfold lg; simpa using hall ⟨26, .guard⟩ (by rw [← ho]; simp) rfl
        have fg0 : gt a 70 = .bool true := hI.val 26 _ rfl eg
        have fg := guard_of fg0 (by rw [hI.size]; decide)
        clear eg fg0
        unfold gt at q2
        clear hall
        clear ho
        refine wpOp_step (o := _) rfl (fun K' hK' => ?_)
        go_simp
        exact hK' _ _ (hI.put 32 rfl (by decide) HND.out HLS.out  (Ch.refl _ _) rfl hI.wld)
      · simp at ho
        have e32 : lg L 32 = true := by unfold lg; simpa using hall ⟨32, .data⟩ (by rw [← ho]; simp) rfl
        have f32 : gt a 76 = .slice p n c := hI.val 32 _ rfl e32
        have eg : lg L 26 = true := by unfold lg; simpa using hall ⟨26, .guard⟩ (by rw [← ho]; simp) rfl
        have fg0 : gt a 70 = .bool true := hI.val 26 _ rfl eg
        have fg := guard_of fg0 (by rw [hI.size]; decide)
        clear eg fg0
        unfold gt at f32
        clear hall
        clear ho
        refine wpOp_step (o := _) rfl (fun K' hK' => ?_)
        go_simp
        exact hK' _ _ (hI.put 33 rfl (by decide) HND.out HLS.out  (Ch.refl _ _) rfl hI.wld)
      · simp at ho
        have e31 : lg L 31 = true := by unfold lg; simpa using hall ⟨31, .data⟩ (by rw [← ho]; simp) rfl
        have f31 : gt a 75 = .slice (some ⟨b8, 0, none⟩) (n + 1) c8 := hI.val 31 _ rfl e31
        have e33 : lg L 33 = true := by unfold lg; simpa using hall ⟨33, .data⟩ (by rw [← ho]; simp) rfl
        have f33 : gt a 77 = .int .i64 (n : Int) := hI.val 33 _ rfl e33
        have eg : lg L 26 = true := by unfold lg; simpa using hall ⟨26, .guard⟩ (by rw [← ho]; simp) rfl
        have fg0 : gt a 70 = .bool true := hI.val 26 _ rfl eg
        have fg := guard_of fg0 (by rw [hI.size]; decide)
        clear eg fg0
        have hl1 : (n : Int) < (n : Int) + 1 := by omega
        have hl2 : 0 ≤ (n : Int) := by omega
        unfold gt at f31 f33
        clear hall
        clear ho
        refine wpOp_step (o := _) rfl (fun K' hK' => ?_)
        go_simp
        exact hK' _ _ (hI.put 34 rfl (by decide) HND.out HLS.out  (Ch.refl _ _) rfl hI.wld)
      · simp at ho
        have e34 : lg L 34 = true := by unfold lg; simpa using hall ⟨34, .data⟩ (by rw [← ho]; simp) rfl
        have f34 : gt a 78 = .pointer (some ⟨b8, n, none⟩) := hI.val 34 _ rfl e34
        have eg : lg L 26 = true := by unfold lg; simpa using hall ⟨26, .guard⟩ (by rw [← ho]; simp) rfl
        have fg0 : gt a 70 = .bool true := hI.val 26 _ rfl eg
        have fg := guard_of fg0 (by rw [hI.size]; decide)
        clear eg fg0
        have hcl := hI.wld.get HN9.out id
        unfold gt at f34
        clear hall
        clear ho
        refine wpOp_step (o := _) rfl (fun K' hK' => ?_)
        go_simp
        exact hK' _ _ (hI.put 35 rfl (by decide) HND.out HLS.out  (Ch.refl _ _) rfl hI.wld)
      · simp at ho
        have e35 : lg L 35 = true := by unfold lg; simpa using hall ⟨35, .data⟩ (by rw [← ho]; simp) rfl
        have f35 : gt a 79 = .int .u8 9 := hI.val 35 _ rfl e35
        have eg : lg L 26 = true := by unfold lg; simpa using hall ⟨26, .guard⟩ (by rw [← ho]; simp) rfl
        have fg0 : gt a 70 = .bool true := hI.val 26 _ rfl eg
        have fg := guard_of fg0 (by rw [hI.size]; decide)
        clear eg fg0
        unfold gt at f35
        clear hall
        clear ho
        refine wpOp_step (o := _) rfl (fun K' hK' => ?_)
        go_simp
        exact hK' _ _ (hI.put 36 rfl (by decide) HND.out HLS.out  (Ch.refl _ _) rfl hI.wld)
      · simp at ho
        have e26 : lg L 26 = true := by unfold lg; simpa using hall ⟨26, .data⟩ (by rw [← ho]; simp) rfl
        have f26 : gt a 70 = .bool true := hI.val 26 _ rfl e26
        have e36 : lg L 36 = true := by unfold lg; simpa using hall ⟨36, .data⟩ (by rw [← ho]; simp) rfl
        have f36 : gt a 80 = .bool true := hI.val 36 _ rfl e36
        unfold gt at f26 f36
        clear hall
        clear ho
        refine wpOp_step (o := _) rfl (fun K' hK' => ?_)
        go_simp
        exact hK' _ _ (hI.put 37 rfl (by decide) HND.out HLS.out  (Ch.refl _ _) rfl hI.wld)
      · simp at ho
        have e37 : lg L 37 = true := by unfold lg; simpa using hall ⟨37, .data⟩ (by rw [← ho]; simp) rfl
        have f37 : gt a 81 = .bool true := hI.val 37 _ rfl e37
        unfold gt at f37
        clear hall
        clear ho
        refine wpOp_step (o := _) rfl (fun K' hK' => ?_)
        go_simp
        exact hK' _ _ (hI.put 38 rfl (by decide) HND.out HLS.out  (Ch.refl _ _) rfl hI.wld)
      · simp at ho
        have eg : lg L 38 = true := by unfold lg; simpa using hall ⟨38, .guard⟩ (by rw [← ho]; simp) rfl
        have fg0 : gt a 82 = .bool true := hI.val 38 _ rfl eg
        have fg := guard_of fg0 (by rw [hI.size]; decide)
        clear eg fg0
        clear hall
        clear ho
        have HCT := Go.Lib.hid (HW.out w' hI.wld)
        refine wpOp_step (o := _) rfl (fun K' hK' => ?_)
        go_simp
        refine HCT.out.mono ?_
        rintro e w3 ⟨rfl, hc⟩
        exact hK' _ _ (hI.put 39 rfl (by decide) HND.out HLS.out  hc rfl (hI.wld.trans hc))
      · simp at ho
        have e38 : lg L 38 = true := by unfold lg; simpa using hall ⟨38, .data⟩ (by rw [← ho]; simp) rfl
        have f38 : gt a 82 = .bool true := hI.val 38 _ rfl e38
        have e39 : lg L 39 = true := by unfold lg; simpa using hall ⟨39, .data⟩ (by rw [← ho]; simp) rfl
        have f39 : gt a 83 = .bool true := hI.val 39 _ rfl e39
        unfold gt at f38 f39
        clear hall
        clear ho
        refine wpOp_step (o := _) rfl (fun K' hK' => ?_)
        go_simp
        exact hK' _ _ (hI.put 40 rfl (by decide) HND.out HLS.out  (Ch.refl _ _) rfl hI.wld)
      · simp at ho
        have e40 : lg L 40 = true := by unfold lg; simpa using hall ⟨40, .data⟩ (by rw [← ho]; simp) rfl
        have f40 : gt a 84 = .bool true := hI.val 40 _ rfl e40
        unfold gt at f40
        clear hall
        clear ho
        refine wpOp_step (o := _) rfl (fun K' hK' => ?_)
        go_simp
        exact hK' _ _ (hI.put 41 rfl (by decide) HND.out HLS.out  (Ch.refl _ _) rfl hI.wld)
    · intro L a w' hI hr
      have hal := all_listed' (md := .any) (by kernel_rfl) hI.lsize hr
      have hfr := hI.frame HSZ.out (by simp) (fun i hi => hal i hi)
      have k0 : gt a 44 = .agg RG := hI.val 0 _ rfl (hal 0 (by decide))
      have k1 : gt a 45 = .string s := hI.val 1 _ rfl (hal 1 (by decide))
      have k2 : gt a 46 = .slice (some ⟨g9, 0, none⟩) (32 + n) c9 := hI.val 2 _ rfl (hal 2 (by decide))
      have k3 : gt a 47 = .agg RG := hI.val 3 _ rfl (hal 3 (by decide))
      have k4 : gt a 48 = .bool true := hI.val 4 _ rfl (hal 4 (by decide))
      have k5 : gt a 49 = .bool true := hI.val 5 _ rfl (hal 5 (by decide))
      have k6 : gt a 50 = .agg RG := hI.val 6 _ rfl (hal 6 (by decide))
      have k7 : gt a 51 = .slice (some ⟨b10, 0, none⟩) 32 32 := hI.val 7 _ rfl (hal 7 (by decide))
      have k8 : gt a 52 = .slice (some ⟨b10, 0, none⟩) 32 32 := hI.val 8 _ rfl (hal 8 (by decide))
      have k9 : gt a 53 = .slice (some ⟨g9, 0, none⟩) (32 + n) c9 := hI.val 9 _ rfl (hal 9 (by decide))
      obtain ⟨g10, k10, _⟩ : ∃ g, gt a 54 = .slice (some ⟨g, 0, none⟩) 3 3 ∧ w'.heap[g]? = some (.cells #[.slice (some ⟨b10, 0, none⟩) 32 32, .slice (some ⟨b10, 0, none⟩) 32 32, .slice (some ⟨g9, 0, none⟩) (32 + n) c9] 34) := hI.val 10 _ rfl (hal 10 (by decide))
      have k11 : gt a 55 = .agg RG := hI.val 11 _ rfl (hal 11 (by decide))
      have k12 : gt a 56 = .bool true := hI.val 12 _ rfl (hal 12 (by decide))
      have k13 : gt a 57 = .bool true := hI.val 13 _ rfl (hal 13 (by decide))
      have k14 : gt a 58 = .bool true := hI.val 14 _ rfl (hal 14 (by decide))
      have k15 : gt a 59 = .agg E := hI.val 15 _ rfl (hal 15 (by decide))
      have k16 : gt a 60 = .agg E := hI.val 16 _ rfl (hal 16 (by decide))
      have k17 : gt a 61 = .bool true := hI.val 17 _ rfl (hal 17 (by decide))
      have k18 : gt a 62 = .bool true := hI.val 18 _ rfl (hal 18 (by decide))
      have k19 : gt a 63 = .bool true := hI.val 19 _ rfl (hal 19 (by decide))
      have k20 : gt a 64 = .slice (some ⟨b8, 0, none⟩) n c8 := hI.val 20 _ rfl (hal 20 (by decide))
      have k21 : gt a 65 = .string XB := hI.val 21 _ rfl (hal 21 (by decide))
      have k22 : gt a 66 = .slice p n c := hI.val 22 _ rfl (hal 22 (by decide))
      have k23 : gt a 67 = .string XB := hI.val 23 _ rfl (hal 23 (by decide))
      have k24 : gt a 68 = .bool true := hI.val 24 _ rfl (hal 24 (by decide))
      have k25 : gt a 69 = .bool true := hI.val 25 _ rfl (hal 25 (by decide))
      have k26 : gt a 70 = .bool true := hI.val 26 _ rfl (hal 26 (by decide))
      have k27 : gt a 71 = .slice (some ⟨b8, 0, none⟩) n c8 := hI.val 27 _ rfl (hal 27 (by decide))
      have k28 : gt a 72 = .slice p n c := hI.val 28 _ rfl (hal 28 (by decide))
      have k29 : gt a 73 = .int .i64 (n : Int) := hI.val 29 _ rfl (hal 29 (by decide))
      have k30 : gt a 74 = .int .i64 ((n : Int) + 1) := hI.val 30 _ rfl (hal 30 (by decide))
      have k31 : gt a 75 = .slice (some ⟨b8, 0, none⟩) (n + 1) c8 := hI.val 31 _ rfl (hal 31 (by decide))
      have k32 : gt a 76 = .slice p n c := hI.val 32 _ rfl (hal 32 (by decide))
      have k33 : gt a 77 = .int .i64 (n : Int) := hI.val 33 _ rfl (hal 33 (by decide))
      have k34 : gt a 78 = .pointer (some ⟨b8, n, none⟩) := hI.val 34 _ rfl (hal 34 (by decide))
      have k35 : gt a 79 = .int .u8 9 := hI.val 35 _ rfl (hal 35 (by decide))
      have k36 : gt a 80 = .bool true := hI.val 36 _ rfl (hal 36 (by decide))
      have k37 : gt a 81 = .bool true := hI.val 37 _ rfl (hal 37 (by decide))
      have k38 : gt a 82 = .bool true := hI.val 38 _ rfl (hal 38 (by decide))
      have k39 : gt a 83 = .bool true := hI.val 39 _ rfl (hal 39 (by decide))
      have k40 : gt a 84 = .bool true := hI.val 40 _ rfl (hal 40 (by decide))
      have k41 : gt a 6 = .bool true := hI.val 41 _ rfl (hal 41 (by decide))
      rw [hfr, ← HAY.out]
      have HCZ := Go.Lib.hid (HWY.out.trans hI.wld)
      simp only [List.map_cons, List.map_nil, List.foldl_cons, List.foldl_nil, k0, k1, k2, k3, k4, k5, k6, k7, k8, k9, k10, k11, k12, k13, k14, k15, k16, k17, k18, k19, k20, k21, k22, k23, k24, k25, k26, k27, k28, k29, k30, k31, k32, k33, k34, k35, k36, k37, k38, k39, k40, k41, List.setIfInBounds_toArray, List.set_cons_succ, List.set_cons_zero]
      clear hfr hI hr hal k0 k1 k2 k3 k4 k5 k6 k7 k8 k9 k10 k11 k12 k13 k14 k15 k16 k17 k18 k19 k20 k21 k22 k23 k24 k25 k26 k27 k28 k29 k30 k31 k32 k33 k34 k35 k36 k37 k38 k39 k40 k41
      go_wp2_with fail
      go_ret
      exact ⟨rfl, HCZ.out⟩
end Go.Proofs.YtdmeeghgbiffmaaDoor
