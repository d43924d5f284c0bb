/- The reference's Hash, where bytes lack, or it refused. -/
import Derived.Test.YtljllfdigfojdaaR10
import Derived.Test.YtljllfdigfojdaaR5
import Derived.Laws.CopyOwn
namespace Go.Proofs.Ytljllfdigfojdaa
open Go Go.RowKit

theorem three_at (w : World) (a b c : Array Value) (t u v : TypeId) : (((w.alloc (.cells a t)).alloc (.cells b u)).alloc (.cells c v)).heap[w.heap.size]? = some (.cells a t) ∧ (((w.alloc (.cells a t)).alloc (.cells b u)).alloc (.cells c v)).heap[w.heap.size + 1]? = some (.cells b u) ∧
    (((w.alloc (.cells a t)).alloc (.cells b u)).alloc (.cells c v)).heap[w.heap.size + 1 + 1]? = some (.cells c v) ∧ Ch (fun _ => False) w (((w.alloc (.cells a t)).alloc (.cells b u)).alloc (.cells c v)) := by
  obtain ⟨h1, h2, h3⟩ := two_at w a b t u
  refine ⟨((Ch.refl (fun _ => False) _).alloc _).heap h1 id, ((Ch.refl (fun _ => False) _).alloc _).heap h2 id, ?_, h3.alloc _⟩
  rw [← World.size_alloc w (.cells a t), ← World.size_alloc (w.alloc _) (.cells b u)]
  exact World.alloc_heap_new _ _
set_option maxRecDepth 100000 in
theorem res52 (w1 : World) (B E : Nat) (s : Option Addr) (n c : Nat) (b : Bool) (cs : Array Value) (no : Int) (h : w1.heap[B]? = some (.cells #[.slice s n c, .bool b] 51)) (hE : w1.heap[E]? = some (.cells cs 44)) (hi : (Try.prog.info? 44).map (·.size) = some cs.size) (t : Array Value)
    (h2 : t[2]? = some (.pointer (some ⟨B, 0, none⟩))) (h3 : t[3]? = some (.pointer (some ⟨E, 0, none⟩))) (h4 : t[4]? = some (.int .i64 no)) :
    (results Try.f52 t).run Try.prog w1 = .ok (.tuple #[.agg #[.slice s n c, .bool b], .agg cs, .int .i64 no]) w1 := by
  have h0 : w1.cell? ⟨B, 0, none⟩ = some (.slice s n c) := (cell_of_heap h 0).trans rfl
  have h1 : w1.cell? ⟨B, 1, none⟩ = some (.bool b) := (cell_of_heap h 1).trans rfl
  have hl : (loadVar 44 ⟨E, 0, none⟩).run Try.prog w1 = .ok (.agg cs) w1 := run_loadVar_part (P := Try.prog) w1 ⟨E, 0, none⟩ 44 cs _ (fun j u hj => by rw [add_at0]; exact (cell_of_heap hE (0 + j)).trans (by rw [Nat.zero_add, ← Array.getElem?_toList]; exact hj)) Try.underlying44 rfl hi
  have hl2 : (loadVar 51 ⟨B, 0, none⟩).run Try.prog w1 = .ok (.agg #[.slice s n c, .bool b]) w1 := by simp [go_sem, h0, h1]
  have has : ∀ a, (asAddr (.pointer (some a))).run Try.prog w1 = .ok a w1 := fun _ => rfl
  have e2 : t.getD 2 undef = .pointer (some ⟨B, 0, none⟩) := by simp [h2]
  have e3 : t.getD 3 undef = .pointer (some ⟨E, 0, none⟩) := by simp [h3]
  have e4 : t.getD 4 undef = .int .i64 no := by simp [h4]
  clear h2 h3 h4 h h0 h1 hE hi
  simp only [results, Try.results52]
  simp only [e2, e3, e4, Sem.run_bind, Result.andThen, has, hl, hl2, Sem.run_pure, Array.mapM_eq_mapM_toList, List.mapM_cons, List.mapM_nil]
  simp [e2, e3, e4, Sem.run_bind, Result.andThen, has, hl, hl2]
set_option maxRecDepth 100000 in
set_option maxHeartbeats 2000000 in
theorem rrHash_no (p : Option Addr) (n c : Nat) (bad : Bool) (w : World)
    (H : ∀ W, Calls Try.prog 81 #[.agg #[.slice p n c, .bool bad], .int .i64 32] W fun e w' => e = .returned (.tuple #[.agg #[.slice p n c, .bool true], .slice none 0 0, .int .i64 140]) ∧ Ch (fun _ => False) W w') :
    Calls Try.prog 52 #[.agg #[.slice p n c, .bool bad]] w fun e w' => e = .returned (.tuple #[.agg #[.slice p n c, .bool true], .agg zH, .int .i64 140]) ∧ Ch (fun _ => False) w w' := by
  have HH := Go.Lib.hid H
  obtain ⟨_, hC, hE, hc⟩ := three_at w #[.slice p n c, .bool bad] #[.slice none 0 0, .bool false] zH 51 51 44
  have HC := Go.Lib.hid hC; have HE := Go.Lib.hid hE; have HCH := Go.Lib.hid hc
  clear H hC hE hc
  go_enter Try.func52, Try.ntmps52
  go_wp2_with fail
  rw [show (#[.int .u8 0, .int .u8 0, .int .u8 0, .int .u8 0, .int .u8 0, .int .u8 0, .int .u8 0, .int .u8 0, .int .u8 0, .int .u8 0, .int .u8 0, .int .u8 0, .int .u8 0, .int .u8 0, .int .u8 0, .int .u8 0, .int .u8 0, .int .u8 0, .int .u8 0, .int .u8 0, .int .u8 0, .int .u8 0, .int .u8 0, .int .u8 0, .int .u8 0, .int .u8 0, .int .u8 0, .int .u8 0, .int .u8 0, .int .u8 0, .int .u8 0, .int .u8 0] : Array Value) = zH from by kernel_rfl]
  refine (HH.out _).mono ?_
  rintro e w1 ⟨rfl, hc1⟩
  have hc2 : Ch (fun _ => False) w1 (w1.alloc (.cells #[.slice p n c, .bool true] 51)) := (Ch.refl _ w1).alloc _
  have hC2 := (hc1.trans hc2).heap HC.out id
  have hE2 := (hc1.trans hc2).heap HE.out id
  have hcl0 := (cell_of_heap hC2 0).trans rfl
  have hcl1 := (cell_of_heap hC2 1).trans rfl
  have hfz0 := frozen_of_heap hC2 0
  have hfz1 := frozen_of_heap hC2 1
  have HCX := Go.Lib.hid (HCH.out.trans (hc1.trans hc2))
  have HC4 := Go.Lib.hid (set_two hC2 (.slice p n c) (.bool true))
  have HCW := Go.Lib.hid (ch_two (S := fun q => q = w.heap.size + 1) (Ch.refl _ (w1.alloc (.cells #[.slice p n c, .bool true] 51))) (b := w.heap.size + 1) (fun _ => rfl) (.slice p n c) (.bool true))
  have HE4 := Go.Lib.hid (HCW.out.heap hE2 (show ¬ w.heap.size + 1 + 1 = w.heap.size + 1 by omega))
  clear hc1 hc2 hC2 hE2
  go_wp2_with (refine wpList_store_row rfl 44 (.tmp 3) (.tmp 18) rfl (w.heap.size + 1 + 1) zH rfl (by show Value.agg _ = Value.agg zH; exact congrArg Value.agg (by kernel_rfl)) 44 zH HE4.out zH_info rfl zH_all ?_)
  have hst : Ch (fun q => q = w.heap.size + 1 + 1) (World.setCell ((w1.alloc (.cells #[.slice p n c, .bool true] 51)).setCell ⟨w.heap.size + 1, 0, none⟩ (.slice p n c)) ⟨w.heap.size + 1, 1, none⟩ (.bool true)) _ := Ch.setRow (S := fun q => q = w.heap.size + 1 + 1) (Ch.refl _ _) (g := w.heap.size + 1 + 1) (fun _ => rfl) zH
  have hC5 := hst.heap HC4.out (show ¬ w.heap.size + 1 = w.heap.size + 1 + 1 by omega)
  have hE5 := heap_setRow (cells := zH) HE4.out
  have hall : Ch (fun _ => False) w _ := (HCX.out.then HCW.out (fun i hi e => by have e' : i = w.heap.size + 1 := e; omega)).then hst (fun i hi e => by have e' : i = w.heap.size + 1 + 1 := e; omega)
  exact bodyPost_ret (res52 _ (w.heap.size + 1) (w.heap.size + 1 + 1) p n c true zH 140 hC5 hE5 zH_info _ rfl rfl rfl) rfl ⟨rfl, hall⟩
theorem rrHash_bad (p : Option Addr) (n c : Nat) (w : World) : Calls Try.prog 52 #[.agg #[.slice p n c, .bool true]] w fun e w' => e = .returned (.tuple #[.agg #[.slice p n c, .bool true], .agg zH, .int .i64 140]) ∧ Ch (fun _ => False) w w' :=
  rrHash_no p n c true w (fun W => rTake_bad p n c 32 W)
theorem rrHash_lack (p : Option Addr) (n c : Nat) (w : World) (hn : n < 32) : Calls Try.prog 52 #[.agg #[.slice p n c, .bool false]] w fun e w' => e = .returned (.tuple #[.agg #[.slice p n c, .bool true], .agg zH, .int .i64 140]) ∧ Ch (fun _ => False) w w' :=
  rrHash_no p n c false w (fun W => rTake_lack p n c 32 W hn)
end Go.Proofs.Ytljllfdigfojdaa
/- The reference's Hash. -/
namespace Go.Proofs.Ytljllfdigfojdaa
open Go Go.RowKit

theorem fL_at (f : Nat → UInt8) (n i : Nat) (h : i < n) : (fL f n)[i]? = some (.int .u8 ((f i).toNat : Int)) := by unfold fL; simp [h]
theorem splice_hv (G T : Nat → UInt8) : ((hv G).toList.take 0 ++ (fL T 32 ++ (hv G).toList.drop (0 + (fL T 32).length))).toArray = hv T := by
  apply Array.ext_getElem?
  intro i
  simp only [List.take_zero, List.nil_append, List.getElem?_toArray, Nat.zero_add]
  by_cases hi : i < 32
  · rw [List.getElem?_append_left (by rw [fL_len]; exact hi), fL_at T 32 i hi]
    exact (show (hv T)[i]? = some (.int .u8 ((T i).toNat : Int)) from arr_get 32 _ i hi).symm
  · rw [List.getElem?_append_right (by rw [fL_len]; omega), List.getElem?_drop, fL_len, List.getElem?_eq_none (by rw [Array.length_toList, show (hv G).size = 32 from arr_size _ _]; omega), Array.getElem?_eq_none (by rw [show (hv T).size = 32 from arr_size _ _]; omega)]
/-- 'copy(row[:], b)', both of 32 bytes. -/
theorem wpList_copy_hash {w : World} {ops : Array Oper} {rest : List Oper} {o : Oper} {a : Act} {Q : Exit → Act → World → Prop} (hgd : o.guard = none) (d s : Operand)
    (ho : o.op = .call { callee := .builtin .copy, args := #[d, s], argTypes := #[27, 27] }) (g : Nat) (G T : Nat → UInt8) (p : Option Addr) (c : Nat)
    (hd : a.eval d = .slice (some ⟨g, 0, none⟩) 32 32) (hs : a.eval s = .slice p 32 c) (hg : w.heap[g]? = some (.cells (hv G) 44)) (hb : BytesAt w p 32 c T)
    (h : ∀ v w', w'.heap[g]? = some (.cells (hv T) 44) → Ch (fun k => k = g) w w' → wpList Try.prog ops Q rest (a.put o.dst v) w') : wpList Try.prog ops Q (o :: rest) a w := by
  rcases hb with ⟨x, y, rfl, hnc, _, hb⟩ | ⟨h1, _⟩
  · refine wpList_copy_own hgd d s 27 27 ho 5 Try.underlying27 (by kernel_rfl) g 0 32 32 ⟨x, y, none⟩ 32 c hd hs (hv G) 44 hg (fL T 32) (by rw [fL_len]; simp [Nat.min_def]) ?_ (by rw [fL_len, show (hv G).size = 32 from arr_size _ _]; omega) ?_ (h _ _ ?_ ?_)
    · intro j v hj
      obtain ⟨h1, rfl⟩ := fL_get T 32 j v hj
      rw [show (⟨x, y, none⟩ : Addr).add j = ⟨x, y + j, none⟩ by simp [Addr.add]]
      exact hb j h1
    · intro v hv
      obtain ⟨j, hj⟩ := List.mem_iff_getElem?.1 hv
      obtain ⟨_, rfl⟩ := fL_get T 32 j v hj
      rfl
    · rw [splice_hv]; exact heap_setRow hg
    · exact Ch.setRow (S := fun k => k = g) (Ch.refl _ w) (fun _ => rfl) _
  · exact absurd h1 (by decide)
set_option maxRecDepth 100000 in
set_option maxHeartbeats 4000000 in
theorem rrHash_ok (p : Option Addr) (n c x0 : Nat) (f : Nat → UInt8) (w : World) (hb : BytesAt w p n c f) (hblk : ∀ ad, p = some ad → ad.block = x0) (hx0 : x0 < w.heap.size) (hn : 32 ≤ n) :
    Calls Try.prog 52 #[.agg #[.slice p n c, .bool false]] w fun e w' => Ch (fun _ => False) w w' ∧ ∃ p' c', e = .returned (.tuple #[.agg #[.slice p' (n - 32) c', .bool false], .agg (hv f), .int .i64 0]) ∧ BytesAt w' p' (n - 32) c' (fun j => f (32 + j)) ∧ ∀ ad, p' = some ad → ad.block = x0 := by
  have HT := Go.Lib.hid (fun W (hc : Ch (fun _ => False) w W) => rTake_ok p n c 32 x0 f W (hb.ch hc (fun _ _ => id)) hblk hn)
  have HX0 := Go.Lib.hid hx0; have HPB := Go.Lib.hid hblk
  obtain ⟨_, hC, hE, hc⟩ := three_at w #[.slice p n c, .bool false] #[.slice none 0 0, .bool false] zH 51 51 44
  have HC := Go.Lib.hid hC; have HE := Go.Lib.hid hE; have HCH := Go.Lib.hid hc
  clear hb hblk hx0 hn hC hE hc
  generalize hm : n - 32 = m at *
  clear hm
  go_enter Try.func52, Try.ntmps52
  go_wp2_with fail
  rw [show (#[.int .u8 0, .int .u8 0, .int .u8 0, .int .u8 0, .int .u8 0, .int .u8 0, .int .u8 0, .int .u8 0, .int .u8 0, .int .u8 0, .int .u8 0, .int .u8 0, .int .u8 0, .int .u8 0, .int .u8 0, .int .u8 0, .int .u8 0, .int .u8 0, .int .u8 0, .int .u8 0, .int .u8 0, .int .u8 0, .int .u8 0, .int .u8 0, .int .u8 0, .int .u8 0, .int .u8 0, .int .u8 0, .int .u8 0, .int .u8 0, .int .u8 0, .int .u8 0] : Array Value) = zH from by kernel_rfl]
  refine (HT.out _ HCH.out).mono ?_
  rintro e w1 ⟨hc1, q2, d2, rfl, hb2, hbx, hq2⟩
  have HC1 := Go.Lib.hid hc1; have HB2 := Go.Lib.hid hb2; have HBX := Go.Lib.hid hbx; have HQ2 := Go.Lib.hid hq2
  clear hc1 hb2 hbx hq2
  have HV0 := Go.Lib.hid (show ((w1.alloc (.cells #[.slice q2 m d2, .bool false] 51)).alloc (.cells zH 44)).heap[w1.heap.size + 1]? = some (.cells (hv fun _ => 0) 44) from (two_at w1 _ _ 51 44).2.1)
  have HC2 := Go.Lib.hid ((two_at w1 #[.slice q2 m d2, .bool false] zH 51 44).2.2); have HD2 := Go.Lib.hid ((two_at w1 #[.slice q2 m d2, .bool false] zH 51 44).1)
  have HBX2 := Go.Lib.hid (HBX.out.ch HC2.out (fun _ _ => id))
  go_upto_region 6 with (refine wpList_copy_hash rfl (.tmp 20) (.tmp 21) rfl (w1.heap.size + 1) (fun _ => 0) f p c rfl rfl HV0.out HBX2.out ?_; intro v9 w4 hv9 hc9; have HV4' := Go.Lib.hid hv9; have HC9 := Go.Lib.hid hc9; clear hv9 hc9)
  have hs1 := HC1.out.size; have hs0 := HCH.out.size; have hcl := row_lt HC.out; have hel := row_lt HE.out; have hxl := HX0.out
  have h12 := HC1.out.trans HC2.out
  have HC4 := Go.Lib.hid (HC9.out.heap (h12.heap HC.out id) (show ¬ w.heap.size + 1 = w1.heap.size + 1 by omega))
  have HE4 := Go.Lib.hid (HC9.out.heap (h12.heap HE.out id) (show ¬ w.heap.size + 1 + 1 = w1.heap.size + 1 by omega))
  have HD4 := Go.Lib.hid (HC9.out.heap HD2.out (show ¬ w1.heap.size = w1.heap.size + 1 by omega))
  have HDC := Go.Lib.hid (show ¬ w1.heap.size = w.heap.size + 1 by omega)
  have HVC := Go.Lib.hid (show ¬ w1.heap.size + 1 = w.heap.size + 1 by omega)
  have HB4 := Go.Lib.hid ((HB2.out.ch HC2.out (fun _ _ => id)).but2 HC9.out HQ2.out (fun _ => show ¬ x0 = w1.heap.size + 1 by omega))
  have HXC := Go.Lib.hid (show ¬ x0 = w.heap.size + 1 by omega); have HXE := Go.Lib.hid (show ¬ x0 = w.heap.size + 1 + 1 by omega)
  have HCE := Go.Lib.hid (show ¬ w.heap.size + 1 + 1 = w.heap.size + 1 by omega)
  have hcx : Ch (fun _ => False) w w4 := (HCH.out.trans h12).then HC9.out (fun i hi e => by have e' : i = w1.heap.size + 1 := e; omega)
  have HCF := Go.Lib.hid (fun W (h : Ch (fun q => q = w.heap.size + 1) w4 W) => (show Ch (fun _ => False) w W from hcx.then h (fun i hi e => by have e' : i = w.heap.size + 1 := e; omega)))
  have HWS := Go.Lib.hid (show w.heap.size ≤ w.heap.size + 1 + 1 by omega)
  have HV4 := Go.Lib.hid HV4'.out
  clear hs1 hs0 hcl hel hxl h12 hcx HV4' HV0 HBX2 HC2 HD2
  simp only [Act.put, List.setIfInBounds_toArray, List.set_cons_succ, List.set_cons_zero]
  generalize w1.heap.size + 1 = V at *
  generalize w1.heap.size = D at *
  generalize w.heap.size + 1 + 1 = E at *
  generalize w.heap.size + 1 = C at *
  generalize hax : Act.mk _ _ = ax
  have HSZ := Go.Lib.hid (show ax.tmps.size = 25 by rw [← hax]; rfl)
  have F2 := Go.Lib.hid (show gt ax 2 = .pointer (some ⟨C, 0, none⟩) by rw [← hax]; rfl)
  have F5 := Go.Lib.hid (show gt ax 5 = .pointer (some ⟨D, 0, none⟩) by rw [← hax]; rfl)
  have F8 := Go.Lib.hid (show gt ax 8 = .pointer (some ⟨V, 0, none⟩) by rw [← hax]; rfl)
  have HAX := Go.Lib.hid hax
  clear hax
  have HND := Go.Lib.hid (show ([23, 24] : List Nat).Nodup by decide)
  have HLS : Hid (Lasts [(23, fun x _ => x = .agg #[.slice q2 m d2, .bool false]), (24, fun x _ => x = .agg (hv f))]) := Go.Lib.hid (by
    intro p hp v w1 w2 hc h
    simp only [List.mem_cons, List.not_mem_nil, or_false] at hp
    rcases hp with rfl | rfl
    all_goals first | exact h | (obtain ⟨g, h1, h2⟩ := h; exact ⟨g, h1, hc.heap h2 id⟩) | (obtain ⟨g, c, h1, h2⟩ := h; exact ⟨g, c, h1, h2.ch hc (fun _ _ h => h)⟩))
  refine wp_region_open_tail 3 (InvQ 25 [(23, fun x _ => x = .agg #[.slice q2 m d2, .bool false]), (24, fun x _ => x = .agg (hv f))] (IAsk w4 C 2 5 (.slice q2 m d2) false) ax) (by kernel_rfl) (by kernel_rfl) (InvQ.start (l := [(23, fun x _ => x = .agg #[.slice q2 m d2, .bool false]), (24, fun x _ => x = .agg (hv f))]) (I := IAsk w4 C 2 5 (.slice q2 m d2) false) (n := 5) (by exact (by decide : 2 ≤ 5)) HSZ.out (IAsk.start HC4.out)) ?_ ?_
  · intro L a w' i hI hr hlt
    obtain ⟨h1, o, ho, hall⟩ := mem_ready.1 hr
    have hun : lg L i = false := by
      have h2 : i < L.size := Nat.lt_of_lt_of_le hlt (by rw [hI.wld.size]; decide)
      unfold lg; simp [h2] at h1 ⊢; exact h1
    have hsplit : i = 0 ∨ i = 1 ∨ i = 2 := by omega
    clear hlt h1 hr
    rcases hsplit with rfl | rfl | rfl
    · have q5 := (hI.fixed 5 (by simp)).trans F5.out
      have hD := hI.wld.ch.heap HD4.out HDC.out
      have hcl0 : w'.cell? ⟨D, 0, none⟩ = some (.slice q2 m d2) := (cell_of_heap hD 0).trans rfl
      have hcl1 : w'.cell? ⟨D, 1, none⟩ = some (.bool false) := (cell_of_heap hD 1).trans rfl
      clear hD
      unfold gt at q5
      clear hall
      refine wpOp_step (o := _) rfl (fun K' hK' => ?_)
      go_simp
      exact hK' _ _ (hI.put 0 rfl (by decide) HND.out HLS.out (Ch.refl _ _) rfl (hI.wld.step 0 (by decide) (by decide) (Ch.refl _ _)))
    · have q8 := (hI.fixed 8 (by simp)).trans F8.out
      have hV := hI.wld.ch.heap HV4.out HVC.out
      unfold gt at q8
      clear hall
      refine wpOp_step (o := _) rfl (fun K' hK' => ?_)
      refine wp_load_at 44 (.tmp 8) rfl ⟨V, 0, none⟩ (by simpa [Act.eval] using q8) (.agg (hv f)) (run_loadVar_part w' ⟨V, 0, none⟩ 44 (hv f) _ (fun j u hj => by rw [add_at0]; exact (cell_of_heap hV (0 + j)).trans (by rw [Nat.zero_add, ← Array.getElem?_toList]; exact hj)) Try.underlying44 rfl (hv_info f)) (hK' _ _ (hI.put 1 rfl (by decide) HND.out HLS.out (Ch.refl _ _) rfl (hI.wld.step 1 (by decide) (by decide) (Ch.refl _ _))))
    · simp at ho
      have e0 : lg L 0 = true := by unfold lg; simpa using hall ⟨0, .data⟩ (by rw [← ho]; simp) rfl
      have f0 : gt a 23 = .agg #[.slice q2 m d2, .bool false] := hI.val 0 _ rfl e0
      have q2 := (hI.fixed 2 (by simp)).trans F2.out
      have hrow := hI.wld.before hun
      have hcl0 := (cell_of_heap hrow 0).trans rfl
      have hcl1 := (cell_of_heap hrow 1).trans rfl
      have hfz0 := frozen_of_heap hrow 0
      have hfz1 := frozen_of_heap hrow 1
      unfold gt at f0 q2
      clear hall
      clear ho
      refine wpOp_step (o := _) rfl (fun K' hK' => ?_)
      clear hrow
      go_simp
      exact hK' _ _ (hI.skipX 2 (Nat.le_refl 2) (by rw [hI.wld.size]; decide) (fun k p hp hl h => by
        have hk2 : k < 2 := (List.getElem?_eq_some_iff.1 hp).1
        obtain rfl | rfl : k = 0 ∨ k = 1 := by omega
        all_goals (cases hp; exact h)) (hI.wld.store (by decide) hun))
  · intro L a w' hI hal
    have hfr := hI.frame HSZ.out (by simp) (fun i hi => hal i (by have h10 : i < 2 := hi; omega))
    have k0 : gt a 23 = .agg #[.slice q2 m d2, .bool false] := hI.val 0 _ rfl (hal 0 (by decide))
    have k1 : gt a 24 = .agg (hv f) := hI.val 1 _ rfl (hal 1 (by decide))
    rw [hfr, ← HAX.out]
    have HWB := Go.Lib.hid (hI.wld.behind (hal 2 (by decide))); have HWC := Go.Lib.hid hI.wld.ch
    simp only [List.map_cons, List.map_nil, List.foldl_cons, List.foldl_nil, k0, k1, List.setIfInBounds_toArray, List.set_cons_succ, List.set_cons_zero]
    clear hfr hI hal k0 k1 HSZ HND HLS HAX F2 F5 F8
    simp only [List.drop_succ_cons, List.drop_zero]
    have HE5 := Go.Lib.hid (HWC.out.heap HE4.out HCE.out)
    go_wp2_with (refine wpList_store_row rfl 44 (.tmp 3) (.tmp 24) rfl E (hv f) rfl rfl 44 zH HE5.out (hv_info f) (zH_size.trans (hv_size f).symm) (hv_all f) ?_)
    have hst : Ch (fun q => q = E) w' (w'.setRow E (hv f)) := Ch.setRow (S := fun q => q = E) (Ch.refl _ _) (g := E) (fun _ => rfl) _
    have hws := HWS.out
    refine bodyPost_ret (res52 _ C E q2 m d2 false (hv f) 0 (hst.heap HWB.out (fun e => HCE.out e.symm)) (heap_setRow HE5.out) (hv_info f) _ rfl rfl rfl) rfl ?_
    exact ⟨(HCF.out _ HWC.out).then hst (fun i hi e => by have e' : i = E := e; omega), q2, d2, rfl, (HB4.out.but2 HWC.out HQ2.out (fun _ => HXC.out)).but2 hst HQ2.out (fun _ => HXE.out), HQ2.out⟩
end Go.Proofs.Ytljllfdigfojdaa
/- What both readers tell of each call: one value, one error, so many bytes; whether it refused something before or not. -/
namespace Go.Proofs.Ytljllfdigfojdaa
open Go Go.RowKit

structure AskV where
  v : Value
  no : Int
  k : Nat
  bad : Bool
def outV (out : Out) (z : Value) : AskV := match out with | .got x k => ⟨x, 0, k, false⟩ | _ => ⟨z, 140, 0, true⟩
/-- What the reader tells. -/
def RdTold (A : AskV) (f : Nat → UInt8) (n r x0 : Nat) (w : World) (e : Ending) (w' : World) : Prop :=
  Ch (fun q => q = r) w w' ∧ e = .returned (.tuple #[A.v, .int .i64 A.no]) ∧ A.k ≤ n ∧ ∃ p' c', RdAt w' r x0 p' (n - A.k) c' (fun j => f (A.k + j)) A.bad
/-- What the reference's reader tells. -/
def RrTold3 (A : AskV) (f : Nat → UInt8) (n x0 : Nat) (w : World) (e : Ending) (w' : World) : Prop :=
  Ch (fun _ => False) w w' ∧ ∃ p' c', e = .returned (.tuple #[.agg #[.slice p' (n - A.k) c', .bool A.bad], A.v, .int .i64 A.no]) ∧ BytesAt w' p' (n - A.k) c' (fun j => f (A.k + j)) ∧ ∀ ad, p' = some ad → ad.block = x0
section
variable {out : Out} {f : Nat → UInt8} {p : Option Addr} {n c r x0 : Nat} {z v : Value} {no : Int} {bad : Bool} {w w' : World} {e : Ending}
theorem RdTold.of_part (h : PartTold out f p n c r x0 z w e w') : RdTold (outV out z) f n r x0 w e w' := by
  unfold PartTold at h
  obtain ⟨hc, h⟩ := h
  cases out with
  | lack => refine ⟨hc, h.1, Nat.zero_le _, p, c, ?_⟩; show RdAt w' r x0 p n c (fun j => f (0 + j)) true; rw [fun_zero]; exact h.2
  | wrong => refine ⟨hc, h.1, Nat.zero_le _, p, c, ?_⟩; show RdAt w' r x0 p n c (fun j => f (0 + j)) true; rw [fun_zero]; exact h.2
  | got x k => exact ⟨hc, h.1, h.2.1, h.2.2⟩
theorem RdTold.of_none (hr : RdAt w r x0 p n c f bad) (hc : Ch (fun _ => False) w w') (he : e = .returned (.tuple #[v, .int .i64 no])) : RdTold ⟨v, no, 0, bad⟩ f n r x0 w e w' := by
  refine ⟨hc.mono (fun _ _ e => e.elim), he, Nat.zero_le _, p, c, ?_⟩
  show RdAt w' r x0 p n c (fun j => f (0 + j)) bad
  rw [fun_zero]; exact hr.ch hc id id
theorem RrTold3.of_told (h : RrTold2 out f p n c x0 z w e w') (hb : BytesAt w p n c f) (hblk : ∀ ad, p = some ad → ad.block = x0) : RrTold3 (outV out z) f n x0 w e w' := by
  unfold RrTold2 at h
  obtain ⟨hc, h⟩ := h
  cases out with
  | lack => refine ⟨hc, p, c, h, ?_, hblk⟩; show BytesAt w' p n c (fun j => f (0 + j)); rw [fun_zero]; exact hb.ch hc (fun _ _ => id)
  | wrong => refine ⟨hc, p, c, h, ?_, hblk⟩; show BytesAt w' p n c (fun j => f (0 + j)); rw [fun_zero]; exact hb.ch hc (fun _ _ => id)
  | got x k => exact ⟨hc, h.2⟩
theorem RrTold3.of_told1 (h : RrTold out f p n c x0 w e w') (hb : BytesAt w p n c f) (hblk : ∀ ad, p = some ad → ad.block = x0) : RrTold3 (outV out (.int .i64 0)) f n x0 w e w' :=
  RrTold3.of_told h hb hblk
theorem RrTold3.of_none (hb : BytesAt w p n c f) (hblk : ∀ ad, p = some ad → ad.block = x0) (hc : Ch (fun _ => False) w w') (he : e = .returned (.tuple #[.agg #[.slice p n c, .bool bad], v, .int .i64 no])) : RrTold3 ⟨v, no, 0, bad⟩ f n x0 w e w' := by
  refine ⟨hc, p, c, he, ?_, hblk⟩
  show BytesAt w' p n c (fun j => f (0 + j)); rw [fun_zero]; exact hb.ch hc (fun _ _ => id)
end
section
variable (r x0 y0 : Nat) (p q : Option Addr) (n c d : Nat) (f : Nat → UInt8) (bad : Bool) (w : World) (hr : RdAt w r x0 p n c f bad) (hq : BytesAt w q n d f) (hy : ∀ ad, q = some ad → ad.block = y0)
include hr hq hy
theorem pairN (most : Int) (hn : n ≤ 1000000000000) : ∃ (v : Int) (no : Int) (k : Nat) (b2 : Bool),
    (∀ W, Ch (fun _ => False) w W → Calls Try.prog 50 #[.agg #[.slice q n d, .bool bad], .int .i64 most] W (RrTold3 ⟨.int .i64 v, no, k, b2⟩ f n y0 W)) ∧
    (∀ W, Ch (fun _ => False) w W → Calls Try.prog 22 #[.pointer (some ⟨r, 0, none⟩), .int .i64 most] W (RdTold ⟨.int .i64 v, no, k, b2⟩ f n r x0 W)) := by
  cases bad with
  | true => exact ⟨0, 140, 0, true, fun W hc => (rrNumber_bad q n d most W).mono (fun e w' h => RrTold3.of_none (hq.ch hc (fun _ _ => id)) hy h.2 h.1),
      fun W hc => (rNumber_bad r x0 p n c f most W (hr.ch hc id id)).mono (fun e w' h => RdTold.of_none (hr.ch hc id id) h.2 h.1)⟩
  | false =>
    by_cases hm : most < 0
    · exact ⟨0, 2, 0, false, fun W hc => (rrNumber_neg q n d most W hm).mono (fun e w' h => RrTold3.of_none (hq.ch hc (fun _ _ => id)) hy h.2 h.1),
        fun W hc => (rNumber_neg r x0 p n c f most W (hr.ch hc id id) hm).mono (fun e w' h => RdTold.of_none (hr.ch hc id id) h.2 h.1)⟩
    · have h1 := fun W (hc : Ch (fun _ => False) w W) => (rrNumber_any q n d y0 f most W (by omega) (hq.ch hc (fun _ _ => id)) hy hn).mono (fun e w' h => RrTold3.of_told1 h (hq.ch hc (fun _ _ => id)) hy)
      have h2 := fun W (hc : Ch (fun _ => False) w W) => (rNumber_ok r x0 p n c f most W (hr.ch hc id id) (by omega)).mono (fun e w' h => RdTold.of_part h)
      cases ho : outN most f n with
      | lack => rw [ho] at h1 h2; exact ⟨_, _, _, _, h1, h2⟩
      | wrong => rw [ho] at h1 h2; exact ⟨_, _, _, _, h1, h2⟩
      | got x k => obtain ⟨v, rfl, _⟩ := outN_got ho; rw [ho] at h1 h2; exact ⟨_, _, _, _, h1, h2⟩
theorem pairB : ∃ (v : Bool) (no : Int) (k : Nat) (b2 : Bool),
    (∀ W, Ch (fun _ => False) w W → Calls Try.prog 51 #[.agg #[.slice q n d, .bool bad]] W (RrTold3 ⟨.bool v, no, k, b2⟩ f n y0 W)) ∧
    (∀ W, Ch (fun _ => False) w W → Calls Try.prog 23 #[.pointer (some ⟨r, 0, none⟩)] W (RdTold ⟨.bool v, no, k, b2⟩ f n r x0 W)) := by
  cases bad with
  | true => exact ⟨false, 140, 0, true, fun W hc => (rrTruth_bad q n d W).mono (fun e w' h => RrTold3.of_none (hq.ch hc (fun _ _ => id)) hy h.2 h.1),
      fun W hc => (rTruth_bad r x0 p n c f W (hr.ch hc id id)).mono (fun e w' h => RdTold.of_none (hr.ch hc id id) h.2 h.1)⟩
  | false =>
      have h1 := fun W (hc : Ch (fun _ => False) w W) => (rrTruth_any q n d y0 f W (hq.ch hc (fun _ _ => id)) hy).mono (fun e w' h => RrTold3.of_told h (hq.ch hc (fun _ _ => id)) hy)
      have h2 := fun W (hc : Ch (fun _ => False) w W) => (rTruth_ok r x0 p n c f W (hr.ch hc id id)).mono (fun e w' h => RdTold.of_part h)
      cases ho : outB f n with
      | lack => rw [ho] at h1 h2; exact ⟨_, _, _, _, h1, h2⟩
      | wrong => rw [ho] at h1 h2; exact ⟨_, _, _, _, h1, h2⟩
      | got x k => obtain ⟨v, rfl⟩ := outB_form _ _ ho; rw [ho] at h1 h2; exact ⟨_, _, _, _, h1, h2⟩
theorem pairH (hx : y0 < w.heap.size) : ∃ (v : Nat → UInt8) (no : Int) (k : Nat) (b2 : Bool),
    (∀ W, Ch (fun _ => False) w W → Calls Try.prog 52 #[.agg #[.slice q n d, .bool bad]] W (RrTold3 ⟨.agg (hv v), no, k, b2⟩ f n y0 W)) ∧
    (∀ W, Ch (fun _ => False) w W → Calls Try.prog 24 #[.pointer (some ⟨r, 0, none⟩)] W (RdTold ⟨.agg (hv v), no, k, b2⟩ f n r x0 W)) := by
  cases bad with
  | true => exact ⟨fun _ => 0, 140, 0, true, fun W hc => (rrHash_bad q n d W).mono (fun e w' h => RrTold3.of_none (hq.ch hc (fun _ _ => id)) hy h.2 h.1),
      fun W hc => (rHash_bad r x0 p n c f W (hr.ch hc id id)).mono (fun e w' h => RdTold.of_none (hr.ch hc id id) h.2 h.1)⟩
  | false =>
      have h2 := fun W (hc : Ch (fun _ => False) w W) => (rHash_ok r x0 p n c f W (hr.ch hc id id)).mono (fun e w' h => RdTold.of_part h)
      by_cases hn : n < 32
      · rw [show outH f n = .lack from if_pos hn] at h2
        exact ⟨fun _ => 0, 140, 0, true, fun W hc => (rrHash_lack q n d W hn).mono (fun e w' h => by
          refine ⟨h.2, q, d, ?_, ?_, hy⟩
          · exact h.1
          · show BytesAt w' q n d (fun j => f (0 + j)); rw [fun_zero]; exact (hq.ch hc (fun _ _ => id)).ch h.2 (fun _ _ => id)), h2⟩
      · rw [show outH f n = .got (.agg (hv f)) 32 from if_neg hn] at h2
        exact ⟨f, 0, 32, false, fun W hc => (rrHash_ok q n d y0 f W (hq.ch hc (fun _ _ => id)) hy (Nat.lt_of_lt_of_le hx hc.size) (by omega)).mono (fun e w' h => h), h2⟩
theorem pairS (most : Int) (hx : y0 < w.heap.size) (hn : n ≤ 1000000000000) (hb : most ≤ 1152921504606846976) : ∃ (v : ByteArray) (no : Int) (k : Nat) (b2 : Bool),
    (∀ W, Ch (fun _ => False) w W → Calls Try.prog 53 #[.agg #[.slice q n d, .bool bad], .int .i64 most] W (RrTold3 ⟨.string v, no, k, b2⟩ f n y0 W)) ∧
    (∀ W, Ch (fun _ => False) w W → Calls Try.prog 25 #[.pointer (some ⟨r, 0, none⟩), .int .i64 most] W (RdTold ⟨.string v, no, k, b2⟩ f n r x0 W)) := by
  cases bad with
  | true => exact ⟨{ data := #[] }, 140, 0, true, fun W hc => (rrText_bad q n d most W).mono (fun e w' h => RrTold3.of_none (hq.ch hc (fun _ _ => id)) hy h.2 h.1),
      fun W hc => (rText_bad r x0 p n c f most W (hr.ch hc id id)).mono (fun e w' h => RdTold.of_none (hr.ch hc id id) h.2 h.1)⟩
  | false =>
    by_cases hm : most < 0
    · exact ⟨{ data := #[] }, 2, 0, false, fun W hc => (rrText_neg q n d most W hm).mono (fun e w' h => RrTold3.of_none (hq.ch hc (fun _ _ => id)) hy h.2 h.1),
        fun W hc => (rText_neg r x0 p n c f most W (hr.ch hc id id) hm).mono (fun e w' h => RdTold.of_none (hr.ch hc id id) h.2 h.1)⟩
    · have h1 := fun W (hc : Ch (fun _ => False) w W) => (rrText_any q n d y0 f most W (by omega) (hq.ch hc (fun _ _ => id)) hy (Nat.lt_of_lt_of_le hx hc.size) hn).mono (fun e w' h => RrTold3.of_told h (hq.ch hc (fun _ _ => id)) hy)
      have h2 := fun W (hc : Ch (fun _ => False) w W) => (rText_ok r x0 p n c f most W (hr.ch hc id id) (by omega) hb).mono (fun e w' h => RdTold.of_part h)
      cases ho : outT most f n with
      | lack => rw [ho] at h1 h2; exact ⟨_, _, _, _, h1, h2⟩
      | wrong => rw [ho] at h1 h2; exact ⟨_, _, _, _, h1, h2⟩
      | got x k =>
        rw [ho] at h1 h2
        obtain ⟨v, rfl⟩ : ∃ v, x = .string v := by
          unfold outT at ho
          cases ho2 : outN most f n with
          | lack => rw [ho2] at ho; cases ho
          | wrong => rw [ho2] at ho; cases ho
          | got x2 k2 =>
            obtain ⟨v, rfl, _⟩ := outN_got ho2
            rw [ho2] at ho
            simp only at ho
            split at ho
            · cases ho
            · cases ho; exact ⟨_, rfl⟩
        exact ⟨_, _, _, _, h1, h2⟩
end
end Go.Proofs.Ytljllfdigfojdaa
