/- lay of hashes; the writer's Truth, Hash. -/
import Derived.Test.YtljllfdigfojdaaL1
import Derived.Test.YtljllfdigfojdaaRegX
namespace Go.Proofs.Ytljllfdigfojdaa
open Go Go.RowKit

/-- The world of a region of which operation j alone changes what O owns. -/
structure I6 (O : Nat → Prop) (j : Nat) (w0 : World) (L : Array Bool) (w' : World) : Prop where
  a : lg L j = false → Ch (fun _ => False) w0 w'
  b : Ch O w0 w'
theorem I6.start {O : Nat → Prop} {j : Nat} {w0 w' : World} {L : Array Bool} (h : Ch (fun _ => False) w0 w') : I6 O j w0 L w' := ⟨fun _ => h, h.mono (fun _ _ e => e.elim)⟩
theorem I6.step {O : Nat → Prop} {j i : Nat} {w0 w' w2 : World} {L : Array Bool} (h : I6 O j w0 L w') (hi : i < L.size) (hij : j ≠ i) (hc : Ch (fun _ => False) w' w2) : I6 O j w0 (L.setIfInBounds i true) w2 :=
  ⟨fun e => (h.a (by rw [lg_set L i j hi, if_neg hij] at e; exact e)).trans hc, h.b.then hc (fun _ _ e => e.elim)⟩
theorem I6.call {O : Nat → Prop} {j : Nat} {w0 w' w2 : World} {L : Array Bool} (h : I6 O j w0 L w') (hj : j < L.size) (hc : Ch O w' w2) : I6 O j w0 (L.setIfInBounds j true) w2 :=
  ⟨fun e => (by rw [lg_set L j j hj, if_pos rfl] at e; cases e), h.b.trans hc⟩
/-- What an append onto a row v left. -/
structure RowK (u w0 : World) (base k : Nat) (F : Nat → UInt8) (v x : Value) : Prop where
  own : u.ownsRow base 5 1 x k (fL F k)
  g : Gw w0 u v x
theorem RowK.ch {T : Nat → Prop} {u u2 w0 : World} {base k : Nat} {F : Nat → UInt8} {v x : Value} (h : RowK u w0 base k F v x) (hc : Ch T u u2) (ht : ∀ q : Nat, True → T q → False) : RowK u2 w0 base k F v x :=
  ⟨own_ch1 h.own hc (fun q _ e => ht q trivial e), ⟨h.g.ch.then hc (fun i _ e => (ht i trivial e).elim), h.g.own⟩⟩
theorem add_at (g o j : Nat) : (⟨g, o, none⟩ : Addr).add j = ⟨g, o + j, none⟩ := by
  unfold Addr.add
  split
  · next h => subst h; rfl
  · rfl
set_option maxRecDepth 100000 in
set_option maxHeartbeats 1000000 in
theorem layH_any (b a off N cap k : Nat) (sp : Option Addr) (v : Value) (F : Nat → UInt8) (hs : Nat → Nat → UInt8) (w : World) (hsp : sp = some ⟨a, off, none⟩ ∨ N = 0) (hw : WrAt w b v k F)
    (hnum : ∀ i, i < N → ∀ j, j < 32 → w.cell? ⟨a, off + i * 32 + j, none⟩ = some (.int .u8 ((hs i j).toNat : Int))) (ha : a ≠ b ∧ v.ownBlock ≠ some a) (hk : k + 32 * N ≤ 10000000000)
    (hF : ∀ i, i < N → ∀ j, j < 32 → F (k + 32 * i + j) = hs i j) :
    Calls Try.prog 46 #[.pointer (some ⟨b, 0, none⟩), .func (.func 47) #[] #[], .slice sp N cap] w fun e w' => e = .returned (.int .i64 0) ∧ ∃ v', WrAt w' b v' (k + 32 * N) F ∧ Gb b w w' v v' := by
  have HSP := Go.Lib.hid hsp; have HW := Go.Lib.hid hw; have HNUM := Go.Lib.hid hnum; have HA := Go.Lib.hid ha; have HF := Go.Lib.hid hF
  have HBL := Go.Lib.hid (row_lt hw.row)
  have hk2 : k ≤ 10000000000 := by omega
  clear hsp hw hnum ha hF
  go_enter Try.func46, Try.ntmps46
  go_wp2_with (go_at_call 38; refine (there_any _ HW.out).mono ?_; rintro e w' ⟨rfl, rfl⟩)
  go_loopw [14] (fun ix wr => ∃ i : Nat, i ≤ N ∧ ix = .int .i64 i ∧ ∃ v', WrAt wr b v' (k + 32 * i) F ∧ Gb b w wr v v') (fun ix _ => N - (intOf ix).toNat)
  case atStart => exact ⟨0, by omega, rfl, v, HW.out, Gb.refl _ _ _⟩
  case round =>
    obtain ⟨w5, hw5⟩ : ∃ x, x = wr := ⟨_, rfl⟩
    subst hw5
    obtain ⟨i, hi, rfl, v1, hw1, hg1⟩ := hrel
    have HW1 := Go.Lib.hid hw1; have HG1 := Go.Lib.hid hg1
    clear hw1 hg1
    by_cases hlt : i < N
    · obtain rfl := HSP.out.resolve_right (by omega)
      have hai := HA.out
      have hcell : ∀ j, j < 32 → w5.cell? ⟨a, off + i * 32 + j, none⟩ = some (.int .u8 ((hs i j).toNat : Int)) := fun j hj => HG1.out.ch.get (HNUM.out i hlt j hj) (by
        rintro (e | e)
        · exact hai.1 e
        · exact hai.2 e)
      have HFI := Go.Lib.hid (HF.out i hlt)
      have hbl := HBL.out
      have hsz := HG1.out.ch.size
      have HBS := Go.Lib.hid (show b + 1 ≤ w5.heap.size by omega)
      clear hai
      generalize hs i = n at *
      have HCELL := Go.Lib.hid hcell
      clear hcell hbl hsz
      have HLD := Go.Lib.hid (run_loadVar_part (P := Try.prog) w5 ⟨a, off + i * 32, none⟩ 44 (hv n) _ (fun j u hj => by
        have hj' : j < 32 := by have := (List.getElem?_eq_some_iff.1 hj).1; simpa [hv_size] using this
        rw [Array.getElem?_toList, hv_get n j hj'] at hj
        cases hj
        rw [add_at]; exact HCELL.out j hj') Try.underlying44 rfl (hv_info n))
      go_upto_region 6 with (first | (refine wpList_load_at rfl 44 (.tmp 16) rfl ⟨a, off + i * 32, none⟩ rfl _ HLD.out ?_) | (refine wpList_store_row rfl 44 (.tmp 8) (.tmp 17) rfl w5.heap.size (hv n) rfl rfl 44 _ (World.alloc_heap_new w5 _) (hv_info n) ((by kernel_rfl : _ = 32).trans (hv_size n).symm) (hv_all n) ?_))
      generalize hW6 : (w5.alloc _).setRow w5.heap.size (hv n) = w6
      have hh : w6.heap[w5.heap.size]? = some (.cells (hv n) 44) := by rw [← hW6]; exact heap_setRow (World.alloc_heap_new w5 _)
      have hc : Ch (fun _ => False) w5 w6 := by rw [← hW6]; exact ((Ch.refl _ w5).alloc _).setRow (fun h => absurd h (Nat.lt_irrefl _)) _
      have HVN := Go.Lib.hid (show ∀ j u, (hv n).toList[j]? = some u → w6.cell? ((⟨w5.heap.size, 0, none⟩ : Addr).add j) = some u from fun j u hj => by rw [add_at]; exact (cell_of_heap hh (0 + j)).trans (by rw [Nat.zero_add, ← Array.getElem?_toList]; exact hj))
      have HV1 := Go.Lib.hid (show w6.cell? ⟨b, 0, none⟩ = some v1 from (cell_of_heap (hc.heap HW1.out.row id) 0).trans rfl)
      have HNB := Go.Lib.hid (show ¬ v1.ownBlock = some b from fun e => HW1.out.ne b e rfl)
      have HNX := Go.Lib.hid (show ¬ v1.ownBlock = some w5.heap.size from fun e => by have := (HW1.out.own.lt _ e).2; omega)
      have HOW := Go.Lib.hid (own_ch1 HW1.out.own hc (fun _ _ h => h))
      have HBS6 := Go.Lib.hid (Nat.le_trans HBS.out hc.size)
      have HR6 := Go.Lib.hid (hc.heap HW1.out.row id)
      have HC6 := Go.Lib.hid hc
      have hki : k + 32 * i ≤ 100000000000 := by omega
      clear hh hc hW6 HLD HCELL
      generalize hax : Act.mk _ _ = ax
      have HSZ := Go.Lib.hid (show ax.tmps.size = 29 by rw [← hax]; rfl)
      have F0 := Go.Lib.hid (show gt ax 0 = .pointer (some ⟨b, 0, none⟩) by rw [← hax]; rfl)
      have F1 := Go.Lib.hid (show gt ax 1 = .func (.func 47) #[] #[] by rw [← hax]; rfl)
      have F8 := Go.Lib.hid (show gt ax 8 = .pointer (some ⟨w5.heap.size, 0, none⟩) by rw [← hax]; rfl)
      have HAX := Go.Lib.hid hax
      clear hax
      have HND := Go.Lib.hid (show ([18, 19, 20, 21, 22, 23, 24, 25] : List Nat).Nodup by decide)
      have HLS : Hid (Lasts [(18, fun x _ => x = .pointer (some ⟨b, 0, none⟩)), (19, fun x _ => x = .func (.func 47) #[] #[]), (20, fun x _ => x = .pointer (some ⟨b, 0, none⟩)), (21, fun x _ => x = .pointer (some ⟨b, 0, none⟩)), (22, fun x _ => x = .pointer (some ⟨b, 0, none⟩)), (23, fun x _ => x = v1), (24, fun x _ => x = .agg (hv n)), (25, fun x u => ∃ (g : Option Addr) (c : Nat), x = .slice g (k + 32 * i + 32) c ∧ RowK u w6 (b + 1) (k + 32 * i + 32) F v1 (.slice g (k + 32 * i + 32) c))]) := Go.Lib.hid (by
        intro p hp v w1 w2 hc h
        simp only [List.mem_cons, List.not_mem_nil, or_false] at hp
        rcases hp with rfl | rfl | rfl | rfl | rfl | rfl | rfl | rfl
        all_goals first | exact h | (obtain ⟨g, h1, h2⟩ := h; exact ⟨g, h1, hc.heap h2 id⟩) | (obtain ⟨g, c, h1, h2⟩ := h; exact ⟨g, c, h1, h2.ch hc (fun _ _ h => h)⟩))
      refine wp_region_open_tail 8 (InvQ 29 [(18, fun x _ => x = .pointer (some ⟨b, 0, none⟩)), (19, fun x _ => x = .func (.func 47) #[] #[]), (20, fun x _ => x = .pointer (some ⟨b, 0, none⟩)), (21, fun x _ => x = .pointer (some ⟨b, 0, none⟩)), (22, fun x _ => x = .pointer (some ⟨b, 0, none⟩)), (23, fun x _ => x = v1), (24, fun x _ => x = .agg (hv n)), (25, fun x u => ∃ (g : Option Addr) (c : Nat), x = .slice g (k + 32 * i + 32) c ∧ RowK u w6 (b + 1) (k + 32 * i + 32) F v1 (.slice g (k + 32 * i + 32) c))] (fun L w' => I6 (fun q => v1.ownBlock = some q) 7 w6 L w') ax) (by kernel_rfl) (by kernel_rfl) (InvQ.start (by simp) HSZ.out (I6.start (Ch.refl _ _).drew)) ?_ ?_
      · intro L a w' i hI hr hlt
        obtain ⟨h1, o, ho, hall⟩ := mem_ready.1 hr
        have hun : lg L i = false := by
          have h2 : i < L.size := Nat.lt_of_lt_of_le hlt hI.lsize
          unfold lg; simp [h2] at h1 ⊢; exact h1
        have hsplit : i = 0 ∨ i = 1 ∨ i = 2 ∨ i = 3 ∨ i = 4 ∨ i = 5 ∨ i = 6 ∨ i = 7 := by omega
        clear hlt h1 hr
        rcases hsplit with rfl | rfl | rfl | rfl | rfl | rfl | rfl | rfl
        · have q0 := (hI.fixed 0 (by simp)).trans F0.out
          unfold gt at q0
          clear hall
          refine wpOp_step (o := _) rfl (fun K' hK' => ?_)
          go_simp
          exact hK' _ _ (hI.put 0 rfl (by decide) HND.out HLS.out (Ch.refl _ _) rfl (hI.wld.step (Nat.lt_of_lt_of_le (show _ < 8 by decide) hI.lsize) (by decide) (Ch.refl _ _)))
        · have q1 := (hI.fixed 1 (by simp)).trans F1.out
          unfold gt at q1
          clear hall
          refine wpOp_step (o := _) rfl (fun K' hK' => ?_)
          go_simp
          exact hK' _ _ (hI.put 1 rfl (by decide) HND.out HLS.out (Ch.refl _ _) rfl (hI.wld.step (Nat.lt_of_lt_of_le (show _ < 8 by decide) hI.lsize) (by decide) (Ch.refl _ _)))
        · have q0 := (hI.fixed 0 (by simp)).trans F0.out
          unfold gt at q0
          clear hall
          refine wpOp_step (o := _) rfl (fun K' hK' => ?_)
          go_simp
          exact hK' _ _ (hI.put 2 rfl (by decide) HND.out HLS.out (Ch.refl _ _) rfl (hI.wld.step (Nat.lt_of_lt_of_le (show _ < 8 by decide) hI.lsize) (by decide) (Ch.refl _ _)))
        · simp at ho
          have e2 : lg L 2 = true := by unfold lg; simpa using hall ⟨2, .data⟩ (by rw [← ho]; simp) rfl
          have f2 : gt a 20 = .pointer (some ⟨b, 0, none⟩) := hI.val 2 _ rfl e2
          unfold gt at f2
          clear hall
          clear ho
          refine wpOp_step (o := _) rfl (fun K' hK' => ?_)
          go_simp
          exact hK' _ _ (hI.put 3 rfl (by decide) HND.out HLS.out (Ch.refl _ _) rfl (hI.wld.step (Nat.lt_of_lt_of_le (show _ < 8 by decide) hI.lsize) (by decide) (Ch.refl _ _)))
        · simp at ho
          have e3 : lg L 3 = true := by unfold lg; simpa using hall ⟨3, .data⟩ (by rw [← ho]; simp) rfl
          have f3 : gt a 21 = .pointer (some ⟨b, 0, none⟩) := hI.val 3 _ rfl e3
          unfold gt at f3
          clear hall
          clear ho
          refine wpOp_step (o := _) rfl (fun K' hK' => ?_)
          go_simp
          exact hK' _ _ (hI.put 4 rfl (by decide) HND.out HLS.out (Ch.refl _ _) rfl (hI.wld.step (Nat.lt_of_lt_of_le (show _ < 8 by decide) hI.lsize) (by decide) (Ch.refl _ _)))
        · simp at ho
          have e4 : lg L 4 = true := by unfold lg; simpa using hall ⟨4, .data⟩ (by rw [← ho]; simp) rfl
          have f4 : gt a 22 = .pointer (some ⟨b, 0, none⟩) := hI.val 4 _ rfl e4
          have hcl := hI.wld.b.get HV1.out HNB.out
          unfold gt at f4
          clear hall
          clear ho
          refine wpOp_step (o := _) rfl (fun K' hK' => ?_)
          go_simp
          exact hK' _ _ (hI.put 5 rfl (by decide) HND.out HLS.out (Ch.refl _ _) rfl (hI.wld.step (Nat.lt_of_lt_of_le (show _ < 8 by decide) hI.lsize) (by decide) (Ch.refl _ _)))
        · have q8 := (hI.fixed 8 (by simp)).trans F8.out
          unfold gt at q8
          clear hall
          refine wpOp_step (o := _) rfl (fun K' hK' => ?_)
          refine wp_load_at 44 (.tmp 8) rfl ⟨w5.heap.size, 0, none⟩ (by simpa [Act.eval] using q8) (.agg (hv n)) (run_loadVar_part w' ⟨w5.heap.size, 0, none⟩ 44 (hv n) _ (fun j u hj => hI.wld.b.get (HVN.out j u hj) (by rw [add_at]; exact HNX.out)) Try.underlying44 rfl (hv_info n)) (hK' _ _ (hI.put 6 rfl (by decide) HND.out HLS.out (Ch.refl _ _) rfl (hI.wld.step (Nat.lt_of_lt_of_le (show _ < 8 by decide) hI.lsize) (by decide) (Ch.refl _ _))))
        · simp at ho
          have e1 : lg L 1 = true := by unfold lg; simpa using hall ⟨1, .data⟩ (by rw [← ho]; simp) rfl
          have f1 : gt a 19 = .func (.func 47) #[] #[] := hI.val 1 _ rfl e1
          have e5 : lg L 5 = true := by unfold lg; simpa using hall ⟨5, .data⟩ (by rw [← ho]; simp) rfl
          have f5 : gt a 23 = v1 := hI.val 5 _ rfl e5
          have e6 : lg L 6 = true := by unfold lg; simpa using hall ⟨6, .data⟩ (by rw [← ho]; simp) rfl
          have f6 : gt a 24 = .agg (hv n) := hI.val 6 _ rfl e6
          unfold gt at f1 f5 f6
          clear hall
          clear ho
          have hq := hI.wld.a hun
          have HCT := Go.Lib.hid (withHash_any (b + 1) (k + 32 * i) n v1 F w' (own_ch1 HOW.out hq (fun _ _ h => h)) (Nat.le_trans HBS6.out hq.size) (by omega) HFI.out)
          refine wpOp_step (o := _) rfl (fun K' hK' => ?_)
          go_simp
          refine HCT.out.mono ?_
          rintro e w3 ⟨v3, rfl, ho3, hg3⟩
          obtain ⟨p3, c3, rfl, -⟩ := own_bytes ho3
          exact hK' _ _ (hI.putX 7 rfl (by decide) HND.out (fun k p hp hk hl h => by
            have hk8 : k < 8 := (List.getElem?_eq_some_iff.1 hp).1
            obtain rfl | rfl | rfl | rfl | rfl | rfl | rfl | rfl : k = 0 ∨ k = 1 ∨ k = 2 ∨ k = 3 ∨ k = 4 ∨ k = 5 ∨ k = 6 ∨ k = 7 := by omega
            all_goals first
              | exact absurd rfl hk
              | (cases hp; exact h)) ⟨p3, c3, rfl, ⟨ho3, ⟨(hq.mono (fun _ _ h => h.elim)).trans hg3.ch, fun g e => (hg3.own g e).imp id (fun h => Nat.le_trans hq.size h)⟩⟩⟩ (hI.wld.call (Nat.lt_of_lt_of_le (show _ < 8 by decide) hI.lsize) hg3.ch))
      · intro L a w' hI hal
        have hfr := hI.frame HSZ.out (by simp) (fun i hi => hal i hi)
        have k0 : gt a 18 = .pointer (some ⟨b, 0, none⟩) := hI.val 0 _ rfl (hal 0 (by decide))
        have k1 : gt a 19 = .func (.func 47) #[] #[] := hI.val 1 _ rfl (hal 1 (by decide))
        have k2 : gt a 20 = .pointer (some ⟨b, 0, none⟩) := hI.val 2 _ rfl (hal 2 (by decide))
        have k3 : gt a 21 = .pointer (some ⟨b, 0, none⟩) := hI.val 3 _ rfl (hal 3 (by decide))
        have k4 : gt a 22 = .pointer (some ⟨b, 0, none⟩) := hI.val 4 _ rfl (hal 4 (by decide))
        have k5 : gt a 23 = v1 := hI.val 5 _ rfl (hal 5 (by decide))
        have k6 : gt a 24 = .agg (hv n) := hI.val 6 _ rfl (hal 6 (by decide))
        obtain ⟨g7, c7, k7, hh7⟩ : (fun x u => ∃ (g : Option Addr) (c : Nat), x = .slice g (k + 32 * i + 32) c ∧ RowK u w6 (b + 1) (k + 32 * i + 32) F v1 (.slice g (k + 32 * i + 32) c)) (gt a 25) w' := hI.val 7 _ rfl (hal 7 (by decide))
        have H7 := Go.Lib.hid hh7
        rw [hfr, ← HAX.out]
        have HCR := Go.Lib.hid hI.wld
        simp only [List.map_cons, List.map_nil, List.foldl_cons, List.foldl_nil, k0, k1, k2, k3, k4, k5, k6, k7, List.setIfInBounds_toArray, List.set_cons_succ, List.set_cons_zero]
        clear hfr hI hal k0 k1 k2 k3 k4 k5 k6 k7 hh7 HSZ HND HLS HAX F0 F1 F8
        simp only [List.drop_succ_cons, List.drop_zero]
        have HG7 := Go.Lib.hid HCR.out.b
        have hr7 : w'.heap[b]? = some (.cells #[v1, .bool true] 39) := HG7.out.heap HR6.out HNB.out
        have hcb : w'.cell? ⟨b, 0, none⟩ = some v1 := (cell_of_heap hr7 0).trans rfl
        have hfb : w'.frozen? ⟨b, 0, none⟩ = false := frozen_of_heap hr7 0
        have HW2 := Go.Lib.hid (show WrAt (w'.setCell ⟨b, 0, none⟩ (.slice g7 (k + 32 * i + 32) c7)) b (.slice g7 (k + 32 * i + 32) c7) (k + 32 * i + 32) F from ⟨(row_setM hr7 0 _).trans rfl, own_ch1 H7.out.own (Ch.setCell (S := fun q => q = b) (Ch.refl _ w') (p := ⟨b, 0, none⟩) (fun _ => rfl) _) (fun q e e2 => by have := (H7.out.own.lt q e).1; omega)⟩)
        have HG2 := Go.Lib.hid (HG1.out.trans ((show Gw w5 w' v1 (.slice g7 (k + 32 * i + 32) c7) from ⟨(HC6.out.mono (fun _ _ h => h.elim)).trans H7.out.g.ch, fun g e => (H7.out.g.own g e).imp id (fun h => Nat.le_trans HC6.out.size h)⟩).set (b := b) (.slice g7 (k + 32 * i + 32) c7)))
        have HKE := Go.Lib.hid (show k + 32 * (i + 1) = k + 32 * i + 32 by omega)
        clear hr7 H7
        go_wp2_with fail
        go_roundw
        case rel => exact ⟨i + 1, by omega, by go_num, _, by rw [HKE.out]; exact HW2.out, HG2.out⟩
        case measure => simp [intOf]; omega
    · obtain rfl : i = N := by omega
      go_wp2_with fail
      go_ret
      exact ⟨rfl, v1, HW1.out, HG1.out⟩
theorem wTruth_any (b a off N cap k : Nat) (sp : Option Addr) (v : Value) (F : Nat → UInt8) (nums : Nat → Bool) (w : World) (hsp : sp = some ⟨a, off, none⟩ ∨ N = 0) (hw : WrAt w b v k F)
    (hnum : ∀ i, i < N → w.cell? ⟨a, off + i, none⟩ = some (.bool (nums i))) (ha : a ≠ b ∧ v.ownBlock ≠ some a) (hk : k + N ≤ 10000000000)
    (hF : ∀ i, i < N → F (k + i) = if nums i then 1 else 0) :
    Calls Try.prog 16 #[.pointer (some ⟨b, 0, none⟩), .slice sp N cap] w fun e w' => e = .returned (.int .i64 0) ∧ ∃ v', WrAt w' b v' (k + N) F ∧ Gb b w w' v v' := by
  have HL := Go.Lib.hid (layB_any b a off N cap k sp v F nums w hsp hw hnum ha hk hF)
  clear hsp hw hnum ha hF
  go_enter Try.func16, Try.ntmps16
  go_wp2_with (go_at_call 44; refine HL.out.mono ?_; rintro e w' ⟨rfl, v2, h1, h2⟩; have H1 := Go.Lib.hid h1; have H2 := Go.Lib.hid h2; clear h1 h2)
  go_ret
  exact ⟨rfl, v2, H1.out, H2.out⟩
theorem wHash_any (b a off N cap k : Nat) (sp : Option Addr) (v : Value) (F : Nat → UInt8) (hs : Nat → Nat → UInt8) (w : World) (hsp : sp = some ⟨a, off, none⟩ ∨ N = 0) (hw : WrAt w b v k F)
    (hnum : ∀ i, i < N → ∀ j, j < 32 → w.cell? ⟨a, off + i * 32 + j, none⟩ = some (.int .u8 ((hs i j).toNat : Int))) (ha : a ≠ b ∧ v.ownBlock ≠ some a) (hk : k + 32 * N ≤ 10000000000)
    (hF : ∀ i, i < N → ∀ j, j < 32 → F (k + 32 * i + j) = hs i j) :
    Calls Try.prog 17 #[.pointer (some ⟨b, 0, none⟩), .slice sp N cap] w fun e w' => e = .returned (.int .i64 0) ∧ ∃ v', WrAt w' b v' (k + 32 * N) F ∧ Gb b w w' v v' := by
  have HL := Go.Lib.hid (layH_any b a off N cap k sp v F hs w hsp hw hnum ha hk hF)
  clear hsp hw hnum ha hF
  go_enter Try.func17, Try.ntmps17
  go_wp2_with (go_at_call 46; refine HL.out.mono ?_; rintro e w' ⟨rfl, v2, h1, h2⟩; have H1 := Go.Lib.hid h1; have H2 := Go.Lib.hid h2; clear h1 h2)
  go_ret
  exact ⟨rfl, v2, H1.out, H2.out⟩
end Go.Proofs.Ytljllfdigfojdaa
