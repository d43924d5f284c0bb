/- ask: a number, a truth, a text, by both. -/
import Derived.Test.YtljllfdigfojdaaR13
import Derived.Stop.BytesEq
namespace Go.Proofs.Ytljllfdigfojdaa
open Go Go.RowKit

/-- What ask tells: both readers tell alike, and have alike left. -/
def AskTold (r x0 y0 n : Nat) (w : World) (e : Ending) (w' : World) : Prop :=
  Ch (fun q => q = r) w w' ∧ ∃ (m : Nat) (g : Nat → UInt8) (bad : Bool) (q' : Option Addr) (d' : Nat) (p' : Option Addr) (c' : Nat), m ≤ n ∧ e = .returned (.tuple #[.agg #[.slice q' m d', .bool bad], .bool true]) ∧
    RdAt w' r x0 p' m c' g bad ∧ BytesAt w' q' m d' g ∧ ∀ ad, q' = some ad → ad.block = y0
set_option maxRecDepth 100000 in
set_option maxHeartbeats 4000000 in
theorem askedN (r x0 y0 : Nat) (p q : Option Addr) (n c d : Nat) (f : Nat → UInt8) (bad : Bool) (most : Int) (w : World) (hr : RdAt w r x0 p n c f bad) (hq : BytesAt w q n d f) (hy : ∀ ad, q = some ad → ad.block = y0) (hyr : y0 ≠ r) (hyo : y0 < w.heap.size) (hn : n ≤ 1000000000000) :
    Calls Try.prog 20 #[.pointer (some ⟨r, 0, none⟩), .agg #[.slice q n d, .bool bad], .agg #[.int .i64 0, .int .i64 most]] w (AskTold r x0 y0 n w) := by
  obtain ⟨av, ano, ak, ab, hrr, hra⟩ := pairN r x0 y0 p q n c d f bad w hr hq hy most hn
  have HYR := Go.Lib.hid hyr; have HYO := Go.Lib.hid hyo
  have HRR := Go.Lib.hid hrr; have HRA := Go.Lib.hid hra
  have HRL := Go.Lib.hid (row_lt hr.row); have HXO := Go.Lib.hid hr.old
  unfold RrTold3 at HRR
  unfold RdTold at HRA
  clear hr hq hy hyr hyo hrr hra
  simp only at HRR HRA ⊢
  generalize hm : n - ak = m at *
  have HMN := Go.Lib.hid (show m ≤ n by omega)
  clear hm
  generalize hff : (fun j => f (ak + j)) = f2 at *
  clear hff
  go_enter Try.func20, Try.ntmps20
  obtain ⟨hA0, hB0, hC0, hc1⟩ := three_at w #[.slice q n d, .bool bad] #[.int .i64 0, .int .i64 most] #[.slice none 0 0, .bool false] 51 55 51
  go_wp2_with fail
  refine (HRR.out _ hc1).mono ?_
  rintro e w1 ⟨hc2, q2, d2, rfl, hb2, hblk2⟩
  have hs0 : w.heap.size + 3 ≤ w1.heap.size := by have := hc2.size; simp at this; omega
  have hB1 := hc2.heap hB0 id; have hC1 := hc2.heap hC0 id
  have hm1 : (w1.alloc (.cells #[.slice q2 m d2, .bool ab] 51)).cell? ⟨w.heap.size + 1, 1, none⟩ = some (.int .i64 most) := ((Ch.refl (fun _ => False) w1).alloc _).get ((cell_of_heap hB1 1).trans rfl) id
  have HC1 := Go.Lib.hid (hc1.trans hc2); have HCC := Go.Lib.hid hC1; have HS0 := Go.Lib.hid hs0; have HB2 := Go.Lib.hid hb2; have HBL := Go.Lib.hid hblk2
  clear hc1 hc2 hA0 hB0 hC0 hB1 hC1 hs0 hb2 hblk2
  go_wp2_with fail
  have hal : Ch (fun _ => False) w1 (w1.alloc (.cells #[.slice q2 m d2, .bool ab] 51)) := (Ch.refl _ w1).alloc _
  refine (HRA.out _ (HC1.out.trans hal)).mono ?_
  rintro e w2 ⟨hc3, rfl, hk, p2, c2, hr2⟩
  have hrl := HRL.out; have hs0 := HS0.out
  have hD2 : w2.heap[w1.heap.size]? = some (.cells #[.slice q2 m d2, .bool ab] 51) := hc3.heap (World.alloc_heap_new w1 _) (show ¬ w1.heap.size = r by omega)
  have hC2 : w2.heap[w.heap.size + 1 + 1]? = some (.cells #[.slice none 0 0, .bool false] 51) := hc3.heap (hal.heap HCC.out id) (show ¬ w.heap.size + 1 + 1 = r by omega)
  have HC2 := Go.Lib.hid (show Ch (fun q => q = r) w w2 from ((HC1.out.trans hal).mono (fun _ _ e => e.elim)).trans hc3)
  have HB3 := Go.Lib.hid (show BytesAt w2 q2 m d2 f2 from (HB2.out.ch hal (fun _ _ => id)).but2 hc3 HBL.out (fun _ => HYR.out))
  have HR2 := Go.Lib.hid hr2; have HK := Go.Lib.hid hk
  have HD2 := Go.Lib.hid hD2; have HC2C := Go.Lib.hid hC2
  have HDC := Go.Lib.hid (show ¬ w1.heap.size = w.heap.size + 1 + 1 by omega); have HSS := Go.Lib.hid (show w.heap.size ≤ w.heap.size + 1 + 1 ∧ r < w.heap.size from ⟨by omega, hrl⟩)
  clear hal hc3 hk hr2 hrl hs0 hD2 hC2 HC1 HCC HS0 HB2 HRA HRR hm1
  generalize w.heap.size + 1 + 1 = C at *
  generalize w1.heap.size = D at *
  go_upto_region 5 with (fail)
  generalize hax : Act.mk _ _ = ax
  have HSZ := Go.Lib.hid (show ax.tmps.size = 158 by rw [← hax]; rfl)
  have F6 := Go.Lib.hid (show gt ax 6 = .pointer (some ⟨C, 0, none⟩) by rw [← hax]; rfl)
  have F8 := Go.Lib.hid (show gt ax 8 = .pointer (some ⟨D, 0, none⟩) by rw [← hax]; rfl)
  have F9 := Go.Lib.hid (show gt ax 9 = .int .i64 av by rw [← hax]; rfl)
  have F10 := Go.Lib.hid (show gt ax 10 = .int .i64 ano by rw [← hax]; rfl)
  have F11 := Go.Lib.hid (show gt ax 11 = .int .i64 av by rw [← hax]; rfl)
  have F12 := Go.Lib.hid (show gt ax 12 = .int .i64 ano by rw [← hax]; rfl)
  have HAX := Go.Lib.hid hax
  clear hax
  have HND := Go.Lib.hid (show ([50, 51, 52, 53, 54, 55, 56, 57, 58, 59] : List Nat).Nodup by decide)
  have HLS : Hid (Lasts [(50, fun x _ => x = .agg #[.slice q2 m d2, .bool ab]), (51, fun x _ => x = .int .i64 av), (52, fun x _ => x = .int .i64 av), (53, fun x _ => x = .bool true), (54, fun x _ => x = .bool true), (55, fun x _ => x = .int .i64 ano), (56, fun x _ => x = .int .i64 ano), (57, fun x _ => x = .int .i64 ano), (58, fun x _ => x = .bool true), (59, fun x _ => x = .bool true)]) := Go.Lib.hid (by
    intro p hp v w1 w2 hc h
    simp only [List.mem_cons, List.not_mem_nil, or_false] at hp
    rcases hp with rfl | rfl | rfl | rfl | rfl | rfl | rfl | rfl | rfl | rfl
    all_goals first | exact h | (obtain ⟨g, h1, h2⟩ := h; exact ⟨g, h1, hc.heap h2 id⟩) | (obtain ⟨g, c, h1, h2⟩ := h; exact ⟨g, c, h1, h2.ch hc (fun _ _ h => h)⟩))
  refine wp_region_open_tail 11 (InvQ 158 [(50, fun x _ => x = .agg #[.slice q2 m d2, .bool ab]), (51, fun x _ => x = .int .i64 av), (52, fun x _ => x = .int .i64 av), (53, fun x _ => x = .bool true), (54, fun x _ => x = .bool true), (55, fun x _ => x = .int .i64 ano), (56, fun x _ => x = .int .i64 ano), (57, fun x _ => x = .int .i64 ano), (58, fun x _ => x = .bool true), (59, fun x _ => x = .bool true)] (IAsk w2 C 10 12 (.slice q2 m d2) ab) ax) (by kernel_rfl) (by kernel_rfl) (InvQ.start (by simp) HSZ.out (IAsk.start HC2C.out)) ?_ ?_
  · intro L a w' i hI hr hlt
    obtain ⟨h1, o, ho, hall⟩ := mem_ready.1 hr
    have hun : lg L i = false := by
      have h2 : i < L.size := Nat.lt_of_lt_of_le hlt (by rw [hI.wld.size]; decide)
      unfold lg; simp [h2] at h1 ⊢; exact h1
    have hsplit : i = 0 ∨ i = 1 ∨ i = 2 ∨ i = 3 ∨ i = 4 ∨ i = 5 ∨ i = 6 ∨ i = 7 ∨ i = 8 ∨ i = 9 ∨ i = 10 := by omega
    clear hlt h1 hr
    rcases hsplit with rfl | rfl | rfl | rfl | rfl | rfl | rfl | rfl | rfl | rfl | rfl
    · have q8 := (hI.fixed 8 (by simp)).trans F8.out
      have hD := hI.wld.ch.heap HD2.out HDC.out
      have hcl0 : w'.cell? ⟨D, 0, none⟩ = some (.slice q2 m d2) := (cell_of_heap hD 0).trans rfl
      have hcl1 : w'.cell? ⟨D, 1, none⟩ = some (.bool ab) := (cell_of_heap hD 1).trans rfl
      clear hD
      unfold gt at q8
      clear hall
      refine wpOp_step (o := _) rfl (fun K' hK' => ?_)
      go_simp
      exact hK' _ _ (hI.put 0 rfl (by decide) HND.out HLS.out (Ch.refl _ _) rfl (hI.wld.step 0 (by decide) (by decide) (Ch.refl _ _)))
    · have q11 := (hI.fixed 11 (by simp)).trans F11.out
      unfold gt at q11
      clear hall
      refine wpOp_step (o := _) rfl (fun K' hK' => ?_)
      go_simp
      exact hK' _ _ (hI.put 1 rfl (by decide) HND.out HLS.out (Ch.refl _ _) rfl (hI.wld.step 1 (by decide) (by decide) (Ch.refl _ _)))
    · have q9 := (hI.fixed 9 (by simp)).trans F9.out
      unfold gt at q9
      clear hall
      refine wpOp_step (o := _) rfl (fun K' hK' => ?_)
      go_simp
      exact hK' _ _ (hI.put 2 rfl (by decide) HND.out HLS.out (Ch.refl _ _) rfl (hI.wld.step 2 (by decide) (by decide) (Ch.refl _ _)))
    · simp at ho
      have e1 : lg L 1 = true := by unfold lg; simpa using hall ⟨1, .data⟩ (by rw [← ho]; simp) rfl
      have f1 : gt a 51 = .int .i64 av := hI.val 1 _ rfl e1
      have e2 : lg L 2 = true := by unfold lg; simpa using hall ⟨2, .data⟩ (by rw [← ho]; simp) rfl
      have f2 : gt a 52 = .int .i64 av := hI.val 2 _ rfl e2
      unfold gt at f1 f2
      clear hall
      clear ho
      refine wpOp_step (o := _) rfl (fun K' hK' => ?_)
      go_simp
      exact hK' _ _ (hI.put 3 rfl (by decide) HND.out HLS.out (Ch.refl _ _) rfl (hI.wld.step 3 (by decide) (by decide) (Ch.refl _ _)))
    · simp at ho
      have e3 : lg L 3 = true := by unfold lg; simpa using hall ⟨3, .data⟩ (by rw [← ho]; simp) rfl
      have f3 : gt a 53 = .bool true := hI.val 3 _ rfl e3
      unfold gt at f3
      clear hall
      clear ho
      refine wpOp_step (o := _) rfl (fun K' hK' => ?_)
      go_simp
      exact hK' _ _ (hI.put 4 rfl (by decide) HND.out HLS.out (Ch.refl _ _) rfl (hI.wld.step 4 (by decide) (by decide) (Ch.refl _ _)))
    · simp at ho
      have q12 := (hI.fixed 12 (by simp)).trans F12.out
      have eg : lg L 4 = true := by unfold lg; simpa using hall ⟨4, .guard⟩ (by rw [← ho]; simp) rfl
      have fg0 : gt a 54 = .bool true := hI.val 4 _ rfl eg
      have fg := guard_of fg0 (by rw [hI.size]; decide)
      clear eg fg0
      unfold gt at q12
      clear hall
      clear ho
      refine wpOp_step (o := _) rfl (fun K' hK' => ?_)
      go_simp
      exact hK' _ _ (hI.put 5 rfl (by decide) HND.out HLS.out (Ch.refl _ _) rfl (hI.wld.step 5 (by decide) (by decide) (Ch.refl _ _)))
    · simp at ho
      have e5 : lg L 5 = true := by unfold lg; simpa using hall ⟨5, .data⟩ (by rw [← ho]; simp) rfl
      have f5 : gt a 55 = .int .i64 ano := hI.val 5 _ rfl e5
      have eg : lg L 4 = true := by unfold lg; simpa using hall ⟨4, .guard⟩ (by rw [← ho]; simp) rfl
      have fg0 : gt a 54 = .bool true := hI.val 4 _ rfl eg
      have fg := guard_of fg0 (by rw [hI.size]; decide)
      clear eg fg0
      unfold gt at f5
      clear hall
      clear ho
      have HCT := Go.Lib.hid (num_any ano w')
      refine wpOp_step (o := _) rfl (fun K' hK' => ?_)
      go_simp
      refine HCT.out.mono ?_
      rintro e w3 ⟨rfl, rfl⟩
      exact hK' _ _ (hI.put 6 rfl (by decide) HND.out HLS.out (Ch.refl _ _) rfl (hI.wld.step 6 (by decide) (by decide) (Ch.refl _ _)))
    · simp at ho
      have q10 := (hI.fixed 10 (by simp)).trans F10.out
      have eg : lg L 4 = true := by unfold lg; simpa using hall ⟨4, .guard⟩ (by rw [← ho]; simp) rfl
      have fg0 : gt a 54 = .bool true := hI.val 4 _ rfl eg
      have fg := guard_of fg0 (by rw [hI.size]; decide)
      clear eg fg0
      unfold gt at q10
      clear hall
      clear ho
      refine wpOp_step (o := _) rfl (fun K' hK' => ?_)
      go_simp
      exact hK' _ _ (hI.put 7 rfl (by decide) HND.out HLS.out (Ch.refl _ _) rfl (hI.wld.step 7 (by decide) (by decide) (Ch.refl _ _)))
    · simp at ho
      have e6 : lg L 6 = true := by unfold lg; simpa using hall ⟨6, .data⟩ (by rw [← ho]; simp) rfl
      have f6 : gt a 56 = .int .i64 ano := hI.val 6 _ rfl e6
      have e7 : lg L 7 = true := by unfold lg; simpa using hall ⟨7, .data⟩ (by rw [← ho]; simp) rfl
      have f7 : gt a 57 = .int .i64 ano := hI.val 7 _ rfl e7
      have eg : lg L 4 = true := by unfold lg; simpa using hall ⟨4, .guard⟩ (by rw [← ho]; simp) rfl
      have fg0 : gt a 54 = .bool true := hI.val 4 _ rfl eg
      have fg := guard_of fg0 (by rw [hI.size]; decide)
      clear eg fg0
      unfold gt at f6 f7
      clear hall
      clear ho
      refine wpOp_step (o := _) rfl (fun K' hK' => ?_)
      go_simp
      exact hK' _ _ (hI.put 8 rfl (by decide) HND.out HLS.out (Ch.refl _ _) rfl (hI.wld.step 8 (by decide) (by decide) (Ch.refl _ _)))
    · simp at ho
      have e4 : lg L 4 = true := by unfold lg; simpa using hall ⟨4, .data⟩ (by rw [← ho]; simp) rfl
      have f4 : gt a 54 = .bool true := hI.val 4 _ rfl e4
      have e8 : lg L 8 = true := by unfold lg; simpa using hall ⟨8, .data⟩ (by rw [← ho]; simp) rfl
      have f8 : gt a 58 = .bool true := hI.val 8 _ rfl e8
      unfold gt at f4 f8
      clear hall
      clear ho
      refine wpOp_step (o := _) rfl (fun K' hK' => ?_)
      go_simp
      exact hK' _ _ (hI.put 9 rfl (by decide) HND.out HLS.out (Ch.refl _ _) rfl (hI.wld.step 9 (by decide) (by decide) (Ch.refl _ _)))
    · simp at ho
      have e0 : lg L 0 = true := by unfold lg; simpa using hall ⟨0, .data⟩ (by rw [← ho]; simp) rfl
      have f0 : gt a 50 = .agg #[.slice q2 m d2, .bool ab] := hI.val 0 _ rfl e0
      have q6 := (hI.fixed 6 (by simp)).trans F6.out
      have hrow := hI.wld.before hun
      have hcl0 := (cell_of_heap hrow 0).trans rfl
      have hcl1 := (cell_of_heap hrow 1).trans rfl
      have hfz0 := frozen_of_heap hrow 0
      have hfz1 := frozen_of_heap hrow 1
      unfold gt at f0 q6
      clear hall
      clear ho
      refine wpOp_step (o := _) rfl (fun K' hK' => ?_)
      clear hrow
      go_simp
      exact hK' _ _ (hI.skipX 10 (Nat.le_refl 10) (by rw [hI.wld.size]; decide) (fun k p hp hl h => by
        have hk10 : k < 10 := (List.getElem?_eq_some_iff.1 hp).1
        obtain rfl | rfl | rfl | rfl | rfl | rfl | rfl | rfl | rfl | rfl : k = 0 ∨ k = 1 ∨ k = 2 ∨ k = 3 ∨ k = 4 ∨ k = 5 ∨ k = 6 ∨ k = 7 ∨ k = 8 ∨ k = 9 := by omega
        all_goals (cases hp; exact h)) (hI.wld.store (by decide) hun))
  · intro L a w' hI hal
    have hfr := hI.frame HSZ.out (by simp) (fun i hi => hal i (by have h10 : i < 10 := hi; omega))
    have k0 : gt a 50 = .agg #[.slice q2 m d2, .bool ab] := hI.val 0 _ rfl (hal 0 (by decide))
    have k1 : gt a 51 = .int .i64 av := hI.val 1 _ rfl (hal 1 (by decide))
    have k2 : gt a 52 = .int .i64 av := hI.val 2 _ rfl (hal 2 (by decide))
    have k3 : gt a 53 = .bool true := hI.val 3 _ rfl (hal 3 (by decide))
    have k4 : gt a 54 = .bool true := hI.val 4 _ rfl (hal 4 (by decide))
    have k5 : gt a 55 = .int .i64 ano := hI.val 5 _ rfl (hal 5 (by decide))
    have k6 : gt a 56 = .int .i64 ano := hI.val 6 _ rfl (hal 6 (by decide))
    have k7 : gt a 57 = .int .i64 ano := hI.val 7 _ rfl (hal 7 (by decide))
    have k8 : gt a 58 = .bool true := hI.val 8 _ rfl (hal 8 (by decide))
    have k9 : gt a 59 = .bool true := hI.val 9 _ rfl (hal 9 (by decide))
    rw [hfr, ← HAX.out]
    have HWB := Go.Lib.hid (hI.wld.behind (hal 10 (by decide))); have HWC := Go.Lib.hid hI.wld.ch
    simp only [List.map_cons, List.map_nil, List.foldl_cons, List.foldl_nil, k0, k1, k2, k3, k4, k5, k6, k7, k8, k9, List.setIfInBounds_toArray, List.set_cons_succ, List.set_cons_zero]
    clear hfr hI hal k0 k1 k2 k3 k4 k5 k6 k7 k8 k9 HSZ HND HLS HAX F6 F8 F9 F10 F11 F12
    simp only [List.drop_succ_cons, List.drop_zero]
    go_wp2_with fail
    have hss := HSS.out; have hxo := HR2.out.old; have hxo2 := HXO.out
    refine bodyPost_ret (res20 w' C q2 m d2 ab _ HWB.out _ rfl rfl) rfl ?_
    exact ⟨HC2.out.then HWC.out (fun i hi e => by have e' : i = C := e; omega), m, f2, ab, q2, d2, p2, c2, HMN.out, rfl, HR2.out.ch HWC.out (show ¬ r = C by omega) (show ¬ x0 = C by omega), HB3.out.but2 HWC.out HBL.out (fun _ => show ¬ y0 = C by have := HYO.out; omega), HBL.out⟩
set_option maxRecDepth 100000 in
set_option maxHeartbeats 4000000 in
theorem askedB (r x0 y0 : Nat) (p q : Option Addr) (n c d : Nat) (f : Nat → UInt8) (bad : Bool) (most : Int) (w : World) (hr : RdAt w r x0 p n c f bad) (hq : BytesAt w q n d f) (hy : ∀ ad, q = some ad → ad.block = y0) (hyr : y0 ≠ r) (hyo : y0 < w.heap.size) (hn : n ≤ 1000000000000) :
    Calls Try.prog 20 #[.pointer (some ⟨r, 0, none⟩), .agg #[.slice q n d, .bool bad], .agg #[.int .i64 1, .int .i64 most]] w (AskTold r x0 y0 n w) := by
  obtain ⟨av, ano, ak, ab, hrr, hra⟩ := pairB r x0 y0 p q n c d f bad w hr hq hy
  have HYR := Go.Lib.hid hyr; have HYO := Go.Lib.hid hyo
  have HRR := Go.Lib.hid hrr; have HRA := Go.Lib.hid hra
  have HRL := Go.Lib.hid (row_lt hr.row); have HXO := Go.Lib.hid hr.old
  unfold RrTold3 at HRR
  unfold RdTold at HRA
  clear hr hq hy hyr hyo hrr hra
  simp only at HRR HRA ⊢
  generalize hm : n - ak = m at *
  have HMN := Go.Lib.hid (show m ≤ n by omega)
  clear hm
  generalize hff : (fun j => f (ak + j)) = f2 at *
  clear hff
  go_enter Try.func20, Try.ntmps20
  obtain ⟨hA0, hB0, hC0, hc1⟩ := three_at w #[.slice q n d, .bool bad] #[.int .i64 1, .int .i64 most] #[.slice none 0 0, .bool false] 51 55 51
  go_wp2_with fail
  refine (HRR.out _ hc1).mono ?_
  rintro e w1 ⟨hc2, q2, d2, rfl, hb2, hblk2⟩
  have hs0 : w.heap.size + 3 ≤ w1.heap.size := by have := hc2.size; simp at this; omega
  have hB1 := hc2.heap hB0 id; have hC1 := hc2.heap hC0 id
  have hm1 : (w1.alloc (.cells #[.slice q2 m d2, .bool ab] 51)).cell? ⟨w.heap.size + 1, 1, none⟩ = some (.int .i64 most) := ((Ch.refl (fun _ => False) w1).alloc _).get ((cell_of_heap hB1 1).trans rfl) id
  have HC1 := Go.Lib.hid (hc1.trans hc2); have HCC := Go.Lib.hid hC1; have HS0 := Go.Lib.hid hs0; have HB2 := Go.Lib.hid hb2; have HBL := Go.Lib.hid hblk2
  clear hc1 hc2 hA0 hB0 hC0 hB1 hC1 hs0 hb2 hblk2
  go_wp2_with fail
  have hal : Ch (fun _ => False) w1 (w1.alloc (.cells #[.slice q2 m d2, .bool ab] 51)) := (Ch.refl _ w1).alloc _
  refine (HRA.out _ (HC1.out.trans hal)).mono ?_
  rintro e w2 ⟨hc3, rfl, hk, p2, c2, hr2⟩
  have hrl := HRL.out; have hs0 := HS0.out
  have hD2 : w2.heap[w1.heap.size]? = some (.cells #[.slice q2 m d2, .bool ab] 51) := hc3.heap (World.alloc_heap_new w1 _) (show ¬ w1.heap.size = r by omega)
  have hC2 : w2.heap[w.heap.size + 1 + 1]? = some (.cells #[.slice none 0 0, .bool false] 51) := hc3.heap (hal.heap HCC.out id) (show ¬ w.heap.size + 1 + 1 = r by omega)
  have HC2 := Go.Lib.hid (show Ch (fun q => q = r) w w2 from ((HC1.out.trans hal).mono (fun _ _ e => e.elim)).trans hc3)
  have HB3 := Go.Lib.hid (show BytesAt w2 q2 m d2 f2 from (HB2.out.ch hal (fun _ _ => id)).but2 hc3 HBL.out (fun _ => HYR.out))
  have HR2 := Go.Lib.hid hr2; have HK := Go.Lib.hid hk
  have HD2 := Go.Lib.hid hD2; have HC2C := Go.Lib.hid hC2
  have HDC := Go.Lib.hid (show ¬ w1.heap.size = w.heap.size + 1 + 1 by omega); have HSS := Go.Lib.hid (show w.heap.size ≤ w.heap.size + 1 + 1 ∧ r < w.heap.size from ⟨by omega, hrl⟩)
  clear hal hc3 hk hr2 hrl hs0 hD2 hC2 HC1 HCC HS0 HB2 HRA HRR hm1
  generalize w.heap.size + 1 + 1 = C at *
  generalize w1.heap.size = D at *
  go_upto_region 9 with (fail)
  generalize hax : Act.mk _ _ = ax
  have HSZ := Go.Lib.hid (show ax.tmps.size = 158 by rw [← hax]; rfl)
  have F6 := Go.Lib.hid (show gt ax 6 = .pointer (some ⟨C, 0, none⟩) by rw [← hax]; rfl)
  have F13 := Go.Lib.hid (show gt ax 13 = .pointer (some ⟨D, 0, none⟩) by rw [← hax]; rfl)
  have F14 := Go.Lib.hid (show gt ax 14 = .bool av by rw [← hax]; rfl)
  have F15 := Go.Lib.hid (show gt ax 15 = .int .i64 ano by rw [← hax]; rfl)
  have F16 := Go.Lib.hid (show gt ax 16 = .bool av by rw [← hax]; rfl)
  have F17 := Go.Lib.hid (show gt ax 17 = .int .i64 ano by rw [← hax]; rfl)
  have HAX := Go.Lib.hid hax
  clear hax
  have HND := Go.Lib.hid (show ([73, 74, 75, 76, 77, 78, 79, 80, 81, 82] : List Nat).Nodup by decide)
  have HLS : Hid (Lasts [(73, fun x _ => x = .agg #[.slice q2 m d2, .bool ab]), (74, fun x _ => x = .bool av), (75, fun x _ => x = .bool av), (76, fun x _ => x = .bool true), (77, fun x _ => x = .bool true), (78, fun x _ => x = .int .i64 ano), (79, fun x _ => x = .int .i64 ano), (80, fun x _ => x = .int .i64 ano), (81, fun x _ => x = .bool true), (82, fun x _ => x = .bool true)]) := Go.Lib.hid (by
    intro p hp v w1 w2 hc h
    simp only [List.mem_cons, List.not_mem_nil, or_false] at hp
    rcases hp with rfl | rfl | rfl | rfl | rfl | rfl | rfl | rfl | rfl | rfl
    all_goals first | exact h | (obtain ⟨g, h1, h2⟩ := h; exact ⟨g, h1, hc.heap h2 id⟩) | (obtain ⟨g, c, h1, h2⟩ := h; exact ⟨g, c, h1, h2.ch hc (fun _ _ h => h)⟩))
  refine wp_region_open_tail 11 (InvQ 158 [(73, fun x _ => x = .agg #[.slice q2 m d2, .bool ab]), (74, fun x _ => x = .bool av), (75, fun x _ => x = .bool av), (76, fun x _ => x = .bool true), (77, fun x _ => x = .bool true), (78, fun x _ => x = .int .i64 ano), (79, fun x _ => x = .int .i64 ano), (80, fun x _ => x = .int .i64 ano), (81, fun x _ => x = .bool true), (82, fun x _ => x = .bool true)] (IAsk w2 C 10 12 (.slice q2 m d2) ab) ax) (by kernel_rfl) (by kernel_rfl) (InvQ.start (by simp) HSZ.out (IAsk.start HC2C.out)) ?_ ?_
  · intro L a w' i hI hr hlt
    obtain ⟨h1, o, ho, hall⟩ := mem_ready.1 hr
    have hun : lg L i = false := by
      have h2 : i < L.size := Nat.lt_of_lt_of_le hlt (by rw [hI.wld.size]; decide)
      unfold lg; simp [h2] at h1 ⊢; exact h1
    have hsplit : i = 0 ∨ i = 1 ∨ i = 2 ∨ i = 3 ∨ i = 4 ∨ i = 5 ∨ i = 6 ∨ i = 7 ∨ i = 8 ∨ i = 9 ∨ i = 10 := by omega
    clear hlt h1 hr
    rcases hsplit with rfl | rfl | rfl | rfl | rfl | rfl | rfl | rfl | rfl | rfl | rfl
    · have q13 := (hI.fixed 13 (by simp)).trans F13.out
      have hD := hI.wld.ch.heap HD2.out HDC.out
      have hcl0 : w'.cell? ⟨D, 0, none⟩ = some (.slice q2 m d2) := (cell_of_heap hD 0).trans rfl
      have hcl1 : w'.cell? ⟨D, 1, none⟩ = some (.bool ab) := (cell_of_heap hD 1).trans rfl
      clear hD
      unfold gt at q13
      clear hall
      refine wpOp_step (o := _) rfl (fun K' hK' => ?_)
      go_simp
      exact hK' _ _ (hI.put 0 rfl (by decide) HND.out HLS.out (Ch.refl _ _) rfl (hI.wld.step 0 (by decide) (by decide) (Ch.refl _ _)))
    · have q16 := (hI.fixed 16 (by simp)).trans F16.out
      unfold gt at q16
      clear hall
      refine wpOp_step (o := _) rfl (fun K' hK' => ?_)
      go_simp
      exact hK' _ _ (hI.put 1 rfl (by decide) HND.out HLS.out (Ch.refl _ _) rfl (hI.wld.step 1 (by decide) (by decide) (Ch.refl _ _)))
    · have q14 := (hI.fixed 14 (by simp)).trans F14.out
      unfold gt at q14
      clear hall
      refine wpOp_step (o := _) rfl (fun K' hK' => ?_)
      go_simp
      exact hK' _ _ (hI.put 2 rfl (by decide) HND.out HLS.out (Ch.refl _ _) rfl (hI.wld.step 2 (by decide) (by decide) (Ch.refl _ _)))
    · simp at ho
      have e1 : lg L 1 = true := by unfold lg; simpa using hall ⟨1, .data⟩ (by rw [← ho]; simp) rfl
      have f1 : gt a 74 = .bool av := hI.val 1 _ rfl e1
      have e2 : lg L 2 = true := by unfold lg; simpa using hall ⟨2, .data⟩ (by rw [← ho]; simp) rfl
      have f2 : gt a 75 = .bool av := hI.val 2 _ rfl e2
      unfold gt at f1 f2
      clear hall
      clear ho
      refine wpOp_step (o := _) rfl (fun K' hK' => ?_)
      go_simp
      exact hK' _ _ (hI.put 3 rfl (by decide) HND.out HLS.out (Ch.refl _ _) rfl (hI.wld.step 3 (by decide) (by decide) (Ch.refl _ _)))
    · simp at ho
      have e3 : lg L 3 = true := by unfold lg; simpa using hall ⟨3, .data⟩ (by rw [← ho]; simp) rfl
      have f3 : gt a 76 = .bool true := hI.val 3 _ rfl e3
      unfold gt at f3
      clear hall
      clear ho
      refine wpOp_step (o := _) rfl (fun K' hK' => ?_)
      go_simp
      exact hK' _ _ (hI.put 4 rfl (by decide) HND.out HLS.out (Ch.refl _ _) rfl (hI.wld.step 4 (by decide) (by decide) (Ch.refl _ _)))
    · simp at ho
      have q17 := (hI.fixed 17 (by simp)).trans F17.out
      have eg : lg L 4 = true := by unfold lg; simpa using hall ⟨4, .guard⟩ (by rw [← ho]; simp) rfl
      have fg0 : gt a 77 = .bool true := hI.val 4 _ rfl eg
      have fg := guard_of fg0 (by rw [hI.size]; decide)
      clear eg fg0
      unfold gt at q17
      clear hall
      clear ho
      refine wpOp_step (o := _) rfl (fun K' hK' => ?_)
      go_simp
      exact hK' _ _ (hI.put 5 rfl (by decide) HND.out HLS.out (Ch.refl _ _) rfl (hI.wld.step 5 (by decide) (by decide) (Ch.refl _ _)))
    · simp at ho
      have e5 : lg L 5 = true := by unfold lg; simpa using hall ⟨5, .data⟩ (by rw [← ho]; simp) rfl
      have f5 : gt a 78 = .int .i64 ano := hI.val 5 _ rfl e5
      have eg : lg L 4 = true := by unfold lg; simpa using hall ⟨4, .guard⟩ (by rw [← ho]; simp) rfl
      have fg0 : gt a 77 = .bool true := hI.val 4 _ rfl eg
      have fg := guard_of fg0 (by rw [hI.size]; decide)
      clear eg fg0
      unfold gt at f5
      clear hall
      clear ho
      have HCT := Go.Lib.hid (num_any ano w')
      refine wpOp_step (o := _) rfl (fun K' hK' => ?_)
      go_simp
      refine HCT.out.mono ?_
      rintro e w3 ⟨rfl, rfl⟩
      exact hK' _ _ (hI.put 6 rfl (by decide) HND.out HLS.out (Ch.refl _ _) rfl (hI.wld.step 6 (by decide) (by decide) (Ch.refl _ _)))
    · simp at ho
      have q15 := (hI.fixed 15 (by simp)).trans F15.out
      have eg : lg L 4 = true := by unfold lg; simpa using hall ⟨4, .guard⟩ (by rw [← ho]; simp) rfl
      have fg0 : gt a 77 = .bool true := hI.val 4 _ rfl eg
      have fg := guard_of fg0 (by rw [hI.size]; decide)
      clear eg fg0
      unfold gt at q15
      clear hall
      clear ho
      refine wpOp_step (o := _) rfl (fun K' hK' => ?_)
      go_simp
      exact hK' _ _ (hI.put 7 rfl (by decide) HND.out HLS.out (Ch.refl _ _) rfl (hI.wld.step 7 (by decide) (by decide) (Ch.refl _ _)))
    · simp at ho
      have e6 : lg L 6 = true := by unfold lg; simpa using hall ⟨6, .data⟩ (by rw [← ho]; simp) rfl
      have f6 : gt a 79 = .int .i64 ano := hI.val 6 _ rfl e6
      have e7 : lg L 7 = true := by unfold lg; simpa using hall ⟨7, .data⟩ (by rw [← ho]; simp) rfl
      have f7 : gt a 80 = .int .i64 ano := hI.val 7 _ rfl e7
      have eg : lg L 4 = true := by unfold lg; simpa using hall ⟨4, .guard⟩ (by rw [← ho]; simp) rfl
      have fg0 : gt a 77 = .bool true := hI.val 4 _ rfl eg
      have fg := guard_of fg0 (by rw [hI.size]; decide)
      clear eg fg0
      unfold gt at f6 f7
      clear hall
      clear ho
      refine wpOp_step (o := _) rfl (fun K' hK' => ?_)
      go_simp
      exact hK' _ _ (hI.put 8 rfl (by decide) HND.out HLS.out (Ch.refl _ _) rfl (hI.wld.step 8 (by decide) (by decide) (Ch.refl _ _)))
    · simp at ho
      have e4 : lg L 4 = true := by unfold lg; simpa using hall ⟨4, .data⟩ (by rw [← ho]; simp) rfl
      have f4 : gt a 77 = .bool true := hI.val 4 _ rfl e4
      have e8 : lg L 8 = true := by unfold lg; simpa using hall ⟨8, .data⟩ (by rw [← ho]; simp) rfl
      have f8 : gt a 81 = .bool true := hI.val 8 _ rfl e8
      unfold gt at f4 f8
      clear hall
      clear ho
      refine wpOp_step (o := _) rfl (fun K' hK' => ?_)
      go_simp
      exact hK' _ _ (hI.put 9 rfl (by decide) HND.out HLS.out (Ch.refl _ _) rfl (hI.wld.step 9 (by decide) (by decide) (Ch.refl _ _)))
    · simp at ho
      have e0 : lg L 0 = true := by unfold lg; simpa using hall ⟨0, .data⟩ (by rw [← ho]; simp) rfl
      have f0 : gt a 73 = .agg #[.slice q2 m d2, .bool ab] := hI.val 0 _ rfl e0
      have q6 := (hI.fixed 6 (by simp)).trans F6.out
      have hrow := hI.wld.before hun
      have hcl0 := (cell_of_heap hrow 0).trans rfl
      have hcl1 := (cell_of_heap hrow 1).trans rfl
      have hfz0 := frozen_of_heap hrow 0
      have hfz1 := frozen_of_heap hrow 1
      unfold gt at f0 q6
      clear hall
      clear ho
      refine wpOp_step (o := _) rfl (fun K' hK' => ?_)
      clear hrow
      go_simp
      exact hK' _ _ (hI.skipX 10 (Nat.le_refl 10) (by rw [hI.wld.size]; decide) (fun k p hp hl h => by
        have hk10 : k < 10 := (List.getElem?_eq_some_iff.1 hp).1
        obtain rfl | rfl | rfl | rfl | rfl | rfl | rfl | rfl | rfl | rfl : k = 0 ∨ k = 1 ∨ k = 2 ∨ k = 3 ∨ k = 4 ∨ k = 5 ∨ k = 6 ∨ k = 7 ∨ k = 8 ∨ k = 9 := by omega
        all_goals (cases hp; exact h)) (hI.wld.store (by decide) hun))
  · intro L a w' hI hal
    have hfr := hI.frame HSZ.out (by simp) (fun i hi => hal i (by have h10 : i < 10 := hi; omega))
    have k0 : gt a 73 = .agg #[.slice q2 m d2, .bool ab] := hI.val 0 _ rfl (hal 0 (by decide))
    have k1 : gt a 74 = .bool av := hI.val 1 _ rfl (hal 1 (by decide))
    have k2 : gt a 75 = .bool av := hI.val 2 _ rfl (hal 2 (by decide))
    have k3 : gt a 76 = .bool true := hI.val 3 _ rfl (hal 3 (by decide))
    have k4 : gt a 77 = .bool true := hI.val 4 _ rfl (hal 4 (by decide))
    have k5 : gt a 78 = .int .i64 ano := hI.val 5 _ rfl (hal 5 (by decide))
    have k6 : gt a 79 = .int .i64 ano := hI.val 6 _ rfl (hal 6 (by decide))
    have k7 : gt a 80 = .int .i64 ano := hI.val 7 _ rfl (hal 7 (by decide))
    have k8 : gt a 81 = .bool true := hI.val 8 _ rfl (hal 8 (by decide))
    have k9 : gt a 82 = .bool true := hI.val 9 _ rfl (hal 9 (by decide))
    rw [hfr, ← HAX.out]
    have HWB := Go.Lib.hid (hI.wld.behind (hal 10 (by decide))); have HWC := Go.Lib.hid hI.wld.ch
    simp only [List.map_cons, List.map_nil, List.foldl_cons, List.foldl_nil, k0, k1, k2, k3, k4, k5, k6, k7, k8, k9, List.setIfInBounds_toArray, List.set_cons_succ, List.set_cons_zero]
    clear hfr hI hal k0 k1 k2 k3 k4 k5 k6 k7 k8 k9 HSZ HND HLS HAX F6 F13 F14 F15 F16 F17
    simp only [List.drop_succ_cons, List.drop_zero]
    go_wp2_with fail
    have hss := HSS.out; have hxo := HR2.out.old; have hxo2 := HXO.out
    refine bodyPost_ret (res20 w' C q2 m d2 ab _ HWB.out _ rfl rfl) rfl ?_
    exact ⟨HC2.out.then HWC.out (fun i hi e => by have e' : i = C := e; omega), m, f2, ab, q2, d2, p2, c2, HMN.out, rfl, HR2.out.ch HWC.out (show ¬ r = C by omega) (show ¬ x0 = C by omega), HB3.out.but2 HWC.out HBL.out (fun _ => show ¬ y0 = C by have := HYO.out; omega), HBL.out⟩
set_option maxRecDepth 100000 in
set_option maxHeartbeats 4000000 in
theorem askedS1 (r x0 y0 : Nat) (p q : Option Addr) (n c d : Nat) (f : Nat → UInt8) (bad : Bool) (most : Int) (w : World) (hr : RdAt w r x0 p n c f bad) (hq : BytesAt w q n d f) (hy : ∀ ad, q = some ad → ad.block = y0) (hyr : y0 ≠ r) (hyo : y0 < w.heap.size) (hn : n ≤ 1000000000000) (hp1 : most < 1099511627776) (hp2 : -2 < most) :
    Calls Try.prog 20 #[.pointer (some ⟨r, 0, none⟩), .agg #[.slice q n d, .bool bad], .agg #[.int .i64 3, .int .i64 most]] w (AskTold r x0 y0 n w) := by
  obtain ⟨av, ano, ak, ab, hrr, hra⟩ := pairS r x0 y0 p q n c d f bad w hr hq hy most hyo hn (by omega)
  have HYR := Go.Lib.hid hyr; have HYO := Go.Lib.hid hyo
  have HRR := Go.Lib.hid hrr; have HRA := Go.Lib.hid hra
  have HRL := Go.Lib.hid (row_lt hr.row); have HXO := Go.Lib.hid hr.old
  unfold RrTold3 at HRR
  unfold RdTold at HRA
  clear hr hq hy hyr hyo hrr hra
  simp only at HRR HRA ⊢
  generalize hm : n - ak = m at *
  have HMN := Go.Lib.hid (show m ≤ n by omega)
  clear hm
  generalize hff : (fun j => f (ak + j)) = f2 at *
  clear hff
  go_enter Try.func20, Try.ntmps20
  obtain ⟨hA0, hB0, hC0, hc1⟩ := three_at w #[.slice q n d, .bool bad] #[.int .i64 3, .int .i64 most] #[.slice none 0 0, .bool false] 51 55 51
  go_wp2_with fail
  refine (HRR.out _ hc1).mono ?_
  rintro e w1 ⟨hc2, q2, d2, rfl, hb2, hblk2⟩
  have hs0 : w.heap.size + 3 ≤ w1.heap.size := by have := hc2.size; simp at this; omega
  have hB1 := hc2.heap hB0 id; have hC1 := hc2.heap hC0 id
  have hm1 : (w1.alloc (.cells #[.slice q2 m d2, .bool ab] 51)).cell? ⟨w.heap.size + 1, 1, none⟩ = some (.int .i64 most) := ((Ch.refl (fun _ => False) w1).alloc _).get ((cell_of_heap hB1 1).trans rfl) id
  have HC1 := Go.Lib.hid (hc1.trans hc2); have HCC := Go.Lib.hid hC1; have HS0 := Go.Lib.hid hs0; have HB2 := Go.Lib.hid hb2; have HBL := Go.Lib.hid hblk2
  clear hc1 hc2 hA0 hB0 hC0 hB1 hC1 hs0 hb2 hblk2
  go_wp2_with fail
  have hal : Ch (fun _ => False) w1 (w1.alloc (.cells #[.slice q2 m d2, .bool ab] 51)) := (Ch.refl _ w1).alloc _
  refine (HRA.out _ (HC1.out.trans hal)).mono ?_
  rintro e w2 ⟨hc3, rfl, hk, p2, c2, hr2⟩
  have hrl := HRL.out; have hs0 := HS0.out
  have hD2 : w2.heap[w1.heap.size]? = some (.cells #[.slice q2 m d2, .bool ab] 51) := hc3.heap (World.alloc_heap_new w1 _) (show ¬ w1.heap.size = r by omega)
  have hC2 : w2.heap[w.heap.size + 1 + 1]? = some (.cells #[.slice none 0 0, .bool false] 51) := hc3.heap (hal.heap HCC.out id) (show ¬ w.heap.size + 1 + 1 = r by omega)
  have HC2 := Go.Lib.hid (show Ch (fun q => q = r) w w2 from ((HC1.out.trans hal).mono (fun _ _ e => e.elim)).trans hc3)
  have HB3 := Go.Lib.hid (show BytesAt w2 q2 m d2 f2 from (HB2.out.ch hal (fun _ _ => id)).but2 hc3 HBL.out (fun _ => HYR.out))
  have HR2 := Go.Lib.hid hr2; have HK := Go.Lib.hid hk
  have HD2 := Go.Lib.hid hD2; have HC2C := Go.Lib.hid hC2
  have HDC := Go.Lib.hid (show ¬ w1.heap.size = w.heap.size + 1 + 1 by omega); have HSS := Go.Lib.hid (show w.heap.size ≤ w.heap.size + 1 + 1 ∧ r < w.heap.size from ⟨by omega, hrl⟩)
  clear hal hc3 hk hr2 hrl hs0 hD2 hC2 HC1 HCC HS0 HB2 HRA HRR hm1
  generalize w.heap.size + 1 + 1 = C at *
  generalize w1.heap.size = D at *
  go_upto_region 18 with (fail)
  generalize hax : Act.mk _ _ = ax
  have HSZ := Go.Lib.hid (show ax.tmps.size = 158 by rw [← hax]; rfl)
  have F6 := Go.Lib.hid (show gt ax 6 = .pointer (some ⟨C, 0, none⟩) by rw [← hax]; rfl)
  have F24 := Go.Lib.hid (show gt ax 24 = .pointer (some ⟨D, 0, none⟩) by rw [← hax]; rfl)
  have F25 := Go.Lib.hid (show gt ax 25 = .string av by rw [← hax]; rfl)
  have F26 := Go.Lib.hid (show gt ax 26 = .int .i64 ano by rw [← hax]; rfl)
  have F27 := Go.Lib.hid (show gt ax 27 = .string av by rw [← hax]; rfl)
  have F28 := Go.Lib.hid (show gt ax 28 = .int .i64 ano by rw [← hax]; rfl)
  have HAX := Go.Lib.hid hax
  clear hax
  have HND := Go.Lib.hid (show ([125, 126, 127, 128, 129, 130, 131, 132, 133, 134] : List Nat).Nodup by decide)
  have HLS : Hid (Lasts [(125, fun x _ => x = .agg #[.slice q2 m d2, .bool ab]), (126, fun x _ => x = .string av), (127, fun x _ => x = .string av), (128, fun x _ => x = .bool true), (129, fun x _ => x = .bool true), (130, fun x _ => x = .int .i64 ano), (131, fun x _ => x = .int .i64 ano), (132, fun x _ => x = .int .i64 ano), (133, fun x _ => x = .bool true), (134, fun x _ => x = .bool true)]) := Go.Lib.hid (by
    intro p hp v w1 w2 hc h
    simp only [List.mem_cons, List.not_mem_nil, or_false] at hp
    rcases hp with rfl | rfl | rfl | rfl | rfl | rfl | rfl | rfl | rfl | rfl
    all_goals first | exact h | (obtain ⟨g, h1, h2⟩ := h; exact ⟨g, h1, hc.heap h2 id⟩) | (obtain ⟨g, c, h1, h2⟩ := h; exact ⟨g, c, h1, h2.ch hc (fun _ _ h => h)⟩))
  refine wp_region_open_tail 11 (InvQ 158 [(125, fun x _ => x = .agg #[.slice q2 m d2, .bool ab]), (126, fun x _ => x = .string av), (127, fun x _ => x = .string av), (128, fun x _ => x = .bool true), (129, fun x _ => x = .bool true), (130, fun x _ => x = .int .i64 ano), (131, fun x _ => x = .int .i64 ano), (132, fun x _ => x = .int .i64 ano), (133, fun x _ => x = .bool true), (134, fun x _ => x = .bool true)] (IAsk w2 C 10 12 (.slice q2 m d2) ab) ax) (by kernel_rfl) (by kernel_rfl) (InvQ.start (by simp) HSZ.out (IAsk.start HC2C.out)) ?_ ?_
  · intro L a w' i hI hr hlt
    obtain ⟨h1, o, ho, hall⟩ := mem_ready.1 hr
    have hun : lg L i = false := by
      have h2 : i < L.size := Nat.lt_of_lt_of_le hlt (by rw [hI.wld.size]; decide)
      unfold lg; simp [h2] at h1 ⊢; exact h1
    have hsplit : i = 0 ∨ i = 1 ∨ i = 2 ∨ i = 3 ∨ i = 4 ∨ i = 5 ∨ i = 6 ∨ i = 7 ∨ i = 8 ∨ i = 9 ∨ i = 10 := by omega
    clear hlt h1 hr
    rcases hsplit with rfl | rfl | rfl | rfl | rfl | rfl | rfl | rfl | rfl | rfl | rfl
    · have q24 := (hI.fixed 24 (by simp)).trans F24.out
      have hD := hI.wld.ch.heap HD2.out HDC.out
      have hcl0 : w'.cell? ⟨D, 0, none⟩ = some (.slice q2 m d2) := (cell_of_heap hD 0).trans rfl
      have hcl1 : w'.cell? ⟨D, 1, none⟩ = some (.bool ab) := (cell_of_heap hD 1).trans rfl
      clear hD
      unfold gt at q24
      clear hall
      refine wpOp_step (o := _) rfl (fun K' hK' => ?_)
      go_simp
      exact hK' _ _ (hI.put 0 rfl (by decide) HND.out HLS.out (Ch.refl _ _) rfl (hI.wld.step 0 (by decide) (by decide) (Ch.refl _ _)))
    · have q27 := (hI.fixed 27 (by simp)).trans F27.out
      unfold gt at q27
      clear hall
      refine wpOp_step (o := _) rfl (fun K' hK' => ?_)
      go_simp
      exact hK' _ _ (hI.put 1 rfl (by decide) HND.out HLS.out (Ch.refl _ _) rfl (hI.wld.step 1 (by decide) (by decide) (Ch.refl _ _)))
    · have q25 := (hI.fixed 25 (by simp)).trans F25.out
      unfold gt at q25
      clear hall
      refine wpOp_step (o := _) rfl (fun K' hK' => ?_)
      go_simp
      exact hK' _ _ (hI.put 2 rfl (by decide) HND.out HLS.out (Ch.refl _ _) rfl (hI.wld.step 2 (by decide) (by decide) (Ch.refl _ _)))
    · simp at ho
      have e1 : lg L 1 = true := by unfold lg; simpa using hall ⟨1, .data⟩ (by rw [← ho]; simp) rfl
      have f1 : gt a 126 = .string av := hI.val 1 _ rfl e1
      have e2 : lg L 2 = true := by unfold lg; simpa using hall ⟨2, .data⟩ (by rw [← ho]; simp) rfl
      have f2 : gt a 127 = .string av := hI.val 2 _ rfl e2
      unfold gt at f1 f2
      clear hall
      clear ho
      refine wpOp_step (o := _) rfl (fun K' hK' => ?_)
      go_simp
      exact hK' _ _ (hI.put 3 rfl (by decide) HND.out HLS.out (Ch.refl _ _) rfl (hI.wld.step 3 (by decide) (by decide) (Ch.refl _ _)))
    · simp at ho
      have e3 : lg L 3 = true := by unfold lg; simpa using hall ⟨3, .data⟩ (by rw [← ho]; simp) rfl
      have f3 : gt a 128 = .bool true := hI.val 3 _ rfl e3
      unfold gt at f3
      clear hall
      clear ho
      refine wpOp_step (o := _) rfl (fun K' hK' => ?_)
      go_simp
      exact hK' _ _ (hI.put 4 rfl (by decide) HND.out HLS.out (Ch.refl _ _) rfl (hI.wld.step 4 (by decide) (by decide) (Ch.refl _ _)))
    · simp at ho
      have q28 := (hI.fixed 28 (by simp)).trans F28.out
      have eg : lg L 4 = true := by unfold lg; simpa using hall ⟨4, .guard⟩ (by rw [← ho]; simp) rfl
      have fg0 : gt a 129 = .bool true := hI.val 4 _ rfl eg
      have fg := guard_of fg0 (by rw [hI.size]; decide)
      clear eg fg0
      unfold gt at q28
      clear hall
      clear ho
      refine wpOp_step (o := _) rfl (fun K' hK' => ?_)
      go_simp
      exact hK' _ _ (hI.put 5 rfl (by decide) HND.out HLS.out (Ch.refl _ _) rfl (hI.wld.step 5 (by decide) (by decide) (Ch.refl _ _)))
    · simp at ho
      have e5 : lg L 5 = true := by unfold lg; simpa using hall ⟨5, .data⟩ (by rw [← ho]; simp) rfl
      have f5 : gt a 130 = .int .i64 ano := hI.val 5 _ rfl e5
      have eg : lg L 4 = true := by unfold lg; simpa using hall ⟨4, .guard⟩ (by rw [← ho]; simp) rfl
      have fg0 : gt a 129 = .bool true := hI.val 4 _ rfl eg
      have fg := guard_of fg0 (by rw [hI.size]; decide)
      clear eg fg0
      unfold gt at f5
      clear hall
      clear ho
      have HCT := Go.Lib.hid (num_any ano w')
      refine wpOp_step (o := _) rfl (fun K' hK' => ?_)
      go_simp
      refine HCT.out.mono ?_
      rintro e w3 ⟨rfl, rfl⟩
      exact hK' _ _ (hI.put 6 rfl (by decide) HND.out HLS.out (Ch.refl _ _) rfl (hI.wld.step 6 (by decide) (by decide) (Ch.refl _ _)))
    · simp at ho
      have q26 := (hI.fixed 26 (by simp)).trans F26.out
      have eg : lg L 4 = true := by unfold lg; simpa using hall ⟨4, .guard⟩ (by rw [← ho]; simp) rfl
      have fg0 : gt a 129 = .bool true := hI.val 4 _ rfl eg
      have fg := guard_of fg0 (by rw [hI.size]; decide)
      clear eg fg0
      unfold gt at q26
      clear hall
      clear ho
      refine wpOp_step (o := _) rfl (fun K' hK' => ?_)
      go_simp
      exact hK' _ _ (hI.put 7 rfl (by decide) HND.out HLS.out (Ch.refl _ _) rfl (hI.wld.step 7 (by decide) (by decide) (Ch.refl _ _)))
    · simp at ho
      have e6 : lg L 6 = true := by unfold lg; simpa using hall ⟨6, .data⟩ (by rw [← ho]; simp) rfl
      have f6 : gt a 131 = .int .i64 ano := hI.val 6 _ rfl e6
      have e7 : lg L 7 = true := by unfold lg; simpa using hall ⟨7, .data⟩ (by rw [← ho]; simp) rfl
      have f7 : gt a 132 = .int .i64 ano := hI.val 7 _ rfl e7
      have eg : lg L 4 = true := by unfold lg; simpa using hall ⟨4, .guard⟩ (by rw [← ho]; simp) rfl
      have fg0 : gt a 129 = .bool true := hI.val 4 _ rfl eg
      have fg := guard_of fg0 (by rw [hI.size]; decide)
      clear eg fg0
      unfold gt at f6 f7
      clear hall
      clear ho
      refine wpOp_step (o := _) rfl (fun K' hK' => ?_)
      go_simp
      exact hK' _ _ (hI.put 8 rfl (by decide) HND.out HLS.out (Ch.refl _ _) rfl (hI.wld.step 8 (by decide) (by decide) (Ch.refl _ _)))
    · simp at ho
      have e4 : lg L 4 = true := by unfold lg; simpa using hall ⟨4, .data⟩ (by rw [← ho]; simp) rfl
      have f4 : gt a 129 = .bool true := hI.val 4 _ rfl e4
      have e8 : lg L 8 = true := by unfold lg; simpa using hall ⟨8, .data⟩ (by rw [← ho]; simp) rfl
      have f8 : gt a 133 = .bool true := hI.val 8 _ rfl e8
      unfold gt at f4 f8
      clear hall
      clear ho
      refine wpOp_step (o := _) rfl (fun K' hK' => ?_)
      go_simp
      exact hK' _ _ (hI.put 9 rfl (by decide) HND.out HLS.out (Ch.refl _ _) rfl (hI.wld.step 9 (by decide) (by decide) (Ch.refl _ _)))
    · simp at ho
      have e0 : lg L 0 = true := by unfold lg; simpa using hall ⟨0, .data⟩ (by rw [← ho]; simp) rfl
      have f0 : gt a 125 = .agg #[.slice q2 m d2, .bool ab] := hI.val 0 _ rfl e0
      have q6 := (hI.fixed 6 (by simp)).trans F6.out
      have hrow := hI.wld.before hun
      have hcl0 := (cell_of_heap hrow 0).trans rfl
      have hcl1 := (cell_of_heap hrow 1).trans rfl
      have hfz0 := frozen_of_heap hrow 0
      have hfz1 := frozen_of_heap hrow 1
      unfold gt at f0 q6
      clear hall
      clear ho
      refine wpOp_step (o := _) rfl (fun K' hK' => ?_)
      clear hrow
      go_simp
      exact hK' _ _ (hI.skipX 10 (Nat.le_refl 10) (by rw [hI.wld.size]; decide) (fun k p hp hl h => by
        have hk10 : k < 10 := (List.getElem?_eq_some_iff.1 hp).1
        obtain rfl | rfl | rfl | rfl | rfl | rfl | rfl | rfl | rfl | rfl : k = 0 ∨ k = 1 ∨ k = 2 ∨ k = 3 ∨ k = 4 ∨ k = 5 ∨ k = 6 ∨ k = 7 ∨ k = 8 ∨ k = 9 := by omega
        all_goals (cases hp; exact h)) (hI.wld.store (by decide) hun))
  · intro L a w' hI hal
    have hfr := hI.frame HSZ.out (by simp) (fun i hi => hal i (by have h10 : i < 10 := hi; omega))
    have k0 : gt a 125 = .agg #[.slice q2 m d2, .bool ab] := hI.val 0 _ rfl (hal 0 (by decide))
    have k1 : gt a 126 = .string av := hI.val 1 _ rfl (hal 1 (by decide))
    have k2 : gt a 127 = .string av := hI.val 2 _ rfl (hal 2 (by decide))
    have k3 : gt a 128 = .bool true := hI.val 3 _ rfl (hal 3 (by decide))
    have k4 : gt a 129 = .bool true := hI.val 4 _ rfl (hal 4 (by decide))
    have k5 : gt a 130 = .int .i64 ano := hI.val 5 _ rfl (hal 5 (by decide))
    have k6 : gt a 131 = .int .i64 ano := hI.val 6 _ rfl (hal 6 (by decide))
    have k7 : gt a 132 = .int .i64 ano := hI.val 7 _ rfl (hal 7 (by decide))
    have k8 : gt a 133 = .bool true := hI.val 8 _ rfl (hal 8 (by decide))
    have k9 : gt a 134 = .bool true := hI.val 9 _ rfl (hal 9 (by decide))
    rw [hfr, ← HAX.out]
    have HWB := Go.Lib.hid (hI.wld.behind (hal 10 (by decide))); have HWC := Go.Lib.hid hI.wld.ch
    simp only [List.map_cons, List.map_nil, List.foldl_cons, List.foldl_nil, k0, k1, k2, k3, k4, k5, k6, k7, k8, k9, List.setIfInBounds_toArray, List.set_cons_succ, List.set_cons_zero]
    clear hfr hI hal k0 k1 k2 k3 k4 k5 k6 k7 k8 k9 HSZ HND HLS HAX F6 F24 F25 F26 F27 F28
    simp only [List.drop_succ_cons, List.drop_zero]
    go_wp2_with fail
    have hss := HSS.out; have hxo := HR2.out.old; have hxo2 := HXO.out
    refine bodyPost_ret (res20 w' C q2 m d2 ab _ HWB.out _ rfl rfl) rfl ?_
    exact ⟨HC2.out.then HWC.out (fun i hi e => by have e' : i = C := e; omega), m, f2, ab, q2, d2, p2, c2, HMN.out, rfl, HR2.out.ch HWC.out (show ¬ r = C by omega) (show ¬ x0 = C by omega), HB3.out.but2 HWC.out HBL.out (fun _ => show ¬ y0 = C by have := HYO.out; omega), HBL.out⟩
set_option maxRecDepth 100000 in
set_option maxHeartbeats 4000000 in
theorem askedS2 (r x0 y0 : Nat) (p q : Option Addr) (n c d : Nat) (f : Nat → UInt8) (bad : Bool) (most : Int) (w : World) (hr : RdAt w r x0 p n c f bad) (hq : BytesAt w q n d f) (hy : ∀ ad, q = some ad → ad.block = y0) (hyr : y0 ≠ r) (hyo : y0 < w.heap.size) (hn : n ≤ 1000000000000) (hp1 : most < 1099511627776) (hp2 : most ≤ -2) :
    Calls Try.prog 20 #[.pointer (some ⟨r, 0, none⟩), .agg #[.slice q n d, .bool bad], .agg #[.int .i64 3, .int .i64 most]] w (AskTold r x0 y0 n w) := by
  obtain ⟨av, ano, ak, ab, hrr, hra⟩ := pairS r x0 y0 p q n c d f bad w hr hq hy (-2) hyo hn (by omega)
  have HYR := Go.Lib.hid hyr; have HYO := Go.Lib.hid hyo
  have HRR := Go.Lib.hid hrr; have HRA := Go.Lib.hid hra
  have HRL := Go.Lib.hid (row_lt hr.row); have HXO := Go.Lib.hid hr.old
  unfold RrTold3 at HRR
  unfold RdTold at HRA
  clear hr hq hy hyr hyo hrr hra
  simp only at HRR HRA ⊢
  generalize hm : n - ak = m at *
  have HMN := Go.Lib.hid (show m ≤ n by omega)
  clear hm
  generalize hff : (fun j => f (ak + j)) = f2 at *
  clear hff
  go_enter Try.func20, Try.ntmps20
  obtain ⟨hA0, hB0, hC0, hc1⟩ := three_at w #[.slice q n d, .bool bad] #[.int .i64 3, .int .i64 most] #[.slice none 0 0, .bool false] 51 55 51
  go_wp2_with fail
  refine (HRR.out _ hc1).mono ?_
  rintro e w1 ⟨hc2, q2, d2, rfl, hb2, hblk2⟩
  have hs0 : w.heap.size + 3 ≤ w1.heap.size := by have := hc2.size; simp at this; omega
  have hB1 := hc2.heap hB0 id; have hC1 := hc2.heap hC0 id
  have hm1 : (w1.alloc (.cells #[.slice q2 m d2, .bool ab] 51)).cell? ⟨w.heap.size + 1, 1, none⟩ = some (.int .i64 most) := ((Ch.refl (fun _ => False) w1).alloc _).get ((cell_of_heap hB1 1).trans rfl) id
  have HC1 := Go.Lib.hid (hc1.trans hc2); have HCC := Go.Lib.hid hC1; have HS0 := Go.Lib.hid hs0; have HB2 := Go.Lib.hid hb2; have HBL := Go.Lib.hid hblk2
  clear hc1 hc2 hA0 hB0 hC0 hB1 hC1 hs0 hb2 hblk2
  go_wp2_with fail
  have hal : Ch (fun _ => False) w1 (w1.alloc (.cells #[.slice q2 m d2, .bool ab] 51)) := (Ch.refl _ w1).alloc _
  refine (HRA.out _ (HC1.out.trans hal)).mono ?_
  rintro e w2 ⟨hc3, rfl, hk, p2, c2, hr2⟩
  have hrl := HRL.out; have hs0 := HS0.out
  have hD2 : w2.heap[w1.heap.size]? = some (.cells #[.slice q2 m d2, .bool ab] 51) := hc3.heap (World.alloc_heap_new w1 _) (show ¬ w1.heap.size = r by omega)
  have hC2 : w2.heap[w.heap.size + 1 + 1]? = some (.cells #[.slice none 0 0, .bool false] 51) := hc3.heap (hal.heap HCC.out id) (show ¬ w.heap.size + 1 + 1 = r by omega)
  have HC2 := Go.Lib.hid (show Ch (fun q => q = r) w w2 from ((HC1.out.trans hal).mono (fun _ _ e => e.elim)).trans hc3)
  have HB3 := Go.Lib.hid (show BytesAt w2 q2 m d2 f2 from (HB2.out.ch hal (fun _ _ => id)).but2 hc3 HBL.out (fun _ => HYR.out))
  have HR2 := Go.Lib.hid hr2; have HK := Go.Lib.hid hk
  have HD2 := Go.Lib.hid hD2; have HC2C := Go.Lib.hid hC2
  have HDC := Go.Lib.hid (show ¬ w1.heap.size = w.heap.size + 1 + 1 by omega); have HSS := Go.Lib.hid (show w.heap.size ≤ w.heap.size + 1 + 1 ∧ r < w.heap.size from ⟨by omega, hrl⟩)
  clear hal hc3 hk hr2 hrl hs0 hD2 hC2 HC1 HCC HS0 HB2 HRA HRR hm1
  generalize w.heap.size + 1 + 1 = C at *
  generalize w1.heap.size = D at *
  go_upto_region 18 with (fail)
  generalize hax : Act.mk _ _ = ax
  have HSZ := Go.Lib.hid (show ax.tmps.size = 158 by rw [← hax]; rfl)
  have F6 := Go.Lib.hid (show gt ax 6 = .pointer (some ⟨C, 0, none⟩) by rw [← hax]; rfl)
  have F24 := Go.Lib.hid (show gt ax 24 = .pointer (some ⟨D, 0, none⟩) by rw [← hax]; rfl)
  have F25 := Go.Lib.hid (show gt ax 25 = .string av by rw [← hax]; rfl)
  have F26 := Go.Lib.hid (show gt ax 26 = .int .i64 ano by rw [← hax]; rfl)
  have F27 := Go.Lib.hid (show gt ax 27 = .string av by rw [← hax]; rfl)
  have F28 := Go.Lib.hid (show gt ax 28 = .int .i64 ano by rw [← hax]; rfl)
  have HAX := Go.Lib.hid hax
  clear hax
  have HND := Go.Lib.hid (show ([125, 126, 127, 128, 129, 130, 131, 132, 133, 134] : List Nat).Nodup by decide)
  have HLS : Hid (Lasts [(125, fun x _ => x = .agg #[.slice q2 m d2, .bool ab]), (126, fun x _ => x = .string av), (127, fun x _ => x = .string av), (128, fun x _ => x = .bool true), (129, fun x _ => x = .bool true), (130, fun x _ => x = .int .i64 ano), (131, fun x _ => x = .int .i64 ano), (132, fun x _ => x = .int .i64 ano), (133, fun x _ => x = .bool true), (134, fun x _ => x = .bool true)]) := Go.Lib.hid (by
    intro p hp v w1 w2 hc h
    simp only [List.mem_cons, List.not_mem_nil, or_false] at hp
    rcases hp with rfl | rfl | rfl | rfl | rfl | rfl | rfl | rfl | rfl | rfl
    all_goals first | exact h | (obtain ⟨g, h1, h2⟩ := h; exact ⟨g, h1, hc.heap h2 id⟩) | (obtain ⟨g, c, h1, h2⟩ := h; exact ⟨g, c, h1, h2.ch hc (fun _ _ h => h)⟩))
  refine wp_region_open_tail 11 (InvQ 158 [(125, fun x _ => x = .agg #[.slice q2 m d2, .bool ab]), (126, fun x _ => x = .string av), (127, fun x _ => x = .string av), (128, fun x _ => x = .bool true), (129, fun x _ => x = .bool true), (130, fun x _ => x = .int .i64 ano), (131, fun x _ => x = .int .i64 ano), (132, fun x _ => x = .int .i64 ano), (133, fun x _ => x = .bool true), (134, fun x _ => x = .bool true)] (IAsk w2 C 10 12 (.slice q2 m d2) ab) ax) (by kernel_rfl) (by kernel_rfl) (InvQ.start (by simp) HSZ.out (IAsk.start HC2C.out)) ?_ ?_
  · intro L a w' i hI hr hlt
    obtain ⟨h1, o, ho, hall⟩ := mem_ready.1 hr
    have hun : lg L i = false := by
      have h2 : i < L.size := Nat.lt_of_lt_of_le hlt (by rw [hI.wld.size]; decide)
      unfold lg; simp [h2] at h1 ⊢; exact h1
    have hsplit : i = 0 ∨ i = 1 ∨ i = 2 ∨ i = 3 ∨ i = 4 ∨ i = 5 ∨ i = 6 ∨ i = 7 ∨ i = 8 ∨ i = 9 ∨ i = 10 := by omega
    clear hlt h1 hr
    rcases hsplit with rfl | rfl | rfl | rfl | rfl | rfl | rfl | rfl | rfl | rfl | rfl
    · have q24 := (hI.fixed 24 (by simp)).trans F24.out
      have hD := hI.wld.ch.heap HD2.out HDC.out
      have hcl0 : w'.cell? ⟨D, 0, none⟩ = some (.slice q2 m d2) := (cell_of_heap hD 0).trans rfl
      have hcl1 : w'.cell? ⟨D, 1, none⟩ = some (.bool ab) := (cell_of_heap hD 1).trans rfl
      clear hD
      unfold gt at q24
      clear hall
      refine wpOp_step (o := _) rfl (fun K' hK' => ?_)
      go_simp
      exact hK' _ _ (hI.put 0 rfl (by decide) HND.out HLS.out (Ch.refl _ _) rfl (hI.wld.step 0 (by decide) (by decide) (Ch.refl _ _)))
    · have q27 := (hI.fixed 27 (by simp)).trans F27.out
      unfold gt at q27
      clear hall
      refine wpOp_step (o := _) rfl (fun K' hK' => ?_)
      go_simp
      exact hK' _ _ (hI.put 1 rfl (by decide) HND.out HLS.out (Ch.refl _ _) rfl (hI.wld.step 1 (by decide) (by decide) (Ch.refl _ _)))
    · have q25 := (hI.fixed 25 (by simp)).trans F25.out
      unfold gt at q25
      clear hall
      refine wpOp_step (o := _) rfl (fun K' hK' => ?_)
      go_simp
      exact hK' _ _ (hI.put 2 rfl (by decide) HND.out HLS.out (Ch.refl _ _) rfl (hI.wld.step 2 (by decide) (by decide) (Ch.refl _ _)))
    · simp at ho
      have e1 : lg L 1 = true := by unfold lg; simpa using hall ⟨1, .data⟩ (by rw [← ho]; simp) rfl
      have f1 : gt a 126 = .string av := hI.val 1 _ rfl e1
      have e2 : lg L 2 = true := by unfold lg; simpa using hall ⟨2, .data⟩ (by rw [← ho]; simp) rfl
      have f2 : gt a 127 = .string av := hI.val 2 _ rfl e2
      unfold gt at f1 f2
      clear hall
      clear ho
      refine wpOp_step (o := _) rfl (fun K' hK' => ?_)
      go_simp
      exact hK' _ _ (hI.put 3 rfl (by decide) HND.out HLS.out (Ch.refl _ _) rfl (hI.wld.step 3 (by decide) (by decide) (Ch.refl _ _)))
    · simp at ho
      have e3 : lg L 3 = true := by unfold lg; simpa using hall ⟨3, .data⟩ (by rw [← ho]; simp) rfl
      have f3 : gt a 128 = .bool true := hI.val 3 _ rfl e3
      unfold gt at f3
      clear hall
      clear ho
      refine wpOp_step (o := _) rfl (fun K' hK' => ?_)
      go_simp
      exact hK' _ _ (hI.put 4 rfl (by decide) HND.out HLS.out (Ch.refl _ _) rfl (hI.wld.step 4 (by decide) (by decide) (Ch.refl _ _)))
    · simp at ho
      have q28 := (hI.fixed 28 (by simp)).trans F28.out
      have eg : lg L 4 = true := by unfold lg; simpa using hall ⟨4, .guard⟩ (by rw [← ho]; simp) rfl
      have fg0 : gt a 129 = .bool true := hI.val 4 _ rfl eg
      have fg := guard_of fg0 (by rw [hI.size]; decide)
      clear eg fg0
      unfold gt at q28
      clear hall
      clear ho
      refine wpOp_step (o := _) rfl (fun K' hK' => ?_)
      go_simp
      exact hK' _ _ (hI.put 5 rfl (by decide) HND.out HLS.out (Ch.refl _ _) rfl (hI.wld.step 5 (by decide) (by decide) (Ch.refl _ _)))
    · simp at ho
      have e5 : lg L 5 = true := by unfold lg; simpa using hall ⟨5, .data⟩ (by rw [← ho]; simp) rfl
      have f5 : gt a 130 = .int .i64 ano := hI.val 5 _ rfl e5
      have eg : lg L 4 = true := by unfold lg; simpa using hall ⟨4, .guard⟩ (by rw [← ho]; simp) rfl
      have fg0 : gt a 129 = .bool true := hI.val 4 _ rfl eg
      have fg := guard_of fg0 (by rw [hI.size]; decide)
      clear eg fg0
      unfold gt at f5
      clear hall
      clear ho
      have HCT := Go.Lib.hid (num_any ano w')
      refine wpOp_step (o := _) rfl (fun K' hK' => ?_)
      go_simp
      refine HCT.out.mono ?_
      rintro e w3 ⟨rfl, rfl⟩
      exact hK' _ _ (hI.put 6 rfl (by decide) HND.out HLS.out (Ch.refl _ _) rfl (hI.wld.step 6 (by decide) (by decide) (Ch.refl _ _)))
    · simp at ho
      have q26 := (hI.fixed 26 (by simp)).trans F26.out
      have eg : lg L 4 = true := by unfold lg; simpa using hall ⟨4, .guard⟩ (by rw [← ho]; simp) rfl
      have fg0 : gt a 129 = .bool true := hI.val 4 _ rfl eg
      have fg := guard_of fg0 (by rw [hI.size]; decide)
      clear eg fg0
      unfold gt at q26
      clear hall
      clear ho
      refine wpOp_step (o := _) rfl (fun K' hK' => ?_)
      go_simp
      exact hK' _ _ (hI.put 7 rfl (by decide) HND.out HLS.out (Ch.refl _ _) rfl (hI.wld.step 7 (by decide) (by decide) (Ch.refl _ _)))
    · simp at ho
      have e6 : lg L 6 = true := by unfold lg; simpa using hall ⟨6, .data⟩ (by rw [← ho]; simp) rfl
      have f6 : gt a 131 = .int .i64 ano := hI.val 6 _ rfl e6
      have e7 : lg L 7 = true := by unfold lg; simpa using hall ⟨7, .data⟩ (by rw [← ho]; simp) rfl
      have f7 : gt a 132 = .int .i64 ano := hI.val 7 _ rfl e7
      have eg : lg L 4 = true := by unfold lg; simpa using hall ⟨4, .guard⟩ (by rw [← ho]; simp) rfl
      have fg0 : gt a 129 = .bool true := hI.val 4 _ rfl eg
      have fg := guard_of fg0 (by rw [hI.size]; decide)
      clear eg fg0
      unfold gt at f6 f7
      clear hall
      clear ho
      refine wpOp_step (o := _) rfl (fun K' hK' => ?_)
      go_simp
      exact hK' _ _ (hI.put 8 rfl (by decide) HND.out HLS.out (Ch.refl _ _) rfl (hI.wld.step 8 (by decide) (by decide) (Ch.refl _ _)))
    · simp at ho
      have e4 : lg L 4 = true := by unfold lg; simpa using hall ⟨4, .data⟩ (by rw [← ho]; simp) rfl
      have f4 : gt a 129 = .bool true := hI.val 4 _ rfl e4
      have e8 : lg L 8 = true := by unfold lg; simpa using hall ⟨8, .data⟩ (by rw [← ho]; simp) rfl
      have f8 : gt a 133 = .bool true := hI.val 8 _ rfl e8
      unfold gt at f4 f8
      clear hall
      clear ho
      refine wpOp_step (o := _) rfl (fun K' hK' => ?_)
      go_simp
      exact hK' _ _ (hI.put 9 rfl (by decide) HND.out HLS.out (Ch.refl _ _) rfl (hI.wld.step 9 (by decide) (by decide) (Ch.refl _ _)))
    · simp at ho
      have e0 : lg L 0 = true := by unfold lg; simpa using hall ⟨0, .data⟩ (by rw [← ho]; simp) rfl
      have f0 : gt a 125 = .agg #[.slice q2 m d2, .bool ab] := hI.val 0 _ rfl e0
      have q6 := (hI.fixed 6 (by simp)).trans F6.out
      have hrow := hI.wld.before hun
      have hcl0 := (cell_of_heap hrow 0).trans rfl
      have hcl1 := (cell_of_heap hrow 1).trans rfl
      have hfz0 := frozen_of_heap hrow 0
      have hfz1 := frozen_of_heap hrow 1
      unfold gt at f0 q6
      clear hall
      clear ho
      refine wpOp_step (o := _) rfl (fun K' hK' => ?_)
      clear hrow
      go_simp
      exact hK' _ _ (hI.skipX 10 (Nat.le_refl 10) (by rw [hI.wld.size]; decide) (fun k p hp hl h => by
        have hk10 : k < 10 := (List.getElem?_eq_some_iff.1 hp).1
        obtain rfl | rfl | rfl | rfl | rfl | rfl | rfl | rfl | rfl | rfl : k = 0 ∨ k = 1 ∨ k = 2 ∨ k = 3 ∨ k = 4 ∨ k = 5 ∨ k = 6 ∨ k = 7 ∨ k = 8 ∨ k = 9 := by omega
        all_goals (cases hp; exact h)) (hI.wld.store (by decide) hun))
  · intro L a w' hI hal
    have hfr := hI.frame HSZ.out (by simp) (fun i hi => hal i (by have h10 : i < 10 := hi; omega))
    have k0 : gt a 125 = .agg #[.slice q2 m d2, .bool ab] := hI.val 0 _ rfl (hal 0 (by decide))
    have k1 : gt a 126 = .string av := hI.val 1 _ rfl (hal 1 (by decide))
    have k2 : gt a 127 = .string av := hI.val 2 _ rfl (hal 2 (by decide))
    have k3 : gt a 128 = .bool true := hI.val 3 _ rfl (hal 3 (by decide))
    have k4 : gt a 129 = .bool true := hI.val 4 _ rfl (hal 4 (by decide))
    have k5 : gt a 130 = .int .i64 ano := hI.val 5 _ rfl (hal 5 (by decide))
    have k6 : gt a 131 = .int .i64 ano := hI.val 6 _ rfl (hal 6 (by decide))
    have k7 : gt a 132 = .int .i64 ano := hI.val 7 _ rfl (hal 7 (by decide))
    have k8 : gt a 133 = .bool true := hI.val 8 _ rfl (hal 8 (by decide))
    have k9 : gt a 134 = .bool true := hI.val 9 _ rfl (hal 9 (by decide))
    rw [hfr, ← HAX.out]
    have HWB := Go.Lib.hid (hI.wld.behind (hal 10 (by decide))); have HWC := Go.Lib.hid hI.wld.ch
    simp only [List.map_cons, List.map_nil, List.foldl_cons, List.foldl_nil, k0, k1, k2, k3, k4, k5, k6, k7, k8, k9, List.setIfInBounds_toArray, List.set_cons_succ, List.set_cons_zero]
    clear hfr hI hal k0 k1 k2 k3 k4 k5 k6 k7 k8 k9 HSZ HND HLS HAX F6 F24 F25 F26 F27 F28
    simp only [List.drop_succ_cons, List.drop_zero]
    go_wp2_with fail
    have hss := HSS.out; have hxo := HR2.out.old; have hxo2 := HXO.out
    refine bodyPost_ret (res20 w' C q2 m d2 ab _ HWB.out _ rfl rfl) rfl ?_
    exact ⟨HC2.out.then HWC.out (fun i hi e => by have e' : i = C := e; omega), m, f2, ab, q2, d2, p2, c2, HMN.out, rfl, HR2.out.ch HWC.out (show ¬ r = C by omega) (show ¬ x0 = C by omega), HB3.out.but2 HWC.out HBL.out (fun _ => show ¬ y0 = C by have := HYO.out; omega), HBL.out⟩
set_option maxRecDepth 100000 in
set_option maxHeartbeats 4000000 in
theorem askedS3 (r x0 y0 : Nat) (p q : Option Addr) (n c d : Nat) (f : Nat → UInt8) (bad : Bool) (most : Int) (w : World) (hr : RdAt w r x0 p n c f bad) (hq : BytesAt w q n d f) (hy : ∀ ad, q = some ad → ad.block = y0) (hyr : y0 ≠ r) (hyo : y0 < w.heap.size) (hn : n ≤ 1000000000000) (hp1 : ¬ most < 1099511627776) :
    Calls Try.prog 20 #[.pointer (some ⟨r, 0, none⟩), .agg #[.slice q n d, .bool bad], .agg #[.int .i64 3, .int .i64 most]] w (AskTold r x0 y0 n w) := by
  obtain ⟨av, ano, ak, ab, hrr, hra⟩ := pairS r x0 y0 p q n c d f bad w hr hq hy 1099511627776 hyo hn (by omega)
  have HYR := Go.Lib.hid hyr; have HYO := Go.Lib.hid hyo
  have HRR := Go.Lib.hid hrr; have HRA := Go.Lib.hid hra
  have HRL := Go.Lib.hid (row_lt hr.row); have HXO := Go.Lib.hid hr.old
  unfold RrTold3 at HRR
  unfold RdTold at HRA
  clear hr hq hy hyr hyo hrr hra
  simp only at HRR HRA ⊢
  generalize hm : n - ak = m at *
  have HMN := Go.Lib.hid (show m ≤ n by omega)
  clear hm
  generalize hff : (fun j => f (ak + j)) = f2 at *
  clear hff
  go_enter Try.func20, Try.ntmps20
  obtain ⟨hA0, hB0, hC0, hc1⟩ := three_at w #[.slice q n d, .bool bad] #[.int .i64 3, .int .i64 most] #[.slice none 0 0, .bool false] 51 55 51
  go_wp2_with fail
  refine (HRR.out _ hc1).mono ?_
  rintro e w1 ⟨hc2, q2, d2, rfl, hb2, hblk2⟩
  have hs0 : w.heap.size + 3 ≤ w1.heap.size := by have := hc2.size; simp at this; omega
  have hB1 := hc2.heap hB0 id; have hC1 := hc2.heap hC0 id
  have hm1 : (w1.alloc (.cells #[.slice q2 m d2, .bool ab] 51)).cell? ⟨w.heap.size + 1, 1, none⟩ = some (.int .i64 most) := ((Ch.refl (fun _ => False) w1).alloc _).get ((cell_of_heap hB1 1).trans rfl) id
  have HC1 := Go.Lib.hid (hc1.trans hc2); have HCC := Go.Lib.hid hC1; have HS0 := Go.Lib.hid hs0; have HB2 := Go.Lib.hid hb2; have HBL := Go.Lib.hid hblk2
  clear hc1 hc2 hA0 hB0 hC0 hB1 hC1 hs0 hb2 hblk2
  go_wp2_with fail
  have hal : Ch (fun _ => False) w1 (w1.alloc (.cells #[.slice q2 m d2, .bool ab] 51)) := (Ch.refl _ w1).alloc _
  refine (HRA.out _ (HC1.out.trans hal)).mono ?_
  rintro e w2 ⟨hc3, rfl, hk, p2, c2, hr2⟩
  have hrl := HRL.out; have hs0 := HS0.out
  have hD2 : w2.heap[w1.heap.size]? = some (.cells #[.slice q2 m d2, .bool ab] 51) := hc3.heap (World.alloc_heap_new w1 _) (show ¬ w1.heap.size = r by omega)
  have hC2 : w2.heap[w.heap.size + 1 + 1]? = some (.cells #[.slice none 0 0, .bool false] 51) := hc3.heap (hal.heap HCC.out id) (show ¬ w.heap.size + 1 + 1 = r by omega)
  have HC2 := Go.Lib.hid (show Ch (fun q => q = r) w w2 from ((HC1.out.trans hal).mono (fun _ _ e => e.elim)).trans hc3)
  have HB3 := Go.Lib.hid (show BytesAt w2 q2 m d2 f2 from (HB2.out.ch hal (fun _ _ => id)).but2 hc3 HBL.out (fun _ => HYR.out))
  have HR2 := Go.Lib.hid hr2; have HK := Go.Lib.hid hk
  have HD2 := Go.Lib.hid hD2; have HC2C := Go.Lib.hid hC2
  have HDC := Go.Lib.hid (show ¬ w1.heap.size = w.heap.size + 1 + 1 by omega); have HSS := Go.Lib.hid (show w.heap.size ≤ w.heap.size + 1 + 1 ∧ r < w.heap.size from ⟨by omega, hrl⟩)
  clear hal hc3 hk hr2 hrl hs0 hD2 hC2 HC1 HCC HS0 HB2 HRA HRR hm1
  generalize w.heap.size + 1 + 1 = C at *
  generalize w1.heap.size = D at *
  go_upto_region 18 with (fail)
  generalize hax : Act.mk _ _ = ax
  have HSZ := Go.Lib.hid (show ax.tmps.size = 158 by rw [← hax]; rfl)
  have F6 := Go.Lib.hid (show gt ax 6 = .pointer (some ⟨C, 0, none⟩) by rw [← hax]; rfl)
  have F24 := Go.Lib.hid (show gt ax 24 = .pointer (some ⟨D, 0, none⟩) by rw [← hax]; rfl)
  have F25 := Go.Lib.hid (show gt ax 25 = .string av by rw [← hax]; rfl)
  have F26 := Go.Lib.hid (show gt ax 26 = .int .i64 ano by rw [← hax]; rfl)
  have F27 := Go.Lib.hid (show gt ax 27 = .string av by rw [← hax]; rfl)
  have F28 := Go.Lib.hid (show gt ax 28 = .int .i64 ano by rw [← hax]; rfl)
  have HAX := Go.Lib.hid hax
  clear hax
  have HND := Go.Lib.hid (show ([125, 126, 127, 128, 129, 130, 131, 132, 133, 134] : List Nat).Nodup by decide)
  have HLS : Hid (Lasts [(125, fun x _ => x = .agg #[.slice q2 m d2, .bool ab]), (126, fun x _ => x = .string av), (127, fun x _ => x = .string av), (128, fun x _ => x = .bool true), (129, fun x _ => x = .bool true), (130, fun x _ => x = .int .i64 ano), (131, fun x _ => x = .int .i64 ano), (132, fun x _ => x = .int .i64 ano), (133, fun x _ => x = .bool true), (134, fun x _ => x = .bool true)]) := Go.Lib.hid (by
    intro p hp v w1 w2 hc h
    simp only [List.mem_cons, List.not_mem_nil, or_false] at hp
    rcases hp with rfl | rfl | rfl | rfl | rfl | rfl | rfl | rfl | rfl | rfl
    all_goals first | exact h | (obtain ⟨g, h1, h2⟩ := h; exact ⟨g, h1, hc.heap h2 id⟩) | (obtain ⟨g, c, h1, h2⟩ := h; exact ⟨g, c, h1, h2.ch hc (fun _ _ h => h)⟩))
  refine wp_region_open_tail 11 (InvQ 158 [(125, fun x _ => x = .agg #[.slice q2 m d2, .bool ab]), (126, fun x _ => x = .string av), (127, fun x _ => x = .string av), (128, fun x _ => x = .bool true), (129, fun x _ => x = .bool true), (130, fun x _ => x = .int .i64 ano), (131, fun x _ => x = .int .i64 ano), (132, fun x _ => x = .int .i64 ano), (133, fun x _ => x = .bool true), (134, fun x _ => x = .bool true)] (IAsk w2 C 10 12 (.slice q2 m d2) ab) ax) (by kernel_rfl) (by kernel_rfl) (InvQ.start (by simp) HSZ.out (IAsk.start HC2C.out)) ?_ ?_
  · intro L a w' i hI hr hlt
    obtain ⟨h1, o, ho, hall⟩ := mem_ready.1 hr
    have hun : lg L i = false := by
      have h2 : i < L.size := Nat.lt_of_lt_of_le hlt (by rw [hI.wld.size]; decide)
      unfold lg; simp [h2] at h1 ⊢; exact h1
    have hsplit : i = 0 ∨ i = 1 ∨ i = 2 ∨ i = 3 ∨ i = 4 ∨ i = 5 ∨ i = 6 ∨ i = 7 ∨ i = 8 ∨ i = 9 ∨ i = 10 := by omega
    clear hlt h1 hr
    rcases hsplit with rfl | rfl | rfl | rfl | rfl | rfl | rfl | rfl | rfl | rfl | rfl
    · have q24 := (hI.fixed 24 (by simp)).trans F24.out
      have hD := hI.wld.ch.heap HD2.out HDC.out
      have hcl0 : w'.cell? ⟨D, 0, none⟩ = some (.slice q2 m d2) := (cell_of_heap hD 0).trans rfl
      have hcl1 : w'.cell? ⟨D, 1, none⟩ = some (.bool ab) := (cell_of_heap hD 1).trans rfl
      clear hD
      unfold gt at q24
      clear hall
      refine wpOp_step (o := _) rfl (fun K' hK' => ?_)
      go_simp
      exact hK' _ _ (hI.put 0 rfl (by decide) HND.out HLS.out (Ch.refl _ _) rfl (hI.wld.step 0 (by decide) (by decide) (Ch.refl _ _)))
    · have q27 := (hI.fixed 27 (by simp)).trans F27.out
      unfold gt at q27
      clear hall
      refine wpOp_step (o := _) rfl (fun K' hK' => ?_)
      go_simp
      exact hK' _ _ (hI.put 1 rfl (by decide) HND.out HLS.out (Ch.refl _ _) rfl (hI.wld.step 1 (by decide) (by decide) (Ch.refl _ _)))
    · have q25 := (hI.fixed 25 (by simp)).trans F25.out
      unfold gt at q25
      clear hall
      refine wpOp_step (o := _) rfl (fun K' hK' => ?_)
      go_simp
      exact hK' _ _ (hI.put 2 rfl (by decide) HND.out HLS.out (Ch.refl _ _) rfl (hI.wld.step 2 (by decide) (by decide) (Ch.refl _ _)))
    · simp at ho
      have e1 : lg L 1 = true := by unfold lg; simpa using hall ⟨1, .data⟩ (by rw [← ho]; simp) rfl
      have f1 : gt a 126 = .string av := hI.val 1 _ rfl e1
      have e2 : lg L 2 = true := by unfold lg; simpa using hall ⟨2, .data⟩ (by rw [← ho]; simp) rfl
      have f2 : gt a 127 = .string av := hI.val 2 _ rfl e2
      unfold gt at f1 f2
      clear hall
      clear ho
      refine wpOp_step (o := _) rfl (fun K' hK' => ?_)
      go_simp
      exact hK' _ _ (hI.put 3 rfl (by decide) HND.out HLS.out (Ch.refl _ _) rfl (hI.wld.step 3 (by decide) (by decide) (Ch.refl _ _)))
    · simp at ho
      have e3 : lg L 3 = true := by unfold lg; simpa using hall ⟨3, .data⟩ (by rw [← ho]; simp) rfl
      have f3 : gt a 128 = .bool true := hI.val 3 _ rfl e3
      unfold gt at f3
      clear hall
      clear ho
      refine wpOp_step (o := _) rfl (fun K' hK' => ?_)
      go_simp
      exact hK' _ _ (hI.put 4 rfl (by decide) HND.out HLS.out (Ch.refl _ _) rfl (hI.wld.step 4 (by decide) (by decide) (Ch.refl _ _)))
    · simp at ho
      have q28 := (hI.fixed 28 (by simp)).trans F28.out
      have eg : lg L 4 = true := by unfold lg; simpa using hall ⟨4, .guard⟩ (by rw [← ho]; simp) rfl
      have fg0 : gt a 129 = .bool true := hI.val 4 _ rfl eg
      have fg := guard_of fg0 (by rw [hI.size]; decide)
      clear eg fg0
      unfold gt at q28
      clear hall
      clear ho
      refine wpOp_step (o := _) rfl (fun K' hK' => ?_)
      go_simp
      exact hK' _ _ (hI.put 5 rfl (by decide) HND.out HLS.out (Ch.refl _ _) rfl (hI.wld.step 5 (by decide) (by decide) (Ch.refl _ _)))
    · simp at ho
      have e5 : lg L 5 = true := by unfold lg; simpa using hall ⟨5, .data⟩ (by rw [← ho]; simp) rfl
      have f5 : gt a 130 = .int .i64 ano := hI.val 5 _ rfl e5
      have eg : lg L 4 = true := by unfold lg; simpa using hall ⟨4, .guard⟩ (by rw [← ho]; simp) rfl
      have fg0 : gt a 129 = .bool true := hI.val 4 _ rfl eg
      have fg := guard_of fg0 (by rw [hI.size]; decide)
      clear eg fg0
      unfold gt at f5
      clear hall
      clear ho
      have HCT := Go.Lib.hid (num_any ano w')
      refine wpOp_step (o := _) rfl (fun K' hK' => ?_)
      go_simp
      refine HCT.out.mono ?_
      rintro e w3 ⟨rfl, rfl⟩
      exact hK' _ _ (hI.put 6 rfl (by decide) HND.out HLS.out (Ch.refl _ _) rfl (hI.wld.step 6 (by decide) (by decide) (Ch.refl _ _)))
    · simp at ho
      have q26 := (hI.fixed 26 (by simp)).trans F26.out
      have eg : lg L 4 = true := by unfold lg; simpa using hall ⟨4, .guard⟩ (by rw [← ho]; simp) rfl
      have fg0 : gt a 129 = .bool true := hI.val 4 _ rfl eg
      have fg := guard_of fg0 (by rw [hI.size]; decide)
      clear eg fg0
      unfold gt at q26
      clear hall
      clear ho
      refine wpOp_step (o := _) rfl (fun K' hK' => ?_)
      go_simp
      exact hK' _ _ (hI.put 7 rfl (by decide) HND.out HLS.out (Ch.refl _ _) rfl (hI.wld.step 7 (by decide) (by decide) (Ch.refl _ _)))
    · simp at ho
      have e6 : lg L 6 = true := by unfold lg; simpa using hall ⟨6, .data⟩ (by rw [← ho]; simp) rfl
      have f6 : gt a 131 = .int .i64 ano := hI.val 6 _ rfl e6
      have e7 : lg L 7 = true := by unfold lg; simpa using hall ⟨7, .data⟩ (by rw [← ho]; simp) rfl
      have f7 : gt a 132 = .int .i64 ano := hI.val 7 _ rfl e7
      have eg : lg L 4 = true := by unfold lg; simpa using hall ⟨4, .guard⟩ (by rw [← ho]; simp) rfl
      have fg0 : gt a 129 = .bool true := hI.val 4 _ rfl eg
      have fg := guard_of fg0 (by rw [hI.size]; decide)
      clear eg fg0
      unfold gt at f6 f7
      clear hall
      clear ho
      refine wpOp_step (o := _) rfl (fun K' hK' => ?_)
      go_simp
      exact hK' _ _ (hI.put 8 rfl (by decide) HND.out HLS.out (Ch.refl _ _) rfl (hI.wld.step 8 (by decide) (by decide) (Ch.refl _ _)))
    · simp at ho
      have e4 : lg L 4 = true := by unfold lg; simpa using hall ⟨4, .data⟩ (by rw [← ho]; simp) rfl
      have f4 : gt a 129 = .bool true := hI.val 4 _ rfl e4
      have e8 : lg L 8 = true := by unfold lg; simpa using hall ⟨8, .data⟩ (by rw [← ho]; simp) rfl
      have f8 : gt a 133 = .bool true := hI.val 8 _ rfl e8
      unfold gt at f4 f8
      clear hall
      clear ho
      refine wpOp_step (o := _) rfl (fun K' hK' => ?_)
      go_simp
      exact hK' _ _ (hI.put 9 rfl (by decide) HND.out HLS.out (Ch.refl _ _) rfl (hI.wld.step 9 (by decide) (by decide) (Ch.refl _ _)))
    · simp at ho
      have e0 : lg L 0 = true := by unfold lg; simpa using hall ⟨0, .data⟩ (by rw [← ho]; simp) rfl
      have f0 : gt a 125 = .agg #[.slice q2 m d2, .bool ab] := hI.val 0 _ rfl e0
      have q6 := (hI.fixed 6 (by simp)).trans F6.out
      have hrow := hI.wld.before hun
      have hcl0 := (cell_of_heap hrow 0).trans rfl
      have hcl1 := (cell_of_heap hrow 1).trans rfl
      have hfz0 := frozen_of_heap hrow 0
      have hfz1 := frozen_of_heap hrow 1
      unfold gt at f0 q6
      clear hall
      clear ho
      refine wpOp_step (o := _) rfl (fun K' hK' => ?_)
      clear hrow
      go_simp
      exact hK' _ _ (hI.skipX 10 (Nat.le_refl 10) (by rw [hI.wld.size]; decide) (fun k p hp hl h => by
        have hk10 : k < 10 := (List.getElem?_eq_some_iff.1 hp).1
        obtain rfl | rfl | rfl | rfl | rfl | rfl | rfl | rfl | rfl | rfl : k = 0 ∨ k = 1 ∨ k = 2 ∨ k = 3 ∨ k = 4 ∨ k = 5 ∨ k = 6 ∨ k = 7 ∨ k = 8 ∨ k = 9 := by omega
        all_goals (cases hp; exact h)) (hI.wld.store (by decide) hun))
  · intro L a w' hI hal
    have hfr := hI.frame HSZ.out (by simp) (fun i hi => hal i (by have h10 : i < 10 := hi; omega))
    have k0 : gt a 125 = .agg #[.slice q2 m d2, .bool ab] := hI.val 0 _ rfl (hal 0 (by decide))
    have k1 : gt a 126 = .string av := hI.val 1 _ rfl (hal 1 (by decide))
    have k2 : gt a 127 = .string av := hI.val 2 _ rfl (hal 2 (by decide))
    have k3 : gt a 128 = .bool true := hI.val 3 _ rfl (hal 3 (by decide))
    have k4 : gt a 129 = .bool true := hI.val 4 _ rfl (hal 4 (by decide))
    have k5 : gt a 130 = .int .i64 ano := hI.val 5 _ rfl (hal 5 (by decide))
    have k6 : gt a 131 = .int .i64 ano := hI.val 6 _ rfl (hal 6 (by decide))
    have k7 : gt a 132 = .int .i64 ano := hI.val 7 _ rfl (hal 7 (by decide))
    have k8 : gt a 133 = .bool true := hI.val 8 _ rfl (hal 8 (by decide))
    have k9 : gt a 134 = .bool true := hI.val 9 _ rfl (hal 9 (by decide))
    rw [hfr, ← HAX.out]
    have HWB := Go.Lib.hid (hI.wld.behind (hal 10 (by decide))); have HWC := Go.Lib.hid hI.wld.ch
    simp only [List.map_cons, List.map_nil, List.foldl_cons, List.foldl_nil, k0, k1, k2, k3, k4, k5, k6, k7, k8, k9, List.setIfInBounds_toArray, List.set_cons_succ, List.set_cons_zero]
    clear hfr hI hal k0 k1 k2 k3 k4 k5 k6 k7 k8 k9 HSZ HND HLS HAX F6 F24 F25 F26 F27 F28
    simp only [List.drop_succ_cons, List.drop_zero]
    go_wp2_with fail
    have hss := HSS.out; have hxo := HR2.out.old; have hxo2 := HXO.out
    refine bodyPost_ret (res20 w' C q2 m d2 ab _ HWB.out _ rfl rfl) rfl ?_
    exact ⟨HC2.out.then HWC.out (fun i hi e => by have e' : i = C := e; omega), m, f2, ab, q2, d2, p2, c2, HMN.out, rfl, HR2.out.ch HWC.out (show ¬ r = C by omega) (show ¬ x0 = C by omega), HB3.out.but2 HWC.out HBL.out (fun _ => show ¬ y0 = C by have := HYO.out; omega), HBL.out⟩
theorem askedS (r x0 y0 : Nat) (p q : Option Addr) (n c d : Nat) (f : Nat → UInt8) (bad : Bool) (most : Int) (w : World) (hr : RdAt w r x0 p n c f bad) (hq : BytesAt w q n d f) (hy : ∀ ad, q = some ad → ad.block = y0) (hyr : y0 ≠ r) (hyo : y0 < w.heap.size) (hn : n ≤ 1000000000000) :
    Calls Try.prog 20 #[.pointer (some ⟨r, 0, none⟩), .agg #[.slice q n d, .bool bad], .agg #[.int .i64 3, .int .i64 most]] w (AskTold r x0 y0 n w) := by
  by_cases h1 : most < 1099511627776
  · by_cases h2 : -2 < most
    · exact askedS1 r x0 y0 p q n c d f bad most w hr hq hy hyr hyo hn h1 h2
    · exact askedS2 r x0 y0 p q n c d f bad most w hr hq hy hyr hyo hn h1 (by omega)
  · exact askedS3 r x0 y0 p q n c d f bad most w hr hq hy hyr hyo hn h1
end Go.Proofs.Ytljllfdigfojdaa
/- ask: a hash, by both. -/
namespace Go.Proofs.Ytljllfdigfojdaa
open Go Go.RowKit

theorem hv_cells (g : Nat → UInt8) : hv g = (((List.range 32).map g).map Extern.Stop.cell).toArray := by
  unfold hv arr
  rw [List.map_map]; rfl
theorem eq_hv (g : Nat → UInt8) (w : World) : (Op.equalIn 10000 44 (.agg (hv g)) (.agg (hv g))).run Try.prog w = .ok true w := by
  rw [hv_cells]
  refine (run_equalIn_bytes (P := Try.prog) w 9998 44 5 32 Try.underlying44 Try.underlying5 (fun w => by kernel_rfl) _ _ (by simp) (by simp)).trans ?_
  simp
theorem eqg44 : Try.prog.eqGuardType Try.prog.depth 44 = false := by kernel_rfl
theorem wp_eql {P : Program} {o : Oper} {a : Act} {w : World} {K : Act → World → Prop} {Q : Exit → Act → World → Prop} (x y : Operand) (t t2 : TypeId) (ho : o.op = .binOp .eql t x y t2)
    (R S : Array Value) (hx : a.eval x = .agg R) (hy : a.eval y = .agg S) (hg : P.eqGuardType P.depth t = false) {b : Bool} (he : (Op.equalIn 10000 t (.agg R) (.agg S)).run P w = .ok b w) (h : K (a.put o.dst (.bool b)) w) : o.wp P a w K Q := by
  unfold Oper.wp execOp
  have h1 : (eqGuard .eql t x y (.agg R) (.agg S)).run P w = .ok () w := by
    simp [eqGuard, hg]
  have h2 : (binOp .eql t (.agg R) (.agg S)).run P w = .ok (.bool b) w := by
    simp only [binOp, Op.equal, Sem.run_bind]
    rw [show (Op.equalIn Op.maxDepth t (.agg R) (.agg S)).run P w = .ok b w from he]
    rfl
  simp only [ho, hx, hy, Sem.run_bind, h1, h2, Result.andThen]
  exact h
set_option maxRecDepth 100000 in
set_option maxHeartbeats 4000000 in
theorem askedH (r x0 y0 : Nat) (p q : Option Addr) (n c d : Nat) (f : Nat → UInt8) (bad : Bool) (most : Int) (w : World) (hr : RdAt w r x0 p n c f bad) (hq : BytesAt w q n d f) (hy : ∀ ad, q = some ad → ad.block = y0) (hyr : y0 ≠ r) (hyo : y0 < w.heap.size) (hn : n ≤ 1000000000000) :
    Calls Try.prog 20 #[.pointer (some ⟨r, 0, none⟩), .agg #[.slice q n d, .bool bad], .agg #[.int .i64 2, .int .i64 most]] w (AskTold r x0 y0 n w) := by
  obtain ⟨av, ano, ak, ab, hrr, hra⟩ := pairH r x0 y0 p q n c d f bad w hr hq hy hyo
  have HYR := Go.Lib.hid hyr; have HYO := Go.Lib.hid hyo
  have HRR := Go.Lib.hid hrr; have HRA := Go.Lib.hid hra
  have HRL := Go.Lib.hid (row_lt hr.row); have HXO := Go.Lib.hid hr.old
  unfold RrTold3 at HRR
  unfold RdTold at HRA
  clear hr hq hy hyr hyo hrr hra
  simp only at HRR HRA ⊢
  generalize hm : n - ak = m at *
  have HMN := Go.Lib.hid (show m ≤ n by omega)
  clear hm
  generalize hff : (fun j => f (ak + j)) = f2 at *
  clear hff
  go_enter Try.func20, Try.ntmps20
  obtain ⟨hA0, hB0, hC0, hc1⟩ := three_at w #[.slice q n d, .bool bad] #[.int .i64 2, .int .i64 most] #[.slice none 0 0, .bool false] 51 55 51
  go_wp2_with fail
  refine (HRR.out _ hc1).mono ?_
  rintro e w1 ⟨hc2, q2, d2, rfl, hb2, hblk2⟩
  have hs0 : w.heap.size + 3 ≤ w1.heap.size := by have := hc2.size; simp at this; omega
  have hB1 := hc2.heap hB0 id; have hC1 := hc2.heap hC0 id
  have HC1 := Go.Lib.hid (hc1.trans hc2); have HCC := Go.Lib.hid hC1; have HS0 := Go.Lib.hid hs0; have HB2 := Go.Lib.hid hb2; have HBL := Go.Lib.hid hblk2
  clear hc1 hc2 hA0 hB0 hC0 hB1 hC1 hs0 hb2 hblk2
  go_wp2_with (refine wpList_store_row rfl 44 (.tmp 19) (.tmp 89) rfl (w1.heap.size + 1) (hv av) rfl rfl 44 _ (two_at w1 _ _ 51 44).2.1 (hv_info av) (by rw [hv_size]; rfl) (hv_all av) ?_)
  have hca := (two_at w1 #[.slice q2 m d2, .bool ab] #[.int .u8 0, .int .u8 0, .int .u8 0, .int .u8 0, .int .u8 0, .int .u8 0, .int .u8 0, .int .u8 0, .int .u8 0, .int .u8 0, .int .u8 0, .int .u8 0, .int .u8 0, .int .u8 0, .int .u8 0, .int .u8 0, .int .u8 0, .int .u8 0, .int .u8 0, .int .u8 0, .int .u8 0, .int .u8 0, .int .u8 0, .int .u8 0, .int .u8 0, .int .u8 0, .int .u8 0, .int .u8 0, .int .u8 0, .int .u8 0, .int .u8 0, .int .u8 0] 51 44)
  generalize (w1.alloc (.cells #[.slice q2 m d2, .bool ab] 51)).alloc (.cells #[.int .u8 0, .int .u8 0, .int .u8 0, .int .u8 0, .int .u8 0, .int .u8 0, .int .u8 0, .int .u8 0, .int .u8 0, .int .u8 0, .int .u8 0, .int .u8 0, .int .u8 0, .int .u8 0, .int .u8 0, .int .u8 0, .int .u8 0, .int .u8 0, .int .u8 0, .int .u8 0, .int .u8 0, .int .u8 0, .int .u8 0, .int .u8 0, .int .u8 0, .int .u8 0, .int .u8 0, .int .u8 0, .int .u8 0, .int .u8 0, .int .u8 0, .int .u8 0] 44) = wa at *
  obtain ⟨hDa, hGa, hca⟩ := hca
  have hca2 : Ch (fun _ => False) w1 (wa.setRow (w1.heap.size + 1) (hv av)) := hca.setRow (g := w1.heap.size + 1) (fun h => by have h' : w1.heap.size + 1 < w1.heap.size := h; omega) _
  have hGb := heap_setRow (cells := hv av) hGa
  have hDb : (wa.setRow (w1.heap.size + 1) (hv av)).heap[w1.heap.size]? = some (.cells #[.slice q2 m d2, .bool ab] 51) := (Ch.setRow (S := fun q => q = w1.heap.size + 1) (Ch.refl _ wa) (g := w1.heap.size + 1) (fun _ => rfl) (hv av)).heap hDa (show ¬ w1.heap.size = w1.heap.size + 1 by omega)
  have HDb := Go.Lib.hid hDb; have HGb := Go.Lib.hid hGb; have HCA := Go.Lib.hid hca2
  clear hDa hGa hca hca2 hGb hDb
  generalize wa.setRow (w1.heap.size + 1) (hv av) = wb at *
  refine (HRA.out _ (HC1.out.trans HCA.out)).mono ?_
  rintro e w2 ⟨hc3, rfl, hk, p2, c2, hr2⟩
  have hrl := HRL.out; have hs0 := HS0.out
  have HD2a := Go.Lib.hid (hc3.heap HDb.out (show ¬ w1.heap.size = r by omega))
  have HG2a := Go.Lib.hid (hc3.heap HGb.out (show ¬ w1.heap.size + 1 = r by omega))
  have HCaa := Go.Lib.hid (hc3.heap (HCA.out.heap HCC.out id) (show ¬ w.heap.size + 1 + 1 = r by omega))
  have HC2a := Go.Lib.hid (show Ch (fun q => q = r) w w2 from ((HC1.out.trans HCA.out).mono (fun _ _ e => e.elim)).trans hc3)
  have HB3a := Go.Lib.hid (show BytesAt w2 q2 m d2 f2 from (HB2.out.ch HCA.out (fun _ _ => id)).but2 hc3 HBL.out (fun _ => HYR.out))
  have HR2a := Go.Lib.hid hr2; have HK := Go.Lib.hid hk
  have HDC := Go.Lib.hid (show ¬ w1.heap.size = w.heap.size + 1 + 1 by omega); have HGC := Go.Lib.hid (show ¬ w1.heap.size + 1 = w.heap.size + 1 + 1 by omega); have HSS := Go.Lib.hid (show w.heap.size ≤ w.heap.size + 1 + 1 ∧ r < w.heap.size from ⟨by omega, hrl⟩)
  have HJC := Go.Lib.hid (show ¬ w2.heap.size = w.heap.size + 1 + 1 by have := row_lt HCaa.out; omega)
  clear hc3 hk hr2 hrl hs0 HC1 HCC HS0 HB2 HRA HRR HDb HGb HCA
  generalize w.heap.size + 1 + 1 = C at *
  generalize w1.heap.size + 1 = G at *
  generalize w1.heap.size = D at *
  go_upto_region 13 with (refine wpList_store_row rfl 44 (.tmp 21) (.tmp 94) rfl w2.heap.size (hv av) rfl rfl 44 _ (World.alloc_heap_new w2 _) (hv_info av) (by rw [hv_size]; rfl) (hv_all av) ?_)
  have hJ3 := heap_setRow (cells := hv av) (World.alloc_heap_new w2 (.cells #[.int .u8 0, .int .u8 0, .int .u8 0, .int .u8 0, .int .u8 0, .int .u8 0, .int .u8 0, .int .u8 0, .int .u8 0, .int .u8 0, .int .u8 0, .int .u8 0, .int .u8 0, .int .u8 0, .int .u8 0, .int .u8 0, .int .u8 0, .int .u8 0, .int .u8 0, .int .u8 0, .int .u8 0, .int .u8 0, .int .u8 0, .int .u8 0, .int .u8 0, .int .u8 0, .int .u8 0, .int .u8 0, .int .u8 0, .int .u8 0, .int .u8 0, .int .u8 0] 44))
  have hc4 : Ch (fun _ => False) w2 ((w2.alloc (.cells #[.int .u8 0, .int .u8 0, .int .u8 0, .int .u8 0, .int .u8 0, .int .u8 0, .int .u8 0, .int .u8 0, .int .u8 0, .int .u8 0, .int .u8 0, .int .u8 0, .int .u8 0, .int .u8 0, .int .u8 0, .int .u8 0, .int .u8 0, .int .u8 0, .int .u8 0, .int .u8 0, .int .u8 0, .int .u8 0, .int .u8 0, .int .u8 0, .int .u8 0, .int .u8 0, .int .u8 0, .int .u8 0, .int .u8 0, .int .u8 0, .int .u8 0, .int .u8 0] 44)).setRow w2.heap.size (hv av)) := ((Ch.refl _ w2).alloc _).setRow (g := w2.heap.size) (fun h => absurd h (Nat.lt_irrefl _)) _
  generalize (w2.alloc (.cells #[.int .u8 0, .int .u8 0, .int .u8 0, .int .u8 0, .int .u8 0, .int .u8 0, .int .u8 0, .int .u8 0, .int .u8 0, .int .u8 0, .int .u8 0, .int .u8 0, .int .u8 0, .int .u8 0, .int .u8 0, .int .u8 0, .int .u8 0, .int .u8 0, .int .u8 0, .int .u8 0, .int .u8 0, .int .u8 0, .int .u8 0, .int .u8 0, .int .u8 0, .int .u8 0, .int .u8 0, .int .u8 0, .int .u8 0, .int .u8 0, .int .u8 0, .int .u8 0] 44)).setRow w2.heap.size (hv av) = w3 at *
  have HJ2 := Go.Lib.hid hJ3; have HD2 := Go.Lib.hid (hc4.heap HD2a.out id); have HG2 := Go.Lib.hid (hc4.heap HG2a.out id); have HC2C := Go.Lib.hid (hc4.heap HCaa.out id)
  have HC2 := Go.Lib.hid (HC2a.out.trans (hc4.mono (fun _ _ e => e.elim))); have HB3 := Go.Lib.hid (HB3a.out.ch hc4 (fun _ _ => id)); have HR2 := Go.Lib.hid (HR2a.out.ch hc4 id id)
  clear hJ3 hc4 HD2a HG2a HCaa HC2a HB3a HR2a
  generalize w2.heap.size = J at *
  generalize hax : Act.mk _ _ = ax
  have HSZ := Go.Lib.hid (show ax.tmps.size = 158 by rw [← hax]; rfl)
  have F6 := Go.Lib.hid (show gt ax 6 = .pointer (some ⟨C, 0, none⟩) by rw [← hax]; rfl)
  have F18 := Go.Lib.hid (show gt ax 18 = .pointer (some ⟨D, 0, none⟩) by rw [← hax]; rfl)
  have F19 := Go.Lib.hid (show gt ax 19 = .pointer (some ⟨G, 0, none⟩) by rw [← hax]; rfl)
  have F20 := Go.Lib.hid (show gt ax 20 = .int .i64 ano by rw [← hax]; rfl)
  have F21 := Go.Lib.hid (show gt ax 21 = .pointer (some ⟨J, 0, none⟩) by rw [← hax]; rfl)
  have F22 := Go.Lib.hid (show gt ax 22 = .int .i64 ano by rw [← hax]; rfl)
  have HAX := Go.Lib.hid hax
  clear hax
  have HND := Go.Lib.hid (show ([96, 97, 98, 99, 100, 101, 102, 103, 104, 105] : List Nat).Nodup by decide)
  have HLS : Hid (Lasts [(96, fun x _ => x = .agg #[.slice q2 m d2, .bool ab]), (97, fun x _ => x = .agg (hv av)), (98, fun x _ => x = .agg (hv av)), (99, fun x _ => x = .bool true), (100, fun x _ => x = .bool true), (101, fun x _ => x = .int .i64 ano), (102, fun x _ => x = .int .i64 ano), (103, fun x _ => x = .int .i64 ano), (104, fun x _ => x = .bool true), (105, fun x _ => x = .bool true)]) := Go.Lib.hid (by
    intro p hp v w1 w2 hc h
    simp only [List.mem_cons, List.not_mem_nil, or_false] at hp
    rcases hp with rfl | rfl | rfl | rfl | rfl | rfl | rfl | rfl | rfl | rfl
    all_goals first | exact h | (obtain ⟨g, h1, h2⟩ := h; exact ⟨g, h1, hc.heap h2 id⟩) | (obtain ⟨g, c, h1, h2⟩ := h; exact ⟨g, c, h1, h2.ch hc (fun _ _ h => h)⟩))
  refine wp_region_open_tail 11 (InvQ 158 [(96, fun x _ => x = .agg #[.slice q2 m d2, .bool ab]), (97, fun x _ => x = .agg (hv av)), (98, fun x _ => x = .agg (hv av)), (99, fun x _ => x = .bool true), (100, fun x _ => x = .bool true), (101, fun x _ => x = .int .i64 ano), (102, fun x _ => x = .int .i64 ano), (103, fun x _ => x = .int .i64 ano), (104, fun x _ => x = .bool true), (105, fun x _ => x = .bool true)] (IAsk w3 C 10 12 (.slice q2 m d2) ab) ax) (by kernel_rfl) (by kernel_rfl) (InvQ.start (by simp) HSZ.out (IAsk.start HC2C.out)) ?_ ?_
  · intro L a w' i hI hr hlt
    obtain ⟨h1, o, ho, hall⟩ := mem_ready.1 hr
    have hun : lg L i = false := by
      have h2 : i < L.size := Nat.lt_of_lt_of_le hlt (by rw [hI.wld.size]; decide)
      unfold lg; simp [h2] at h1 ⊢; exact h1
    have hsplit : i = 0 ∨ i = 1 ∨ i = 2 ∨ i = 3 ∨ i = 4 ∨ i = 5 ∨ i = 6 ∨ i = 7 ∨ i = 8 ∨ i = 9 ∨ i = 10 := by omega
    clear hlt h1 hr
    rcases hsplit with rfl | rfl | rfl | rfl | rfl | rfl | rfl | rfl | rfl | rfl | rfl
    · have q18 := (hI.fixed 18 (by simp)).trans F18.out
      have hD := hI.wld.ch.heap HD2.out HDC.out
      have hcl0 : w'.cell? ⟨D, 0, none⟩ = some (.slice q2 m d2) := (cell_of_heap hD 0).trans rfl
      have hcl1 : w'.cell? ⟨D, 1, none⟩ = some (.bool ab) := (cell_of_heap hD 1).trans rfl
      clear hD
      unfold gt at q18
      clear hall
      refine wpOp_step (o := _) rfl (fun K' hK' => ?_)
      go_simp
      exact hK' _ _ (hI.put 0 rfl (by decide) HND.out HLS.out (Ch.refl _ _) rfl (hI.wld.step 0 (by decide) (by decide) (Ch.refl _ _)))
    · have q21 := (hI.fixed 21 (by simp)).trans F21.out
      unfold gt at q21
      clear hall
      refine wpOp_step (o := _) rfl (fun K' hK' => ?_)
      exact wp_load_row 44 (.tmp 21) rfl J (by simpa [Act.eval] using q21) 44 (hv av) _ _ (hI.wld.ch.heap HJ2.out HJC.out) Try.underlying44 rfl (hv_info av) (hK' _ _ (hI.put 1 rfl (by decide) HND.out HLS.out (Ch.refl _ _) rfl (hI.wld.step 1 (by decide) (by decide) (Ch.refl _ _))))
    · have q19 := (hI.fixed 19 (by simp)).trans F19.out
      unfold gt at q19
      clear hall
      refine wpOp_step (o := _) rfl (fun K' hK' => ?_)
      exact wp_load_row 44 (.tmp 19) rfl G (by simpa [Act.eval] using q19) 44 (hv av) _ _ (hI.wld.ch.heap HG2.out HGC.out) Try.underlying44 rfl (hv_info av) (hK' _ _ (hI.put 2 rfl (by decide) HND.out HLS.out (Ch.refl _ _) rfl (hI.wld.step 2 (by decide) (by decide) (Ch.refl _ _))))
    · simp at ho
      have e1 : lg L 1 = true := by unfold lg; simpa using hall ⟨1, .data⟩ (by rw [← ho]; simp) rfl
      have f1 : gt a 97 = .agg (hv av) := hI.val 1 _ rfl e1
      have e2 : lg L 2 = true := by unfold lg; simpa using hall ⟨2, .data⟩ (by rw [← ho]; simp) rfl
      have f2 : gt a 98 = .agg (hv av) := hI.val 2 _ rfl e2
      unfold gt at f1 f2
      clear hall
      clear ho
      refine wpOp_step (o := _) rfl (fun K' hK' => ?_)
      exact wp_eql (.tmp 97) (.tmp 98) 44 44 rfl (hv av) (hv av) (by simpa [Act.eval] using f1) (by simpa [Act.eval] using f2) eqg44 (eq_hv av _) (hK' _ _ (hI.put 3 rfl (by decide) HND.out HLS.out (Ch.refl _ _) rfl (hI.wld.step 3 (by decide) (by decide) (Ch.refl _ _))))
    · simp at ho
      have e3 : lg L 3 = true := by unfold lg; simpa using hall ⟨3, .data⟩ (by rw [← ho]; simp) rfl
      have f3 : gt a 99 = .bool true := hI.val 3 _ rfl e3
      unfold gt at f3
      clear hall
      clear ho
      refine wpOp_step (o := _) rfl (fun K' hK' => ?_)
      go_simp
      exact hK' _ _ (hI.put 4 rfl (by decide) HND.out HLS.out (Ch.refl _ _) rfl (hI.wld.step 4 (by decide) (by decide) (Ch.refl _ _)))
    · simp at ho
      have q22 := (hI.fixed 22 (by simp)).trans F22.out
      have eg : lg L 4 = true := by unfold lg; simpa using hall ⟨4, .guard⟩ (by rw [← ho]; simp) rfl
      have fg0 : gt a 100 = .bool true := hI.val 4 _ rfl eg
      have fg := guard_of fg0 (by rw [hI.size]; decide)
      clear eg fg0
      unfold gt at q22
      clear hall
      clear ho
      refine wpOp_step (o := _) rfl (fun K' hK' => ?_)
      go_simp
      exact hK' _ _ (hI.put 5 rfl (by decide) HND.out HLS.out (Ch.refl _ _) rfl (hI.wld.step 5 (by decide) (by decide) (Ch.refl _ _)))
    · simp at ho
      have e5 : lg L 5 = true := by unfold lg; simpa using hall ⟨5, .data⟩ (by rw [← ho]; simp) rfl
      have f5 : gt a 101 = .int .i64 ano := hI.val 5 _ rfl e5
      have eg : lg L 4 = true := by unfold lg; simpa using hall ⟨4, .guard⟩ (by rw [← ho]; simp) rfl
      have fg0 : gt a 100 = .bool true := hI.val 4 _ rfl eg
      have fg := guard_of fg0 (by rw [hI.size]; decide)
      clear eg fg0
      unfold gt at f5
      clear hall
      clear ho
      have HCT := Go.Lib.hid (num_any ano w')
      refine wpOp_step (o := _) rfl (fun K' hK' => ?_)
      go_simp
      refine HCT.out.mono ?_
      rintro e w3 ⟨rfl, rfl⟩
      exact hK' _ _ (hI.put 6 rfl (by decide) HND.out HLS.out (Ch.refl _ _) rfl (hI.wld.step 6 (by decide) (by decide) (Ch.refl _ _)))
    · simp at ho
      have q20 := (hI.fixed 20 (by simp)).trans F20.out
      have eg : lg L 4 = true := by unfold lg; simpa using hall ⟨4, .guard⟩ (by rw [← ho]; simp) rfl
      have fg0 : gt a 100 = .bool true := hI.val 4 _ rfl eg
      have fg := guard_of fg0 (by rw [hI.size]; decide)
      clear eg fg0
      unfold gt at q20
      clear hall
      clear ho
      refine wpOp_step (o := _) rfl (fun K' hK' => ?_)
      go_simp
      exact hK' _ _ (hI.put 7 rfl (by decide) HND.out HLS.out (Ch.refl _ _) rfl (hI.wld.step 7 (by decide) (by decide) (Ch.refl _ _)))
    · simp at ho
      have e6 : lg L 6 = true := by unfold lg; simpa using hall ⟨6, .data⟩ (by rw [← ho]; simp) rfl
      have f6 : gt a 102 = .int .i64 ano := hI.val 6 _ rfl e6
      have e7 : lg L 7 = true := by unfold lg; simpa using hall ⟨7, .data⟩ (by rw [← ho]; simp) rfl
      have f7 : gt a 103 = .int .i64 ano := hI.val 7 _ rfl e7
      have eg : lg L 4 = true := by unfold lg; simpa using hall ⟨4, .guard⟩ (by rw [← ho]; simp) rfl
      have fg0 : gt a 100 = .bool true := hI.val 4 _ rfl eg
      have fg := guard_of fg0 (by rw [hI.size]; decide)
      clear eg fg0
      unfold gt at f6 f7
      clear hall
      clear ho
      refine wpOp_step (o := _) rfl (fun K' hK' => ?_)
      go_simp
      exact hK' _ _ (hI.put 8 rfl (by decide) HND.out HLS.out (Ch.refl _ _) rfl (hI.wld.step 8 (by decide) (by decide) (Ch.refl _ _)))
    · simp at ho
      have e4 : lg L 4 = true := by unfold lg; simpa using hall ⟨4, .data⟩ (by rw [← ho]; simp) rfl
      have f4 : gt a 100 = .bool true := hI.val 4 _ rfl e4
      have e8 : lg L 8 = true := by unfold lg; simpa using hall ⟨8, .data⟩ (by rw [← ho]; simp) rfl
      have f8 : gt a 104 = .bool true := hI.val 8 _ rfl e8
      unfold gt at f4 f8
      clear hall
      clear ho
      refine wpOp_step (o := _) rfl (fun K' hK' => ?_)
      go_simp
      exact hK' _ _ (hI.put 9 rfl (by decide) HND.out HLS.out (Ch.refl _ _) rfl (hI.wld.step 9 (by decide) (by decide) (Ch.refl _ _)))
    · simp at ho
      have e0 : lg L 0 = true := by unfold lg; simpa using hall ⟨0, .data⟩ (by rw [← ho]; simp) rfl
      have f0 : gt a 96 = .agg #[.slice q2 m d2, .bool ab] := hI.val 0 _ rfl e0
      have q6 := (hI.fixed 6 (by simp)).trans F6.out
      have hrow := hI.wld.before hun
      have hcl0 := (cell_of_heap hrow 0).trans rfl
      have hcl1 := (cell_of_heap hrow 1).trans rfl
      have hfz0 := frozen_of_heap hrow 0
      have hfz1 := frozen_of_heap hrow 1
      unfold gt at f0 q6
      clear hall
      clear ho
      refine wpOp_step (o := _) rfl (fun K' hK' => ?_)
      clear hrow
      go_simp
      exact hK' _ _ (hI.skipX 10 (Nat.le_refl 10) (by rw [hI.wld.size]; decide) (fun k p hp hl h => by
        have hk10 : k < 10 := (List.getElem?_eq_some_iff.1 hp).1
        obtain rfl | rfl | rfl | rfl | rfl | rfl | rfl | rfl | rfl | rfl : k = 0 ∨ k = 1 ∨ k = 2 ∨ k = 3 ∨ k = 4 ∨ k = 5 ∨ k = 6 ∨ k = 7 ∨ k = 8 ∨ k = 9 := by omega
        all_goals (cases hp; exact h)) (hI.wld.store (by decide) hun))
  · intro L a w' hI hal
    have hfr := hI.frame HSZ.out (by simp) (fun i hi => hal i (by have h10 : i < 10 := hi; omega))
    have k0 : gt a 96 = .agg #[.slice q2 m d2, .bool ab] := hI.val 0 _ rfl (hal 0 (by decide))
    have k1 : gt a 97 = .agg (hv av) := hI.val 1 _ rfl (hal 1 (by decide))
    have k2 : gt a 98 = .agg (hv av) := hI.val 2 _ rfl (hal 2 (by decide))
    have k3 : gt a 99 = .bool true := hI.val 3 _ rfl (hal 3 (by decide))
    have k4 : gt a 100 = .bool true := hI.val 4 _ rfl (hal 4 (by decide))
    have k5 : gt a 101 = .int .i64 ano := hI.val 5 _ rfl (hal 5 (by decide))
    have k6 : gt a 102 = .int .i64 ano := hI.val 6 _ rfl (hal 6 (by decide))
    have k7 : gt a 103 = .int .i64 ano := hI.val 7 _ rfl (hal 7 (by decide))
    have k8 : gt a 104 = .bool true := hI.val 8 _ rfl (hal 8 (by decide))
    have k9 : gt a 105 = .bool true := hI.val 9 _ rfl (hal 9 (by decide))
    rw [hfr, ← HAX.out]
    have HWB := Go.Lib.hid (hI.wld.behind (hal 10 (by decide))); have HWC := Go.Lib.hid hI.wld.ch
    simp only [List.map_cons, List.map_nil, List.foldl_cons, List.foldl_nil, k0, k1, k2, k3, k4, k5, k6, k7, k8, k9, List.setIfInBounds_toArray, List.set_cons_succ, List.set_cons_zero]
    clear hfr hI hal k0 k1 k2 k3 k4 k5 k6 k7 k8 k9 HSZ HND HLS HAX F6 F18 F19 F20 F21 F22
    simp only [List.drop_succ_cons, List.drop_zero]
    go_wp2_with fail
    have hss := HSS.out; have hxo := HR2.out.old; have hxo2 := HXO.out
    refine bodyPost_ret (res20 w' C q2 m d2 ab _ HWB.out _ rfl rfl) rfl ?_
    exact ⟨HC2.out.then HWC.out (fun i hi e => by have e' : i = C := e; omega), m, f2, ab, q2, d2, p2, c2, HMN.out, rfl, HR2.out.ch HWC.out (show ¬ r = C by omega) (show ¬ x0 = C by omega), HB3.out.but2 HWC.out HBL.out (fun _ => show ¬ y0 = C by have := HYO.out; omega), HBL.out⟩
end Go.Proofs.Ytljllfdigfojdaa
/- ask: the end; ask, whatever is asked. -/
namespace Go.Proofs.Ytljllfdigfojdaa
open Go Go.RowKit

set_option maxRecDepth 100000 in
set_option maxHeartbeats 4000000 in
theorem askedE1 (r x0 y0 : Nat) (p q : Option Addr) (n c d : Nat) (f : Nat → UInt8) (K most : Int) (hk0 : K ≠ 0) (hk1 : K ≠ 1) (hk2 : K ≠ 2) (hk3 : K ≠ 3) (w : World) (hr : RdAt w r x0 p n c f true) (hq : BytesAt w q n d f) (hy : ∀ ad, q = some ad → ad.block = y0) (hyr : y0 ≠ r) (hyo : y0 < w.heap.size) (hn : n ≤ 1000000000000) :
    Calls Try.prog 20 #[.pointer (some ⟨r, 0, none⟩), .agg #[.slice q n d, .bool true], .agg #[.int .i64 K, .int .i64 most]] w (AskTold r x0 y0 n w) := by
  have HYR := Go.Lib.hid hyr; have HYO := Go.Lib.hid hyo; have HY := Go.Lib.hid hy; have HQ := Go.Lib.hid hq
  have HRA := Go.Lib.hid (fun W (hc : Ch (fun _ => False) w W) => (show Calls Try.prog 26 #[.pointer (some ⟨r, 0, none⟩)] W (fun e w2 => Ch (fun q => q = r) W w2 ∧ e = .returned (.int .i64 140) ∧ ∃ p2 c2, RdAt w2 r x0 p2 n c2 f true) from (rEnd_bad r x0 p n c f W (hr.ch hc id id)).mono (fun e w2 h => ⟨h.2.mono (fun _ _ e => e.elim), h.1, p, c, (hr.ch hc id id).ch h.2 id id⟩)))
  have HRL := Go.Lib.hid (row_lt hr.row); have HXO := Go.Lib.hid hr.old
  have hk0' : (K == 0) = false := by simpa using hk0
  have hk1' : (K == 1) = false := by simpa using hk1
  have hk2' : (K == 2) = false := by simpa using hk2
  have hk3' : (K == 3) = false := by simpa using hk3
  clear hr hq hy hyr hyo hn hk0 hk1 hk2 hk3
  obtain ⟨hA0, hB0, hC0, hc1⟩ := three_at w #[.slice q n d, .bool true] #[.int .i64 K, .int .i64 most] #[.slice none 0 0, .bool false] 51 55 51
  have HA0 := Go.Lib.hid hA0; have HC0 := Go.Lib.hid hC0; have HC1 := Go.Lib.hid hc1
  clear hA0 hB0 hC0 hc1
  go_enter Try.func20, Try.ntmps20
  go_wp2_with fail
  refine (HRA.out _ HC1.out).mono ?_
  rintro e w2 ⟨hc3, rfl, p2, c2, hr2⟩
  have hrl := HRL.out
  have HA2 := Go.Lib.hid (hc3.heap HA0.out (show ¬ w.heap.size = r by omega))
  have HC2C := Go.Lib.hid (hc3.heap HC0.out (show ¬ w.heap.size + 1 + 1 = r by omega))
  have HC2 := Go.Lib.hid (show Ch (fun q => q = r) w w2 from (HC1.out.mono (fun _ _ e => e.elim)).trans hc3)
  have HB3 := Go.Lib.hid (show BytesAt w2 q n d f from (HQ.out.ch HC1.out (fun _ _ => id)).but2 hc3 HY.out (fun _ => HYR.out))
  have HR2 := Go.Lib.hid hr2
  have HAC := Go.Lib.hid (show ¬ w.heap.size = w.heap.size + 1 + 1 by omega); have HSS := Go.Lib.hid (show w.heap.size ≤ w.heap.size + 1 + 1 ∧ r < w.heap.size from ⟨by omega, hrl⟩)
  clear hc3 hr2 hrl HC1 HA0 HC0 HRA
  generalize w.heap.size + 1 + 1 = C at *
  generalize hA : w.heap.size = A at *
  have HAE := Go.Lib.hid hA
  clear hA
  go_upto_region 23 with (fail)
  generalize hax : Act.mk _ _ = ax
  have HSZ := Go.Lib.hid (show ax.tmps.size = 158 by rw [← hax]; rfl)
  have F4 := Go.Lib.hid (show gt ax 4 = .pointer (some ⟨A, 0, none⟩) by rw [← hax]; rfl)
  have F6 := Go.Lib.hid (show gt ax 6 = .pointer (some ⟨C, 0, none⟩) by rw [← hax]; rfl)
  have F29 := Go.Lib.hid (show gt ax 29 = .int .i64 140 by rw [← hax]; rfl)
  have F30 := Go.Lib.hid (show gt ax 30 = .int .i64 140 by rw [← hax]; rfl)
  have HAX := Go.Lib.hid hax
  clear hax
  have HND := Go.Lib.hid (show ([145, 146, 147, 148, 149, 150, 151, 152, 153, 154, 155, 156, 157] : List Nat).Nodup by decide)
  have HLS : Hid (Lasts [(145, fun x _ => x = .pointer (some ⟨A, 0, none⟩)), (146, fun x _ => x = .slice q n d), (147, fun x _ => x = .pointer (some ⟨A, 1, none⟩)), (148, fun x _ => x = .bool true), (149, fun x _ => x = .bool true), (150, fun x _ => x = undef), (151, fun x _ => x = undef), (152, fun x _ => x = .bool true), (153, fun x _ => x = .agg #[.slice q n d, .bool true]), (154, fun x _ => x = .int .i64 140), (155, fun x _ => x = .int .i64 140), (156, fun x _ => x = .int .i64 140), (157, fun x _ => x = .bool true)]) := Go.Lib.hid (by
    intro p hp v w1 w2 hc h
    simp only [List.mem_cons, List.not_mem_nil, or_false] at hp
    rcases hp with rfl | rfl | rfl | rfl | rfl | rfl | rfl | rfl | rfl | rfl | rfl | rfl | rfl
    all_goals first | exact h | (obtain ⟨g, h1, h2⟩ := h; exact ⟨g, h1, hc.heap h2 id⟩) | (obtain ⟨g, c, h1, h2⟩ := h; exact ⟨g, c, h1, h2.ch hc (fun _ _ h => h)⟩))
  refine wp_region_open_tail 14 (InvQ 158 [(145, fun x _ => x = .pointer (some ⟨A, 0, none⟩)), (146, fun x _ => x = .slice q n d), (147, fun x _ => x = .pointer (some ⟨A, 1, none⟩)), (148, fun x _ => x = .bool true), (149, fun x _ => x = .bool true), (150, fun x _ => x = undef), (151, fun x _ => x = undef), (152, fun x _ => x = .bool true), (153, fun x _ => x = .agg #[.slice q n d, .bool true]), (154, fun x _ => x = .int .i64 140), (155, fun x _ => x = .int .i64 140), (156, fun x _ => x = .int .i64 140), (157, fun x _ => x = .bool true)] (IAsk w2 C 13 15 (.slice q n d) true) ax) (by kernel_rfl) (by kernel_rfl) (InvQ.start (by simp) HSZ.out (IAsk.start HC2C.out)) ?_ ?_
  · intro L a w' i hI hr hlt
    obtain ⟨h1, o, ho, hall⟩ := mem_ready.1 hr
    have hun : lg L i = false := by
      have h2 : i < L.size := Nat.lt_of_lt_of_le hlt (by rw [hI.wld.size]; decide)
      unfold lg; simp [h2] at h1 ⊢; exact h1
    have hsplit : i = 0 ∨ i = 1 ∨ i = 2 ∨ i = 3 ∨ i = 4 ∨ i = 5 ∨ i = 6 ∨ i = 7 ∨ i = 8 ∨ i = 9 ∨ i = 10 ∨ i = 11 ∨ i = 12 ∨ i = 13 := by omega
    clear hlt h1 hr
    rcases hsplit with rfl | rfl | rfl | rfl | rfl | rfl | rfl | rfl | rfl | rfl | rfl | rfl | rfl | rfl
    · have q4 := (hI.fixed 4 (by simp)).trans F4.out
      unfold gt at q4
      clear hall
      refine wpOp_step (o := _) rfl (fun K' hK' => ?_)
      go_simp
      exact hK' _ _ (hI.put 0 rfl (by decide) HND.out HLS.out (Ch.refl _ _) rfl (hI.wld.step 0 (by decide) (by decide) (Ch.refl _ _)))
    · simp at ho
      have e0 : lg L 0 = true := by unfold lg; simpa using hall ⟨0, .data⟩ (by rw [← ho]; simp) rfl
      have f0 : gt a 145 = .pointer (some ⟨A, 0, none⟩) := hI.val 0 _ rfl e0
      have hA := hI.wld.ch.heap HA2.out HAC.out
      have hcl0 : w'.cell? ⟨A, 0, none⟩ = some (.slice q n d) := (cell_of_heap hA 0).trans rfl
      have hcl1 : w'.cell? ⟨A, 1, none⟩ = some (.bool true) := (cell_of_heap hA 1).trans rfl
      clear hA
      unfold gt at f0
      clear hall
      clear ho
      refine wpOp_step (o := _) rfl (fun K' hK' => ?_)
      go_simp
      exact hK' _ _ (hI.put 1 rfl (by decide) HND.out HLS.out (Ch.refl _ _) rfl (hI.wld.step 1 (by decide) (by decide) (Ch.refl _ _)))
    · have q4 := (hI.fixed 4 (by simp)).trans F4.out
      unfold gt at q4
      clear hall
      refine wpOp_step (o := _) rfl (fun K' hK' => ?_)
      go_simp
      exact hK' _ _ (hI.put 2 rfl (by decide) HND.out HLS.out (Ch.refl _ _) rfl (hI.wld.step 2 (by decide) (by decide) (Ch.refl _ _)))
    · simp at ho
      have e2 : lg L 2 = true := by unfold lg; simpa using hall ⟨2, .data⟩ (by rw [← ho]; simp) rfl
      have f2 : gt a 147 = .pointer (some ⟨A, 1, none⟩) := hI.val 2 _ rfl e2
      have hA := hI.wld.ch.heap HA2.out HAC.out
      have hcl0 : w'.cell? ⟨A, 0, none⟩ = some (.slice q n d) := (cell_of_heap hA 0).trans rfl
      have hcl1 : w'.cell? ⟨A, 1, none⟩ = some (.bool true) := (cell_of_heap hA 1).trans rfl
      clear hA
      unfold gt at f2
      clear hall
      clear ho
      refine wpOp_step (o := _) rfl (fun K' hK' => ?_)
      go_simp
      exact hK' _ _ (hI.put 3 rfl (by decide) HND.out HLS.out (Ch.refl _ _) rfl (hI.wld.step 3 (by decide) (by decide) (Ch.refl _ _)))
    · simp at ho
      have e3 : lg L 3 = true := by unfold lg; simpa using hall ⟨3, .data⟩ (by rw [← ho]; simp) rfl
      have f3 : gt a 148 = .bool true := hI.val 3 _ rfl e3
      unfold gt at f3
      clear hall
      clear ho
      refine wpOp_step (o := _) rfl (fun K' hK' => ?_)
      go_simp
      exact hK' _ _ (hI.put 4 rfl (by decide) HND.out HLS.out (Ch.refl _ _) rfl (hI.wld.step 4 (by decide) (by decide) (Ch.refl _ _)))
    · simp at ho
      have eg : lg L 4 = true := by unfold lg; simpa using hall ⟨4, .guard⟩ (by rw [← ho]; simp) rfl
      have fg0 : gt a 149 = .bool true := hI.val 4 _ rfl eg
      have fg := guard_of fg0 (by rw [hI.size]; decide)
      clear eg fg0
      clear hall
      clear ho
      refine wpOp_step (o := _) rfl (fun K' hK' => ?_)
      rw [if_neg (by simp [Region.wanted, yielded, fg])]
      exact hK' _ _ (hI.put 5 rfl (by decide) HND.out HLS.out (Ch.refl _ _) rfl (hI.wld.step 5 (by decide) (by decide) (Ch.refl _ _)))
    · simp at ho
      have eg : lg L 4 = true := by unfold lg; simpa using hall ⟨4, .guard⟩ (by rw [← ho]; simp) rfl
      have fg0 : gt a 149 = .bool true := hI.val 4 _ rfl eg
      have fg := guard_of fg0 (by rw [hI.size]; decide)
      clear eg fg0
      clear hall
      clear ho
      refine wpOp_step (o := _) rfl (fun K' hK' => ?_)
      rw [if_neg (by simp [Region.wanted, yielded, fg])]
      exact hK' _ _ (hI.put 6 rfl (by decide) HND.out HLS.out (Ch.refl _ _) rfl (hI.wld.step 6 (by decide) (by decide) (Ch.refl _ _)))
    · simp at ho
      have e4 : lg L 4 = true := by unfold lg; simpa using hall ⟨4, .data⟩ (by rw [← ho]; simp) rfl
      have f4 : gt a 149 = .bool true := hI.val 4 _ rfl e4
      unfold gt at f4
      clear hall
      clear ho
      refine wpOp_step (o := _) rfl (fun K' hK' => ?_)
      go_simp
      exact hK' _ _ (hI.put 7 rfl (by decide) HND.out HLS.out (Ch.refl _ _) rfl (hI.wld.step 7 (by decide) (by decide) (Ch.refl _ _)))
    · simp at ho
      have e1 : lg L 1 = true := by unfold lg; simpa using hall ⟨1, .data⟩ (by rw [← ho]; simp) rfl
      have f1 : gt a 146 = .slice q n d := hI.val 1 _ rfl e1
      have e7 : lg L 7 = true := by unfold lg; simpa using hall ⟨7, .data⟩ (by rw [← ho]; simp) rfl
      have f7 : gt a 152 = .bool true := hI.val 7 _ rfl e7
      unfold gt at f1 f7
      clear hall
      clear ho
      refine wpOp_step (o := _) rfl (fun K' hK' => ?_)
      go_simp
      exact hK' _ _ (hI.put 8 rfl (by decide) HND.out HLS.out (Ch.refl _ _) rfl (hI.wld.step 8 (by decide) (by decide) (Ch.refl _ _)))
    · have q30 := (hI.fixed 30 (by simp)).trans F30.out
      unfold gt at q30
      clear hall
      refine wpOp_step (o := _) rfl (fun K' hK' => ?_)
      go_simp
      exact hK' _ _ (hI.put 9 rfl (by decide) HND.out HLS.out (Ch.refl _ _) rfl (hI.wld.step 9 (by decide) (by decide) (Ch.refl _ _)))
    · simp at ho
      have e9 : lg L 9 = true := by unfold lg; simpa using hall ⟨9, .data⟩ (by rw [← ho]; simp) rfl
      have f9 : gt a 154 = .int .i64 140 := hI.val 9 _ rfl e9
      unfold gt at f9
      clear hall
      clear ho
      have HCT := Go.Lib.hid (num_any 140 w')
      refine wpOp_step (o := _) rfl (fun K' hK' => ?_)
      go_simp
      refine HCT.out.mono ?_
      rintro e w3 ⟨rfl, rfl⟩
      exact hK' _ _ (hI.put 10 rfl (by decide) HND.out HLS.out (Ch.refl _ _) rfl (hI.wld.step 10 (by decide) (by decide) (Ch.refl _ _)))
    · have q29 := (hI.fixed 29 (by simp)).trans F29.out
      unfold gt at q29
      clear hall
      refine wpOp_step (o := _) rfl (fun K' hK' => ?_)
      go_simp
      exact hK' _ _ (hI.put 11 rfl (by decide) HND.out HLS.out (Ch.refl _ _) rfl (hI.wld.step 11 (by decide) (by decide) (Ch.refl _ _)))
    · simp at ho
      have e10 : lg L 10 = true := by unfold lg; simpa using hall ⟨10, .data⟩ (by rw [← ho]; simp) rfl
      have f10 : gt a 155 = .int .i64 140 := hI.val 10 _ rfl e10
      have e11 : lg L 11 = true := by unfold lg; simpa using hall ⟨11, .data⟩ (by rw [← ho]; simp) rfl
      have f11 : gt a 156 = .int .i64 140 := hI.val 11 _ rfl e11
      unfold gt at f10 f11
      clear hall
      clear ho
      refine wpOp_step (o := _) rfl (fun K' hK' => ?_)
      go_simp
      exact hK' _ _ (hI.put 12 rfl (by decide) HND.out HLS.out (Ch.refl _ _) rfl (hI.wld.step 12 (by decide) (by decide) (Ch.refl _ _)))
    · simp at ho
      have e8 : lg L 8 = true := by unfold lg; simpa using hall ⟨8, .data⟩ (by rw [← ho]; simp) rfl
      have f8 : gt a 153 = .agg #[.slice q n d, .bool true] := hI.val 8 _ rfl e8
      have q6 := (hI.fixed 6 (by simp)).trans F6.out
      have hrow := hI.wld.before hun
      have hcl0 := (cell_of_heap hrow 0).trans rfl
      have hcl1 := (cell_of_heap hrow 1).trans rfl
      have hfz0 := frozen_of_heap hrow 0
      have hfz1 := frozen_of_heap hrow 1
      unfold gt at f8 q6
      clear hall
      clear ho
      refine wpOp_step (o := _) rfl (fun K' hK' => ?_)
      clear hrow
      go_simp
      exact hK' _ _ (hI.skipX 13 (Nat.le_refl 13) (by rw [hI.wld.size]; decide) (fun k p hp hl h => by
        have hk13 : k < 13 := (List.getElem?_eq_some_iff.1 hp).1
        obtain rfl | rfl | rfl | rfl | rfl | rfl | rfl | rfl | rfl | rfl | rfl | rfl | rfl : k = 0 ∨ k = 1 ∨ k = 2 ∨ k = 3 ∨ k = 4 ∨ k = 5 ∨ k = 6 ∨ k = 7 ∨ k = 8 ∨ k = 9 ∨ k = 10 ∨ k = 11 ∨ k = 12 := by omega
        all_goals (cases hp; exact h)) (hI.wld.store (by decide) hun))
  · intro L a w' hI hal
    have hfr := hI.frame HSZ.out (by simp) (fun i hi => hal i (by have h10 : i < 13 := hi; omega))
    have k0 : gt a 145 = .pointer (some ⟨A, 0, none⟩) := hI.val 0 _ rfl (hal 0 (by decide))
    have k1 : gt a 146 = .slice q n d := hI.val 1 _ rfl (hal 1 (by decide))
    have k2 : gt a 147 = .pointer (some ⟨A, 1, none⟩) := hI.val 2 _ rfl (hal 2 (by decide))
    have k3 : gt a 148 = .bool true := hI.val 3 _ rfl (hal 3 (by decide))
    have k4 : gt a 149 = .bool true := hI.val 4 _ rfl (hal 4 (by decide))
    have k5 : gt a 150 = undef := hI.val 5 _ rfl (hal 5 (by decide))
    have k6 : gt a 151 = undef := hI.val 6 _ rfl (hal 6 (by decide))
    have k7 : gt a 152 = .bool true := hI.val 7 _ rfl (hal 7 (by decide))
    have k8 : gt a 153 = .agg #[.slice q n d, .bool true] := hI.val 8 _ rfl (hal 8 (by decide))
    have k9 : gt a 154 = .int .i64 140 := hI.val 9 _ rfl (hal 9 (by decide))
    have k10 : gt a 155 = .int .i64 140 := hI.val 10 _ rfl (hal 10 (by decide))
    have k11 : gt a 156 = .int .i64 140 := hI.val 11 _ rfl (hal 11 (by decide))
    have k12 : gt a 157 = .bool true := hI.val 12 _ rfl (hal 12 (by decide))
    rw [hfr, ← HAX.out]
    have HWB := Go.Lib.hid (hI.wld.behind (hal 13 (by decide))); have HWC := Go.Lib.hid hI.wld.ch
    simp only [List.map_cons, List.map_nil, List.foldl_cons, List.foldl_nil, k0, k1, k2, k3, k4, k5, k6, k7, k8, k9, k10, k11, k12, List.setIfInBounds_toArray, List.set_cons_succ, List.set_cons_zero]
    clear hfr hI hal k0 k1 k2 k3 k4 k5 k6 k7 k8 k9 k10 k11 k12 HSZ HND HLS HAX F4 F6 F29 F30
    simp only [List.drop_succ_cons, List.drop_zero]
    go_wp2_with fail
    have hss := HSS.out; have hxo := HR2.out.old; have hxo2 := HXO.out; have hae := HAE.out
    refine bodyPost_ret (res20 w' C q n d true _ HWB.out _ rfl rfl) rfl ?_
    exact ⟨HC2.out.then HWC.out (fun i hi e => by have e' : i = C := e; omega), n, f, true, q, d, p2, c2, Nat.le_refl _, rfl, HR2.out.ch HWC.out (show ¬ r = C by omega) (show ¬ x0 = C by omega), HB3.out.but2 HWC.out HY.out (fun _ => show ¬ y0 = C by have := HYO.out; omega), HY.out⟩
set_option maxRecDepth 100000 in
set_option maxHeartbeats 4000000 in
theorem askedE2 (r x0 y0 : Nat) (p q : Option Addr) (n c d : Nat) (f : Nat → UInt8) (K most : Int) (hk0 : K ≠ 0) (hk1 : K ≠ 1) (hk2 : K ≠ 2) (hk3 : K ≠ 3) (w : World) (hr : RdAt w r x0 p n c f false) (hq : BytesAt w q n d f) (hy : ∀ ad, q = some ad → ad.block = y0) (hyr : y0 ≠ r) (hyo : y0 < w.heap.size) (hn : n ≤ 1000000000000) (hn0 : 0 < n) :
    Calls Try.prog 20 #[.pointer (some ⟨r, 0, none⟩), .agg #[.slice q n d, .bool false], .agg #[.int .i64 K, .int .i64 most]] w (AskTold r x0 y0 n w) := by
  have HYR := Go.Lib.hid hyr; have HYO := Go.Lib.hid hyo; have HY := Go.Lib.hid hy; have HQ := Go.Lib.hid hq
  have HRA := Go.Lib.hid (fun W (hc : Ch (fun _ => False) w W) => (show Calls Try.prog 26 #[.pointer (some ⟨r, 0, none⟩)] W (fun e w2 => Ch (fun q => q = r) W w2 ∧ e = .returned (.int .i64 140) ∧ ∃ p2 c2, RdAt w2 r x0 p2 n c2 f true) from (rEnd_ok r x0 p n c f W (hr.ch hc id id)).mono (fun e w2 h => by
    rw [show outE n = .wrong from if_neg (by omega)] at h
    exact ⟨h.1, h.2.1, p, c, h.2.2⟩)))
  have HRL := Go.Lib.hid (row_lt hr.row); have HXO := Go.Lib.hid hr.old
  have hk0' : (K == 0) = false := by simpa using hk0
  have hk1' : (K == 1) = false := by simpa using hk1
  have hk2' : (K == 2) = false := by simpa using hk2
  have hk3' : (K == 3) = false := by simpa using hk3
  have hn1 : (0 : Int) < (n : Int) := by omega
  clear hn0
  clear hr hq hy hyr hyo hn hk0 hk1 hk2 hk3
  obtain ⟨hA0, hB0, hC0, hc1⟩ := three_at w #[.slice q n d, .bool false] #[.int .i64 K, .int .i64 most] #[.slice none 0 0, .bool false] 51 55 51
  have HA0 := Go.Lib.hid hA0; have HC0 := Go.Lib.hid hC0; have HC1 := Go.Lib.hid hc1
  clear hA0 hB0 hC0 hc1
  go_enter Try.func20, Try.ntmps20
  go_wp2_with fail
  refine (HRA.out _ HC1.out).mono ?_
  rintro e w2 ⟨hc3, rfl, p2, c2, hr2⟩
  have hrl := HRL.out
  have HA2 := Go.Lib.hid (hc3.heap HA0.out (show ¬ w.heap.size = r by omega))
  have HC2C := Go.Lib.hid (hc3.heap HC0.out (show ¬ w.heap.size + 1 + 1 = r by omega))
  have HC2 := Go.Lib.hid (show Ch (fun q => q = r) w w2 from (HC1.out.mono (fun _ _ e => e.elim)).trans hc3)
  have HB3 := Go.Lib.hid (show BytesAt w2 q n d f from (HQ.out.ch HC1.out (fun _ _ => id)).but2 hc3 HY.out (fun _ => HYR.out))
  have HR2 := Go.Lib.hid hr2
  have HAC := Go.Lib.hid (show ¬ w.heap.size = w.heap.size + 1 + 1 by omega); have HSS := Go.Lib.hid (show w.heap.size ≤ w.heap.size + 1 + 1 ∧ r < w.heap.size from ⟨by omega, hrl⟩)
  clear hc3 hr2 hrl HC1 HA0 HC0 HRA
  generalize w.heap.size + 1 + 1 = C at *
  generalize hA : w.heap.size = A at *
  have HAE := Go.Lib.hid hA
  clear hA
  go_upto_region 23 with (fail)
  generalize hax : Act.mk _ _ = ax
  have HSZ := Go.Lib.hid (show ax.tmps.size = 158 by rw [← hax]; rfl)
  have F4 := Go.Lib.hid (show gt ax 4 = .pointer (some ⟨A, 0, none⟩) by rw [← hax]; rfl)
  have F6 := Go.Lib.hid (show gt ax 6 = .pointer (some ⟨C, 0, none⟩) by rw [← hax]; rfl)
  have F29 := Go.Lib.hid (show gt ax 29 = .int .i64 140 by rw [← hax]; rfl)
  have F30 := Go.Lib.hid (show gt ax 30 = .int .i64 140 by rw [← hax]; rfl)
  have HAX := Go.Lib.hid hax
  clear hax
  have HND := Go.Lib.hid (show ([145, 146, 147, 148, 149, 150, 151, 152, 153, 154, 155, 156, 157] : List Nat).Nodup by decide)
  have HLS : Hid (Lasts [(145, fun x _ => x = .pointer (some ⟨A, 0, none⟩)), (146, fun x _ => x = .slice q n d), (147, fun x _ => x = .pointer (some ⟨A, 1, none⟩)), (148, fun x _ => x = .bool false), (149, fun x _ => x = .bool false), (150, fun x _ => x = .int .i64 140), (151, fun x _ => x = .bool true), (152, fun x _ => x = .bool true), (153, fun x _ => x = .agg #[.slice q n d, .bool true]), (154, fun x _ => x = .int .i64 140), (155, fun x _ => x = .int .i64 140), (156, fun x _ => x = .int .i64 140), (157, fun x _ => x = .bool true)]) := Go.Lib.hid (by
    intro p hp v w1 w2 hc h
    simp only [List.mem_cons, List.not_mem_nil, or_false] at hp
    rcases hp with rfl | rfl | rfl | rfl | rfl | rfl | rfl | rfl | rfl | rfl | rfl | rfl | rfl
    all_goals first | exact h | (obtain ⟨g, h1, h2⟩ := h; exact ⟨g, h1, hc.heap h2 id⟩) | (obtain ⟨g, c, h1, h2⟩ := h; exact ⟨g, c, h1, h2.ch hc (fun _ _ h => h)⟩))
  refine wp_region_open_tail 14 (InvQ 158 [(145, fun x _ => x = .pointer (some ⟨A, 0, none⟩)), (146, fun x _ => x = .slice q n d), (147, fun x _ => x = .pointer (some ⟨A, 1, none⟩)), (148, fun x _ => x = .bool false), (149, fun x _ => x = .bool false), (150, fun x _ => x = .int .i64 140), (151, fun x _ => x = .bool true), (152, fun x _ => x = .bool true), (153, fun x _ => x = .agg #[.slice q n d, .bool true]), (154, fun x _ => x = .int .i64 140), (155, fun x _ => x = .int .i64 140), (156, fun x _ => x = .int .i64 140), (157, fun x _ => x = .bool true)] (IAsk w2 C 13 15 (.slice q n d) true) ax) (by kernel_rfl) (by kernel_rfl) (InvQ.start (by simp) HSZ.out (IAsk.start HC2C.out)) ?_ ?_
  · intro L a w' i hI hr hlt
    obtain ⟨h1, o, ho, hall⟩ := mem_ready.1 hr
    have hun : lg L i = false := by
      have h2 : i < L.size := Nat.lt_of_lt_of_le hlt (by rw [hI.wld.size]; decide)
      unfold lg; simp [h2] at h1 ⊢; exact h1
    have hsplit : i = 0 ∨ i = 1 ∨ i = 2 ∨ i = 3 ∨ i = 4 ∨ i = 5 ∨ i = 6 ∨ i = 7 ∨ i = 8 ∨ i = 9 ∨ i = 10 ∨ i = 11 ∨ i = 12 ∨ i = 13 := by omega
    clear hlt h1 hr
    rcases hsplit with rfl | rfl | rfl | rfl | rfl | rfl | rfl | rfl | rfl | rfl | rfl | rfl | rfl | rfl
    · have q4 := (hI.fixed 4 (by simp)).trans F4.out
      unfold gt at q4
      clear hall
      refine wpOp_step (o := _) rfl (fun K' hK' => ?_)
      go_simp
      exact hK' _ _ (hI.put 0 rfl (by decide) HND.out HLS.out (Ch.refl _ _) rfl (hI.wld.step 0 (by decide) (by decide) (Ch.refl _ _)))
    · simp at ho
      have e0 : lg L 0 = true := by unfold lg; simpa using hall ⟨0, .data⟩ (by rw [← ho]; simp) rfl
      have f0 : gt a 145 = .pointer (some ⟨A, 0, none⟩) := hI.val 0 _ rfl e0
      have hA := hI.wld.ch.heap HA2.out HAC.out
      have hcl0 : w'.cell? ⟨A, 0, none⟩ = some (.slice q n d) := (cell_of_heap hA 0).trans rfl
      have hcl1 : w'.cell? ⟨A, 1, none⟩ = some (.bool false) := (cell_of_heap hA 1).trans rfl
      clear hA
      unfold gt at f0
      clear hall
      clear ho
      refine wpOp_step (o := _) rfl (fun K' hK' => ?_)
      go_simp
      exact hK' _ _ (hI.put 1 rfl (by decide) HND.out HLS.out (Ch.refl _ _) rfl (hI.wld.step 1 (by decide) (by decide) (Ch.refl _ _)))
    · have q4 := (hI.fixed 4 (by simp)).trans F4.out
      unfold gt at q4
      clear hall
      refine wpOp_step (o := _) rfl (fun K' hK' => ?_)
      go_simp
      exact hK' _ _ (hI.put 2 rfl (by decide) HND.out HLS.out (Ch.refl _ _) rfl (hI.wld.step 2 (by decide) (by decide) (Ch.refl _ _)))
    · simp at ho
      have e2 : lg L 2 = true := by unfold lg; simpa using hall ⟨2, .data⟩ (by rw [← ho]; simp) rfl
      have f2 : gt a 147 = .pointer (some ⟨A, 1, none⟩) := hI.val 2 _ rfl e2
      have hA := hI.wld.ch.heap HA2.out HAC.out
      have hcl0 : w'.cell? ⟨A, 0, none⟩ = some (.slice q n d) := (cell_of_heap hA 0).trans rfl
      have hcl1 : w'.cell? ⟨A, 1, none⟩ = some (.bool false) := (cell_of_heap hA 1).trans rfl
      clear hA
      unfold gt at f2
      clear hall
      clear ho
      refine wpOp_step (o := _) rfl (fun K' hK' => ?_)
      go_simp
      exact hK' _ _ (hI.put 3 rfl (by decide) HND.out HLS.out (Ch.refl _ _) rfl (hI.wld.step 3 (by decide) (by decide) (Ch.refl _ _)))
    · simp at ho
      have e3 : lg L 3 = true := by unfold lg; simpa using hall ⟨3, .data⟩ (by rw [← ho]; simp) rfl
      have f3 : gt a 148 = .bool false := hI.val 3 _ rfl e3
      unfold gt at f3
      clear hall
      clear ho
      refine wpOp_step (o := _) rfl (fun K' hK' => ?_)
      go_simp
      exact hK' _ _ (hI.put 4 rfl (by decide) HND.out HLS.out (Ch.refl _ _) rfl (hI.wld.step 4 (by decide) (by decide) (Ch.refl _ _)))
    · simp at ho
      have q29 := (hI.fixed 29 (by simp)).trans F29.out
      have eg : lg L 4 = true := by unfold lg; simpa using hall ⟨4, .guard⟩ (by rw [← ho]; simp) rfl
      have fg0 : gt a 149 = .bool false := hI.val 4 _ rfl eg
      have fg := guard_of fg0 (by rw [hI.size]; decide)
      clear eg fg0
      unfold gt at q29
      clear hall
      clear ho
      refine wpOp_step (o := _) rfl (fun K' hK' => ?_)
      go_simp
      exact hK' _ _ (hI.put 5 rfl (by decide) HND.out HLS.out (Ch.refl _ _) rfl (hI.wld.step 5 (by decide) (by decide) (Ch.refl _ _)))
    · simp at ho
      have e5 : lg L 5 = true := by unfold lg; simpa using hall ⟨5, .data⟩ (by rw [← ho]; simp) rfl
      have f5 : gt a 150 = .int .i64 140 := hI.val 5 _ rfl e5
      have eg : lg L 4 = true := by unfold lg; simpa using hall ⟨4, .guard⟩ (by rw [← ho]; simp) rfl
      have fg0 : gt a 149 = .bool false := hI.val 4 _ rfl eg
      have fg := guard_of fg0 (by rw [hI.size]; decide)
      clear eg fg0
      unfold gt at f5
      clear hall
      clear ho
      refine wpOp_step (o := _) rfl (fun K' hK' => ?_)
      go_simp
      exact hK' _ _ (hI.put 6 rfl (by decide) HND.out HLS.out (Ch.refl _ _) rfl (hI.wld.step 6 (by decide) (by decide) (Ch.refl _ _)))
    · simp at ho
      have e4 : lg L 4 = true := by unfold lg; simpa using hall ⟨4, .data⟩ (by rw [← ho]; simp) rfl
      have f4 : gt a 149 = .bool false := hI.val 4 _ rfl e4
      have e6 : lg L 6 = true := by unfold lg; simpa using hall ⟨6, .data⟩ (by rw [← ho]; simp) rfl
      have f6 : gt a 151 = .bool true := hI.val 6 _ rfl e6
      unfold gt at f4 f6
      clear hall
      clear ho
      refine wpOp_step (o := _) rfl (fun K' hK' => ?_)
      go_simp
      exact hK' _ _ (hI.put 7 rfl (by decide) HND.out HLS.out (Ch.refl _ _) rfl (hI.wld.step 7 (by decide) (by decide) (Ch.refl _ _)))
    · simp at ho
      have e1 : lg L 1 = true := by unfold lg; simpa using hall ⟨1, .data⟩ (by rw [← ho]; simp) rfl
      have f1 : gt a 146 = .slice q n d := hI.val 1 _ rfl e1
      have e7 : lg L 7 = true := by unfold lg; simpa using hall ⟨7, .data⟩ (by rw [← ho]; simp) rfl
      have f7 : gt a 152 = .bool true := hI.val 7 _ rfl e7
      unfold gt at f1 f7
      clear hall
      clear ho
      refine wpOp_step (o := _) rfl (fun K' hK' => ?_)
      go_simp
      exact hK' _ _ (hI.put 8 rfl (by decide) HND.out HLS.out (Ch.refl _ _) rfl (hI.wld.step 8 (by decide) (by decide) (Ch.refl _ _)))
    · have q30 := (hI.fixed 30 (by simp)).trans F30.out
      unfold gt at q30
      clear hall
      refine wpOp_step (o := _) rfl (fun K' hK' => ?_)
      go_simp
      exact hK' _ _ (hI.put 9 rfl (by decide) HND.out HLS.out (Ch.refl _ _) rfl (hI.wld.step 9 (by decide) (by decide) (Ch.refl _ _)))
    · simp at ho
      have e9 : lg L 9 = true := by unfold lg; simpa using hall ⟨9, .data⟩ (by rw [← ho]; simp) rfl
      have f9 : gt a 154 = .int .i64 140 := hI.val 9 _ rfl e9
      unfold gt at f9
      clear hall
      clear ho
      have HCT := Go.Lib.hid (num_any 140 w')
      refine wpOp_step (o := _) rfl (fun K' hK' => ?_)
      go_simp
      refine HCT.out.mono ?_
      rintro e w3 ⟨rfl, rfl⟩
      exact hK' _ _ (hI.put 10 rfl (by decide) HND.out HLS.out (Ch.refl _ _) rfl (hI.wld.step 10 (by decide) (by decide) (Ch.refl _ _)))
    · have q29 := (hI.fixed 29 (by simp)).trans F29.out
      unfold gt at q29
      clear hall
      refine wpOp_step (o := _) rfl (fun K' hK' => ?_)
      go_simp
      exact hK' _ _ (hI.put 11 rfl (by decide) HND.out HLS.out (Ch.refl _ _) rfl (hI.wld.step 11 (by decide) (by decide) (Ch.refl _ _)))
    · simp at ho
      have e10 : lg L 10 = true := by unfold lg; simpa using hall ⟨10, .data⟩ (by rw [← ho]; simp) rfl
      have f10 : gt a 155 = .int .i64 140 := hI.val 10 _ rfl e10
      have e11 : lg L 11 = true := by unfold lg; simpa using hall ⟨11, .data⟩ (by rw [← ho]; simp) rfl
      have f11 : gt a 156 = .int .i64 140 := hI.val 11 _ rfl e11
      unfold gt at f10 f11
      clear hall
      clear ho
      refine wpOp_step (o := _) rfl (fun K' hK' => ?_)
      go_simp
      exact hK' _ _ (hI.put 12 rfl (by decide) HND.out HLS.out (Ch.refl _ _) rfl (hI.wld.step 12 (by decide) (by decide) (Ch.refl _ _)))
    · simp at ho
      have e8 : lg L 8 = true := by unfold lg; simpa using hall ⟨8, .data⟩ (by rw [← ho]; simp) rfl
      have f8 : gt a 153 = .agg #[.slice q n d, .bool true] := hI.val 8 _ rfl e8
      have q6 := (hI.fixed 6 (by simp)).trans F6.out
      have hrow := hI.wld.before hun
      have hcl0 := (cell_of_heap hrow 0).trans rfl
      have hcl1 := (cell_of_heap hrow 1).trans rfl
      have hfz0 := frozen_of_heap hrow 0
      have hfz1 := frozen_of_heap hrow 1
      unfold gt at f8 q6
      clear hall
      clear ho
      refine wpOp_step (o := _) rfl (fun K' hK' => ?_)
      clear hrow
      go_simp
      exact hK' _ _ (hI.skipX 13 (Nat.le_refl 13) (by rw [hI.wld.size]; decide) (fun k p hp hl h => by
        have hk13 : k < 13 := (List.getElem?_eq_some_iff.1 hp).1
        obtain rfl | rfl | rfl | rfl | rfl | rfl | rfl | rfl | rfl | rfl | rfl | rfl | rfl : k = 0 ∨ k = 1 ∨ k = 2 ∨ k = 3 ∨ k = 4 ∨ k = 5 ∨ k = 6 ∨ k = 7 ∨ k = 8 ∨ k = 9 ∨ k = 10 ∨ k = 11 ∨ k = 12 := by omega
        all_goals (cases hp; exact h)) (hI.wld.store (by decide) hun))
  · intro L a w' hI hal
    have hfr := hI.frame HSZ.out (by simp) (fun i hi => hal i (by have h10 : i < 13 := hi; omega))
    have k0 : gt a 145 = .pointer (some ⟨A, 0, none⟩) := hI.val 0 _ rfl (hal 0 (by decide))
    have k1 : gt a 146 = .slice q n d := hI.val 1 _ rfl (hal 1 (by decide))
    have k2 : gt a 147 = .pointer (some ⟨A, 1, none⟩) := hI.val 2 _ rfl (hal 2 (by decide))
    have k3 : gt a 148 = .bool false := hI.val 3 _ rfl (hal 3 (by decide))
    have k4 : gt a 149 = .bool false := hI.val 4 _ rfl (hal 4 (by decide))
    have k5 : gt a 150 = .int .i64 140 := hI.val 5 _ rfl (hal 5 (by decide))
    have k6 : gt a 151 = .bool true := hI.val 6 _ rfl (hal 6 (by decide))
    have k7 : gt a 152 = .bool true := hI.val 7 _ rfl (hal 7 (by decide))
    have k8 : gt a 153 = .agg #[.slice q n d, .bool true] := hI.val 8 _ rfl (hal 8 (by decide))
    have k9 : gt a 154 = .int .i64 140 := hI.val 9 _ rfl (hal 9 (by decide))
    have k10 : gt a 155 = .int .i64 140 := hI.val 10 _ rfl (hal 10 (by decide))
    have k11 : gt a 156 = .int .i64 140 := hI.val 11 _ rfl (hal 11 (by decide))
    have k12 : gt a 157 = .bool true := hI.val 12 _ rfl (hal 12 (by decide))
    rw [hfr, ← HAX.out]
    have HWB := Go.Lib.hid (hI.wld.behind (hal 13 (by decide))); have HWC := Go.Lib.hid hI.wld.ch
    simp only [List.map_cons, List.map_nil, List.foldl_cons, List.foldl_nil, k0, k1, k2, k3, k4, k5, k6, k7, k8, k9, k10, k11, k12, List.setIfInBounds_toArray, List.set_cons_succ, List.set_cons_zero]
    clear hfr hI hal k0 k1 k2 k3 k4 k5 k6 k7 k8 k9 k10 k11 k12 HSZ HND HLS HAX F4 F6 F29 F30
    simp only [List.drop_succ_cons, List.drop_zero]
    go_wp2_with fail
    have hss := HSS.out; have hxo := HR2.out.old; have hxo2 := HXO.out; have hae := HAE.out
    refine bodyPost_ret (res20 w' C q n d true _ HWB.out _ rfl rfl) rfl ?_
    exact ⟨HC2.out.then HWC.out (fun i hi e => by have e' : i = C := e; omega), n, f, true, q, d, p2, c2, Nat.le_refl _, rfl, HR2.out.ch HWC.out (show ¬ r = C by omega) (show ¬ x0 = C by omega), HB3.out.but2 HWC.out HY.out (fun _ => show ¬ y0 = C by have := HYO.out; omega), HY.out⟩
set_option maxRecDepth 100000 in
set_option maxHeartbeats 4000000 in
theorem askedE3 (r x0 y0 : Nat) (p q : Option Addr) (n c d : Nat) (f : Nat → UInt8) (K most : Int) (hk0 : K ≠ 0) (hk1 : K ≠ 1) (hk2 : K ≠ 2) (hk3 : K ≠ 3) (w : World) (hr : RdAt w r x0 p n c f false) (hq : BytesAt w q n d f) (hy : ∀ ad, q = some ad → ad.block = y0) (hyr : y0 ≠ r) (hyo : y0 < w.heap.size) (hn : n ≤ 1000000000000) (hn0 : n = 0) :
    Calls Try.prog 20 #[.pointer (some ⟨r, 0, none⟩), .agg #[.slice q n d, .bool false], .agg #[.int .i64 K, .int .i64 most]] w (AskTold r x0 y0 n w) := by
  have HYR := Go.Lib.hid hyr; have HYO := Go.Lib.hid hyo; have HY := Go.Lib.hid hy; have HQ := Go.Lib.hid hq
  have HRA := Go.Lib.hid (fun W (hc : Ch (fun _ => False) w W) => (show Calls Try.prog 26 #[.pointer (some ⟨r, 0, none⟩)] W (fun e w2 => Ch (fun q => q = r) W w2 ∧ e = .returned (.int .i64 0) ∧ ∃ p2 c2, RdAt w2 r x0 p2 n c2 f false) from (rEnd_ok r x0 p n c f W (hr.ch hc id id)).mono (fun e w2 h => by
    rw [show outE n = .got (.bool true) 0 from if_pos hn0] at h
    obtain ⟨p2, c2, h3⟩ := h.2.2.2
    rw [fun_zero] at h3
    exact ⟨h.1, h.2.1, p2, c2, h3⟩)))
  have HRL := Go.Lib.hid (row_lt hr.row); have HXO := Go.Lib.hid hr.old
  have hk0' : (K == 0) = false := by simpa using hk0
  have hk1' : (K == 1) = false := by simpa using hk1
  have hk2' : (K == 2) = false := by simpa using hk2
  have hk3' : (K == 3) = false := by simpa using hk3
  have hn1 : ¬ (0 : Int) < (n : Int) := by omega
  clear hn0
  clear hr hq hy hyr hyo hn hk0 hk1 hk2 hk3
  obtain ⟨hA0, hB0, hC0, hc1⟩ := three_at w #[.slice q n d, .bool false] #[.int .i64 K, .int .i64 most] #[.slice none 0 0, .bool false] 51 55 51
  have HA0 := Go.Lib.hid hA0; have HC0 := Go.Lib.hid hC0; have HC1 := Go.Lib.hid hc1
  clear hA0 hB0 hC0 hc1
  go_enter Try.func20, Try.ntmps20
  go_wp2_with fail
  refine (HRA.out _ HC1.out).mono ?_
  rintro e w2 ⟨hc3, rfl, p2, c2, hr2⟩
  have hrl := HRL.out
  have HA2 := Go.Lib.hid (hc3.heap HA0.out (show ¬ w.heap.size = r by omega))
  have HC2C := Go.Lib.hid (hc3.heap HC0.out (show ¬ w.heap.size + 1 + 1 = r by omega))
  have HC2 := Go.Lib.hid (show Ch (fun q => q = r) w w2 from (HC1.out.mono (fun _ _ e => e.elim)).trans hc3)
  have HB3 := Go.Lib.hid (show BytesAt w2 q n d f from (HQ.out.ch HC1.out (fun _ _ => id)).but2 hc3 HY.out (fun _ => HYR.out))
  have HR2 := Go.Lib.hid hr2
  have HAC := Go.Lib.hid (show ¬ w.heap.size = w.heap.size + 1 + 1 by omega); have HSS := Go.Lib.hid (show w.heap.size ≤ w.heap.size + 1 + 1 ∧ r < w.heap.size from ⟨by omega, hrl⟩)
  clear hc3 hr2 hrl HC1 HA0 HC0 HRA
  generalize w.heap.size + 1 + 1 = C at *
  generalize hA : w.heap.size = A at *
  have HAE := Go.Lib.hid hA
  clear hA
  go_upto_region 23 with (fail)
  generalize hax : Act.mk _ _ = ax
  have HSZ := Go.Lib.hid (show ax.tmps.size = 158 by rw [← hax]; rfl)
  have F4 := Go.Lib.hid (show gt ax 4 = .pointer (some ⟨A, 0, none⟩) by rw [← hax]; rfl)
  have F6 := Go.Lib.hid (show gt ax 6 = .pointer (some ⟨C, 0, none⟩) by rw [← hax]; rfl)
  have F29 := Go.Lib.hid (show gt ax 29 = .int .i64 0 by rw [← hax]; rfl)
  have F30 := Go.Lib.hid (show gt ax 30 = .int .i64 0 by rw [← hax]; rfl)
  have HAX := Go.Lib.hid hax
  clear hax
  have HND := Go.Lib.hid (show ([145, 146, 147, 148, 149, 150, 151, 152, 153, 154, 155, 156, 157] : List Nat).Nodup by decide)
  have HLS : Hid (Lasts [(145, fun x _ => x = .pointer (some ⟨A, 0, none⟩)), (146, fun x _ => x = .slice q n d), (147, fun x _ => x = .pointer (some ⟨A, 1, none⟩)), (148, fun x _ => x = .bool false), (149, fun x _ => x = .bool false), (150, fun x _ => x = .int .i64 0), (151, fun x _ => x = .bool false), (152, fun x _ => x = .bool false), (153, fun x _ => x = .agg #[.slice q n d, .bool false]), (154, fun x _ => x = .int .i64 0), (155, fun x _ => x = .int .i64 0), (156, fun x _ => x = .int .i64 0), (157, fun x _ => x = .bool true)]) := Go.Lib.hid (by
    intro p hp v w1 w2 hc h
    simp only [List.mem_cons, List.not_mem_nil, or_false] at hp
    rcases hp with rfl | rfl | rfl | rfl | rfl | rfl | rfl | rfl | rfl | rfl | rfl | rfl | rfl
    all_goals first | exact h | (obtain ⟨g, h1, h2⟩ := h; exact ⟨g, h1, hc.heap h2 id⟩) | (obtain ⟨g, c, h1, h2⟩ := h; exact ⟨g, c, h1, h2.ch hc (fun _ _ h => h)⟩))
  refine wp_region_open_tail 14 (InvQ 158 [(145, fun x _ => x = .pointer (some ⟨A, 0, none⟩)), (146, fun x _ => x = .slice q n d), (147, fun x _ => x = .pointer (some ⟨A, 1, none⟩)), (148, fun x _ => x = .bool false), (149, fun x _ => x = .bool false), (150, fun x _ => x = .int .i64 0), (151, fun x _ => x = .bool false), (152, fun x _ => x = .bool false), (153, fun x _ => x = .agg #[.slice q n d, .bool false]), (154, fun x _ => x = .int .i64 0), (155, fun x _ => x = .int .i64 0), (156, fun x _ => x = .int .i64 0), (157, fun x _ => x = .bool true)] (IAsk w2 C 13 15 (.slice q n d) false) ax) (by kernel_rfl) (by kernel_rfl) (InvQ.start (by simp) HSZ.out (IAsk.start HC2C.out)) ?_ ?_
  · intro L a w' i hI hr hlt
    obtain ⟨h1, o, ho, hall⟩ := mem_ready.1 hr
    have hun : lg L i = false := by
      have h2 : i < L.size := Nat.lt_of_lt_of_le hlt (by rw [hI.wld.size]; decide)
      unfold lg; simp [h2] at h1 ⊢; exact h1
    have hsplit : i = 0 ∨ i = 1 ∨ i = 2 ∨ i = 3 ∨ i = 4 ∨ i = 5 ∨ i = 6 ∨ i = 7 ∨ i = 8 ∨ i = 9 ∨ i = 10 ∨ i = 11 ∨ i = 12 ∨ i = 13 := by omega
    clear hlt h1 hr
    rcases hsplit with rfl | rfl | rfl | rfl | rfl | rfl | rfl | rfl | rfl | rfl | rfl | rfl | rfl | rfl
    · have q4 := (hI.fixed 4 (by simp)).trans F4.out
      unfold gt at q4
      clear hall
      refine wpOp_step (o := _) rfl (fun K' hK' => ?_)
      go_simp
      exact hK' _ _ (hI.put 0 rfl (by decide) HND.out HLS.out (Ch.refl _ _) rfl (hI.wld.step 0 (by decide) (by decide) (Ch.refl _ _)))
    · simp at ho
      have e0 : lg L 0 = true := by unfold lg; simpa using hall ⟨0, .data⟩ (by rw [← ho]; simp) rfl
      have f0 : gt a 145 = .pointer (some ⟨A, 0, none⟩) := hI.val 0 _ rfl e0
      have hA := hI.wld.ch.heap HA2.out HAC.out
      have hcl0 : w'.cell? ⟨A, 0, none⟩ = some (.slice q n d) := (cell_of_heap hA 0).trans rfl
      have hcl1 : w'.cell? ⟨A, 1, none⟩ = some (.bool false) := (cell_of_heap hA 1).trans rfl
      clear hA
      unfold gt at f0
      clear hall
      clear ho
      refine wpOp_step (o := _) rfl (fun K' hK' => ?_)
      go_simp
      exact hK' _ _ (hI.put 1 rfl (by decide) HND.out HLS.out (Ch.refl _ _) rfl (hI.wld.step 1 (by decide) (by decide) (Ch.refl _ _)))
    · have q4 := (hI.fixed 4 (by simp)).trans F4.out
      unfold gt at q4
      clear hall
      refine wpOp_step (o := _) rfl (fun K' hK' => ?_)
      go_simp
      exact hK' _ _ (hI.put 2 rfl (by decide) HND.out HLS.out (Ch.refl _ _) rfl (hI.wld.step 2 (by decide) (by decide) (Ch.refl _ _)))
    · simp at ho
      have e2 : lg L 2 = true := by unfold lg; simpa using hall ⟨2, .data⟩ (by rw [← ho]; simp) rfl
      have f2 : gt a 147 = .pointer (some ⟨A, 1, none⟩) := hI.val 2 _ rfl e2
      have hA := hI.wld.ch.heap HA2.out HAC.out
      have hcl0 : w'.cell? ⟨A, 0, none⟩ = some (.slice q n d) := (cell_of_heap hA 0).trans rfl
      have hcl1 : w'.cell? ⟨A, 1, none⟩ = some (.bool false) := (cell_of_heap hA 1).trans rfl
      clear hA
      unfold gt at f2
      clear hall
      clear ho
      refine wpOp_step (o := _) rfl (fun K' hK' => ?_)
      go_simp
      exact hK' _ _ (hI.put 3 rfl (by decide) HND.out HLS.out (Ch.refl _ _) rfl (hI.wld.step 3 (by decide) (by decide) (Ch.refl _ _)))
    · simp at ho
      have e3 : lg L 3 = true := by unfold lg; simpa using hall ⟨3, .data⟩ (by rw [← ho]; simp) rfl
      have f3 : gt a 148 = .bool false := hI.val 3 _ rfl e3
      unfold gt at f3
      clear hall
      clear ho
      refine wpOp_step (o := _) rfl (fun K' hK' => ?_)
      go_simp
      exact hK' _ _ (hI.put 4 rfl (by decide) HND.out HLS.out (Ch.refl _ _) rfl (hI.wld.step 4 (by decide) (by decide) (Ch.refl _ _)))
    · simp at ho
      have q29 := (hI.fixed 29 (by simp)).trans F29.out
      have eg : lg L 4 = true := by unfold lg; simpa using hall ⟨4, .guard⟩ (by rw [← ho]; simp) rfl
      have fg0 : gt a 149 = .bool false := hI.val 4 _ rfl eg
      have fg := guard_of fg0 (by rw [hI.size]; decide)
      clear eg fg0
      unfold gt at q29
      clear hall
      clear ho
      refine wpOp_step (o := _) rfl (fun K' hK' => ?_)
      go_simp
      exact hK' _ _ (hI.put 5 rfl (by decide) HND.out HLS.out (Ch.refl _ _) rfl (hI.wld.step 5 (by decide) (by decide) (Ch.refl _ _)))
    · simp at ho
      have e5 : lg L 5 = true := by unfold lg; simpa using hall ⟨5, .data⟩ (by rw [← ho]; simp) rfl
      have f5 : gt a 150 = .int .i64 0 := hI.val 5 _ rfl e5
      have eg : lg L 4 = true := by unfold lg; simpa using hall ⟨4, .guard⟩ (by rw [← ho]; simp) rfl
      have fg0 : gt a 149 = .bool false := hI.val 4 _ rfl eg
      have fg := guard_of fg0 (by rw [hI.size]; decide)
      clear eg fg0
      unfold gt at f5
      clear hall
      clear ho
      refine wpOp_step (o := _) rfl (fun K' hK' => ?_)
      go_simp
      exact hK' _ _ (hI.put 6 rfl (by decide) HND.out HLS.out (Ch.refl _ _) rfl (hI.wld.step 6 (by decide) (by decide) (Ch.refl _ _)))
    · simp at ho
      have e4 : lg L 4 = true := by unfold lg; simpa using hall ⟨4, .data⟩ (by rw [← ho]; simp) rfl
      have f4 : gt a 149 = .bool false := hI.val 4 _ rfl e4
      have e6 : lg L 6 = true := by unfold lg; simpa using hall ⟨6, .data⟩ (by rw [← ho]; simp) rfl
      have f6 : gt a 151 = .bool false := hI.val 6 _ rfl e6
      unfold gt at f4 f6
      clear hall
      clear ho
      refine wpOp_step (o := _) rfl (fun K' hK' => ?_)
      go_simp
      exact hK' _ _ (hI.put 7 rfl (by decide) HND.out HLS.out (Ch.refl _ _) rfl (hI.wld.step 7 (by decide) (by decide) (Ch.refl _ _)))
    · simp at ho
      have e1 : lg L 1 = true := by unfold lg; simpa using hall ⟨1, .data⟩ (by rw [← ho]; simp) rfl
      have f1 : gt a 146 = .slice q n d := hI.val 1 _ rfl e1
      have e7 : lg L 7 = true := by unfold lg; simpa using hall ⟨7, .data⟩ (by rw [← ho]; simp) rfl
      have f7 : gt a 152 = .bool false := hI.val 7 _ rfl e7
      unfold gt at f1 f7
      clear hall
      clear ho
      refine wpOp_step (o := _) rfl (fun K' hK' => ?_)
      go_simp
      exact hK' _ _ (hI.put 8 rfl (by decide) HND.out HLS.out (Ch.refl _ _) rfl (hI.wld.step 8 (by decide) (by decide) (Ch.refl _ _)))
    · have q30 := (hI.fixed 30 (by simp)).trans F30.out
      unfold gt at q30
      clear hall
      refine wpOp_step (o := _) rfl (fun K' hK' => ?_)
      go_simp
      exact hK' _ _ (hI.put 9 rfl (by decide) HND.out HLS.out (Ch.refl _ _) rfl (hI.wld.step 9 (by decide) (by decide) (Ch.refl _ _)))
    · simp at ho
      have e9 : lg L 9 = true := by unfold lg; simpa using hall ⟨9, .data⟩ (by rw [← ho]; simp) rfl
      have f9 : gt a 154 = .int .i64 0 := hI.val 9 _ rfl e9
      unfold gt at f9
      clear hall
      clear ho
      have HCT := Go.Lib.hid (num_any 0 w')
      refine wpOp_step (o := _) rfl (fun K' hK' => ?_)
      go_simp
      refine HCT.out.mono ?_
      rintro e w3 ⟨rfl, rfl⟩
      exact hK' _ _ (hI.put 10 rfl (by decide) HND.out HLS.out (Ch.refl _ _) rfl (hI.wld.step 10 (by decide) (by decide) (Ch.refl _ _)))
    · have q29 := (hI.fixed 29 (by simp)).trans F29.out
      unfold gt at q29
      clear hall
      refine wpOp_step (o := _) rfl (fun K' hK' => ?_)
      go_simp
      exact hK' _ _ (hI.put 11 rfl (by decide) HND.out HLS.out (Ch.refl _ _) rfl (hI.wld.step 11 (by decide) (by decide) (Ch.refl _ _)))
    · simp at ho
      have e10 : lg L 10 = true := by unfold lg; simpa using hall ⟨10, .data⟩ (by rw [← ho]; simp) rfl
      have f10 : gt a 155 = .int .i64 0 := hI.val 10 _ rfl e10
      have e11 : lg L 11 = true := by unfold lg; simpa using hall ⟨11, .data⟩ (by rw [← ho]; simp) rfl
      have f11 : gt a 156 = .int .i64 0 := hI.val 11 _ rfl e11
      unfold gt at f10 f11
      clear hall
      clear ho
      refine wpOp_step (o := _) rfl (fun K' hK' => ?_)
      go_simp
      exact hK' _ _ (hI.put 12 rfl (by decide) HND.out HLS.out (Ch.refl _ _) rfl (hI.wld.step 12 (by decide) (by decide) (Ch.refl _ _)))
    · simp at ho
      have e8 : lg L 8 = true := by unfold lg; simpa using hall ⟨8, .data⟩ (by rw [← ho]; simp) rfl
      have f8 : gt a 153 = .agg #[.slice q n d, .bool false] := hI.val 8 _ rfl e8
      have q6 := (hI.fixed 6 (by simp)).trans F6.out
      have hrow := hI.wld.before hun
      have hcl0 := (cell_of_heap hrow 0).trans rfl
      have hcl1 := (cell_of_heap hrow 1).trans rfl
      have hfz0 := frozen_of_heap hrow 0
      have hfz1 := frozen_of_heap hrow 1
      unfold gt at f8 q6
      clear hall
      clear ho
      refine wpOp_step (o := _) rfl (fun K' hK' => ?_)
      clear hrow
      go_simp
      exact hK' _ _ (hI.skipX 13 (Nat.le_refl 13) (by rw [hI.wld.size]; decide) (fun k p hp hl h => by
        have hk13 : k < 13 := (List.getElem?_eq_some_iff.1 hp).1
        obtain rfl | rfl | rfl | rfl | rfl | rfl | rfl | rfl | rfl | rfl | rfl | rfl | rfl : k = 0 ∨ k = 1 ∨ k = 2 ∨ k = 3 ∨ k = 4 ∨ k = 5 ∨ k = 6 ∨ k = 7 ∨ k = 8 ∨ k = 9 ∨ k = 10 ∨ k = 11 ∨ k = 12 := by omega
        all_goals (cases hp; exact h)) (hI.wld.store (by decide) hun))
  · intro L a w' hI hal
    have hfr := hI.frame HSZ.out (by simp) (fun i hi => hal i (by have h10 : i < 13 := hi; omega))
    have k0 : gt a 145 = .pointer (some ⟨A, 0, none⟩) := hI.val 0 _ rfl (hal 0 (by decide))
    have k1 : gt a 146 = .slice q n d := hI.val 1 _ rfl (hal 1 (by decide))
    have k2 : gt a 147 = .pointer (some ⟨A, 1, none⟩) := hI.val 2 _ rfl (hal 2 (by decide))
    have k3 : gt a 148 = .bool false := hI.val 3 _ rfl (hal 3 (by decide))
    have k4 : gt a 149 = .bool false := hI.val 4 _ rfl (hal 4 (by decide))
    have k5 : gt a 150 = .int .i64 0 := hI.val 5 _ rfl (hal 5 (by decide))
    have k6 : gt a 151 = .bool false := hI.val 6 _ rfl (hal 6 (by decide))
    have k7 : gt a 152 = .bool false := hI.val 7 _ rfl (hal 7 (by decide))
    have k8 : gt a 153 = .agg #[.slice q n d, .bool false] := hI.val 8 _ rfl (hal 8 (by decide))
    have k9 : gt a 154 = .int .i64 0 := hI.val 9 _ rfl (hal 9 (by decide))
    have k10 : gt a 155 = .int .i64 0 := hI.val 10 _ rfl (hal 10 (by decide))
    have k11 : gt a 156 = .int .i64 0 := hI.val 11 _ rfl (hal 11 (by decide))
    have k12 : gt a 157 = .bool true := hI.val 12 _ rfl (hal 12 (by decide))
    rw [hfr, ← HAX.out]
    have HWB := Go.Lib.hid (hI.wld.behind (hal 13 (by decide))); have HWC := Go.Lib.hid hI.wld.ch
    simp only [List.map_cons, List.map_nil, List.foldl_cons, List.foldl_nil, k0, k1, k2, k3, k4, k5, k6, k7, k8, k9, k10, k11, k12, List.setIfInBounds_toArray, List.set_cons_succ, List.set_cons_zero]
    clear hfr hI hal k0 k1 k2 k3 k4 k5 k6 k7 k8 k9 k10 k11 k12 HSZ HND HLS HAX F4 F6 F29 F30
    simp only [List.drop_succ_cons, List.drop_zero]
    go_wp2_with fail
    have hss := HSS.out; have hxo := HR2.out.old; have hxo2 := HXO.out; have hae := HAE.out
    refine bodyPost_ret (res20 w' C q n d false _ HWB.out _ rfl rfl) rfl ?_
    exact ⟨HC2.out.then HWC.out (fun i hi e => by have e' : i = C := e; omega), n, f, false, q, d, p2, c2, Nat.le_refl _, rfl, HR2.out.ch HWC.out (show ¬ r = C by omega) (show ¬ x0 = C by omega), HB3.out.but2 HWC.out HY.out (fun _ => show ¬ y0 = C by have := HYO.out; omega), HY.out⟩
/-- ask, whatever is asked. -/
theorem ask_any (r x0 y0 : Nat) (p q : Option Addr) (n c d : Nat) (f : Nat → UInt8) (bad : Bool) (K most : Int) (w : World) (hr : RdAt w r x0 p n c f bad) (hq : BytesAt w q n d f) (hy : ∀ ad, q = some ad → ad.block = y0) (hyr : y0 ≠ r) (hyo : y0 < w.heap.size) (hn : n ≤ 1000000000000) :
    Calls Try.prog 20 #[.pointer (some ⟨r, 0, none⟩), .agg #[.slice q n d, .bool bad], .agg #[.int .i64 K, .int .i64 most]] w (AskTold r x0 y0 n w) := by
  by_cases h0 : K = 0
  · subst h0; exact askedN r x0 y0 p q n c d f bad most w hr hq hy hyr hyo hn
  by_cases h1 : K = 1
  · subst h1; exact askedB r x0 y0 p q n c d f bad most w hr hq hy hyr hyo hn
  by_cases h2 : K = 2
  · subst h2; exact askedH r x0 y0 p q n c d f bad most w hr hq hy hyr hyo hn
  by_cases h3 : K = 3
  · subst h3; exact askedS r x0 y0 p q n c d f bad most w hr hq hy hyr hyo hn
  cases bad with
  | true => exact askedE1 r x0 y0 p q n c d f K most h0 h1 h2 h3 w hr hq hy hyr hyo hn
  | false =>
    by_cases hn0 : n = 0
    · exact askedE3 r x0 y0 p q n c d f K most h0 h1 h2 h3 w hr hq hy hyr hyo hn hn0
    · exact askedE2 r x0 y0 p q n c d f K most h0 h1 h2 h3 w hr hq hy hyr hyo hn (by omega)
end Go.Proofs.Ytljllfdigfojdaa
