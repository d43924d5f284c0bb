/- ask: a number, by both. -/
import Derived.Test.YtljllfdigfojdaaV18
namespace Go.Proofs.Ytljllfdigfojdaa
open Go Go.RowKit

theorem BytesAt.but2 {w w' : World} {p : Option Addr} {n c : Nat} {f : Nat → UInt8} {S : Nat → Prop} (h : BytesAt w p n c f) (hc : Ch S w w') {x0 : Nat} (hb : ∀ ad, p = some ad → ad.block = x0) (hs : n ≠ 0 → ¬ S x0) : BytesAt w' p n c f := by
  rcases h with ⟨x, y, rfl, h2, h4, h3⟩ | h
  · obtain rfl : x = x0 := hb _ rfl
    exact .inl ⟨x, y, rfl, h2, Nat.lt_of_lt_of_le h4 hc.size, fun j hj => hc.get (h3 j hj) (hs (by omega))⟩
  · exact .inr h
set_option maxRecDepth 100000 in
set_option maxHeartbeats 4000000 in
theorem ask0_any (r x0 y0 : Nat) (p q : Option Addr) (n c d : Nat) (f : Nat → UInt8) (most : Int) (w : World) (hr : RdAt w r x0 p n c f false) (hq : BytesAt w q n d f) (hy : ∀ ad, q = some ad → ad.block = y0) (hyr : n ≠ 0 → y0 ≠ r) (hyo : n ≠ 0 → y0 < w.heap.size) (hn : n ≤ 1000000000000) :
    Calls Try.prog 20 #[.pointer (some ⟨r, 0, none⟩), .agg #[.slice q n d, .bool false], .agg #[.int .i64 0, .int .i64 most]] w fun e w' => Ch (fun q => q = r) w w' ∧ ∃ q' d', e = .returned (.tuple #[.agg #[.slice q' (n - (askN most f n).k) d', .bool (askN most f n).bad], .bool true]) ∧
      (∃ p' c', RdAt w' r x0 p' (n - (askN most f n).k) c' (fun j => f ((askN most f n).k + j)) (askN most f n).bad) ∧ BytesAt w' q' (n - (askN most f n).k) d' (fun j => f ((askN most f n).k + j)) ∧ (∀ ad, q' = some ad → ad.block = y0) ∧ (askN most f n).k ≤ n := by
  have HR := Go.Lib.hid hr; have HQ := Go.Lib.hid hq; have HY := Go.Lib.hid hy; have HYR := Go.Lib.hid hyr; have HYO := Go.Lib.hid hyo
  have HRR := Go.Lib.hid (fun W (hc : Ch (fun _ => False) w W) => rrAsk q n d y0 f most W (hq.ch hc (fun _ _ => id)) hy hn)
  have HRA := Go.Lib.hid (fun W (hc : Ch (fun _ => False) w W) => rAsk r x0 p n c f most W (hr.ch hc id id))
  have HRL := Go.Lib.hid (row_lt hr.row)
  clear hr hq hy hyr hyo
  generalize askN most f n = A at *
  obtain ⟨av, ano, ak, ab⟩ := A
  simp only at HRR HRA ⊢
  generalize hm : n - ak = m at *
  have HMN := Go.Lib.hid (show m ≠ 0 → n ≠ 0 by omega)
  clear hm
  generalize hff : (fun j => f (ak + j)) = f2 at *
  clear hff
  go_enter Try.func20, Try.ntmps20
  go_wp2_with fail
  have hc1 : Ch (fun _ => False) w (((w.alloc (.cells #[.slice q n d, .bool false] 51)).alloc (.cells #[.int .i64 0, .int .i64 most] 55)).alloc (.cells #[.slice none 0 0, .bool false] 51)) := (((Ch.refl _ w).alloc _).alloc _).alloc _
  refine (HRR.out _ hc1).mono ?_
  rintro e w1 ⟨hc2, q2, d2, rfl, hb2, hblk2⟩
  have hB0 : (((w.alloc (.cells #[.slice q n d, .bool false] 51)).alloc (.cells #[.int .i64 0, .int .i64 most] 55)).alloc (.cells #[.slice none 0 0, .bool false] 51)).heap[w.heap.size + 1]? = some (.cells #[.int .i64 0, .int .i64 most] 55) := by
    rw [← World.size_alloc w (.cells #[.slice q n d, .bool false] 51)]
    exact ((Ch.refl (fun _ => False) _).alloc _).heap (World.alloc_heap_new _ _) id
  have hC0 : (((w.alloc (.cells #[.slice q n d, .bool false] 51)).alloc (.cells #[.int .i64 0, .int .i64 most] 55)).alloc (.cells #[.slice none 0 0, .bool false] 51)).heap[w.heap.size + 1 + 1]? = some (.cells #[.slice none 0 0, .bool false] 51) := by
    rw [← World.size_alloc w (.cells #[.slice q n d, .bool false] 51), ← World.size_alloc (w.alloc _) (.cells #[.int .i64 0, .int .i64 most] 55)]
    exact World.alloc_heap_new _ _
  have hs0 : w.heap.size + 3 ≤ w1.heap.size := by have := hc2.size; simp at this; omega
  have hB1 := hc2.heap hB0 id; have hC1 := hc2.heap hC0 id
  have hm1 : (w1.alloc (.cells #[.slice q2 m d2, .bool ab] 51)).cell? ⟨w.heap.size + 1, 1, none⟩ = some (.int .i64 most) := ((Ch.refl (fun _ => False) w1).alloc _).get ((cell_of_heap hB1 1).trans rfl) id
  have HC1 := Go.Lib.hid (hc1.trans hc2); have HCC := Go.Lib.hid hC1; have HS0 := Go.Lib.hid hs0; have HB2 := Go.Lib.hid hb2; have HBL := Go.Lib.hid hblk2
  clear hc1 hc2 hB0 hC0 hB1 hC1 hs0 hb2 hblk2
  go_wp2_with fail
  have hal : Ch (fun _ => False) w1 (w1.alloc (.cells #[.slice q2 m d2, .bool ab] 51)) := (Ch.refl _ w1).alloc _
  refine (HRA.out _ (HC1.out.trans hal)).mono ?_
  rintro e w2 ⟨hc3, rfl, hk, p2, c2, hr2⟩
  have hrl := HRL.out; have hs0 := HS0.out
  have hD2 : w2.heap[w1.heap.size]? = some (.cells #[.slice q2 m d2, .bool ab] 51) := hc3.heap (World.alloc_heap_new w1 _) (show ¬ w1.heap.size = r by omega)
  have hC2 : w2.heap[w.heap.size + 1 + 1]? = some (.cells #[.slice none 0 0, .bool false] 51) := hc3.heap (hal.heap HCC.out id) (show ¬ w.heap.size + 1 + 1 = r by omega)
  have HC2 := Go.Lib.hid (show Ch (fun q => q = r) w w2 from ((HC1.out.trans hal).mono (fun _ _ e => e.elim)).trans hc3)
  have HB3 := Go.Lib.hid (show BytesAt w2 q2 m d2 f2 from (HB2.out.ch hal (fun _ _ => id)).but2 hc3 HBL.out (fun h => HYR.out (HMN.out h)))
  have HR2 := Go.Lib.hid hr2; have HK := Go.Lib.hid hk
  have HD2 := Go.Lib.hid hD2; have HC2C := Go.Lib.hid hC2
  have HDC := Go.Lib.hid (show ¬ w1.heap.size = w.heap.size + 1 + 1 by omega); have HSS := Go.Lib.hid (show w.heap.size ≤ w.heap.size + 1 + 1 ∧ r < w.heap.size from ⟨by omega, hrl⟩)
  clear hal hc3 hk hr2 hrl hs0 hD2 hC2 HC1 HCC HS0 HB2 HRA HRR hm1
  generalize w.heap.size + 1 + 1 = C at *
  generalize w1.heap.size = D at *
  go_upto_region 5 with (fail)
  generalize hax : Act.mk _ _ = ax
  have HSZ := Go.Lib.hid (show ax.tmps.size = 158 by rw [← hax]; rfl)
  have F6 := Go.Lib.hid (show gt ax 6 = .pointer (some ⟨C, 0, none⟩) by rw [← hax]; rfl)
  have F8 := Go.Lib.hid (show gt ax 8 = .pointer (some ⟨D, 0, none⟩) by rw [← hax]; rfl)
  have F9 := Go.Lib.hid (show gt ax 9 = .int .i64 av by rw [← hax]; rfl)
  have F10 := Go.Lib.hid (show gt ax 10 = .int .i64 ano by rw [← hax]; rfl)
  have F11 := Go.Lib.hid (show gt ax 11 = .int .i64 av by rw [← hax]; rfl)
  have F12 := Go.Lib.hid (show gt ax 12 = .int .i64 ano by rw [← hax]; rfl)
  have HAX := Go.Lib.hid hax
  clear hax
  have HND := Go.Lib.hid (show ([50, 51, 52, 53, 54, 55, 56, 57, 58, 59] : List Nat).Nodup by decide)
  have HLS : Hid (Lasts [(50, fun x _ => x = .agg #[.slice q2 m d2, .bool ab]), (51, fun x _ => x = .int .i64 av), (52, fun x _ => x = .int .i64 av), (53, fun x _ => x = .bool true), (54, fun x _ => x = .bool true), (55, fun x _ => x = .int .i64 ano), (56, fun x _ => x = .int .i64 ano), (57, fun x _ => x = .int .i64 ano), (58, fun x _ => x = .bool true), (59, fun x _ => x = .bool true)]) := Go.Lib.hid (by
    intro p hp v w1 w2 hc h
    simp only [List.mem_cons, List.not_mem_nil, or_false] at hp
    rcases hp with rfl | rfl | rfl | rfl | rfl | rfl | rfl | rfl | rfl | rfl
    all_goals first | exact h | (obtain ⟨g, h1, h2⟩ := h; exact ⟨g, h1, hc.heap h2 id⟩) | (obtain ⟨g, c, h1, h2⟩ := h; exact ⟨g, c, h1, h2.ch hc (fun _ _ h => h)⟩))
  refine wp_region_open_tail 11 (InvQ 158 [(50, fun x _ => x = .agg #[.slice q2 m d2, .bool ab]), (51, fun x _ => x = .int .i64 av), (52, fun x _ => x = .int .i64 av), (53, fun x _ => x = .bool true), (54, fun x _ => x = .bool true), (55, fun x _ => x = .int .i64 ano), (56, fun x _ => x = .int .i64 ano), (57, fun x _ => x = .int .i64 ano), (58, fun x _ => x = .bool true), (59, fun x _ => x = .bool true)] (IAsk w2 C 10 12 (.slice q2 m d2) ab) ax) (by kernel_rfl) (by kernel_rfl) (InvQ.start (by simp) HSZ.out (IAsk.start HC2C.out)) ?_ ?_
  · intro L a w' i hI hr hlt
    obtain ⟨h1, o, ho, hall⟩ := mem_ready.1 hr
    have hun : lg L i = false := by
      have h2 : i < L.size := Nat.lt_of_lt_of_le hlt (by rw [hI.wld.size]; decide)
      unfold lg; simp [h2] at h1 ⊢; exact h1
    have hsplit : i = 0 ∨ i = 1 ∨ i = 2 ∨ i = 3 ∨ i = 4 ∨ i = 5 ∨ i = 6 ∨ i = 7 ∨ i = 8 ∨ i = 9 ∨ i = 10 := by omega
    clear hlt h1 hr
    rcases hsplit with rfl | rfl | rfl | rfl | rfl | rfl | rfl | rfl | rfl | rfl | rfl
    · have q8 := (hI.fixed 8 (by simp)).trans F8.out
      have hD := hI.wld.ch.heap HD2.out HDC.out
      have hcl0 : w'.cell? ⟨D, 0, none⟩ = some (.slice q2 m d2) := (cell_of_heap hD 0).trans rfl
      have hcl1 : w'.cell? ⟨D, 1, none⟩ = some (.bool ab) := (cell_of_heap hD 1).trans rfl
      clear hD
      unfold gt at q8
      clear hall
      refine wpOp_step (o := _) rfl (fun K' hK' => ?_)
      go_simp
      exact hK' _ _ (hI.put 0 rfl (by decide) HND.out HLS.out (Ch.refl _ _) rfl (hI.wld.step 0 (by decide) (by decide) (Ch.refl _ _)))
    · have q11 := (hI.fixed 11 (by simp)).trans F11.out
      unfold gt at q11
      clear hall
      refine wpOp_step (o := _) rfl (fun K' hK' => ?_)
      go_simp
      exact hK' _ _ (hI.put 1 rfl (by decide) HND.out HLS.out (Ch.refl _ _) rfl (hI.wld.step 1 (by decide) (by decide) (Ch.refl _ _)))
    · have q9 := (hI.fixed 9 (by simp)).trans F9.out
      unfold gt at q9
      clear hall
      refine wpOp_step (o := _) rfl (fun K' hK' => ?_)
      go_simp
      exact hK' _ _ (hI.put 2 rfl (by decide) HND.out HLS.out (Ch.refl _ _) rfl (hI.wld.step 2 (by decide) (by decide) (Ch.refl _ _)))
    · simp at ho
      have e1 : lg L 1 = true := by unfold lg; simpa using hall ⟨1, .data⟩ (by rw [← ho]; simp) rfl
      have f1 : gt a 51 = .int .i64 av := hI.val 1 _ rfl e1
      have e2 : lg L 2 = true := by unfold lg; simpa using hall ⟨2, .data⟩ (by rw [← ho]; simp) rfl
      have f2 : gt a 52 = .int .i64 av := hI.val 2 _ rfl e2
      unfold gt at f1 f2
      clear hall
      clear ho
      refine wpOp_step (o := _) rfl (fun K' hK' => ?_)
      go_simp
      exact hK' _ _ (hI.put 3 rfl (by decide) HND.out HLS.out (Ch.refl _ _) rfl (hI.wld.step 3 (by decide) (by decide) (Ch.refl _ _)))
    · simp at ho
      have e3 : lg L 3 = true := by unfold lg; simpa using hall ⟨3, .data⟩ (by rw [← ho]; simp) rfl
      have f3 : gt a 53 = .bool true := hI.val 3 _ rfl e3
      unfold gt at f3
      clear hall
      clear ho
      refine wpOp_step (o := _) rfl (fun K' hK' => ?_)
      go_simp
      exact hK' _ _ (hI.put 4 rfl (by decide) HND.out HLS.out (Ch.refl _ _) rfl (hI.wld.step 4 (by decide) (by decide) (Ch.refl _ _)))
    · simp at ho
      have q12 := (hI.fixed 12 (by simp)).trans F12.out
      have eg : lg L 4 = true := by unfold lg; simpa using hall ⟨4, .guard⟩ (by rw [← ho]; simp) rfl
      have fg0 : gt a 54 = .bool true := hI.val 4 _ rfl eg
      have fg := guard_of fg0 (by rw [hI.size]; decide)
      clear eg fg0
      unfold gt at q12
      clear hall
      clear ho
      refine wpOp_step (o := _) rfl (fun K' hK' => ?_)
      go_simp
      exact hK' _ _ (hI.put 5 rfl (by decide) HND.out HLS.out (Ch.refl _ _) rfl (hI.wld.step 5 (by decide) (by decide) (Ch.refl _ _)))
    · simp at ho
      have e5 : lg L 5 = true := by unfold lg; simpa using hall ⟨5, .data⟩ (by rw [← ho]; simp) rfl
      have f5 : gt a 55 = .int .i64 ano := hI.val 5 _ rfl e5
      have eg : lg L 4 = true := by unfold lg; simpa using hall ⟨4, .guard⟩ (by rw [← ho]; simp) rfl
      have fg0 : gt a 54 = .bool true := hI.val 4 _ rfl eg
      have fg := guard_of fg0 (by rw [hI.size]; decide)
      clear eg fg0
      unfold gt at f5
      clear hall
      clear ho
      have HCT := Go.Lib.hid (num_any ano w')
      refine wpOp_step (o := _) rfl (fun K' hK' => ?_)
      go_simp
      refine HCT.out.mono ?_
      rintro e w3 ⟨rfl, rfl⟩
      exact hK' _ _ (hI.put 6 rfl (by decide) HND.out HLS.out (Ch.refl _ _) rfl (hI.wld.step 6 (by decide) (by decide) (Ch.refl _ _)))
    · simp at ho
      have q10 := (hI.fixed 10 (by simp)).trans F10.out
      have eg : lg L 4 = true := by unfold lg; simpa using hall ⟨4, .guard⟩ (by rw [← ho]; simp) rfl
      have fg0 : gt a 54 = .bool true := hI.val 4 _ rfl eg
      have fg := guard_of fg0 (by rw [hI.size]; decide)
      clear eg fg0
      unfold gt at q10
      clear hall
      clear ho
      refine wpOp_step (o := _) rfl (fun K' hK' => ?_)
      go_simp
      exact hK' _ _ (hI.put 7 rfl (by decide) HND.out HLS.out (Ch.refl _ _) rfl (hI.wld.step 7 (by decide) (by decide) (Ch.refl _ _)))
    · simp at ho
      have e6 : lg L 6 = true := by unfold lg; simpa using hall ⟨6, .data⟩ (by rw [← ho]; simp) rfl
      have f6 : gt a 56 = .int .i64 ano := hI.val 6 _ rfl e6
      have e7 : lg L 7 = true := by unfold lg; simpa using hall ⟨7, .data⟩ (by rw [← ho]; simp) rfl
      have f7 : gt a 57 = .int .i64 ano := hI.val 7 _ rfl e7
      have eg : lg L 4 = true := by unfold lg; simpa using hall ⟨4, .guard⟩ (by rw [← ho]; simp) rfl
      have fg0 : gt a 54 = .bool true := hI.val 4 _ rfl eg
      have fg := guard_of fg0 (by rw [hI.size]; decide)
      clear eg fg0
      unfold gt at f6 f7
      clear hall
      clear ho
      refine wpOp_step (o := _) rfl (fun K' hK' => ?_)
      go_simp
      exact hK' _ _ (hI.put 8 rfl (by decide) HND.out HLS.out (Ch.refl _ _) rfl (hI.wld.step 8 (by decide) (by decide) (Ch.refl _ _)))
    · simp at ho
      have e4 : lg L 4 = true := by unfold lg; simpa using hall ⟨4, .data⟩ (by rw [← ho]; simp) rfl
      have f4 : gt a 54 = .bool true := hI.val 4 _ rfl e4
      have e8 : lg L 8 = true := by unfold lg; simpa using hall ⟨8, .data⟩ (by rw [← ho]; simp) rfl
      have f8 : gt a 58 = .bool true := hI.val 8 _ rfl e8
      unfold gt at f4 f8
      clear hall
      clear ho
      refine wpOp_step (o := _) rfl (fun K' hK' => ?_)
      go_simp
      exact hK' _ _ (hI.put 9 rfl (by decide) HND.out HLS.out (Ch.refl _ _) rfl (hI.wld.step 9 (by decide) (by decide) (Ch.refl _ _)))
    · simp at ho
      have e0 : lg L 0 = true := by unfold lg; simpa using hall ⟨0, .data⟩ (by rw [← ho]; simp) rfl
      have f0 : gt a 50 = .agg #[.slice q2 m d2, .bool ab] := hI.val 0 _ rfl e0
      have q6 := (hI.fixed 6 (by simp)).trans F6.out
      have hrow := hI.wld.before hun
      have hcl0 := (cell_of_heap hrow 0).trans rfl
      have hcl1 := (cell_of_heap hrow 1).trans rfl
      have hfz0 := frozen_of_heap hrow 0
      have hfz1 := frozen_of_heap hrow 1
      unfold gt at f0 q6
      clear hall
      clear ho
      refine wpOp_step (o := _) rfl (fun K' hK' => ?_)
      clear hrow
      go_simp
      exact hK' _ _ (hI.skipX 10 (Nat.le_refl 10) (by rw [hI.wld.size]; decide) (fun k p hp hl h => by
        have hk10 : k < 10 := (List.getElem?_eq_some_iff.1 hp).1
        obtain rfl | rfl | rfl | rfl | rfl | rfl | rfl | rfl | rfl | rfl : k = 0 ∨ k = 1 ∨ k = 2 ∨ k = 3 ∨ k = 4 ∨ k = 5 ∨ k = 6 ∨ k = 7 ∨ k = 8 ∨ k = 9 := by omega
        all_goals (cases hp; exact h)) (hI.wld.store (by decide) hun))
  · intro L a w' hI hal
    have hfr := hI.frame HSZ.out (by simp) (fun i hi => hal i (by have h10 : i < 10 := hi; omega))
    have k0 : gt a 50 = .agg #[.slice q2 m d2, .bool ab] := hI.val 0 _ rfl (hal 0 (by decide))
    have k1 : gt a 51 = .int .i64 av := hI.val 1 _ rfl (hal 1 (by decide))
    have k2 : gt a 52 = .int .i64 av := hI.val 2 _ rfl (hal 2 (by decide))
    have k3 : gt a 53 = .bool true := hI.val 3 _ rfl (hal 3 (by decide))
    have k4 : gt a 54 = .bool true := hI.val 4 _ rfl (hal 4 (by decide))
    have k5 : gt a 55 = .int .i64 ano := hI.val 5 _ rfl (hal 5 (by decide))
    have k6 : gt a 56 = .int .i64 ano := hI.val 6 _ rfl (hal 6 (by decide))
    have k7 : gt a 57 = .int .i64 ano := hI.val 7 _ rfl (hal 7 (by decide))
    have k8 : gt a 58 = .bool true := hI.val 8 _ rfl (hal 8 (by decide))
    have k9 : gt a 59 = .bool true := hI.val 9 _ rfl (hal 9 (by decide))
    rw [hfr, ← HAX.out]
    have HWB := Go.Lib.hid (hI.wld.behind (hal 10 (by decide))); have HWC := Go.Lib.hid hI.wld.ch
    simp only [List.map_cons, List.map_nil, List.foldl_cons, List.foldl_nil, k0, k1, k2, k3, k4, k5, k6, k7, k8, k9, List.setIfInBounds_toArray, List.set_cons_succ, List.set_cons_zero]
    clear hfr hI hal k0 k1 k2 k3 k4 k5 k6 k7 k8 k9 HSZ HND HLS HAX F6 F8 F9 F10 F11 F12
    simp only [List.drop_succ_cons, List.drop_zero]
    go_wp2_with fail
    have hss := HSS.out; have hxo := HR.out.old
    refine bodyPost_ret (res20 w' C q2 m d2 ab _ HWB.out _ rfl rfl) rfl ?_
    exact ⟨HC2.out.then HWC.out (fun i hi e => by have e' : i = C := e; omega), q2, d2, rfl, ⟨p2, c2, HR2.out.ch HWC.out (show ¬ r = C by omega) (show ¬ x0 = C by omega)⟩, HB3.out.but2 HWC.out HBL.out (fun h => show ¬ y0 = C by have := HYO.out (HMN.out h); omega), HBL.out, HK.out⟩
end Go.Proofs.Ytljllfdigfojdaa
