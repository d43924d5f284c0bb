/- Split, where it tells a frame or a wrong sum. -/
import Derived.Test.YtljllfdigfojdaaV12
import Derived.Test.YtljllfdigfojdaaRegS
namespace Go.Proofs.Ytljllfdigfojdaa
open Go Go.RowKit

set_option maxRecDepth 100000 in
set_option maxHeartbeats 1000000 in
theorem split_got (p : Option Addr) (n c x0 : Nat) (f : Nat → UInt8) (w : World) (hb : BytesAt w p n c f) (hx0 : x0 < w.heap.size) (hblk : ∀ ad, p = some ad → ad.block = x0) (m k : Nat) (ho : outS f n = .got (m + 4) k) (hn : n ≤ 1000000000) :
    Calls Try.prog 30 #[.slice p n c] w fun e w' => Ch (fun _ => False) w w' ∧ k + (m + 4) ≤ n ∧
      (((bL (sealF (fun j => f (k + j)) m) (m + 4) == bL (fun j => f (k + j)) (m + 4)) = false ∧ e = .returned (.tuple #[.slice none 0 0, .int .i64 0, .int .i64 130])) ∨
       ((bL (sealF (fun j => f (k + j)) m) (m + 4) == bL (fun j => f (k + j)) (m + 4)) = true ∧ ∃ h cur, e = .returned (.tuple #[.slice (some ⟨h, 0, none⟩) m m, .int .i64 ((k + (m + 4) : Nat) : Int), .int .i64 0]) ∧ w.heap.size ≤ h ∧ w'.heap[h]? = some (.cells cur 5) ∧ ∀ j, j < m → cur[j]? = some (.int .u8 ((f (k + j)).toNat : Int)))) := by
  have HV := Go.Lib.hid (show m ≤ 8192 ∧ k + (m + 4) ≤ n from by
    unfold outS at ho
    cases hr : rdN f n with
    | lack => rw [hr] at ho; cases ho
    | wrong => rw [hr] at ho; cases ho
    | got a b =>
      rw [hr] at ho
      simp only at ho
      split at ho
      · cases ho
      · split at ho
        · cases ho
        · cases ho; omega)
  have HB := Go.Lib.hid hb; have HBL := Go.Lib.hid hblk; have HO := Go.Lib.hid ho
  clear hb hblk ho
  go_enter Try.func30, Try.ntmps30
  go_wp2_with fail
  generalize hW3 : World.alloc (World.alloc w _) _ = W3
  have hA : W3.heap[w.heap.size]? = some (.cells #[.slice p n c] 57) := by
    rw [← hW3]
    exact ((Ch.refl (fun _ => False) (w.alloc _)).alloc _).heap (World.alloc_heap_new w _) id
  have hB : W3.heap[w.heap.size + 1]? = some (.cells #[.slice none 0 0] 27) := by
    rw [← hW3, ← World.size_alloc w (.cells #[.slice p n c] 57)]
    exact World.alloc_heap_new _ _
  have hc3 : Ch (fun _ => False) w W3 := by rw [← hW3]; exact ((Ch.refl _ w).alloc _).alloc _
  have hs3 : w.heap.size + 2 = W3.heap.size := by rw [← hW3]; simp
  clear hW3
  have hca : Ch (fun _ => False) W3 (W3.alloc (.cells #[.int .i64 0] 127)) := (Ch.refl _ W3).alloc _
  have hcw := hc3.trans hca
  have HT := Go.Lib.hid (tried70 _ _ W3 _ (split1_any w.heap.size x0 (w.heap.size + 1) p n c f (W3.alloc (.cells #[.int .i64 0] 127)) ⟨hca.heap hA id, HB.out.but hcw HBL.out id, by omega, HBL.out⟩ (hca.heap hB id) (by omega))
    (fun e w' hpc => by
      refine ⟨?_, hpc.1.heap (World.alloc_heap_new W3 _) (by omega)⟩
      have h := hpc.2
      rw [HO.out] at h
      exact .inl h.1))
  have HC3 := Go.Lib.hid hc3
  have HD := Go.Lib.hid hs3
  clear hA hB hca hcw
  refine HT.out.mono ?_
  rintro e w' ⟨e1, w1, tv, hpc, htold, rfl, rfl⟩
  have hcD : Ch (fun q => q = W3.heap.size) w1 (w1.setCell ⟨W3.heap.size, 0, none⟩ (.int .i64 tv)) := Ch.setCell (S := fun q => q = W3.heap.size) (Ch.refl _ w1) (p := ⟨W3.heap.size, 0, none⟩) (fun _ => rfl) _
  have hcx : Ch (fun _ => False) w (w1.setCell ⟨W3.heap.size, 0, none⟩ (.int .i64 tv)) := ((hc3.alloc _).then hpc.1 (fun i hi e => by omega)).then hcD (fun i hi e => by omega)
  have HCX := Go.Lib.hid hcx
  have HPC := Go.Lib.hid hpc.2; have HTO := Go.Lib.hid htold
  rw [HO.out] at HPC
  obtain rfl : tv = 0 := by
    have h := HPC.out.1
    rcases HTO.out with ⟨h1, h2⟩ | ⟨h1, h2⟩ | ⟨h1, h2⟩
    all_goals first | exact h2 | (rw [h] at h1; cases h1)
  obtain ⟨_, hkv, ⟨p1, c1, hsx, hsb, hsblk⟩, p2, c2, hl2⟩ := HPC.out
  have hd := HD.out
  have hsx2 := hcD.heap hsx (show ¬ w.heap.size + 1 = W3.heap.size by omega)
  have hsb2 := hsb.but hcD hsblk (show ¬ x0 = W3.heap.size by omega)
  have hlx2 := hl2.ch hcD (show ¬ w.heap.size = W3.heap.size by omega) (show ¬ x0 = W3.heap.size by omega)
  have HSX := Go.Lib.hid hsx2; have HSB := Go.Lib.hid hsb2; have HLX := Go.Lib.hid hlx2
  clear hpc htold hcD hcx HT hc3 hs3 hsx hsb hl2 hsx2 hsb2 hlx2 HPC HTO hsblk hd
  generalize w1.setCell ⟨W3.heap.size, 0, none⟩ (.int .i64 0) = WX at *
  obtain ⟨h8, _⟩ := HV.out
  have HKV := Go.Lib.hid hkv
  have hcs : WX.cell? ⟨w.heap.size + 1, 0, none⟩ = some (.slice p1 (m + 4) c1) := (cell_of_heap HSX.out 0).trans rfl
  obtain ⟨x, y, rfl, hnc, hx, hbb⟩ : ∃ x y, p1 = some ⟨x, y, none⟩ ∧ m + 4 ≤ c1 ∧ x < WX.heap.size ∧ ∀ j, j < m + 4 → WX.cell? ⟨x, y + j, none⟩ = some (.int .u8 ((f (k + j)).toNat : Int)) := by
    rcases HSB.out with ⟨x, y, h1, h2, h3, h4⟩ | ⟨h1, _⟩
    · exact ⟨x, y, h1, h2, h3, h4⟩
    · omega
  have HOP := Go.Lib.hid (open_long x y m c1 (fun j => f (k + j)) WX (by omega) hnc hx hbb)
  clear hkv hbb hnc hx HO HSB HSX h8 HV
  go_wp2_with fail
  refine HOP.out.mono ?_
  rintro e w2 ⟨hc2, ⟨hf, rfl⟩ | ⟨ht, h, cur, rfl, hh, hrow, hcur⟩⟩
  · have HC2 := Go.Lib.hid (HCX.out.trans hc2); have HF := Go.Lib.hid hf
    clear hc2 hf
    go_wp2_with fail
    refine bodyPost_ret (v := .tuple #[.slice none 0 0, .int .i64 0, .int .i64 130]) (by simp [results, Try.results30, go_sem]) rfl ⟨HC2.out, HKV.out, .inl ⟨HF.out, rfl⟩⟩
  · have HC2 := Go.Lib.hid (HCX.out.trans hc2); have HT := Go.Lib.hid ht; have HRW := Go.Lib.hid hrow; have HCU := Go.Lib.hid hcur
    have HH := Go.Lib.hid (show w.heap.size ≤ h from Nat.le_trans HCX.out.size hh)
    have HLC := Go.Lib.hid (show w2.cell? ⟨w.heap.size, 0, none⟩ = some (.slice p2 (n - (k + (m + 4))) c2) from (cell_of_heap (hc2.heap HLX.out.row id) 0).trans rfl)
    have hsub : ((n : Nat) : Int) - ((n - (k + (m + 4)) : Nat) : Int) = ((k + (m + 4) : Nat) : Int) := by have := HKV.out; omega
    have hkv2 := HKV.out
    have hw64 : IntKind.i64.wrap (((n : Nat) : Int) - ((n - (k + (m + 4)) : Nat) : Int)) = ((k + (m + 4) : Nat) : Int) := by rw [hsub]; simp [IntKind.wrap, IntKind.bits, IntKind.signed]; omega
    clear hc2 ht hrow hcur hh HLX HOP hsub hkv2
    generalize n - (k + (m + 4)) = rest at *
    have HKV2 := Go.Lib.hid HKV.out
    generalize hkk : k + (m + 4) = kk at *
    have HKK := Go.Lib.hid hkk
    clear hkk
    go_upto_region 11 with (fail)
    generalize hax : Act.mk _ _ = ax
    have HSZ := Go.Lib.hid (show ax.tmps.size = 28 by rw [← hax]; rfl)
    have F0 := Go.Lib.hid (show gt ax 0 = .slice p n c by rw [← hax]; rfl)
    have F2 := Go.Lib.hid (show gt ax 2 = .slice (some ⟨h, 0, none⟩) m m by rw [← hax]; rfl)
    have F5 := Go.Lib.hid (show gt ax 5 = .pointer (some ⟨w.heap.size, 0, none⟩) by rw [← hax]; rfl)
    have HAX := Go.Lib.hid hax
    clear hax
    have HND := Go.Lib.hid (show ([22, 23, 24, 25, 26, 27, 3] : List Nat).Nodup by decide)
    have HN1 := Go.Lib.hid (show ([0, 1, 2, 3, 4, 5, 7] : List Nat).Nodup by decide)
    have HLS : Hid (LastsS (fun _ => False) [(0, 22, fun x _ => x = .slice (some ⟨h, 0, none⟩) m m), (1, 23, fun x _ => x = .slice p n c), (2, 24, fun x _ => x = .int .i64 (n : Int)), (3, 25, fun x _ => x = .slice p2 rest c2), (4, 26, fun x _ => x = .int .i64 (rest : Int)), (5, 27, fun x _ => x = .int .i64 (kk : Int)), (7, 3, fun x _ => x = .int .i64 (kk : Int))]) := Go.Lib.hid (by
      intro q hq v w1 w2 hc h
      simp only [List.mem_cons, List.not_mem_nil, or_false] at hq
      rcases hq with rfl | rfl | rfl | rfl | rfl | rfl | rfl
      all_goals first | exact h | (obtain ⟨g, h1, h2⟩ := h; exact ⟨g, h1, hc.heap h2 id⟩) | (obtain ⟨g, c, h1, h2⟩ := h; exact ⟨g, c, h1, h2.ch hc (fun _ _ h => h)⟩))
    refine wp_region_open_tail 8 (InvS 28 9 (fun _ => False) [(0, 22, fun x _ => x = .slice (some ⟨h, 0, none⟩) m m), (1, 23, fun x _ => x = .slice p n c), (2, 24, fun x _ => x = .int .i64 (n : Int)), (3, 25, fun x _ => x = .slice p2 rest c2), (4, 26, fun x _ => x = .int .i64 (rest : Int)), (5, 27, fun x _ => x = .int .i64 (kk : Int)), (7, 3, fun x _ => x = .int .i64 (kk : Int))] (fun _ w' => Ch (fun _ => False) w2 w') ax) (by kernel_rfl) (by kernel_rfl) (InvS.start HSZ.out ((Ch.refl _ _).drew)) ?_ ?_
    · intro L a w' i hI hr hlt
      obtain ⟨h1, o, ho, hall⟩ := mem_ready.1 hr
      have hun : lg L i = false := by
        have h2 : i < L.size := by rw [hI.lsize]; omega
        unfold lg; simp [h2] at h1 ⊢; exact h1
      have hsplit : i = 0 ∨ i = 1 ∨ i = 2 ∨ i = 3 ∨ i = 4 ∨ i = 5 ∨ i = 6 ∨ i = 7 := by omega
      clear hlt h1 hr
      rcases hsplit with rfl | rfl | rfl | rfl | rfl | rfl | rfl | rfl
      · have q2 := (hI.fixed 2 (by simp)).trans F2.out
        unfold gt at q2
        clear hall
        refine wpOp_step (o := _) rfl (fun K' hK' => ?_)
        go_simp
        exact hK' _ _ (hI.put 0 rfl (by decide) (by decide) HND.out HN1.out HLS.out (Ch.refl _ _) rfl (hI.wld.trans (Ch.refl _ _)))
      · have q0 := (hI.fixed 0 (by simp)).trans F0.out
        unfold gt at q0
        clear hall
        refine wpOp_step (o := _) rfl (fun K' hK' => ?_)
        go_simp
        exact hK' _ _ (hI.put 1 rfl (by decide) (by decide) HND.out HN1.out HLS.out (Ch.refl _ _) rfl (hI.wld.trans (Ch.refl _ _)))
      · simp at ho
        have e1 : lg L 1 = true := by unfold lg; simpa using hall ⟨1, .data⟩ (by rw [← ho]; simp) rfl
        have f1 : gt a 23 = .slice p n c := hI.val 1 _ rfl e1
        unfold gt at f1
        clear hall
        clear ho
        refine wpOp_step (o := _) rfl (fun K' hK' => ?_)
        go_simp
        exact hK' _ _ (hI.put 2 rfl (by decide) (by decide) HND.out HN1.out HLS.out (Ch.refl _ _) rfl (hI.wld.trans (Ch.refl _ _)))
      · have q5 := (hI.fixed 5 (by simp)).trans F5.out
        have hcl := hI.wld.get HLC.out id
        unfold gt at q5
        clear hall
        refine wpOp_step (o := _) rfl (fun K' hK' => ?_)
        go_simp
        exact hK' _ _ (hI.put 3 rfl (by decide) (by decide) HND.out HN1.out HLS.out (Ch.refl _ _) rfl (hI.wld.trans (Ch.refl _ _)))
      · simp at ho
        have e3 : lg L 3 = true := by unfold lg; simpa using hall ⟨3, .data⟩ (by rw [← ho]; simp) rfl
        have f3 : gt a 25 = .slice p2 rest c2 := hI.val 3 _ rfl e3
        unfold gt at f3
        clear hall
        clear ho
        refine wpOp_step (o := _) rfl (fun K' hK' => ?_)
        go_simp
        exact hK' _ _ (hI.put 4 rfl (by decide) (by decide) HND.out HN1.out HLS.out (Ch.refl _ _) rfl (hI.wld.trans (Ch.refl _ _)))
      · simp at ho
        have e2 : lg L 2 = true := by unfold lg; simpa using hall ⟨2, .data⟩ (by rw [← ho]; simp) rfl
        have f2 : gt a 24 = .int .i64 (n : Int) := hI.val 2 _ rfl e2
        have e4 : lg L 4 = true := by unfold lg; simpa using hall ⟨4, .data⟩ (by rw [← ho]; simp) rfl
        have f4 : gt a 26 = .int .i64 (rest : Int) := hI.val 4 _ rfl e4
        unfold gt at f2 f4
        clear hall
        clear ho
        refine wpOp_step (o := _) rfl (fun K' hK' => ?_)
        go_simp
        exact hK' _ _ (hI.put 5 rfl (by decide) (by decide) HND.out HN1.out HLS.out (Ch.refl _ _) rfl (hI.wld.trans (Ch.refl _ _)))
      · simp at ho
        have e0 : lg L 0 = true := by unfold lg; simpa using hall ⟨0, .data⟩ (by rw [← ho]; simp) rfl
        have f0 : gt a 22 = .slice (some ⟨h, 0, none⟩) m m := hI.val 0 _ rfl e0
        unfold gt at f0
        clear hall
        clear ho
        refine wpOp_step (o := _) rfl (fun K' hK' => ?_)
        go_simp
        exact hK' _ _ (hI.same 6 (by decide) (by simp) (by decide) (by simp) F2.out (hI.wld.trans (Ch.refl _ _)))
      · simp at ho
        have e5 : lg L 5 = true := by unfold lg; simpa using hall ⟨5, .data⟩ (by rw [← ho]; simp) rfl
        have f5 : gt a 27 = .int .i64 (kk : Int) := hI.val 5 _ rfl e5
        unfold gt at f5
        clear hall
        clear ho
        refine wpOp_step (o := _) rfl (fun K' hK' => ?_)
        go_simp
        exact hK' _ _ (hI.put 6 rfl (by decide) (by decide) HND.out HN1.out HLS.out (Ch.refl _ _) rfl (hI.wld.trans (Ch.refl _ _)))
    · intro L a w' hI hal
      have hfr := hI.frame HSZ.out (by simp)
      have k0 : gt a 22 = .slice (some ⟨h, 0, none⟩) m m := hI.val 0 _ rfl (hal 0 (by decide))
      have k1 : gt a 23 = .slice p n c := hI.val 1 _ rfl (hal 1 (by decide))
      have k2 : gt a 24 = .int .i64 (n : Int) := hI.val 2 _ rfl (hal 2 (by decide))
      have k3 : gt a 25 = .slice p2 rest c2 := hI.val 3 _ rfl (hal 3 (by decide))
      have k4 : gt a 26 = .int .i64 (rest : Int) := hI.val 4 _ rfl (hal 4 (by decide))
      have k5 : gt a 27 = .int .i64 (kk : Int) := hI.val 5 _ rfl (hal 5 (by decide))
      have k7 : gt a 3 = .int .i64 (kk : Int) := hI.val 6 _ rfl (hal 7 (by decide))
      rw [hfr, ← HAX.out]
      have HCR := Go.Lib.hid hI.wld
      simp only [List.map_cons, List.map_nil, List.foldl_cons, List.foldl_nil, k0, k1, k2, k3, k4, k5, k7, List.setIfInBounds_toArray, List.set_cons_succ, List.set_cons_zero]
      clear hfr hI hal k0 k1 k2 k3 k4 k5 k7  HSZ HND HN1 HLS HAX F0 F2 F5
      simp only [List.drop_succ_cons, List.drop_zero]
      have HCZ := Go.Lib.hid (HC2.out.trans HCR.out); have hrz := HCR.out.heap HRW.out id
      go_wp2_with fail
      refine bodyPost_ret (v := .tuple #[.slice (some ⟨h, 0, none⟩) m m, .int .i64 (kk : Int), .int .i64 0]) (by simp [results, Try.results30, go_sem]) rfl ⟨HCZ.out, by rw [HKK.out]; exact HKV.out, .inr ⟨HT.out, h, cur, by rw [HKK.out], HH.out, hrz, HCU.out⟩⟩
end Go.Proofs.Ytljllfdigfojdaa
