import Derived.Test.YtdmeeghgbiffmaaDoorT18
import Derived.Test.YtdmeeghgbiffmaaDoorRegB
namespace Go.Proofs.YtdmeeghgbiffmaaDoor
open Go.RowKit

def badB (g : Nat → UInt8) (k : Nat) (c : UInt8) : List UInt8 := (List.range 64).map fun i => if i = k then c else digit (nib g i)
theorem eq_self (g : Nat → UInt8) (w : World) : (Op.equalIn 10000 31 (.agg (hv g)) (.agg (hv g))).run Tryd.prog w = .ok true w := by
  rw [eq_hv]; simp
theorem info43 : (Tryd.prog.info? 43).map (·.size) = some 3 := by kernel_rfl
theorem conv_bad {b cap : Nat} (g : Nat → UInt8) (k : Nat) (c : UInt8) {w : World} (h : ∀ j, j < 64 → w.cell? ⟨b, j, none⟩ = some (.int .u8 ((if j = k then c else digit (nib g j)).toNat : Int))) :
    (convert 34 9 (.slice (some ⟨b, 0, none⟩) 64 cap)).run Tryd.prog w = .ok (.string ⟨(badB g k c).toArray⟩) w := by
  have hl : (badB g k c).length = 64 := by simp [badB]
  have hc := run_convert_bytes_back (P := Tryd.prog) w 34 9 5 ⟨b, 0, none⟩ cap (badB g k c) Tryd.underlying34 Tryd.underlying5 Tryd.underlying9 (fun j hj => by
    have hj' : j < 64 := by rw [hl] at hj; exact hj
    rw [show (⟨b, 0, none⟩ : Addr).add j = ⟨b, j, none⟩ by simp [Addr.add]; omega]
    rw [h j hj']
    simp [badB])
  rw [hl] at hc
  exact hc
set_option maxRecDepth 100000 in
set_option maxHeartbeats 1000000 in
theorem hexes_in (s : ByteArray) (g : Nat → UInt8) (k : Nat) (c : UInt8) (w : World) (hK : KAt w) (hs : s.size ≤ 500) (hk : k < 64) :
    Calls Tryd.prog 7 #[.string s, .agg (hv g), .int .i64 (k : Int), .int .u8 (c.toNat : Int)] w fun e w' => e = .returned (.bool true) ∧ Ch (fun _ => False) w w' := by
  have HK := Go.Lib.hid hK
  clear hK
  have hs' : (s.size : Int) ≤ 500 := by omega
  have hk' : (k : Int) ≤ 63 := by omega
  go_enter Tryd.func7, Tryd.ntmps7
  go_wp2_with (refine wpList_load_row rfl 31 (.tmp 5) rfl w.heap.size rfl 31 _ (0, 0) _ (World.alloc_heap_new w _) Tryd.underlying31 rfl (hv_info _) ?_)
  refine (rtext_any g _).mono ?_; rintro e w1 ⟨rfl, hw1⟩; have HW1 := Go.Lib.hid hw1; have HH1 := Go.Lib.hid (hw1.heap (World.alloc_heap_new w _) id); clear hw1
  go_wp2_with fail
  rw [run_bytes_of_string (P := Tryd.prog) w1 9 34 5 (hexB g) Tryd.underlying9 Tryd.underlying34 Tryd.underlying5]
  have hz := hexB_size g
  rw [hz]
  simp only [Result.andThen]
  rw [Oper.upon_value]
  generalize hcap : grownCap w1 64 0 5 = cap
  generalize hR : bytesRow (hexB g) cap = R
  have hR64 : ∀ j, j < 64 → R[j]? = some (bv (digit (nib g j))) := fun j hj => by
    rw [← hR, bytesRow_at _ _ _ (by rw [show (hexB g).data.size = 64 from hz]; exact hj)]
    simp [hexB, hexL, bv]
  have hRs : 64 ≤ R.size := by
    have := (Array.getElem?_eq_some_iff.1 (hR64 63 (by omega))).1
    omega
  generalize hW2 : w1.drew.alloc (.cells R 5 (R.size, R.size + 1)) = W2
  have hc2 : Ch (fun _ => False) w1 W2 := by rw [← hW2]; exact ((Ch.refl _ w1).drew).alloc _
  have hcell : ∀ j, W2.cell? ⟨w1.heap.size, j, none⟩ = R[j]? := fun j => by rw [← hW2]; exact World.cell?_alloc_mark w1.drew R 5 (R.size, R.size + 1) j
  have hfr : W2.frozen? ⟨w1.heap.size, k, none⟩ = false := by
    rw [← hW2]; refine (World.frozen?_alloc_mark w1.drew R 5 R.size (R.size + 1) k).trans ?_
    simp; omega
  have hck : W2.cell? ⟨w1.heap.size, k, none⟩ = some (.int .u8 ((digit (nib g k)).toNat : Int)) := (hcell k).trans (hR64 k hk)
  have HRC := Go.Lib.hid (fun j (hj : j < 64) => (hcell j).trans (hR64 j hj))
  have HC2 := Go.Lib.hid hc2
  have hs2 : W2.heap.size = w1.heap.size + 1 := by rw [← hW2]; exact World.size_alloc w1.drew _
  clear hcell hR64 hW2 hR hcap hc2 hz hRs
  go_upto_region 5 with (fail)
  refine wp_region_any (by kernel_rfl) ?_
  have hH2 : W2.heap[w.heap.size]? = some (.cells (hv g) 31) := HC2.out.heap HH1.out id
  have hlt : w.heap.size < w1.heap.size := (Array.getElem?_eq_some_iff.1 HH1.out).1
  generalize hwx : ({ (W2.setCell ⟨w1.heap.size, k, none⟩ (.int .u8 (c.toNat : Int))) with drawn := (W2.setCell ⟨w1.heap.size, k, none⟩ (.int .u8 (c.toNat : Int))).drawn + 1 } : World) = wx
  have hc3 : Ch (fun j => j = w1.heap.size) W2 wx := by
    rw [← hwx]; exact (Ch.setCell (S := fun j => j = w1.heap.size) (Ch.refl _ W2) (p := ⟨w1.heap.size, k, none⟩) (fun _ => rfl) _).drew
  have hbx : wx.heap[w.heap.size]? = some (.cells (hv g) 31) := hc3.heap hH2 (by omega)
  have hbad : ∀ j, j < 64 → wx.cell? ⟨w1.heap.size, j, none⟩ = some (.int .u8 ((if j = k then c else digit (nib g j)).toNat : Int)) := fun j hj => by
    rw [← hwx]
    show (W2.setCell ⟨w1.heap.size, k, none⟩ (.int .u8 (c.toNat : Int))).cell? _ = _
    by_cases e : j = k
    · subst e; rw [if_pos rfl]; exact World.cell?_setCell_same _ _ _ hck
    · rw [if_neg e, World.cell?_setCell_other _ _ _ _ (fun h => e (by cases h; rfl))]; exact HRC.out j hj
  generalize hax : Act.mk _ _ = ax
  have hsz : ax.tmps.size = 76 := by rw [← hax]; rfl
  have f0 : gt ax 0 = .string s := by rw [← hax]; rfl
  have f5 : gt ax 5 = .pointer (some ⟨w.heap.size, 0, none⟩) := by rw [← hax]; rfl
  have f9 : gt ax 9 = .slice (some ⟨w1.heap.size, 0, none⟩) 64 cap := by rw [← hax]; rfl
  have hWX := Go.Lib.hid hc3; have HBX := Go.Lib.hid hbx; have HBAD := Go.Lib.hid hbad; have HSZ := Go.Lib.hid hsz; have F0 := Go.Lib.hid f0; have F5 := Go.Lib.hid f5; have F9 := Go.Lib.hid f9
  have HAX := Go.Lib.hid hax
  clear hc3 hbx hbad hsz f0 f5 f9 hax hwx hck hfr hH2
  have HCV := Go.Lib.hid (fun (w' : World) (h : Ch (fun _ => False) wx w') => conv_bad (b := w1.heap.size) (cap := cap) g k c (fun j hj => h.get (HBAD.out j hj) id))
  refine wpAny_inv (InvR ax wx (fun j => match j with | 0 => .string s | 1 => .slice (some ⟨w1.heap.size, 0, none⟩) 64 cap | 2 => .string ⟨(badB g k c).toArray⟩ | 3 => .agg (hv g) | 4 => .string (hexB g) | _ => .agg #[.string s, .string ⟨(badB g k c).toArray⟩, .string (hexB g)]) #[.string ⟨#[]⟩, .string ⟨#[]⟩, .string ⟨#[]⟩] #[.string s, .string ⟨(badB g k c).toArray⟩, .string (hexB g)]) ?_ ?_ _ _ _ _ rfl (by decide) ?_
  · intro L a w' i hI hr
    obtain ⟨h1, o, ho, hall⟩ := mem_ready.1 hr
    have hlt : i < 8 := (Array.getElem?_eq_some_iff.1 ho).1
    have hun : lg L i = false := by
      have := hI.lsize
      have h2 : i < L.size := by omega
      unfold lg; simp [h2] at h1 ⊢; exact h1
    have hsplit : i = 0 ∨ i = 1 ∨ i = 2 ∨ i = 3 ∨ i = 4 ∨ i = 5 ∨ i = 6 ∨ i = 7 := by omega
    clear hlt h1 hr
    rcases hsplit with rfl | rfl | rfl | rfl | rfl | rfl | rfl | rfl
    · refine wpOp_step (o := _) rfl (fun K' hK' => ?_)
      have f := (hI.fixed 0 (by omega) (by omega)).trans F0.out
      unfold gt at f
      go_simp
      exact hK' _ _ (hI.put 0 (by omega) (Ch.refl _ _))
    · refine wpOp_step (o := _) rfl (fun K' hK' => ?_)
      have f := (hI.fixed 9 (by omega) (by omega)).trans F9.out
      unfold gt at f
      go_simp
      exact hK' _ _ (hI.put 1 (by omega) (Ch.refl _ _))
    · refine wpOp_step (o := _) rfl (fun K' hK' => ?_)
      simp at ho
      have e := hall ⟨1, .data⟩ (by rw [← ho]; simp) rfl
      have f := hI.val 1 (by omega) (by unfold lg; simpa using e)
      have hcv := HCV.out w' hI.ch
      unfold gt at f
      clear ho hall
      go_simp
      exact hK' _ _ (hI.put 2 (by omega) (Ch.refl _ _))
    · refine wpOp_step (o := _) rfl (fun K' hK' => ?_)
      have f := (hI.fixed 5 (by omega) (by omega)).trans F5.out
      have hb := hI.ch.heap HBX.out id
      unfold gt at f
      exact wp_load_row 31 (.tmp 5) rfl w.heap.size (by simpa [Act.eval] using f) 31 (hv g) (0, 0) _ hb Tryd.underlying31 rfl (hv_info _) (hK' _ _ (hI.put 3 (by omega) (Ch.refl _ _)))
    · refine wpOp_step (o := _) rfl (fun K' hK' => ?_)
      simp at ho
      have e := hall ⟨3, .data⟩ (by rw [← ho]; simp) rfl
      have f := hI.val 3 (by omega) (by unfold lg; simpa using e)
      unfold gt at f
      clear ho hall
      have HCT := Go.Lib.hid (rtext_any g w')
      go_simp
      refine HCT.out.mono ?_
      rintro e w3 ⟨rfl, hc⟩
      exact hK' _ _ (hI.put 4 (by omega) hc)
    · refine wpOp_step (o := _) rfl (fun K' hK' => ?_)
      simp at ho
      have e0 := hall ⟨0, .data⟩ (by rw [← ho]; simp) rfl
      have e2 := hall ⟨2, .data⟩ (by rw [← ho]; simp) rfl
      have e4 := hall ⟨4, .data⟩ (by rw [← ho]; simp) rfl
      have f0 := hI.val 0 (by omega) (by unfold lg; simpa using e0)
      have f2 := hI.val 2 (by omega) (by unfold lg; simpa using e2)
      have f4 := hI.val 4 (by omega) (by unfold lg; simpa using e4)
      unfold gt at f0 f2 f4
      clear ho hall
      go_simp
      exact hK' _ _ (hI.put 5 (by omega) (Ch.refl _ _))
    · refine wpOp_step (o := _) rfl (fun K' hK' => ?_)
      clear hall
      go_simp
      exact hK' _ _ (hI.put_box hun)
    · refine wpOp_step (o := _) rfl (fun K' hK' => ?_)
      simp at ho
      have e5 := hall ⟨5, .data⟩ (by rw [← ho]; simp) rfl
      have e6 := hall ⟨6, .data⟩ (by rw [← ho]; simp) rfl
      have hb : lg L 6 = true := by unfold lg; simpa using e6
      have f5 := hI.val 5 (by omega) (by unfold lg; simpa using e5)
      obtain ⟨q, hq, hq2, hq3⟩ := hI.box hb
      have hq' := hq
      rw [hun] at hq3
      have hh : w'.heap[q]? = some (.cells #[.string ⟨#[]⟩, .string ⟨#[]⟩, .string ⟨#[]⟩] 43) := by simpa using hq3
      unfold gt at f5 hq
      clear ho hall
      refine wp_store_row 43 (.tmp 10) (.tmp 40) rfl q #[.string s, .string ⟨(badB g k c).toArray⟩, .string (hexB g)] (by simpa [Act.eval] using hq) (by simpa [Act.eval] using f5) 43 _ hh info43 rfl (by simp [Value.oneCell']) (hK' _ _ ?_)
      exact hI.put_store hb hq' (heap_setRow hh) ((Ch.refl (fun j => j = q) w').setRow (fun _ => rfl) _)
  · intro L a w' hI hr
    have hal := all_listed' (md := .any) (by kernel_rfl) hI.lsize hr
    obtain ⟨q, hq1, hq2, hfr⟩ := hI.frame HSZ.out hal
    rw [hfr, ← HAX.out]
    have HQ := Go.Lib.hid hq2
    have HCX := Go.Lib.hid hI.ch
    clear hfr hI hr hal HCV HAX HSZ F0 F5 F9
    simp only [List.setIfInBounds_toArray, List.set_cons_succ, List.set_cons_zero]
    go_wp2_with fail
    generalize hT : (fun i : Nat => match i with | 0 => s | 1 => (⟨(badB g k c).toArray⟩ : ByteArray) | _ => hexB g) = T
    have hq0 : ∀ i, i < 3 → w'.cell? ⟨q, i, none⟩ = some (.string (T i)) := fun i hi => by
      rw [cell_of_heap HQ.out, ← hT]
      match i, hi with | 0, _ => rfl | 1, _ => rfl | 2, _ => rfl
    have HT := Go.Lib.hid hq0
    clear hq0
    go_loopw [11] (fun i wr => ∃ n : Nat, n ≤ 3 ∧ i = .int .i64 n ∧ Ch (fun _ => False) w' wr) (fun i _ => 3 - (intOf i).toNat)
    case atStart => exact ⟨0, by omega, rfl, Ch.refl _ _⟩
    case round =>
      obtain ⟨n, hn, rfl, hC⟩ := hrel
      have HCr := Go.Lib.hid hC
      clear hC
      by_cases hn3 : n < 3
      · have hcell : wr.cell? ⟨q, n, none⟩ = some (.string (T n)) := HCr.out.get (HT.out n hn3) id
        have HE := Go.Lib.hid (fun W => eq_self (parsed (T n)) W)
        have HP := Go.Lib.hid (fun W => parse_any (T n) W)
        have HR := Go.Lib.hid (fun W => rparse_any (T n) W)
        have HTn := Go.Lib.hid (HT.out n hn3)
        generalize parsed (T n) = p at *
        generalize perr (T n) = pe at *
        generalize T n = tx at *
        go_wp2_with fail
        refine (HP.out _).mono ?_; rintro e w4 ⟨rfl, hw4⟩; have HC4 := Go.Lib.hid (HCr.out.trans hw4); clear hw4 hcell
        go_upto_region 10 with (refine wpList_store_row rfl 31 (.tmp 12) (.tmp 50) rfl w4.heap.size (hv p) rfl rfl 31 (arr 32 fun _ => .int .u8 0) (World.alloc_heap_new w4 _) (hv_info _) (by rw [arr_size]; exact (arr_size _ _).symm) (hv_all _) ?_)
        generalize hW5 : (w4.alloc _).setRow w4.heap.size (hv p) = W5
        have hh5 : W5.heap[w4.heap.size]? = some (.cells (hv p) 31) := by rw [← hW5]; exact heap_setRow (World.alloc_heap_new w4 _)
        have hc5 : Ch (fun _ => False) w4 W5 := by rw [← hW5]; exact ((Ch.refl _ _).alloc _).setRow (fun h => absurd h (Nat.lt_irrefl _)) _
        have HC5 := Go.Lib.hid (HC4.out.trans hc5); have HH5 := Go.Lib.hid hh5
        clear hW5 hh5 hc5
        have hcell : W5.cell? ⟨q, n, none⟩ = some (.string tx) := HC5.out.get HTn.out id
        generalize w4.heap.size = B4 at *
        go_wp2_with fail
        refine (HR.out _).mono ?_; rintro e w6 ⟨rfl, hw6⟩; have HC6 := Go.Lib.hid (HC5.out.trans hw6); have HH6 := Go.Lib.hid (hw6.heap HH5.out id); clear hw6 hcell
        go_upto_region 11 with (refine wpList_store_row rfl 31 (.tmp 14) (.tmp 57) rfl w6.heap.size (hv p) rfl rfl 31 (arr 32 fun _ => .int .u8 0) (World.alloc_heap_new w6 _) (hv_info _) (by rw [arr_size]; exact (arr_size _ _).symm) (hv_all _) ?_)
        generalize hW7 : (w6.alloc _).setRow w6.heap.size (hv p) = W7
        have hh7 : W7.heap[w6.heap.size]? = some (.cells (hv p) 31) := by rw [← hW7]; exact heap_setRow (World.alloc_heap_new w6 _)
        have hc7 : Ch (fun _ => False) w6 W7 := by rw [← hW7]; exact ((Ch.refl _ _).alloc _).setRow (fun h => absurd h (Nat.lt_irrefl _)) _
        have HC7 := Go.Lib.hid (HC6.out.trans hc7); have HH7 := Go.Lib.hid hh7; have HH8 := Go.Lib.hid (hc7.heap HH6.out id)
        clear hW7 hh7 hc7
        generalize w6.heap.size = B6 at *
        have heq := HE.out
        go_wp2_with (first | refine wpList_load_row rfl 31 (.tmp 12) rfl B4 rfl 31 _ (0, 0) _ HH8.out Tryd.underlying31 rfl (hv_info _) ?_ | refine wpList_load_row rfl 31 (.tmp 14) rfl B6 rfl 31 _ (0, 0) _ HH7.out Tryd.underlying31 rfl (hv_info _) ?_ | (go_at_call 26; refine (num26 _ _).mono ?_; rintro e w9 ⟨rfl, rfl⟩))
        go_roundw
        case rel => exact ⟨n + 1, by omega, by go_num, HC7.out⟩
        case measure => simp [intOf]; omega
      · obtain rfl : n = 3 := by omega
        have HC10 := Go.Lib.hid (HCX.out.trans HCr.out)
        go_upto_region 13 with (fail)
        have hb2 : wr.heap[w.heap.size]? = some (.cells (hv g) 31) := HC10.out.heap HBX.out id
        have hq2 : wr.cell? ⟨q, 2, none⟩ = some (.string (hexB g)) := (HCr.out.get (HT.out 2 (by omega)) id).trans (by subst hT; rfl)
        have hw0 : Ch (fun _ => False) w wr := ((((((Ch.refl (fun _ => False) w).alloc (.cells (hv g) 31)).trans (HW1.out.mono (fun _ _ h => h))).trans (HC2.out.mono (fun _ _ h => h))).then hWX.out (fun i hi h => by omega)).trans (HC10.out.mono (fun _ _ h => h)))
        have HKR := Go.Lib.hid (HK.out.ch hw0 id)
        have HB2 := Go.Lib.hid hb2; have HQ2 := Go.Lib.hid hq2; have HW0 := Go.Lib.hid hw0
        clear hb2 hq2 hw0
        refine wp_region_any (by kernel_rfl) ?_
        generalize hwy : ({ wr with drawn := wr.drawn + 1 } : World) = wy
        have hcy : Ch (fun _ => False) wr wy := by rw [← hwy]; exact (Ch.refl _ wr).drew
        have HCY := Go.Lib.hid hcy
        clear hcy hwy
        generalize hay : Act.mk _ _ = ay
        have hsz : ay.tmps.size = 76 := by rw [← hay]; rfl
        have f5 : gt ay 5 = .pointer (some ⟨w.heap.size, 0, none⟩) := by rw [← hay]; rfl
        have f10 : gt ay 10 = .pointer (some ⟨q, 0, none⟩) := by rw [← hay]; rfl
        have HSZ := Go.Lib.hid hsz; have F5 := Go.Lib.hid f5; have F10 := Go.Lib.hid f10; have HAY := Go.Lib.hid hay
        clear hsz f5 f10 hay
        refine wpAny_inv (InvS ay wy (fun j => match j with | 0 => .agg (hv g) | 1 => .string (hexB g) | 2 => .pointer (some ⟨q, 2, none⟩) | 3 => .string (hexB g) | _ => .bool true)) ?_ ?_ _ _ _ _ rfl (by decide) (InvS.start _ _ _ HSZ.out)
        · intro L a w' i hI hr
          obtain ⟨h1, o, ho, hall⟩ := mem_ready.1 hr
          have hlt : i < 9 := (Array.getElem?_eq_some_iff.1 ho).1
          have hsplit : i = 0 ∨ i = 1 ∨ i = 2 ∨ i = 3 ∨ i = 4 ∨ i = 5 ∨ i = 6 ∨ i = 7 ∨ i = 8 := by omega
          clear hlt h1 hr
          rcases hsplit with rfl | rfl | rfl | rfl | rfl | rfl | rfl | rfl | rfl
          · refine wpOp_step (o := _) rfl (fun K' hK' => ?_)
            have f := (hI.fixed 5 (by omega) (by omega)).trans F5.out
            have hb := hI.ch.heap (HCY.out.heap HB2.out id) id
            unfold gt at f
            exact wp_load_row 31 (.tmp 5) rfl w.heap.size (by simpa [Act.eval] using f) 31 (hv g) (0, 0) _ hb Tryd.underlying31 rfl (hv_info _) (hK' _ _ (hI.put 0 (by omega) (Ch.refl _ _)))
          · refine wpOp_step (o := _) rfl (fun K' hK' => ?_)
            simp at ho
            have e := hall ⟨0, .data⟩ (by rw [← ho]; simp) rfl
            have f := hI.val 0 (by omega) (by unfold lg; simpa using e)
            unfold gt at f
            clear ho hall
            have HCT := Go.Lib.hid (text_any g w')
            go_simp
            refine HCT.out.mono ?_
            rintro e w3 ⟨rfl, hc⟩
            exact hK' _ _ (hI.put 1 (by omega) hc)
          · refine wpOp_step (o := _) rfl (fun K' hK' => ?_)
            have f := (hI.fixed 10 (by omega) (by omega)).trans F10.out
            unfold gt at f
            clear hall
            go_simp
            exact hK' _ _ (hI.put 2 (by omega) (Ch.refl _ _))
          · refine wpOp_step (o := _) rfl (fun K' hK' => ?_)
            simp at ho
            have e := hall ⟨2, .data⟩ (by rw [← ho]; simp) rfl
            have f := hI.val 2 (by omega) (by unfold lg; simpa using e)
            have hcl := hI.ch.get (HCY.out.get HQ2.out id) id
            unfold gt at f
            clear ho hall
            go_simp
            exact hK' _ _ (hI.put 3 (by omega) (Ch.refl _ _))
          · refine wpOp_step (o := _) rfl (fun K' hK' => ?_)
            simp at ho
            have e := hall ⟨1, .data⟩ (by rw [← ho]; simp) rfl
            have e2 := hall ⟨3, .data⟩ (by rw [← ho]; simp) rfl
            have f := hI.val 1 (by omega) (by unfold lg; simpa using e)
            have f2 := hI.val 3 (by omega) (by unfold lg; simpa using e2)
            unfold gt at f f2
            clear ho hall
            go_simp
            exact hK' _ _ (hI.put 4 (by omega) (Ch.refl _ _))
          · refine wpOp_step (o := _) rfl (fun K' hK' => ?_)
            simp at ho
            have e := hall ⟨4, .data⟩ (by rw [← ho]; simp) rfl
            have f := hI.val 4 (by omega) (by unfold lg; simpa using e)
            unfold gt at f
            clear ho hall
            go_simp
            exact hK' _ _ (hI.put 5 (by omega) (Ch.refl _ _))
          · simp at ho
            have e := hall ⟨5, .guard⟩ (by rw [← ho]; simp) rfl
            have f := hI.val 5 (by omega) (by unfold lg; simpa using e)
            unfold gt at f
            clear ho hall
            have HCT := Go.Lib.hid (works_any w' (HKR.out.ch (HCY.out.trans hI.ch) id))
            have f' : a.tmps[73]? = some (.bool true) := by
              have hz := hI.size
              rw [Array.getElem?_eq_getElem (by omega)] at f ⊢
              simpa using f
            clear f
            refine wpOp_step (o := _) rfl (fun K' hK' => ?_)
            go_simp
            refine HCT.out.mono ?_
            rintro e w3 ⟨rfl, hc⟩
            exact hK' _ _ (hI.put 6 (by omega) hc)
          · refine wpOp_step (o := _) rfl (fun K' hK' => ?_)
            simp at ho
            have e := hall ⟨5, .data⟩ (by rw [← ho]; simp) rfl
            have e2 := hall ⟨6, .data⟩ (by rw [← ho]; simp) rfl
            have f := hI.val 5 (by omega) (by unfold lg; simpa using e)
            have f2 := hI.val 6 (by omega) (by unfold lg; simpa using e2)
            unfold gt at f f2
            clear ho hall
            go_simp
            exact hK' _ _ (hI.put 7 (by omega) (Ch.refl _ _))
          · refine wpOp_step (o := _) rfl (fun K' hK' => ?_)
            simp at ho
            have e := hall ⟨7, .data⟩ (by rw [← ho]; simp) rfl
            have f := hI.val 7 (by omega) (by unfold lg; simpa using e)
            unfold gt at f
            clear ho hall
            go_simp
            exact hK' _ _ hI.put_last
        · intro L a w' hI hr
          have hal := all_listed' (md := .any) (by kernel_rfl) hI.lsize hr
          have hfr := hI.frame HSZ.out hal
          rw [hfr, ← HAY.out]
          have HCZ := Go.Lib.hid hI.ch
          clear hfr hI hr hal
          simp only [List.setIfInBounds_toArray, List.set_cons_succ, List.set_cons_zero]
          go_wp2_with fail
          go_ret
          exact ⟨rfl, (HW0.out.trans HCY.out).trans HCZ.out⟩
  · exact InvR.start _ _ _ _ _ HSZ.out
end Go.Proofs.YtdmeeghgbiffmaaDoor
