/- HmacTags: the function. -/
import Derived.Test.YtikdpiedjkailaaDoorH21
namespace Go.Proofs.YtikdpiedjkailaaDoor
open Go Go.RowKit

theorem upto_200 (L : Nat → Nat) : ∀ N, (∀ i, i < N → L i ≤ 200) → upto L N ≤ 200 * N
  | 0, _ => Nat.zero_le _
  | N + 1, h => by
    have h1 := upto_200 L N (fun i hi => h i (by omega))
    have h2 := h N (by omega)
    show upto L N + L N ≤ _
    omega
set_option maxRecDepth 100000 in
set_option maxHeartbeats 8000000 in
theorem tags_law (p : Option Addr) (nk ck a off N cap : Nat) (key : Nat → UInt8) (sp : Option Addr) (P : Nat → Option Addr) (L C : Nat → Nat) (f : Nat → UInt8) (w : World) (hkey : BytesAt w p nk ck key) (hsp : sp = some ⟨a, off, none⟩ ∨ N = 0) (hP : PartsV w a off N P L C f) (hK : KAt w) :
    Calls Tryd.prog 3 #[.slice p nk ck, .slice sp N cap] w fun e w' => e = .returned (.bool true) ∧ Ch (fun _ => False) w w' := by
  have HW := Go.Lib.hid (fun W (hc : Ch (fun _ => False) w W) => works_any W (hK.ch hc id))
  have HFE := few_any a off N cap 15 sp P L C f w (by omega) hsp hP
  rw [show (((15 : Nat)) : Int) = 15 from rfl] at HFE
  have HFE := Go.Lib.hid HFE
  have HK := Go.Lib.hid hK; have HP := Go.Lib.hid hP; have HSP := Go.Lib.hid hsp; have HKEY := Go.Lib.hid hkey
  clear hK hP hsp hkey
  go_enter Tryd.func3, Tryd.ntmps3
  go_wp2_with fail
  refine HFE.out.mono ?_
  rintro e w1 ⟨hc1, ⟨rfl, _⟩ | ⟨v, rfl, hN, hL, hown⟩⟩
  · have HC1 := Go.Lib.hid hc1
    clear hc1 HFE
    go_wp2_with fail
    refine (HW.out _ HC1.out).mono ?_
    rintro e w2 ⟨rfl, hc2⟩
    have HC2 := Go.Lib.hid (HC1.out.trans hc2)
    clear hc2 HC1
    go_wp2_with fail
    go_ret
    exact ⟨rfl, HC2.out⟩
  · have HC1 := Go.Lib.hid hc1; have HOW := Go.Lib.hid hown; have HLL := Go.Lib.hid hL
    clear hc1 hown hL HFE
    by_cases hnk : 300 < nk
    · have hnk' : (300 : Int) < (nk : Int) := by omega
      go_wp2_with fail
      refine (HW.out _ HC1.out).mono ?_
      rintro e w2 ⟨rfl, hc2⟩
      have HC2 := Go.Lib.hid (HC1.out.trans hc2)
      clear hc2 HC1
      go_wp2_with fail
      go_ret
      exact ⟨rfl, HC2.out⟩
    · have hnk' : ¬ (300 : Int) < (nk : Int) := by omega
      obtain ⟨qa, ca, rfl, hba⟩ := own_nil HOW.out
      have HBA := Go.Lib.hid hba
      have hup : upto L N ≤ 200 * 15 := Nat.le_trans (upto_200 L N HLL.out) (by omega)
      clear hba HOW
      have HF1 := Go.Lib.hid (fL_congr nk (fun j hj => (show key j = catB nk key (fun _ => 77) j by unfold catB; rw [if_pos hj])))
      have HF2 := Go.Lib.hid (show (77 : Int) = ((catB nk key (fun _ => 77) nk).toNat : Int) by unfold catB; rw [if_neg (by omega)]; rfl)
      have HF3 := Go.Lib.hid (fun j (hj : j < nk) => (show key j = catB nk key (fun _ => 77) j by unfold catB; rw [if_pos hj]))
      generalize catB nk key (fun _ => 77) = KF at *
      have hsl : ∀ q c W, nk ≤ c → (Instr.slice 22 (.slice q (nk + 1) c) none (some (.int .i64 (nk : Int))) none).run Tryd.prog W = .ok (.slice q nk c) W := fun q c W h => slice_to22 q (nk + 1) c nk h W
      go_wp2_with (at_builtin; first
        | (refine wpList_append_bytes rfl (.tmp 22) (.tmp 23) rfl w1.heap.size _ _ _ rfl (ownsRow_empty w1 _ (Nat.le_refl _)) p nk ck key rfl ((HKEY.out.ch HC1.out (fun _ _ h => h)).ch ((Ch.refl (fun _ => False) w1).alloc _) (fun _ _ h => h)) (by omega) (by simp) ?_
           intro v2 w2 hown2 hgrow2
           rw [Nat.zero_add, List.nil_append, HF1.out] at hown2
           have hc2 : Ch (fun _ => False) w1 w2 := Ch.grown ((Ch.refl _ w1).alloc _) hgrow2 (fun k hk hlt => by
             have h : some w1.heap.size = some k := hk
             cases h; omega)
           have HO2 := Go.Lib.hid hown2; have HC2 := Go.Lib.hid hc2; clear hown2 hgrow2 hc2)
        | (refine wpList_append_byte rfl (.tmp 24) (.tmp 25) rfl w1.heap.size v2 nk KF rfl (HO2.out.alloc _) w2.heap.size _ rfl (cell_fresh w2 _ 5 0) HF2.out (by omega) (by have := HC2.out.size; simp; omega) ?_
           intro v3 w3 hown3 hgrow3 _
           obtain ⟨gk, ck3, rfl, hgk1, hgk2, hcap3, hb3⟩ := own_pos hown3 (by omega)
           have hc3 : Ch (fun _ => False) w1 w3 := Ch.grown (HC2.out.alloc _) hgrow3 (fun k hk hlt => by have := (World.ownsRow.lt HO2.out) k hk; omega)
           have HB3 := Go.Lib.hid hb3; have HC3 := Go.Lib.hid (HC1.out.trans hc3); have HC13 := Go.Lib.hid hc3; have hsl3 := fun W => hsl (some ⟨gk, 0, none⟩) ck3 W (by omega); clear hown3 hgrow3 hc3 hb3))
      have HBK := Go.Lib.hid (bytes_congr (bytes_short HB3.out (show nk ≤ nk + 1 by omega)) HF3.out)
      have HTG := Go.Lib.hid (tag_any (some ⟨gk, 0, none⟩) nk ck3 key a off N cap sp P L C f w3 (by omega) HBK.out HSP.out (by omega) (by omega) (HP.out.ch HC3.out).parts (HK.out.ch HC3.out id))
      have HRT := Go.Lib.hid (fun W (hc : Ch (fun _ => False) w3 W) => rtag_any p qa nk ck (upto L N) ca key f W (by omega) (by omega) (HKEY.out.ch (HC3.out.trans hc) (fun _ _ h => h)) (HBA.out.ch (HC13.out.trans hc) (fun _ _ h => h)))
      have HEX := Go.Lib.hid (fun W (hc : Ch (fun _ => False) w3 W) => extract_any (some ⟨gk, 0, none⟩) nk ck3 key a off N cap sp P L C f W (by omega) (HBK.out.ch hc (fun _ _ h => h)) HSP.out (by omega) (by omega) (HP.out.ch (HC3.out.trans hc)).parts (HK.out.ch (HC3.out.trans hc) id))
      have HEQ := Go.Lib.hid (fun W => eqH_self (tagB (kb key nk) f (upto L N)) ▸ eq_hv (tagB (kb key nk) f (upto L N)) (tagB (kb key nk) f (upto L N)) W)
      generalize tagB (kb key nk) f (upto L N) = T at *
      have HCK := Go.Lib.hid (fun W (hc : Ch (fun _ => False) w3 W) => conv_bytes (HBK.out.ch hc (fun _ _ h => h)))
      have HCP := Go.Lib.hid (fun W (hc : Ch (fun _ => False) w3 W) => conv_bytes (HKEY.out.ch (HC3.out.trans hc) (fun _ _ h => h)))
      generalize bS key nk = X at *
      have HN77 := Go.Lib.hid (show w3.cell? ⟨gk, nk, none⟩ = some (.int .u8 77) by
        obtain ⟨x, y, e, _, h⟩ := HB3.out.resolve_right (by rintro ⟨h, _⟩; cases h)
        cases e
        rw [HF2.out]
        have := h nk (by omega)
        rw [Nat.zero_add] at this
        exact this)
      have HC33 := Go.Lib.hid (show nk + 1 ≤ ck3 from hcap3)
      clear HF1 HF2 HF3 HO2 HC2 HB3 hsl
      refine HTG.out.mono ?_
      rintro e w4 ⟨rfl, hc4⟩
      have HC4 := Go.Lib.hid hc4
      have HI := Go.Lib.hid (hv_info T); have HA := Go.Lib.hid (hv_all T)
      have HHZ := Go.Lib.hid (show (hv fun _ => 0).size = (hv T).size by rw [show (hv fun _ => 0).size = 32 from arr_size _ _]; exact (arr_size _ _).symm)
      generalize hv T = RT at *
      clear hc4 HTG
      go_upto_region 6 with (refine wpList_store_row rfl 28 (.tmp 8) (.tmp 32) rfl w4.heap.size RT rfl rfl 28 (hv fun _ => 0) (World.alloc_heap_new w4 _) HI.out HHZ.out HA.out ?_)
      generalize hW5 : World.setRow _ w4.heap.size RT = w5
      have hx5 : w5.heap[w4.heap.size]? = some (.cells RT 28) := by rw [← hW5]; exact heap_setRow (World.alloc_heap_new w4 _)
      have hc5 : Ch (fun _ => False) w4 w5 := by rw [← hW5]; exact ((Ch.refl _ _).alloc _).setRow (fun h => absurd h (Nat.lt_irrefl _)) _
      have HX5 := Go.Lib.hid hx5; have HC5 := Go.Lib.hid (HC4.out.trans hc5)
      clear hW5 hx5 hc5 HC4
      generalize w4.heap.size = B at *
      generalize upto L N = na at *
      rw [put_none]
      generalize hax : Act.mk _ _ = ax
      have HSZ := Go.Lib.hid (show ax.tmps.size = 67 by rw [← hax]; rfl)
      have F0 := Go.Lib.hid (show gt ax 0 = .slice p nk ck by rw [← hax]; rfl)
      have F1 := Go.Lib.hid (show gt ax 1 = .slice sp N cap by rw [← hax]; rfl)
      have F5 := Go.Lib.hid (show gt ax 5 = .slice qa na ca by rw [← hax]; rfl)
      have F7 := Go.Lib.hid (show gt ax 7 = .slice (some ⟨gk, 0, none⟩) nk ck3 by rw [← hax]; rfl)
      have F8 := Go.Lib.hid (show gt ax 8 = .pointer (some ⟨B, 0, none⟩) by rw [← hax]; rfl)
      have HAX := Go.Lib.hid hax
      clear hax
      have HND := Go.Lib.hid (show ([33, 34, 35, 36, 37, 38, 39, 40, 41, 42, 43, 44, 45, 46, 47, 48, 49, 50, 51, 52, 53, 54, 55, 56, 57, 58, 59, 60, 61, 62, 63, 64, 65, 66] : List Nat).Nodup by decide)
      have HLS : Hid (Lasts [(33, fun x _ => x = .agg RT), (34, fun x _ => x = .slice p nk ck), (35, fun x _ => x = .slice qa na ca), (36, fun x _ => x = .agg RT), (37, fun x _ => x = .bool true), (38, fun x _ => x = .bool true), (39, fun x _ => x = .slice (some ⟨gk, 0, none⟩) nk ck3), (40, fun x _ => x = .slice sp N cap), (41, fun x _ => x = .agg RT), (42, fun x _ => x = .agg RT), (43, fun x _ => x = .bool true), (44, fun x _ => x = .bool true), (45, fun x _ => x = .bool true), (46, fun x _ => x = .slice (some ⟨gk, 0, none⟩) nk ck3), (47, fun x _ => x = .string X), (48, fun x _ => x = .slice p nk ck), (49, fun x _ => x = .string X), (50, fun x _ => x = .bool true), (51, fun x _ => x = .bool true), (52, fun x _ => x = .bool true), (53, fun x _ => x = .slice (some ⟨gk, 0, none⟩) nk ck3), (54, fun x _ => x = .slice p nk ck), (55, fun x _ => x = .int .i64 (nk : Int)), (56, fun x _ => x = .int .i64 ((nk : Int) + 1)), (57, fun x _ => x = .slice (some ⟨gk, 0, none⟩) (nk + 1) ck3), (58, fun x _ => x = .slice p nk ck), (59, fun x _ => x = .int .i64 (nk : Int)), (60, fun x _ => x = .pointer (some ⟨gk, nk, none⟩)), (61, fun x _ => x = .int .u8 77), (62, fun x _ => x = .bool true), (63, fun x _ => x = .bool true), (64, fun x _ => x = .bool true), (65, fun x _ => x = .bool true), (66, fun x _ => x = .bool true)]) := Go.Lib.hid (by
        intro p hp v w1 w2 hc h
        simp only [List.mem_cons, List.not_mem_nil, or_false] at hp
        rcases hp with rfl | rfl | rfl | rfl | rfl | rfl | rfl | rfl | rfl | rfl | rfl | rfl | rfl | rfl | rfl | rfl | rfl | rfl | rfl | rfl | rfl | rfl | rfl | rfl | rfl | rfl | rfl | rfl | rfl | rfl | rfl | rfl | rfl | rfl
        all_goals first | exact h | (obtain ⟨g, h1, h2⟩ := h; exact ⟨g, h1, hc.heap h2 id⟩) | (obtain ⟨g, c, h1, h2⟩ := h; exact ⟨g, c, h1, h2.ch hc (fun _ _ h => h)⟩))
      refine wp_region_open_tail 34 (InvQ 67 [(33, fun x _ => x = .agg RT), (34, fun x _ => x = .slice p nk ck), (35, fun x _ => x = .slice qa na ca), (36, fun x _ => x = .agg RT), (37, fun x _ => x = .bool true), (38, fun x _ => x = .bool true), (39, fun x _ => x = .slice (some ⟨gk, 0, none⟩) nk ck3), (40, fun x _ => x = .slice sp N cap), (41, fun x _ => x = .agg RT), (42, fun x _ => x = .agg RT), (43, fun x _ => x = .bool true), (44, fun x _ => x = .bool true), (45, fun x _ => x = .bool true), (46, fun x _ => x = .slice (some ⟨gk, 0, none⟩) nk ck3), (47, fun x _ => x = .string X), (48, fun x _ => x = .slice p nk ck), (49, fun x _ => x = .string X), (50, fun x _ => x = .bool true), (51, fun x _ => x = .bool true), (52, fun x _ => x = .bool true), (53, fun x _ => x = .slice (some ⟨gk, 0, none⟩) nk ck3), (54, fun x _ => x = .slice p nk ck), (55, fun x _ => x = .int .i64 (nk : Int)), (56, fun x _ => x = .int .i64 ((nk : Int) + 1)), (57, fun x _ => x = .slice (some ⟨gk, 0, none⟩) (nk + 1) ck3), (58, fun x _ => x = .slice p nk ck), (59, fun x _ => x = .int .i64 (nk : Int)), (60, fun x _ => x = .pointer (some ⟨gk, nk, none⟩)), (61, fun x _ => x = .int .u8 77), (62, fun x _ => x = .bool true), (63, fun x _ => x = .bool true), (64, fun x _ => x = .bool true), (65, fun x _ => x = .bool true), (66, fun x _ => x = .bool true)] (fun _ w' => Ch (fun _ => False) w5 w') ax) (by kernel_rfl) (by kernel_rfl) (InvQ.start (by simp) HSZ.out (Ch.refl _ _).drew) ?_ ?_
      · intro L a w' i hI hr hlt
        obtain ⟨h1, o, ho, hall⟩ := mem_ready.1 hr
        have hsplit : i = 0 ∨ i = 1 ∨ i = 2 ∨ i = 3 ∨ i = 4 ∨ i = 5 ∨ i = 6 ∨ i = 7 ∨ i = 8 ∨ i = 9 ∨ i = 10 ∨ i = 11 ∨ i = 12 ∨ i = 13 ∨ i = 14 ∨ i = 15 ∨ i = 16 ∨ i = 17 ∨ i = 18 ∨ i = 19 ∨ i = 20 ∨ i = 21 ∨ i = 22 ∨ i = 23 ∨ i = 24 ∨ i = 25 ∨ i = 26 ∨ i = 27 ∨ i = 28 ∨ i = 29 ∨ i = 30 ∨ i = 31 ∨ i = 32 ∨ i = 33 := by omega
        clear hlt h1 hr
        rcases hsplit with rfl | rfl | rfl | rfl | rfl | rfl | rfl | rfl | rfl | rfl | rfl | rfl | rfl | rfl | rfl | rfl | rfl | rfl | rfl | rfl | rfl | rfl | rfl | rfl | rfl | rfl | rfl | rfl | rfl | rfl | rfl | rfl | rfl | rfl
        · have q8 := (hI.fixed 8 (by simp)).trans F8.out
          unfold gt at q8
          clear hall
          refine wpOp_step (o := _) rfl (fun K' hK' => ?_)
          exact wp_load_row 28 (.tmp 8) rfl B (by simpa [Act.eval] using q8) 28 RT (0, 0) _ (hI.wld.heap HX5.out id) Tryd.underlying28 rfl HI.out (hK' _ _ (hI.put 0 rfl (by decide) HND.out HLS.out  (Ch.refl _ _) rfl hI.wld))
        · have q0 := (hI.fixed 0 (by simp)).trans F0.out
          unfold gt at q0
          clear hall
          refine wpOp_step (o := _) rfl (fun K' hK' => ?_)
          go_simp
          exact hK' _ _ (hI.put 1 rfl (by decide) HND.out HLS.out  (Ch.refl _ _) rfl hI.wld)
        · have q5 := (hI.fixed 5 (by simp)).trans F5.out
          unfold gt at q5
          clear hall
          refine wpOp_step (o := _) rfl (fun K' hK' => ?_)
          go_simp
          exact hK' _ _ (hI.put 2 rfl (by decide) HND.out HLS.out  (Ch.refl _ _) rfl hI.wld)
        · simp at ho
          have e1 : lg L 1 = true := by unfold lg; simpa using hall ⟨1, .data⟩ (by rw [← ho]; simp) rfl
          have f1 : gt a 34 = .slice p nk ck := hI.val 1 _ rfl e1
          have e2 : lg L 2 = true := by unfold lg; simpa using hall ⟨2, .data⟩ (by rw [← ho]; simp) rfl
          have f2 : gt a 35 = .slice qa na ca := hI.val 2 _ rfl e2
          unfold gt at f1 f2
          clear hall
          clear ho
          have HCT := Go.Lib.hid (HRT.out w' (HC5.out.trans hI.wld))
          refine wpOp_step (o := _) rfl (fun K' hK' => ?_)
          go_simp
          refine HCT.out.mono ?_
          rintro e w3 ⟨rfl, hc⟩
          exact hK' _ _ (hI.put 3 rfl (by decide) HND.out HLS.out  hc rfl (hI.wld.trans hc))
        · simp at ho
          have e0 : lg L 0 = true := by unfold lg; simpa using hall ⟨0, .data⟩ (by rw [← ho]; simp) rfl
          have f0 : gt a 33 = .agg RT := hI.val 0 _ rfl e0
          have e3 : lg L 3 = true := by unfold lg; simpa using hall ⟨3, .data⟩ (by rw [← ho]; simp) rfl
          have f3 : gt a 36 = .agg RT := hI.val 3 _ rfl e3
          unfold gt at f0 f3
          clear hall
          clear ho
          refine wpOp_step (o := _) rfl (fun K' hK' => ?_)
          exact wp_eql (.tmp 33) (.tmp 36) 28 28 rfl RT RT (by simpa [Act.eval] using f0) (by simpa [Act.eval] using f3) eqg28 (HEQ.out _) (hK' _ _ (hI.put 4 rfl (by decide) HND.out HLS.out  (Ch.refl _ _) rfl hI.wld))
        · simp at ho
          have e4 : lg L 4 = true := by unfold lg; simpa using hall ⟨4, .data⟩ (by rw [← ho]; simp) rfl
          have f4 : gt a 37 = .bool true := hI.val 4 _ rfl e4
          unfold gt at f4
          clear hall
          clear ho
          refine wpOp_step (o := _) rfl (fun K' hK' => ?_)
          go_simp
          exact hK' _ _ (hI.put 5 rfl (by decide) HND.out HLS.out  (Ch.refl _ _) rfl hI.wld)
        · simp at ho
          have q7 := (hI.fixed 7 (by simp)).trans F7.out
          have eg : lg L 5 = true := by unfold lg; simpa using hall ⟨5, .guard⟩ (by rw [← ho]; simp) rfl
          have fg0 : gt a 38 = .bool true := hI.val 5 _ rfl eg
          have fg := guard_of fg0 (by rw [hI.size]; decide)
          clear eg fg0
          unfold gt at q7
          clear hall
          clear ho
          refine wpOp_step (o := _) rfl (fun K' hK' => ?_)
          go_simp
          exact hK' _ _ (hI.put 6 rfl (by decide) HND.out HLS.out  (Ch.refl _ _) rfl hI.wld)
        · simp at ho
          have q1 := (hI.fixed 1 (by simp)).trans F1.out
          have eg : lg L 5 = true := by unfold lg; simpa using hall ⟨5, .guard⟩ (by rw [← ho]; simp) rfl
          have fg0 : gt a 38 = .bool true := hI.val 5 _ rfl eg
          have fg := guard_of fg0 (by rw [hI.size]; decide)
          clear eg fg0
          unfold gt at q1
          clear hall
          clear ho
          refine wpOp_step (o := _) rfl (fun K' hK' => ?_)
          go_simp
          exact hK' _ _ (hI.put 7 rfl (by decide) HND.out HLS.out  (Ch.refl _ _) rfl hI.wld)
        · simp at ho
          have e6 : lg L 6 = true := by unfold lg; simpa using hall ⟨6, .data⟩ (by rw [← ho]; simp) rfl
          have f6 : gt a 39 = .slice (some ⟨gk, 0, none⟩) nk ck3 := hI.val 6 _ rfl e6
          have e7 : lg L 7 = true := by unfold lg; simpa using hall ⟨7, .data⟩ (by rw [← ho]; simp) rfl
          have f7 : gt a 40 = .slice sp N cap := hI.val 7 _ rfl e7
          have eg : lg L 5 = true := by unfold lg; simpa using hall ⟨5, .guard⟩ (by rw [← ho]; simp) rfl
          have fg0 : gt a 38 = .bool true := hI.val 5 _ rfl eg
          have fg := guard_of fg0 (by rw [hI.size]; decide)
          clear eg fg0
          unfold gt at f6 f7
          clear hall
          clear ho
          have HCT := Go.Lib.hid (HEX.out w' (HC5.out.trans hI.wld))
          refine wpOp_step (o := _) rfl (fun K' hK' => ?_)
          go_simp
          refine HCT.out.mono ?_
          rintro e w3 ⟨rfl, hc⟩
          exact hK' _ _ (hI.put 8 rfl (by decide) HND.out HLS.out  hc rfl (hI.wld.trans hc))
        · simp at ho
          have q8 := (hI.fixed 8 (by simp)).trans F8.out
          have eg : lg L 5 = true := by unfold lg; simpa using hall ⟨5, .guard⟩ (by rw [← ho]; simp) rfl
          have fg0 : gt a 38 = .bool true := hI.val 5 _ rfl eg
          have fg := guard_of fg0 (by rw [hI.size]; decide)
          clear eg fg0
          unfold gt at q8
          clear hall
          clear ho
          refine wpOp_step (o := _) rfl (fun K' hK' => ?_)
          rw [if_pos (by simp [Region.wanted, yielded, fg])]
          exact wp_load_row 28 (.tmp 8) rfl B (by simpa [Act.eval] using q8) 28 RT (0, 0) _ (hI.wld.heap HX5.out id) Tryd.underlying28 rfl HI.out (hK' _ _ (hI.put 9 rfl (by decide) HND.out HLS.out  (Ch.refl _ _) rfl hI.wld))
        · simp at ho
          have e8 : lg L 8 = true := by unfold lg; simpa using hall ⟨8, .data⟩ (by rw [← ho]; simp) rfl
          have f8 : gt a 41 = .agg RT := hI.val 8 _ rfl e8
          have e9 : lg L 9 = true := by unfold lg; simpa using hall ⟨9, .data⟩ (by rw [← ho]; simp) rfl
          have f9 : gt a 42 = .agg RT := hI.val 9 _ rfl e9
          have eg : lg L 5 = true := by unfold lg; simpa using hall ⟨5, .guard⟩ (by rw [← ho]; simp) rfl
          have fg0 : gt a 38 = .bool true := hI.val 5 _ rfl eg
          have fg := guard_of fg0 (by rw [hI.size]; decide)
          clear eg fg0
          unfold gt at f8 f9
          clear hall
          clear ho
          refine wpOp_step (o := _) rfl (fun K' hK' => ?_)
          rw [if_pos (by simp [Region.wanted, yielded, fg])]
          exact wp_eql (.tmp 41) (.tmp 42) 28 28 rfl RT RT (by simpa [Act.eval] using f8) (by simpa [Act.eval] using f9) eqg28 (HEQ.out _) (hK' _ _ (hI.put 10 rfl (by decide) HND.out HLS.out  (Ch.refl _ _) rfl hI.wld))
        · simp at ho
          have e5 : lg L 5 = true := by unfold lg; simpa using hall ⟨5, .data⟩ (by rw [← ho]; simp) rfl
          have f5 : gt a 38 = .bool true := hI.val 5 _ rfl e5
          have e10 : lg L 10 = true := by unfold lg; simpa using hall ⟨10, .data⟩ (by rw [← ho]; simp) rfl
          have f10 : gt a 43 = .bool true := hI.val 10 _ rfl e10
          unfold gt at f5 f10
          clear hall
          clear ho
          refine wpOp_step (o := _) rfl (fun K' hK' => ?_)
          go_simp
          exact hK' _ _ (hI.put 11 rfl (by decide) HND.out HLS.out  (Ch.refl _ _) rfl hI.wld)
        · simp at ho
          have e11 : lg L 11 = true := by unfold lg; simpa using hall ⟨11, .data⟩ (by rw [← ho]; simp) rfl
          have f11 : gt a 44 = .bool true := hI.val 11 _ rfl e11
          unfold gt at f11
          clear hall
          clear ho
          refine wpOp_step (o := _) rfl (fun K' hK' => ?_)
          go_simp
          exact hK' _ _ (hI.put 12 rfl (by decide) HND.out HLS.out  (Ch.refl _ _) rfl hI.wld)
        · simp at ho
          have q7 := (hI.fixed 7 (by simp)).trans F7.out
          have eg : lg L 12 = true := by unfold lg; simpa using hall ⟨12, .guard⟩ (by rw [← ho]; simp) rfl
          have fg0 : gt a 45 = .bool true := hI.val 12 _ rfl eg
          have fg := guard_of fg0 (by rw [hI.size]; decide)
          clear eg fg0
          unfold gt at q7
          clear hall
          clear ho
          refine wpOp_step (o := _) rfl (fun K' hK' => ?_)
          go_simp
          exact hK' _ _ (hI.put 13 rfl (by decide) HND.out HLS.out  (Ch.refl _ _) rfl hI.wld)
        · simp at ho
          have e13 : lg L 13 = true := by unfold lg; simpa using hall ⟨13, .data⟩ (by rw [← ho]; simp) rfl
          have f13 : gt a 46 = .slice (some ⟨gk, 0, none⟩) nk ck3 := hI.val 13 _ rfl e13
          have eg : lg L 12 = true := by unfold lg; simpa using hall ⟨12, .guard⟩ (by rw [← ho]; simp) rfl
          have fg0 : gt a 45 = .bool true := hI.val 12 _ rfl eg
          have fg := guard_of fg0 (by rw [hI.size]; decide)
          clear eg fg0
          have hcvk := HCK.out w' (HC5.out.trans hI.wld)
          unfold gt at f13
          clear hall
          clear ho
          refine wpOp_step (o := _) rfl (fun K' hK' => ?_)
          go_simp
          exact hK' _ _ (hI.put 14 rfl (by decide) HND.out HLS.out  (Ch.refl _ _) rfl hI.wld)
        · simp at ho
          have q0 := (hI.fixed 0 (by simp)).trans F0.out
          have eg : lg L 12 = true := by unfold lg; simpa using hall ⟨12, .guard⟩ (by rw [← ho]; simp) rfl
          have fg0 : gt a 45 = .bool true := hI.val 12 _ rfl eg
          have fg := guard_of fg0 (by rw [hI.size]; decide)
          clear eg fg0
          unfold gt at q0
          clear hall
          clear ho
          refine wpOp_step (o := _) rfl (fun K' hK' => ?_)
          go_simp
          exact hK' _ _ (hI.put 15 rfl (by decide) HND.out HLS.out  (Ch.refl _ _) rfl hI.wld)
        · simp at ho
          have e15 : lg L 15 = true := by unfold lg; simpa using hall ⟨15, .data⟩ (by rw [← ho]; simp) rfl
          have f15 : gt a 48 = .slice p nk ck := hI.val 15 _ rfl e15
          have eg : lg L 12 = true := by unfold lg; simpa using hall ⟨12, .guard⟩ (by rw [← ho]; simp) rfl
          have fg0 : gt a 45 = .bool true := hI.val 12 _ rfl eg
          have fg := guard_of fg0 (by rw [hI.size]; decide)
          clear eg fg0
          have hcvk := HCP.out w' (HC5.out.trans hI.wld)
          unfold gt at f15
          clear hall
          clear ho
          refine wpOp_step (o := _) rfl (fun K' hK' => ?_)
          go_simp
          exact hK' _ _ (hI.put 16 rfl (by decide) HND.out HLS.out  (Ch.refl _ _) rfl hI.wld)
        · simp at ho
          have e14 : lg L 14 = true := by unfold lg; simpa using hall ⟨14, .data⟩ (by rw [← ho]; simp) rfl
          have f14 : gt a 47 = .string X := hI.val 14 _ rfl e14
          have e16 : lg L 16 = true := by unfold lg; simpa using hall ⟨16, .data⟩ (by rw [← ho]; simp) rfl
          have f16 : gt a 49 = .string X := hI.val 16 _ rfl e16
          have eg : lg L 12 = true := by unfold lg; simpa using hall ⟨12, .guard⟩ (by rw [← ho]; simp) rfl
          have fg0 : gt a 45 = .bool true := hI.val 12 _ rfl eg
          have fg := guard_of fg0 (by rw [hI.size]; decide)
          clear eg fg0
          unfold gt at f14 f16
          clear hall
          clear ho
          refine wpOp_step (o := _) rfl (fun K' hK' => ?_)
          go_simp
          exact hK' _ _ (hI.put 17 rfl (by decide) HND.out HLS.out  (Ch.refl _ _) rfl hI.wld)
        · simp at ho
          have e12 : lg L 12 = true := by unfold lg; simpa using hall ⟨12, .data⟩ (by rw [← ho]; simp) rfl
          have f12 : gt a 45 = .bool true := hI.val 12 _ rfl e12
          have e17 : lg L 17 = true := by unfold lg; simpa using hall ⟨17, .data⟩ (by rw [← ho]; simp) rfl
          have f17 : gt a 50 = .bool true := hI.val 17 _ rfl e17
          unfold gt at f12 f17
          clear hall
          clear ho
          refine wpOp_step (o := _) rfl (fun K' hK' => ?_)
          go_simp
          exact hK' _ _ (hI.put 18 rfl (by decide) HND.out HLS.out  (Ch.refl _ _) rfl hI.wld)
        · simp at ho
          have e18 : lg L 18 = true := by unfold lg; simpa using hall ⟨18, .data⟩ (by rw [← ho]; simp) rfl
          have f18 : gt a 51 = .bool true := hI.val 18 _ rfl e18
          unfold gt at f18
          clear hall
          clear ho
          refine wpOp_step (o := _) rfl (fun K' hK' => ?_)
          go_simp
          exact hK' _ _ (hI.put 19 rfl (by decide) HND.out HLS.out  (Ch.refl _ _) rfl hI.wld)
        · simp at ho
          have q7 := (hI.fixed 7 (by simp)).trans F7.out
          have eg : lg L 19 = true := by unfold lg; simpa using hall ⟨19, .guard⟩ (by rw [← ho]; simp) rfl
          have fg0 : gt a 52 = .bool true := hI.val 19 _ rfl eg
          have fg := guard_of fg0 (by rw [hI.size]; decide)
          clear eg fg0
          unfold gt at q7
          clear hall
          clear ho
          refine wpOp_step (o := _) rfl (fun K' hK' => ?_)
          go_simp
          exact hK' _ _ (hI.put 20 rfl (by decide) HND.out HLS.out  (Ch.refl _ _) rfl hI.wld)
        · simp at ho
          have q0 := (hI.fixed 0 (by simp)).trans F0.out
          have eg : lg L 19 = true := by unfold lg; simpa using hall ⟨19, .guard⟩ (by rw [← ho]; simp) rfl
          have fg0 : gt a 52 = .bool true := hI.val 19 _ rfl eg
          have fg := guard_of fg0 (by rw [hI.size]; decide)
          clear eg fg0
          unfold gt at q0
          clear hall
          clear ho
          refine wpOp_step (o := _) rfl (fun K' hK' => ?_)
          go_simp
          exact hK' _ _ (hI.put 21 rfl (by decide) HND.out HLS.out  (Ch.refl _ _) rfl hI.wld)
        · simp at ho
          have e21 : lg L 21 = true := by unfold lg; simpa using hall ⟨21, .data⟩ (by rw [← ho]; simp) rfl
          have f21 : gt a 54 = .slice p nk ck := hI.val 21 _ rfl e21
          have eg : lg L 19 = true := by unfold lg; simpa using hall ⟨19, .guard⟩ (by rw [← ho]; simp) rfl
          have fg0 : gt a 52 = .bool true := hI.val 19 _ rfl eg
          have fg := guard_of fg0 (by rw [hI.size]; decide)
          clear eg fg0
          unfold gt at f21
          clear hall
          clear ho
          refine wpOp_step (o := _) rfl (fun K' hK' => ?_)
          go_simp
          exact hK' _ _ (hI.put 22 rfl (by decide) HND.out HLS.out  (Ch.refl _ _) rfl hI.wld)
        · simp at ho
          have e22 : lg L 22 = true := by unfold lg; simpa using hall ⟨22, .data⟩ (by rw [← ho]; simp) rfl
          have f22 : gt a 55 = .int .i64 (nk : Int) := hI.val 22 _ rfl e22
          have eg : lg L 19 = true := by unfold lg; simpa using hall ⟨19, .guard⟩ (by rw [← ho]; simp) rfl
          have fg0 : gt a 52 = .bool true := hI.val 19 _ rfl eg
          have fg := guard_of fg0 (by rw [hI.size]; decide)
          clear eg fg0
          have hwn : IntKind.i64.wrap ((nk : Int) + 1) = (nk : Int) + 1 := by rw [IntKind.wrap_i64]; omega
          unfold gt at f22
          clear hall
          clear ho
          refine wpOp_step (o := _) rfl (fun K' hK' => ?_)
          go_simp
          exact hK' _ _ (hI.put 23 rfl (by decide) HND.out HLS.out  (Ch.refl _ _) rfl hI.wld)
        · simp at ho
          have e20 : lg L 20 = true := by unfold lg; simpa using hall ⟨20, .data⟩ (by rw [← ho]; simp) rfl
          have f20 : gt a 53 = .slice (some ⟨gk, 0, none⟩) nk ck3 := hI.val 20 _ rfl e20
          have e23 : lg L 23 = true := by unfold lg; simpa using hall ⟨23, .data⟩ (by rw [← ho]; simp) rfl
          have f23 : gt a 56 = .int .i64 ((nk : Int) + 1) := hI.val 23 _ rfl e23
          have eg : lg L 19 = true := by unfold lg; simpa using hall ⟨19, .guard⟩ (by rw [← ho]; simp) rfl
          have fg0 : gt a 52 = .bool true := hI.val 19 _ rfl eg
          have fg := guard_of fg0 (by rw [hI.size]; decide)
          clear eg fg0
          have hl1 : 0 ≤ (nk : Int) + 1 := by omega
          have hl2 : (nk : Int) + 1 ≤ (ck3 : Int) := by have := HC33.out; omega
          unfold gt at f20 f23
          clear hall
          clear ho
          refine wpOp_step (o := _) rfl (fun K' hK' => ?_)
          go_simp
          exact hK' _ _ (hI.put 24 rfl (by decide) HND.out HLS.out  (Ch.refl _ _) rfl hI.wld)
        · simp at ho
          have q0 := (hI.fixed 0 (by simp)).trans F0.out
          have eg : lg L 19 = true := by unfold lg; simpa using hall ⟨19, .guard⟩ (by rw [← ho]; simp) rfl
          have fg0 : gt a 52 = .bool true := hI.val 19 _ rfl eg
          have fg := guard_of fg0 (by rw [hI.size]; decide)
          clear eg fg0
          unfold gt at q0
          clear hall
          clear ho
          refine wpOp_step (o := _) rfl (fun K' hK' => ?_)
          go_simp
          exact hK' _ _ (hI.put 25 rfl (by decide) HND.out HLS.out  (Ch.refl _ _) rfl hI.wld)
        · simp at ho
          have e25 : lg L 25 = true := by unfold lg; simpa using hall ⟨25, .data⟩ (by rw [← ho]; simp) rfl
          have f25 : gt a 58 = .slice p nk ck := hI.val 25 _ rfl e25
          have eg : lg L 19 = true := by unfold lg; simpa using hall ⟨19, .guard⟩ (by rw [← ho]; simp) rfl
          have fg0 : gt a 52 = .bool true := hI.val 19 _ rfl eg
          have fg := guard_of fg0 (by rw [hI.size]; decide)
          clear eg fg0
          unfold gt at f25
          clear hall
          clear ho
          refine wpOp_step (o := _) rfl (fun K' hK' => ?_)
          go_simp
          exact hK' _ _ (hI.put 26 rfl (by decide) HND.out HLS.out  (Ch.refl _ _) rfl hI.wld)
        · simp at ho
          have e24 : lg L 24 = true := by unfold lg; simpa using hall ⟨24, .data⟩ (by rw [← ho]; simp) rfl
          have f24 : gt a 57 = .slice (some ⟨gk, 0, none⟩) (nk + 1) ck3 := hI.val 24 _ rfl e24
          have e26 : lg L 26 = true := by unfold lg; simpa using hall ⟨26, .data⟩ (by rw [← ho]; simp) rfl
          have f26 : gt a 59 = .int .i64 (nk : Int) := hI.val 26 _ rfl e26
          have eg : lg L 19 = true := by unfold lg; simpa using hall ⟨19, .guard⟩ (by rw [← ho]; simp) rfl
          have fg0 : gt a 52 = .bool true := hI.val 19 _ rfl eg
          have fg := guard_of fg0 (by rw [hI.size]; decide)
          clear eg fg0
          have hl1 : (nk : Int) < (nk : Int) + 1 := by omega
          have hl2 : 0 ≤ (nk : Int) := by omega
          unfold gt at f24 f26
          clear hall
          clear ho
          refine wpOp_step (o := _) rfl (fun K' hK' => ?_)
          go_simp
          exact hK' _ _ (hI.put 27 rfl (by decide) HND.out HLS.out  (Ch.refl _ _) rfl hI.wld)
        · simp at ho
          have e27 : lg L 27 = true := by unfold lg; simpa using hall ⟨27, .data⟩ (by rw [← ho]; simp) rfl
          have f27 : gt a 60 = .pointer (some ⟨gk, nk, none⟩) := hI.val 27 _ rfl e27
          have eg : lg L 19 = true := by unfold lg; simpa using hall ⟨19, .guard⟩ (by rw [← ho]; simp) rfl
          have fg0 : gt a 52 = .bool true := hI.val 19 _ rfl eg
          have fg := guard_of fg0 (by rw [hI.size]; decide)
          clear eg fg0
          have hcl := (HC5.out.trans hI.wld).get HN77.out id
          unfold gt at f27
          clear hall
          clear ho
          refine wpOp_step (o := _) rfl (fun K' hK' => ?_)
          go_simp
          exact hK' _ _ (hI.put 28 rfl (by decide) HND.out HLS.out  (Ch.refl _ _) rfl hI.wld)
        · simp at ho
          have e28 : lg L 28 = true := by unfold lg; simpa using hall ⟨28, .data⟩ (by rw [← ho]; simp) rfl
          have f28 : gt a 61 = .int .u8 77 := hI.val 28 _ rfl e28
          have eg : lg L 19 = true := by unfold lg; simpa using hall ⟨19, .guard⟩ (by rw [← ho]; simp) rfl
          have fg0 : gt a 52 = .bool true := hI.val 19 _ rfl eg
          have fg := guard_of fg0 (by rw [hI.size]; decide)
          clear eg fg0
          unfold gt at f28
          clear hall
          clear ho
          refine wpOp_step (o := _) rfl (fun K' hK' => ?_)
          go_simp
          exact hK' _ _ (hI.put 29 rfl (by decide) HND.out HLS.out  (Ch.refl _ _) rfl hI.wld)
        · simp at ho
          have e19 : lg L 19 = true := by unfold lg; simpa using hall ⟨19, .data⟩ (by rw [← ho]; simp) rfl
          have f19 : gt a 52 = .bool true := hI.val 19 _ rfl e19
          have e29 : lg L 29 = true := by unfold lg; simpa using hall ⟨29, .data⟩ (by rw [← ho]; simp) rfl
          have f29 : gt a 62 = .bool true := hI.val 29 _ rfl e29
          unfold gt at f19 f29
          clear hall
          clear ho
          refine wpOp_step (o := _) rfl (fun K' hK' => ?_)
          go_simp
          exact hK' _ _ (hI.put 30 rfl (by decide) HND.out HLS.out  (Ch.refl _ _) rfl hI.wld)
        · simp at ho
          have e30 : lg L 30 = true := by unfold lg; simpa using hall ⟨30, .data⟩ (by rw [← ho]; simp) rfl
          have f30 : gt a 63 = .bool true := hI.val 30 _ rfl e30
          unfold gt at f30
          clear hall
          clear ho
          refine wpOp_step (o := _) rfl (fun K' hK' => ?_)
          go_simp
          exact hK' _ _ (hI.put 31 rfl (by decide) HND.out HLS.out  (Ch.refl _ _) rfl hI.wld)
        · simp at ho
          have eg : lg L 31 = true := by unfold lg; simpa using hall ⟨31, .guard⟩ (by rw [← ho]; simp) rfl
          have fg0 : gt a 64 = .bool true := hI.val 31 _ rfl eg
          have fg := guard_of fg0 (by rw [hI.size]; decide)
          clear eg fg0
          clear hall
          clear ho
          have HCT := Go.Lib.hid (HW.out w' (HC3.out.trans (HC5.out.trans hI.wld)))
          refine wpOp_step (o := _) rfl (fun K' hK' => ?_)
          go_simp
          refine HCT.out.mono ?_
          rintro e w3 ⟨rfl, hc⟩
          exact hK' _ _ (hI.put 32 rfl (by decide) HND.out HLS.out  hc rfl (hI.wld.trans hc))
        · simp at ho
          have e31 : lg L 31 = true := by unfold lg; simpa using hall ⟨31, .data⟩ (by rw [← ho]; simp) rfl
          have f31 : gt a 64 = .bool true := hI.val 31 _ rfl e31
          have e32 : lg L 32 = true := by unfold lg; simpa using hall ⟨32, .data⟩ (by rw [← ho]; simp) rfl
          have f32 : gt a 65 = .bool true := hI.val 32 _ rfl e32
          unfold gt at f31 f32
          clear hall
          clear ho
          refine wpOp_step (o := _) rfl (fun K' hK' => ?_)
          go_simp
          exact hK' _ _ (hI.put 33 rfl (by decide) HND.out HLS.out  (Ch.refl _ _) rfl hI.wld)
      · intro L a w' hI hal
        have hfr := hI.frame HSZ.out (by simp) (fun i hi => hal i hi)
        have k0 : gt a 33 = .agg RT := hI.val 0 _ rfl (hal 0 (by decide))
        have k1 : gt a 34 = .slice p nk ck := hI.val 1 _ rfl (hal 1 (by decide))
        have k2 : gt a 35 = .slice qa na ca := hI.val 2 _ rfl (hal 2 (by decide))
        have k3 : gt a 36 = .agg RT := hI.val 3 _ rfl (hal 3 (by decide))
        have k4 : gt a 37 = .bool true := hI.val 4 _ rfl (hal 4 (by decide))
        have k5 : gt a 38 = .bool true := hI.val 5 _ rfl (hal 5 (by decide))
        have k6 : gt a 39 = .slice (some ⟨gk, 0, none⟩) nk ck3 := hI.val 6 _ rfl (hal 6 (by decide))
        have k7 : gt a 40 = .slice sp N cap := hI.val 7 _ rfl (hal 7 (by decide))
        have k8 : gt a 41 = .agg RT := hI.val 8 _ rfl (hal 8 (by decide))
        have k9 : gt a 42 = .agg RT := hI.val 9 _ rfl (hal 9 (by decide))
        have k10 : gt a 43 = .bool true := hI.val 10 _ rfl (hal 10 (by decide))
        have k11 : gt a 44 = .bool true := hI.val 11 _ rfl (hal 11 (by decide))
        have k12 : gt a 45 = .bool true := hI.val 12 _ rfl (hal 12 (by decide))
        have k13 : gt a 46 = .slice (some ⟨gk, 0, none⟩) nk ck3 := hI.val 13 _ rfl (hal 13 (by decide))
        have k14 : gt a 47 = .string X := hI.val 14 _ rfl (hal 14 (by decide))
        have k15 : gt a 48 = .slice p nk ck := hI.val 15 _ rfl (hal 15 (by decide))
        have k16 : gt a 49 = .string X := hI.val 16 _ rfl (hal 16 (by decide))
        have k17 : gt a 50 = .bool true := hI.val 17 _ rfl (hal 17 (by decide))
        have k18 : gt a 51 = .bool true := hI.val 18 _ rfl (hal 18 (by decide))
        have k19 : gt a 52 = .bool true := hI.val 19 _ rfl (hal 19 (by decide))
        have k20 : gt a 53 = .slice (some ⟨gk, 0, none⟩) nk ck3 := hI.val 20 _ rfl (hal 20 (by decide))
        have k21 : gt a 54 = .slice p nk ck := hI.val 21 _ rfl (hal 21 (by decide))
        have k22 : gt a 55 = .int .i64 (nk : Int) := hI.val 22 _ rfl (hal 22 (by decide))
        have k23 : gt a 56 = .int .i64 ((nk : Int) + 1) := hI.val 23 _ rfl (hal 23 (by decide))
        have k24 : gt a 57 = .slice (some ⟨gk, 0, none⟩) (nk + 1) ck3 := hI.val 24 _ rfl (hal 24 (by decide))
        have k25 : gt a 58 = .slice p nk ck := hI.val 25 _ rfl (hal 25 (by decide))
        have k26 : gt a 59 = .int .i64 (nk : Int) := hI.val 26 _ rfl (hal 26 (by decide))
        have k27 : gt a 60 = .pointer (some ⟨gk, nk, none⟩) := hI.val 27 _ rfl (hal 27 (by decide))
        have k28 : gt a 61 = .int .u8 77 := hI.val 28 _ rfl (hal 28 (by decide))
        have k29 : gt a 62 = .bool true := hI.val 29 _ rfl (hal 29 (by decide))
        have k30 : gt a 63 = .bool true := hI.val 30 _ rfl (hal 30 (by decide))
        have k31 : gt a 64 = .bool true := hI.val 31 _ rfl (hal 31 (by decide))
        have k32 : gt a 65 = .bool true := hI.val 32 _ rfl (hal 32 (by decide))
        have k33 : gt a 66 = .bool true := hI.val 33 _ rfl (hal 33 (by decide))
        rw [hfr, ← HAX.out]
        have HCR := Go.Lib.hid hI.wld
        simp only [List.map_cons, List.map_nil, List.foldl_cons, List.foldl_nil, k0, k1, k2, k3, k4, k5, k6, k7, k8, k9, k10, k11, k12, k13, k14, k15, k16, k17, k18, k19, k20, k21, k22, k23, k24, k25, k26, k27, k28, k29, k30, k31, k32, k33, List.setIfInBounds_toArray, List.set_cons_succ, List.set_cons_zero]
        clear hfr hI hal k0 k1 k2 k3 k4 k5 k6 k7 k8 k9 k10 k11 k12 k13 k14 k15 k16 k17 k18 k19 k20 k21 k22 k23 k24 k25 k26 k27 k28 k29 k30 k31 k32 k33  HSZ HND HLS HAX F0 F1 F5 F7 F8
        simp only [List.drop_succ_cons, List.drop_zero]
        have HCZ := Go.Lib.hid (HC3.out.trans (HC5.out.trans HCR.out))
        clear HC3 HC5 HCR
        go_wp2_with fail
        go_ret
        exact ⟨rfl, HCZ.out⟩
end Go.Proofs.YtikdpiedjkailaaDoor
