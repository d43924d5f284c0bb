/- A tag under way: begun, New. -/
import Derived.Test.YtikdpiedjkailaaDoorH6
import Derived.Test.YtikdpiedjkailaaDoorRegR
import Derived.Great.BuildSlice
namespace Go.Proofs.YtikdpiedjkailaaDoor
open Go Go.RowKit

def macV (r : Nat) (o : Nat → UInt8) : Array Value := arr 65 fun j => if j = 0 then .pointer (some ⟨r, 0, none⟩) else .int .u8 ((o (j - 1)).toNat : Int)
theorem macV_get (r : Nat) (o : Nat → UInt8) (j : Nat) (h : j < 65) : (macV r o)[j]? = some (if j = 0 then .pointer (some ⟨r, 0, none⟩) else .int .u8 ((o (j - 1)).toNat : Int)) := arr_get 65 _ j h
theorem macV_size (r : Nat) (o : Nat → UInt8) : (macV r o).size = 65 := arr_size _ _
theorem macV_info (r : Nat) (o : Nat → UInt8) : (Tryd.prog.info? 68).map (·.size) = some (macV r o).size := by rw [macV_size]; kernel_rfl
theorem macV_all (r : Nat) (o : Nat → UInt8) : (macV r o).all (·.oneCell') = true := by
  rw [Array.all_eq_true]
  intro i hi
  have h := macV_get r o i (by rw [macV_size] at hi; exact hi)
  rw [Array.getElem?_eq_getElem hi] at h
  rw [Option.some.inj h]; split <;> rfl
theorem mac_built (r : Nat) (o : Nat → UInt8) : Tryd.prog.built 68 [(0, .agg #[.pointer (some ⟨r, 0, none⟩)]), (1, .agg (bv64 o))] = some (macV r o) := by kernel_rfl
theorem mac_of_heap {w : World} {b r n : Nat} {f o : Nat → UInt8} (h : w.heap[b]? = some (.cells (macV r o) 68)) (hr : RunAt w r f n) : MacAt w b r f n o := by
  refine ⟨(cell_of_heap h _).trans ?_, fun i hi => (cell_of_heap h _).trans ?_, hr⟩
  · rw [macV_get _ _ _ (by omega)]; rfl
  · rw [macV_get _ _ _ (by omega), if_neg (by omega), show 1 + i - 1 = i by omega]
theorem mac_load {w : World} {b r n : Nat} {f o : Nat → UInt8} (h : MacAt w b r f n o) : (loadVar 68 ⟨b, 0, none⟩).run Tryd.prog w = .ok (.agg (macV r o)) w :=
  run_loadVar_part (P := Tryd.prog) w ⟨b, 0, none⟩ 68 (macV r o) _ (fun j v hj => by
    have hj65 : j < 65 := by
      have := (List.getElem?_eq_some_iff.1 hj).1
      rw [Array.length_toList, macV_size] at this
      exact this
    have e : (macV r o)[j]? = some v := by simpa using hj
    rw [macV_get _ _ _ hj65] at e
    rw [← Option.some.inj e, show (⟨b, 0, none⟩ : Addr).add j = ⟨b, j, none⟩ by simp [Addr.add]; omega]
    clear hj
    by_cases h0 : j = 0
    · subst h0; exact h.ptr
    · rw [if_neg h0]
      have := h.outer (j - 1) (by omega)
      rw [show 1 + (j - 1) = j by omega] at this
      exact this) Tryd.underlying68 rfl (macV_info r o)
theorem put_none (a : Act) (v : Value) : a.put none v = a := rfl
theorem zero65 : Tryd.prog.info? 68 = Tryd.prog.info? 68 := rfl

/-- The inner block, and a message behind it. -/
def inK (k : Nat → UInt8) (f : Nat → UInt8) : Nat → UInt8 := catB 64 (fun i => k i ^^^ 54) f
theorem inK_lt (k f : Nat → UInt8) (j : Nat) (h : j < 64) : inK k f j = k j ^^^ 54 := by unfold inK catB; rw [if_pos h]
theorem inK_ge (k f : Nat → UInt8) (j : Nat) : inK k f (64 + j) = f j := by unfold inK catB; rw [if_neg (by omega), show 64 + j - 64 = j by omega]

set_option maxRecDepth 100000 in
set_option maxHeartbeats 2000000 in
theorem mbegun_any (p : Option Addr) (n c : Nat) (f : Nat → UInt8) (w : World) (hn : n ≤ 1000000000) (hf : BytesAt w p n c f) (hK : KAt w) (m : Nat → UInt8) :
    Calls Tryd.prog 26 #[.slice p n c] w fun e w' => ∃ r, e = .returned (.agg (macV r fun i => kb f n i ^^^ 92)) ∧ w.heap.size ≤ r ∧ r < w'.heap.size ∧ RunAt w' r (inK (kb f n) m) 64 ∧ Ch (fun _ => False) w w' := by
  have HK := Go.Lib.hid hK
  have HB := Go.Lib.hid (fun (W : World) (hc : Ch (fun _ => False) w W) => blocks_any p n c f W hn (hf.ch hc (fun _ _ h => h)) (hK.ch hc id))
  clear hf hK
  generalize kb f n = k at *
  go_enter Tryd.func26, Tryd.ntmps26
  go_wp2_with fail
  refine (HB.out _ ((Ch.refl _ w).alloc _)).mono ?_
  rintro e w1 ⟨b, rfl, hb1, hb2, hcells, hc1⟩
  have hb0 : w.heap.size + 1 ≤ b := by simpa using hb1
  have HCE := Go.Lib.hid hcells; have HC1 := Go.Lib.hid (((Ch.refl _ w).alloc _).trans hc1)
  have HR1 := Go.Lib.hid (hc1.heap (World.alloc_heap_new w _) id)
  clear hcells hc1 hb1
  have HT54 := Go.Lib.hid (fun (W : World) (h : ∀ i, i < 64 → W.cell? ⟨b, i, none⟩ = some (.int .u8 ((k i).toNat : Int))) => turn_any b 54 k W h)
  have HT92 := Go.Lib.hid (fun (W : World) (h : ∀ i, i < 64 → W.cell? ⟨b, i, none⟩ = some (.int .u8 ((k i).toNat : Int))) => turn_any b 92 k W h)
  rw [show (((54 : UInt8).toNat : Nat) : Int) = 54 from rfl] at HT54
  rw [show (((92 : UInt8).toNat : Nat) : Int) = 92 from rfl] at HT92
  have HIN := Go.Lib.hid (fun j (hj : j < 64) => inK_lt k m j hj)
  generalize hF : inK k m = F at *
  have HFF := Go.Lib.hid hF
  clear hF
  have HI1 := Go.Lib.hid (bv64_info fun i => k i ^^^ 54); have HA1 := Go.Lib.hid (bv64_all fun i => k i ^^^ 54); have HZ1 := Go.Lib.hid (bv64_size fun i => k i ^^^ 54)
  go_wp2_with fail
  refine (HT54.out _ HCE.out).mono ?_
  rintro e w2 ⟨rfl, hc2⟩
  have HC2 := Go.Lib.hid (HC1.out.trans hc2); have HR2 := Go.Lib.hid (hc2.heap HR1.out id)
  have HCE2 := Go.Lib.hid (fun i (hi : i < 64) => hc2.get (HCE.out i hi) id)
  clear hc2 HC1 HR1 HCE
  go_wp2_with (refine wpList_store_row rfl 66 (.tmp 4) (.tmp 9) rfl w2.heap.size (bv64 fun i => k i ^^^ 54) rfl rfl 66 _ (World.alloc_heap_new w2 _) HI1.out (by rw [HZ1.out]; rfl) HA1.out ?_)
  generalize hA : World.setRow _ w2.heap.size (bv64 fun i => k i ^^^ 54) = W3
  have hx3 : W3.heap[w2.heap.size]? = some (.cells (bv64 fun i => k i ^^^ 54) 66) := by rw [← hA]; exact heap_setRow (World.alloc_heap_new w2 _)
  have hc3 : Ch (fun _ => False) w2 W3 := by rw [← hA]; exact ((Ch.refl _ _).alloc _).setRow (fun h => absurd h (Nat.lt_irrefl _)) _
  have hs3 : w2.heap.size < W3.heap.size := (Array.getElem?_eq_some_iff.1 hx3).1
  have hw3 : w.heap.size < W3.heap.size := (Array.getElem?_eq_some_iff.1 (hc3.heap HR2.out id)).1
  have HX3 := Go.Lib.hid hx3; have HR3 := Go.Lib.hid (hc3.heap HR2.out id); have HC3 := Go.Lib.hid (HC2.out.trans hc3)
  have HCE3 := Go.Lib.hid (fun i (hi : i < 64) => hc3.get (HCE2.out i hi) id)
  clear hA hx3 hc3 HR2 HC2 HCE2
  generalize w2.heap.size = X at *
  refine (new_any _).mono ?_
  rintro e w4 ⟨r, rfl, hr1, hr2, hr3, hc4⟩
  have HRU4 := Go.Lib.hid (hr3 F)
  have HX4 := Go.Lib.hid (hc4.heap HX3.out id); have HR4 := Go.Lib.hid (hc4.heap HR3.out id); have HC4 := Go.Lib.hid (HC3.out.trans hc4)
  have HCE4 := Go.Lib.hid (fun i (hi : i < 64) => hc4.get (HCE3.out i hi) id)
  clear hr3 hc4 HX3 HR3 HC3 HCE3
  go_wp2_with fail
  refine (HT92.out _ HCE4.out).mono ?_
  rintro e w5 ⟨rfl, hc5⟩
  have HRU5 := Go.Lib.hid (HRU4.out.ch hc5 id)
  have HX5 := Go.Lib.hid (hc5.heap HX4.out id); have HR5 := Go.Lib.hid (hc5.heap HR4.out id); have HC5 := Go.Lib.hid (HC4.out.trans hc5)
  have hr5 : r < w5.heap.size := Nat.lt_of_lt_of_le hr2 hc5.size
  clear hc5 HX4 HR4 HC4 HCE4 HT54 HT92 HRU4
  generalize ho : (fun i => k i ^^^ 92) = o at *
  have HO := Go.Lib.hid ho
  have HMI := Go.Lib.hid (macV_info r o); have HMA := Go.Lib.hid (macV_all r o); have HMZ := Go.Lib.hid (macV_size r o); have HMB := Go.Lib.hid (mac_built r o)
  clear ho HI1 HA1 HZ1
  go_upto_region 4 with (first | (refine wpList_buildTo rfl 68 _ rfl (some 14) rfl (macV r o) (by kernel_rfl) ?_) | (refine wpList_store_row rfl 68 (.tmp 5) (.tmp 14) rfl w5.heap.size (macV r o) rfl rfl 68 _ (World.alloc_heap_new w5 _) HMI.out (by rw [HMZ.out]; rfl) HMA.out ?_))
  generalize hA : World.setRow _ w5.heap.size (macV r o) = W6
  have hx6 : W6.heap[w5.heap.size]? = some (.cells (macV r o) 68) := by rw [← hA]; exact heap_setRow (World.alloc_heap_new w5 _)
  have hc6 : Ch (fun _ => False) w5 W6 := by rw [← hA]; exact ((Ch.refl _ _).alloc _).setRow (fun h => absurd h (Nat.lt_irrefl _)) _
  have HY6 := Go.Lib.hid hx6; have HX6 := Go.Lib.hid (hc6.heap HX5.out id); have HR6 := Go.Lib.hid (hc6.heap HR5.out id); have HC6 := Go.Lib.hid (HC5.out.trans hc6); have HRU6 := Go.Lib.hid (HRU5.out.ch hc6 id)
  have hr6 : r < w5.heap.size := hr5
  clear hA hx6 hc6 HR5 HC5 HX5 HRU5 hr5
  generalize w5.heap.size = Y at *
  have HLD := Go.Lib.hid (fun (W : World) (h : W.cell? ⟨Y, 0, none⟩ = some (.pointer (some ⟨r, 0, none⟩))) => run_loadVar_part (P := Tryd.prog) W ⟨Y, 0, none⟩ 64 #[.pointer (some ⟨r, 0, none⟩)] _ (fun j v hj => by
    match j, hj with
    | 0, hj => obtain rfl : Value.pointer (some ⟨r, 0, none⟩) = v := by simpa using hj
               simpa [Addr.add] using h) Tryd.underlying64 rfl (by kernel_rfl))
  have HTK := Go.Lib.hid (fun (W : World) (g : Nat) (hg : W.heap[g]? = some (.cells #[.slice (some ⟨X, 0, none⟩) 64 64] 22)) (hx : W.heap[X]? = some (.cells (bv64 fun i => k i ^^^ 54) 66)) (hr : RunAt W r F 0) (hk : KAt W) (hXr : X ≠ r) (hgr : g ≠ r) (hr0 : r ≠ 0) =>
    take_any r 0 g 0 1 1 (some ⟨g, 0, none⟩) (fun _ => some ⟨X, 0, none⟩) (fun _ => 64) (fun _ => 64) F W (.inl rfl) (by omega) hr0 (by decide)
      (parts_of (fun i hi => by
        obtain rfl : i = 0 := by omega
        exact cell_of_heap hg 0) (fun i hi => by
        obtain rfl : i = 0 := by omega
        refine .inl ⟨X, 0, rfl, Nat.le_refl _, fun j hj => ?_⟩
        have hj' : j < 64 := hj
        rw [Nat.zero_add]
        refine (cell_of_heap hx _).trans ?_
        have e0 : 0 + (upto (fun _ => 64) 0 + j) = j := by simp [upto]
        show _ = some (Value.int .u8 ((F (0 + (upto (fun _ => 64) 0 + j))).toNat : Int))
        rw [bv64_get _ j hj', e0, HIN.out j hj'])) (fun i x y hi hm e => by cases e; exact hXr) hgr hr hk)
  rw [show (0 + upto (fun _ => 64) 1) = 64 from rfl] at HTK
  have HP6 := Go.Lib.hid ((cell_of_heap HY6.out 0).trans (macV_get r o 0 (by omega)))
  rw [put_none]
  have HGS := Go.Lib.hid (fun (w' : World) (g : Nat) (h : w'.heap[g]? = some (.cells #[.slice (some ⟨X, 0, none⟩) 64 64] 22)) (hr : w'.cell? ⟨r, 24, none⟩ = some (.int .i64 0)) => (show g ≠ r from fun e => by subst e; have := cell_of_heap h 24; rw [hr] at this; simp at this))
  generalize hax : Act.mk _ _ = ax
  have HSZ := Go.Lib.hid (show ax.tmps.size = 21 by rw [← hax]; rfl)
  have F4 := Go.Lib.hid (show gt ax 4 = .pointer (some ⟨X, 0, none⟩) by rw [← hax]; rfl)
  have F5 := Go.Lib.hid (show gt ax 5 = .pointer (some ⟨Y, 0, none⟩) by rw [← hax]; rfl)
  have HAX := Go.Lib.hid hax
  clear hax
  have HND := Go.Lib.hid (show ([15, 16, 17, 18] : List Nat).Nodup by decide)
  have HLS : Hid (Lasts [(15, fun x _ => x = .pointer (some ⟨Y, 0, none⟩)), (16, fun x _ => x = .agg #[.pointer (some ⟨r, 0, none⟩)]), (17, fun x _ => x = .slice (some ⟨X, 0, none⟩) 64 64), (18, fun x v => ∃ g, x = .slice (some ⟨g, 0, none⟩) 1 1 ∧ v.heap[g]? = some (.cells #[.slice (some ⟨X, 0, none⟩) 64 64] 22))]) := Go.Lib.hid (by
    intro p hp v w1 w2 hc h
    simp only [List.mem_cons, List.not_mem_nil, or_false] at hp
    rcases hp with rfl | rfl | rfl | rfl
    all_goals first | exact h | (obtain ⟨g, h1, h2⟩ := h; exact ⟨g, h1, hc.heap h2 id⟩) | (obtain ⟨g, c, h1, h2⟩ := h; exact ⟨g, c, h1, h2.ch hc (fun _ _ h => h)⟩))
  refine wp_region_open_tail 4 (InvQ 21 [(15, fun x _ => x = .pointer (some ⟨Y, 0, none⟩)), (16, fun x _ => x = .agg #[.pointer (some ⟨r, 0, none⟩)]), (17, fun x _ => x = .slice (some ⟨X, 0, none⟩) 64 64), (18, fun x v => ∃ g, x = .slice (some ⟨g, 0, none⟩) 1 1 ∧ v.heap[g]? = some (.cells #[.slice (some ⟨X, 0, none⟩) 64 64] 22))] (fun _ w' => Ch (fun _ => False) W6 w') ax) (by kernel_rfl) (by kernel_rfl) (InvQ.start (by simp) HSZ.out (Ch.refl _ _).drew) ?_ ?_
  · intro L a w' i hI hr hlt
    obtain ⟨h1, o, ho, hall⟩ := mem_ready.1 hr
    have hsplit : i = 0 ∨ i = 1 ∨ i = 2 ∨ i = 3 := by omega
    clear hlt h1 hr
    rcases hsplit with rfl | rfl | rfl | rfl
    · have q5 := (hI.fixed 5 (by simp)).trans F5.out
      unfold gt at q5
      clear hall
      refine wpOp_step (o := _) rfl (fun K' hK' => ?_)
      go_simp
      exact hK' _ _ (hI.put 0 rfl (by decide) HND.out HLS.out  (Ch.refl _ _) rfl hI.wld)
    · simp at ho
      have e0 : lg L 0 = true := by unfold lg; simpa using hall ⟨0, .data⟩ (by rw [← ho]; simp) rfl
      have f0 : gt a 15 = .pointer (some ⟨Y, 0, none⟩) := hI.val 0 _ rfl e0
      unfold gt at f0
      clear hall
      clear ho
      refine wpOp_step (o := _) rfl (fun K' hK' => ?_)
      exact wp_load_at 64 (.tmp 15) rfl ⟨Y, 0, none⟩ (by simpa [Act.eval] using f0) _ (HLD.out w' (hI.wld.get HP6.out id)) (hK' _ _ (hI.put 1 rfl (by decide) HND.out HLS.out  (Ch.refl _ _) rfl hI.wld))
    · have q4 := (hI.fixed 4 (by simp)).trans F4.out
      unfold gt at q4
      clear hall
      refine wpOp_step (o := _) rfl (fun K' hK' => ?_)
      go_simp
      exact hK' _ _ (hI.put 2 rfl (by decide) HND.out HLS.out  (Ch.refl _ _) rfl hI.wld)
    · simp at ho
      have e2 : lg L 2 = true := by unfold lg; simpa using hall ⟨2, .data⟩ (by rw [← ho]; simp) rfl
      have f2 : gt a 17 = .slice (some ⟨X, 0, none⟩) 64 64 := hI.val 2 _ rfl e2
      unfold gt at f2
      clear hall
      clear ho
      refine wpOp_step (o := _) rfl (fun K' hK' => ?_)
      go_simp
      exact hK' _ _ (hI.put 3 rfl (by decide) HND.out HLS.out  ((Ch.refl _ _).alloc _) ⟨_, rfl, World.alloc_heap_new w' _⟩ (hI.wld.alloc _))
  · intro L a w' hI hal
    have hfr := hI.frame HSZ.out (by simp) (fun i hi => hal i hi)
    have k0 : gt a 15 = .pointer (some ⟨Y, 0, none⟩) := hI.val 0 _ rfl (hal 0 (by decide))
    have k1 : gt a 16 = .agg #[.pointer (some ⟨r, 0, none⟩)] := hI.val 1 _ rfl (hal 1 (by decide))
    have k2 : gt a 17 = .slice (some ⟨X, 0, none⟩) 64 64 := hI.val 2 _ rfl (hal 2 (by decide))
    obtain ⟨g3, k3, hh3⟩ : ∃ g, gt a 18 = .slice (some ⟨g, 0, none⟩) 1 1 ∧ w'.heap[g]? = some (.cells #[.slice (some ⟨X, 0, none⟩) 64 64] 22) := hI.val 3 _ rfl (hal 3 (by decide))
    have H3 := Go.Lib.hid hh3
    rw [hfr, ← HAX.out]
    have HCR := Go.Lib.hid hI.wld
    simp only [List.map_cons, List.map_nil, List.foldl_cons, List.foldl_nil, k0, k1, k2, k3, List.setIfInBounds_toArray, List.set_cons_succ, List.set_cons_zero]
    clear hfr hI hal k0 k1 k2 k3 hh3 HSZ HND HLS HAX F4 F5
    simp only [List.drop_succ_cons, List.drop_zero]
    have HC7 := Go.Lib.hid (HC6.out.trans HCR.out); have HY7 := Go.Lib.hid (HCR.out.heap HY6.out id); have HX7 := Go.Lib.hid (HCR.out.heap HX6.out id); have HR7 := Go.Lib.hid (HCR.out.heap HR6.out id); have HRU7 := Go.Lib.hid (HRU6.out.ch HCR.out id)
    have hgr : g3 ≠ r := HGS.out w' g3 H3.out HRU7.out.cnt
    clear HC6 HY6 HX6 HR6 HRU6 HCR HGS
    have HKW := Go.Lib.hid (HK.out.ch HC7.out id)
    go_wp2_with fail
    refine (HTK.out w' g3 H3.out HX7.out HRU7.out HKW.out (by omega) hgr (by omega)).mono ?_
    rintro e w8 ⟨rfl, hc8, hr8⟩
    have HRU8 := Go.Lib.hid hr8; have HY8 := Go.Lib.hid (hc8.heap HY7.out (by omega)); have HR8 := Go.Lib.hid (hc8.heap HR7.out (by omega))
    have HC8 := Go.Lib.hid (HC7.out.then hc8 (fun i hi h => by omega))
    have hl8 : r < w8.heap.size := cell_lt hr8.cnt
    have HML := Go.Lib.hid (mac_load (mac_of_heap HY8.out HRU8.out))
    clear hc8 hr8 HTK HKW HLD HMB
    go_wp2_with (first | (refine wpList_load_at rfl 68 (.tmp 5) rfl ⟨Y, 0, none⟩ rfl (.agg (macV r o)) HML.out ?_) | (refine wpList_store_row rfl 68 (.tmp 2) (.tmp 20) rfl w.heap.size (macV r o) rfl rfl 68 _ HR8.out HMI.out (by rw [HMZ.out]; rfl) HMA.out ?_))
    refine bodyPost_ret (results_cell_row (h := Tryd.results26) _ _ w.heap.size 68 _ (0, 0) _ rfl (heap_setRow HR8.out) Tryd.underlying68 rfl HMI.out) rfl ⟨r, by rw [HO.out], by omega, ?_, ?_, ?_⟩
    · exact Nat.lt_of_lt_of_le hl8 ((Ch.refl (fun _ => True) w8).setRow (fun _ => trivial) _).size
    · rw [HFF.out]; exact HRU8.out.ch (Ch.setRow (S := fun k => k = w.heap.size) (Ch.refl _ w8) (fun _ => rfl) _) (by omega)
    · exact HC8.out.setRow (fun h => absurd h (Nat.lt_irrefl _)) _

set_option maxRecDepth 100000 in
set_option maxHeartbeats 1000000 in
theorem mnew_any (p : Option Addr) (n c : Nat) (f : Nat → UInt8) (w : World) (hn : n ≤ 1000000000) (hf : BytesAt w p n c f) (hK : KAt w) (m : Nat → UInt8) :
    Calls Tryd.prog 20 #[.slice p n c] w fun e w' => ∃ b r, e = .returned (.pointer (some ⟨b, 0, none⟩)) ∧ w.heap.size ≤ r ∧ r < b ∧ b < w'.heap.size ∧ MacAt w' b r (inK (kb f n) m) 64 (fun i => kb f n i ^^^ 92) ∧ Ch (fun _ => False) w w' := by
  have HB := Go.Lib.hid (mbegun_any p n c f w hn hf hK m)
  clear hf hK
  generalize kb f n = k at *
  generalize inK k m = F at *
  generalize (fun i => k i ^^^ 92) = o at *
  go_enter Tryd.func20, Tryd.ntmps20
  go_wp2_with fail
  refine HB.out.mono ?_
  rintro e w1 ⟨r, rfl, hr1, hr2, hr3, hc1⟩
  have HR := Go.Lib.hid hr3; have HC := Go.Lib.hid hc1
  have HMI := Go.Lib.hid (macV_info r o); have HMA := Go.Lib.hid (macV_all r o); have HMZ := Go.Lib.hid (macV_size r o)
  clear hr3 hc1
  go_wp2_with (refine wpList_store_row rfl 68 (.tmp 3) (.tmp 5) rfl w1.heap.size (macV r o) rfl rfl 68 _ (World.alloc_heap_new w1 _) HMI.out (by rw [HMZ.out]; rfl) HMA.out ?_)
  go_ret
  refine ⟨_, r, rfl, hr1, hr2, ?_, mac_of_heap (heap_setRow (World.alloc_heap_new w1 _)) (HR.out.ch (((Ch.refl (fun _ => False) _).alloc _).setRow (fun h => absurd h (Nat.lt_irrefl _)) _) id), (HC.out.alloc _).setRow (fun h => by have := HC.out.size; omega) _⟩
  simp
end Go.Proofs.YtikdpiedjkailaaDoor
