/- T1, T2 and so on: what goes over the tags. -/
import Derived.Test.YtikdpiedjkailaaDoorH11
import Derived.Test.YtikdpiedjkailaaDoorRegR
import Derived.Laws.EntriesVeiled
import Derived.RangeFuncNested
import Derived.RangeFuncBound
import Derived.RangeFuncCalls
import Derived.RangeFuncLeaves
import Derived.OwnWalkIn
import Derived.TacticsInMore
import Derived.LoopNIn
import Derived.LoopIn
import Derived.Deep.LoopGhost
import Derived.Sort.QuietTacIn
import Derived.Shelf.Abstract
namespace Go.Proofs.YtikdpiedjkailaaDoor
open Go Go.RowKit

def al (t : Nat) : Nat := if t = 0 then 0 else 32
/-- What the tag number t+1 is of. -/
def msgB (s : ByteArray) (t : Nat) (T : Nat → UInt8) : Nat → UInt8 := catB (al t) T (catB s.size (byteAt s) fun _ => UInt8.ofNat (t + 1))
/-- The tags, from number 1 on. -/
def tgs (k : Nat → UInt8) (s : ByteArray) : Nat → Nat → UInt8
  | 0 => fun _ => 0
  | t + 1 => tagB k (msgB s t (tgs k s t)) (al t + (s.size + 1))
theorem tgs_succ (k : Nat → UInt8) (s : ByteArray) (t : Nat) : tgs k s (t + 1) = tagB k (msgB s t (tgs k s t)) (al t + (s.size + 1)) := rfl
def AheadAt (base : Nat) (w : World) (x : Value) (t : Nat) (T : Nat → UInt8) : Prop :=
  (t = 0 ∧ x = .slice none 0 0) ∨ (0 < t ∧ ∃ g, x = .slice (some ⟨g, 0, none⟩) 32 32 ∧ base ≤ g ∧ w.heap[g]? = some (.cells (hv T) 28))
theorem AheadAt.ch {base : Nat} {w w' : World} {x : Value} {t : Nat} {T : Nat → UInt8} {S : Nat → Prop} (h : AheadAt base w x t T) (hc : Ch S w w') (hS : ∀ i, S i → i < base) : AheadAt base w' x t T := by
  rcases h with h | ⟨h1, g, h2, h3, h4⟩
  · exact .inl h
  · exact .inr ⟨h1, g, h2, h3, hc.heap h4 (fun h => by have := hS _ h; omega)⟩
theorem AheadAt.bytes {base : Nat} {w : World} {x : Value} {t : Nat} {T : Nat → UInt8} (h : AheadAt base w x t T) : ∃ q c, x = .slice q (al t) c ∧ (∀ w', Ch (fun _ => False) w w' → BytesAt w' q (al t) c T) ∧ ∀ ad, q = some ad → ad.block < w.heap.size := by
  rcases h with ⟨rfl, rfl⟩ | ⟨h1, g, rfl, h3, h4⟩
  · exact ⟨none, 0, rfl, fun w' _ => .inr ⟨rfl, rfl, rfl⟩, fun _ e => by cases e⟩
  · have e : al t = 32 := by unfold al; rw [if_neg (by omega)]
    refine ⟨some ⟨g, 0, none⟩, 32, by rw [e], fun w' hc => ?_, fun ad ea => by cases ea; exact row_lt h4⟩
    rw [e]
    exact .inl ⟨g, 0, rfl, Nat.le_refl _, fun j hj => by rw [Nat.zero_add]; exact (cell_of_heap (hc.heap h4 id) _).trans (arr_get 32 _ j hj)⟩
theorem bytes_congr {w : World} {p : Option Addr} {n c : Nat} {f g : Nat → UInt8} (h : BytesAt w p n c f) (e : ∀ j, j < n → g j = f j) : BytesAt w p n c g := by
  rcases h with ⟨x, y, h1, h2, h3⟩ | h
  · exact .inl ⟨x, y, h1, h2, fun j hj => by rw [e j hj]; exact h3 j hj⟩
  · exact .inr h
theorem catB_ge (n : Nat) (f g : Nat → UInt8) (j : Nat) : catB n f g (n + j) = g j := by unfold catB; rw [if_neg (by omega), Nat.add_sub_cancel_left]
theorem al_le (t : Nat) : al t ≤ 32 := by unfold al; split <;> omega
theorem hash_load {w : World} {b : Nat} {g : Nat → UInt8} (h : w.heap[b]? = some (.cells (hv g) 28)) : (loadVar 28 ⟨b, 0, none⟩).run Tryd.prog w = .ok (.agg (hv g)) w :=
  run_loadVar_part (P := Tryd.prog) w ⟨b, 0, none⟩ 28 (hv g) _ (fun j v hj => by
    have e : (hv g)[j]? = some v := by simpa using hj
    rw [show (⟨b, 0, none⟩ : Addr).add j = ⟨b, j, none⟩ by simp [Addr.add]; omega]
    exact (cell_of_heap h j).trans e) Tryd.underlying28 rfl (hv_info g)

set_option maxRecDepth 100000 in
set_option maxHeartbeats 8000000 in
theorem tags1 (n l A B nk ck : Nat) (p : Option Addr) (key : Nat → UInt8) (s : ByteArray) (W : World) (S : Nat → Prop) (hA : W.cell? ⟨A, 0, none⟩ = some (.slice p nk ck)) (hB : W.cell? ⟨B, 0, none⟩ = some (.string s))
    (hkey : BytesAt W p nk ck key) (hn : nk ≤ 1000000000) (hs : s.size ≤ 1000000000) (hK : KAt W) (hS : ∀ k, S k → k < W.heap.size) (hS0 : ¬ S 0) (hSB : ¬ S B) (J : Nat → World → Prop) (Jx : World → Prop) (hJ0 : J 0 W)
    (hJ : ∀ t X Y, J t X → Ch (fun k => W.heap.size ≤ k) X Y → J t Y)  (hJx : ∀ X Y, Jx X → Ch (fun k => W.heap.size ≤ k) X Y → Jx Y)
    (hY : ∀ t W1, t ≤ 254 → J t W1 → W.heap.size ≤ W1.heap.size → YieldAt Fence.wide (n - 1) Tryd.prog l #[.agg (hv (tgs (kb key nk) s (t + 1)))] W1 fun e W' => (e = .returned (.bool true) ∧ t < 254 ∧ J (t + 1) W' ∧ Ch S W1 W') ∨ (e = .returned (.bool false) ∧ Jx W')) :
    CallsIn Fence.wide n Tryd.prog 43 #[.func (.yield l) #[] #[], .pointer (some ⟨A, 0, none⟩), .pointer (some ⟨B, 0, none⟩)] W fun e W' => (∃ v, e = .returned v) ∧ Jx W' := by
  have hb0 := cell_lt hB
  have HY := Go.Lib.hid hY; have HJ0 := Go.Lib.hid hJ0; have HJ := Go.Lib.hid hJ; have HK := Go.Lib.hid hK; have HS := Go.Lib.hid hS; have HB := Go.Lib.hid hB; have HS0 := Go.Lib.hid hS0; have HSB := Go.Lib.hid hSB
  have HBG := Go.Lib.hid (mbegun_any p nk ck key W hn hkey hK (fun _ => 0))
  have HT := Go.Lib.hid (fun t => tgs_succ (kb key nk) s t)
  generalize kb key nk = k at *
  have hA' := hA
  clear hY hJ0 hJ hK hS hkey hS0 hSB hB hA hJx
  refine callsIn_of_wp Tryd.func43 rfl trivial (wpIn_wide.2 ?_) rfl
  simp only [Tryd.ntmps43, List.size_toArray, List.length_cons, List.length_nil, Nat.reduceAdd, Nat.reduceSub, Array.replicate_succ,
     Array.replicate_zero, List.push_toArray, List.append_toArray, List.nil_append, List.cons_append]
  go_wp2_with fail
  refine HBG.out.mono ?_
  rintro e w1 ⟨r0, rfl, hq1, hq2, hr3, hc1⟩
  generalize hoo : (fun i => k i ^^^ 92) = oo at *
  have HOO := Go.Lib.hid hoo
  have HMI := Go.Lib.hid (macV_info r0 oo); have HMA := Go.Lib.hid (macV_all r0 oo); have HMZ := Go.Lib.hid (macV_size r0 oo)
  have HR := Go.Lib.hid hr3; have HC := Go.Lib.hid hc1
  clear hr3 hc1 HBG hA' hoo
  go_wp2_with (refine wpList_store_row rfl 68 (.tmp 4) (.tmp 10) rfl w1.heap.size (macV r0 oo) rfl rfl 68 _ (World.alloc_heap_new w1 _) HMI.out (by rw [HMZ.out]; rfl) HMA.out ?_)
  generalize hW2 : World.setRow _ w1.heap.size (macV r0 oo) = W2
  have hx2 : W2.heap[w1.heap.size]? = some (.cells (macV r0 oo) 68) := by rw [← hW2]; exact heap_setRow (World.alloc_heap_new w1 _)
  have hc2 : Ch (fun _ => False) w1 W2 := by rw [← hW2]; exact ((Ch.refl _ _).alloc _).setRow (fun h => absurd h (Nat.lt_irrefl _)) _
  have hsx : W.heap.size ≤ w1.heap.size := HC.out.size
  have HM2 := Go.Lib.hid (mac_of_heap hx2 (HR.out.ch hc2 id))
  have HC2 := Go.Lib.hid (HC.out.trans hc2)
  clear hx2 hc2 HR HC hW2 HMI HMA HMZ
  generalize w1.heap.size = X at *
  go_loopg [5, 6] 254 (fun gk x i wr => ∃ t : Nat, t ≤ 254 ∧ gk = 254 - t ∧ i = .int .u8 ((t : Int) + 1) ∧ AheadAt W.heap.size wr x t (tgs k s t) ∧ MacAt wr X r0 (inK k fun _ => 0) 64 oo ∧ KAt wr ∧ wr.cell? ⟨B, 0, none⟩ = some (.string s) ∧ W.heap.size ≤ wr.heap.size ∧ J t wr)
  case atStart => exact ⟨0, by omega, rfl, rfl, .inl ⟨rfl, rfl⟩, HM2.out, HK.out.ch HC2.out id, HC2.out.get HB.out id, HC2.out.size, HJ.out 0 _ _ HJ0.out (HC2.out.mono (fun _ _ h => h.elim))⟩
  case round =>
    obtain ⟨t, ht, hg, rfl, hah, hm, hk, hb, hsz, hj⟩ := hrel
    obtain ⟨qa, ca, rfl, hab, hal⟩ := hah.bytes
    have HAB := Go.Lib.hid hab; have HAL := Go.Lib.hid hal; have HM := Go.Lib.hid hm; have HKr := Go.Lib.hid hk; have HBr := Go.Lib.hid hb; have HJr := Go.Lib.hid hj; have HGK := Go.Lib.hid hg
    have HF := Go.Lib.hid (forked_any X r0 64 _ oo wr hm)
    have hale := al_le t
    clear hah hab hal hm hk hb hj hg HC2 HM2
    have HTT := Go.Lib.hid (HT.out t)
    generalize hTn : tgs k s (t + 1) = Tn at *
    generalize tgs k s t = T at *
    have HTn := Go.Lib.hid hTn
    clear hTn
    go_wp2_with fail
    refine HF.out.mono ?_
    rintro e w3 ⟨r, rfl, hr1, hr2, hr3, hc3⟩
    have HMI := Go.Lib.hid (macV_info r oo); have HMA := Go.Lib.hid (macV_all r oo); have HMZ := Go.Lib.hid (macV_size r oo)
    have HR := Go.Lib.hid (hr3.congr (g := inK k (msgB s t T)) (fun i hi => by rw [inK_lt _ _ _ hi, inK_lt _ _ _ hi])); have HC3 := Go.Lib.hid hc3
    clear hr3 hc3 HF
    go_upto_region 5 with (refine wpList_store_row rfl 68 (.tmp 7) (.tmp 13) rfl w3.heap.size (macV r oo) rfl rfl 68 _ (World.alloc_heap_new w3 _) HMI.out (by rw [HMZ.out]; rfl) HMA.out ?_)
    generalize hW4 : World.setRow _ w3.heap.size (macV r oo) = W4
    have hx4 : W4.heap[w3.heap.size]? = some (.cells (macV r oo) 68) := by rw [← hW4]; exact heap_setRow (World.alloc_heap_new w3 _)
    have hc4 : Ch (fun _ => False) w3 W4 := by rw [← hW4]; exact ((Ch.refl _ _).alloc _).setRow (fun h => absurd h (Nat.lt_irrefl _)) _
    have HR4 := Go.Lib.hid (HR.out.ch hc4 id)
    have HX4 := Go.Lib.hid hx4
    have HC4 := Go.Lib.hid (HC3.out.trans hc4)
    have hrl4 : r < W4.heap.size := cell_lt HR4.out.cnt
    have hMl : w3.heap.size < W4.heap.size := row_lt hx4
    have hrM : r < w3.heap.size := hr2
    clear hx4 hc4 HR HC3 hW4 HMI HMA HMZ
    generalize w3.heap.size = M at *
    have HLD := Go.Lib.hid (fun w' (hc : Ch (fun _ => False) W4 w') => ptr_load M r w' (hc.get ((cell_of_heap HX4.out 0).trans (macV_get r oo 0 (by omega))) id))
    have HB4 := Go.Lib.hid (HC4.out.get HBr.out id)
    have hu8 : ((t : Int) + 1) = ((UInt8.ofNat (t + 1)).toNat : Int) := by rw [UInt8.toNat_ofNat']; omega
    have HU8 := Go.Lib.hid hu8
    have HTG := Go.Lib.hid (fun w' g (h : w'.heap[g]? = some (.cells #[.int .u8 ((t : Int) + 1)] 5)) => together_s2 s (some ⟨g, 0, none⟩) 1 1 (fun _ => UInt8.ofNat (t + 1)) w' (by omega) (.inl ⟨g, 0, rfl, Nat.le_refl _, fun j hj => by
      obtain rfl : j = 0 := by omega
      rw [← HU8.out]
      exact cell_of_heap h 0⟩) (by omega))
    clear hu8
    rw [put_none]
    generalize hax : Act.mk _ _ = ax
    have HSZ := Go.Lib.hid (show ax.tmps.size = 29 by rw [← hax]; rfl)
    have F2 := Go.Lib.hid (show gt ax 2 = .pointer (some ⟨B, 0, none⟩) by rw [← hax]; rfl)
    have F5 := Go.Lib.hid (show gt ax 5 = .slice qa (al t) ca by rw [← hax]; rfl)
    have F6 := Go.Lib.hid (show gt ax 6 = .int .u8 ((t : Int) + 1) by rw [← hax]; rfl)
    have F7 := Go.Lib.hid (show gt ax 7 = .pointer (some ⟨M, 0, none⟩) by rw [← hax]; rfl)
    have HAX := Go.Lib.hid hax
    clear hax
    have HND := Go.Lib.hid (show ([14, 15, 16, 17, 18, 19, 20, 21] : List Nat).Nodup by decide)
    have HLS : Hid (Lasts [(14, fun x _ => x = .pointer (some ⟨M, 0, none⟩)), (15, fun x _ => x = .agg #[.pointer (some ⟨r, 0, none⟩)]), (16, fun x _ => x = .slice qa (al t) ca), (17, fun x _ => x = .string s), (18, fun x _ => x = .int .u8 ((t : Int) + 1)), (19, fun x v => ∃ g, x = .slice (some ⟨g, 0, none⟩) 1 1 ∧ v.heap[g]? = some (.cells #[.int .u8 ((t : Int) + 1)] 5)), (20, fun x v => ∃ q d, x = .slice q (s.size + 1) d ∧ (BytesAt v q (s.size + 1) d (catB s.size (byteAt s) fun _ => UInt8.ofNat (t + 1)) ∧ ∀ ad, q = some ad → W4.heap.size ≤ ad.block)), (21, fun x v => ∃ g q, x = .slice (some ⟨g, 0, none⟩) 2 2 ∧ ∃ d, v.heap[g]? = some (.cells #[.slice qa (al t) ca, .slice q (s.size + 1) d] 22) ∧ BytesAt v q (s.size + 1) d (catB s.size (byteAt s) fun _ => UInt8.ofNat (t + 1)) ∧ ∀ ad, q = some ad → W4.heap.size ≤ ad.block)]) := Go.Lib.hid (by
      intro p hp v w1 w2 hc h
      simp only [List.mem_cons, List.not_mem_nil, or_false] at hp
      rcases hp with rfl | rfl | rfl | rfl | rfl | rfl | rfl | rfl
      all_goals first | exact h | (obtain ⟨g, h1, h2⟩ := h; exact ⟨g, h1, hc.heap h2 id⟩) | (obtain ⟨g, c, h1, h2, h3⟩ := h; exact ⟨g, c, h1, h2.ch hc (fun _ _ h => h), h3⟩) | (obtain ⟨g, c, h1, d, h2, h3, h4⟩ := h; exact ⟨g, c, h1, d, hc.heap h2 id, h3.ch hc (fun _ _ h => h), h4⟩))
    refine wp_region_open_tail 8 (InvQ 29 [(14, fun x _ => x = .pointer (some ⟨M, 0, none⟩)), (15, fun x _ => x = .agg #[.pointer (some ⟨r, 0, none⟩)]), (16, fun x _ => x = .slice qa (al t) ca), (17, fun x _ => x = .string s), (18, fun x _ => x = .int .u8 ((t : Int) + 1)), (19, fun x v => ∃ g, x = .slice (some ⟨g, 0, none⟩) 1 1 ∧ v.heap[g]? = some (.cells #[.int .u8 ((t : Int) + 1)] 5)), (20, fun x v => ∃ q d, x = .slice q (s.size + 1) d ∧ (BytesAt v q (s.size + 1) d (catB s.size (byteAt s) fun _ => UInt8.ofNat (t + 1)) ∧ ∀ ad, q = some ad → W4.heap.size ≤ ad.block)), (21, fun x v => ∃ g q, x = .slice (some ⟨g, 0, none⟩) 2 2 ∧ ∃ d, v.heap[g]? = some (.cells #[.slice qa (al t) ca, .slice q (s.size + 1) d] 22) ∧ BytesAt v q (s.size + 1) d (catB s.size (byteAt s) fun _ => UInt8.ofNat (t + 1)) ∧ ∀ ad, q = some ad → W4.heap.size ≤ ad.block)] (fun _ w' => Ch (fun _ => False) W4 w') ax) (by kernel_rfl) (by kernel_rfl) (InvQ.start (by simp) HSZ.out (Ch.refl _ _).drew) ?_ ?_
    · intro L a w' i hI hr hlt
      obtain ⟨h1, o, ho, hall⟩ := mem_ready.1 hr
      have hsplit : i = 0 ∨ i = 1 ∨ i = 2 ∨ i = 3 ∨ i = 4 ∨ i = 5 ∨ i = 6 ∨ i = 7 := by omega
      clear hlt h1 hr
      rcases hsplit with rfl | rfl | rfl | rfl | rfl | rfl | rfl | rfl
      · have q7 := (hI.fixed 7 (by simp)).trans F7.out
        unfold gt at q7
        clear hall
        refine wpOp_step (o := _) rfl (fun K' hK' => ?_)
        go_simp
        exact hK' _ _ (hI.put 0 rfl (by decide) HND.out HLS.out  (Ch.refl _ _) rfl hI.wld)
      · simp at ho
        have e0 : lg L 0 = true := by unfold lg; simpa using hall ⟨0, .data⟩ (by rw [← ho]; simp) rfl
        have f0 : gt a 14 = .pointer (some ⟨M, 0, none⟩) := hI.val 0 _ rfl e0
        unfold gt at f0
        clear hall
        clear ho
        refine wpOp_step (o := _) rfl (fun K' hK' => ?_)
        exact wp_load_at 64 (.tmp 14) rfl ⟨M, 0, none⟩ (by simpa [Act.eval] using f0) _ (HLD.out w' hI.wld) (hK' _ _ (hI.put 1 rfl (by decide) HND.out HLS.out  (Ch.refl _ _) rfl hI.wld))
      · have q5 := (hI.fixed 5 (by simp)).trans F5.out
        unfold gt at q5
        clear hall
        refine wpOp_step (o := _) rfl (fun K' hK' => ?_)
        go_simp
        exact hK' _ _ (hI.put 2 rfl (by decide) HND.out HLS.out  (Ch.refl _ _) rfl hI.wld)
      · have q2 := (hI.fixed 2 (by simp)).trans F2.out
        have hst := hI.wld.get HB4.out id
        unfold gt at q2
        clear hall
        refine wpOp_step (o := _) rfl (fun K' hK' => ?_)
        go_simp
        exact hK' _ _ (hI.put 3 rfl (by decide) HND.out HLS.out  (Ch.refl _ _) rfl hI.wld)
      · have q6 := (hI.fixed 6 (by simp)).trans F6.out
        unfold gt at q6
        clear hall
        refine wpOp_step (o := _) rfl (fun K' hK' => ?_)
        go_simp
        exact hK' _ _ (hI.put 4 rfl (by decide) HND.out HLS.out  (Ch.refl _ _) rfl hI.wld)
      · simp at ho
        have e4 : lg L 4 = true := by unfold lg; simpa using hall ⟨4, .data⟩ (by rw [← ho]; simp) rfl
        have f4 : gt a 18 = .int .u8 ((t : Int) + 1) := hI.val 4 _ rfl e4
        unfold gt at f4
        clear hall
        clear ho
        refine wpOp_step (o := _) rfl (fun K' hK' => ?_)
        go_simp
        exact hK' _ _ (hI.put 5 rfl (by decide) HND.out HLS.out  ((Ch.refl _ _).alloc _) ⟨_, rfl, World.alloc_heap_new w' _⟩ (hI.wld.alloc _))
      · simp at ho
        have e3 : lg L 3 = true := by unfold lg; simpa using hall ⟨3, .data⟩ (by rw [← ho]; simp) rfl
        have f3 : gt a 17 = .string s := hI.val 3 _ rfl e3
        have e5 : lg L 5 = true := by unfold lg; simpa using hall ⟨5, .data⟩ (by rw [← ho]; simp) rfl
        obtain ⟨g5, f5, hh5⟩ : ∃ g, gt a 19 = .slice (some ⟨g, 0, none⟩) 1 1 ∧ w'.heap[g]? = some (.cells #[.int .u8 ((t : Int) + 1)] 5) := hI.val 5 _ rfl e5
        unfold gt at f3 f5
        clear hall
        clear ho
        have HCT := Go.Lib.hid (HTG.out w' g5 hh5)
        refine wpOp_step (o := _) rfl (fun K' hK' => ?_)
        go_simp
        refine HCT.out.mono ?_
        rintro e w5 ⟨q, d, rfl, hq, hge, hc⟩
        exact hK' _ _ (hI.put 6 rfl (by decide) HND.out HLS.out hc ⟨q, d, rfl, hq, fun ad e => Nat.le_trans hI.wld.size (hge ad e)⟩ (hI.wld.trans hc))
      · simp at ho
        have e2 : lg L 2 = true := by unfold lg; simpa using hall ⟨2, .data⟩ (by rw [← ho]; simp) rfl
        have f2 : gt a 16 = .slice qa (al t) ca := hI.val 2 _ rfl e2
        have e6 : lg L 6 = true := by unfold lg; simpa using hall ⟨6, .data⟩ (by rw [← ho]; simp) rfl
        obtain ⟨g6, c6, f6, hh6⟩ : (fun x v => ∃ q d, x = .slice q (s.size + 1) d ∧ (BytesAt v q (s.size + 1) d (catB s.size (byteAt s) fun _ => UInt8.ofNat (t + 1)) ∧ ∀ ad, q = some ad → W4.heap.size ≤ ad.block)) (gt a 20) w' := hI.val 6 _ rfl e6
        unfold gt at f2 f6
        clear hall
        clear ho
        refine wpOp_step (o := _) rfl (fun K' hK' => ?_)
        go_simp
        exact hK' _ _ (hI.put 7 rfl (by decide) HND.out HLS.out  ((Ch.refl _ _).alloc _) ⟨_, g6, rfl, c6, World.alloc_heap_new w' _, hh6.1.ch ((Ch.refl (fun _ => False) w').alloc _) (fun _ _ h => h), hh6.2⟩ (hI.wld.alloc _))
    · intro L a w' hI hal
      have hfr := hI.frame HSZ.out (by simp) (fun i hi => hal i hi)
      have k0 : gt a 14 = .pointer (some ⟨M, 0, none⟩) := hI.val 0 _ rfl (hal 0 (by decide))
      have k1 : gt a 15 = .agg #[.pointer (some ⟨r, 0, none⟩)] := hI.val 1 _ rfl (hal 1 (by decide))
      have k2 : gt a 16 = .slice qa (al t) ca := hI.val 2 _ rfl (hal 2 (by decide))
      have k3 : gt a 17 = .string s := hI.val 3 _ rfl (hal 3 (by decide))
      have k4 : gt a 18 = .int .u8 ((t : Int) + 1) := hI.val 4 _ rfl (hal 4 (by decide))
      obtain ⟨g5, k5, hh5⟩ : ∃ g, gt a 19 = .slice (some ⟨g, 0, none⟩) 1 1 ∧ w'.heap[g]? = some (.cells #[.int .u8 ((t : Int) + 1)] 5) := hI.val 5 _ rfl (hal 5 (by decide))
      have H5 := Go.Lib.hid hh5
      obtain ⟨g6, c6, k6, hh6⟩ : (fun x v => ∃ q d, x = .slice q (s.size + 1) d ∧ (BytesAt v q (s.size + 1) d (catB s.size (byteAt s) fun _ => UInt8.ofNat (t + 1)) ∧ ∀ ad, q = some ad → W4.heap.size ≤ ad.block)) (gt a 20) w' := hI.val 6 _ rfl (hal 6 (by decide))
      have H6 := Go.Lib.hid hh6
      obtain ⟨g7, c7, k7, hh7⟩ : (fun x v => ∃ g q, x = .slice (some ⟨g, 0, none⟩) 2 2 ∧ ∃ d, v.heap[g]? = some (.cells #[.slice qa (al t) ca, .slice q (s.size + 1) d] 22) ∧ BytesAt v q (s.size + 1) d (catB s.size (byteAt s) fun _ => UInt8.ofNat (t + 1)) ∧ ∀ ad, q = some ad → W4.heap.size ≤ ad.block) (gt a 21) w' := hI.val 7 _ rfl (hal 7 (by decide))
      have H7 := Go.Lib.hid hh7
      rw [hfr, ← HAX.out]
      have HCR := Go.Lib.hid hI.wld
      simp only [List.map_cons, List.map_nil, List.foldl_cons, List.foldl_nil, k0, k1, k2, k3, k4, k5, k6, k7, List.setIfInBounds_toArray, List.set_cons_succ, List.set_cons_zero]
      clear hfr hI hal k0 k1 k2 k3 k4 k5 k6 k7 hh5 hh6 hh7 HSZ HND HLS HAX F2 F5 F6 F7
      simp only [List.drop_succ_cons, List.drop_zero]
      have HC5 := Go.Lib.hid (HC4.out.trans HCR.out); have HR5 := Go.Lib.hid (HR4.out.ch HCR.out id); have HX5 := Go.Lib.hid (HCR.out.heap HX4.out id)
      obtain ⟨d7, hg7, hb7, hq7⟩ := H7.out
      have HG7 := Go.Lib.hid hg7; have HB7 := Go.Lib.hid hb7; have HQ7 := Go.Lib.hid hq7
      have HK5 := Go.Lib.hid (HKr.out.ch HC5.out id)
      have hgr : g7 ≠ r := fun e => by subst e; have := cell_of_heap HG7.out 24; rw [HR5.out.cnt] at this; simp at this
      clear HC4 HR4 HX4 HCR H7 hg7 hb7 hq7 HLD HTG H5 H6
      have htk := take_any r 64 g7 0 2 2 (some ⟨g7, 0, none⟩) (fun i => if i = 0 then qa else c7) (fun i => if i = 0 then al t else s.size + 1) (fun i => if i = 0 then ca else d7) (inK k (msgB s t T)) w' (.inl rfl) (by omega) (by omega)
        (by simp [upto]; omega) (parts_of (fun i hi => by
          obtain rfl | rfl : i = 0 ∨ i = 1 := by omega
          · exact cell_of_heap HG7.out 0
          · exact cell_of_heap HG7.out 1) (fun i hi => by
          obtain rfl | rfl : i = 0 ∨ i = 1 := by omega
          · refine bytes_congr (HAB.out w' HC5.out) (fun j hj => ?_)
            show inK k (msgB s t T) (64 + (upto _ 0 + j)) = T j
            rw [inK_ge, show upto (fun i => if i = 0 then al t else s.size + 1) 0 + j = j by simp [upto]]
            unfold msgB catB; rw [if_pos (show j < al t from hj)]
          · refine bytes_congr HB7.out (fun j hj => ?_)
            show inK k (msgB s t T) (64 + (upto _ 1 + j)) = _
            rw [inK_ge, show upto (fun i => if i = 0 then al t else s.size + 1) 1 + j = al t + j by simp [upto]]
            unfold msgB; rw [catB_ge])) (fun i x y hi hL e => by
          obtain rfl | rfl : i = 0 ∨ i = 1 := by omega
          · have h1 : qa = some ⟨x, y, none⟩ := e
            have := HAL.out _ h1
            have h2 : x < wr.heap.size := this
            omega
          · have h1 : c7 = some ⟨x, y, none⟩ := e
            have := HQ7.out _ h1
            have h2 : W4.heap.size ≤ x := this
            omega) hgr HR5.out HK5.out
      rw [show upto (fun i => if i = 0 then al t else s.size + 1) 2 = al t + (s.size + 1) by simp [upto]] at htk
      have HTK := Go.Lib.hid htk
      clear htk
      have HE := Go.Lib.hid (fun w3 (h : MacAt w3 M r (inK k (msgB s t T)) (64 + (al t + (s.size + 1))) oo) (hk : KAt w3) => ended_any M r (64 + (al t + (s.size + 1))) (inK k (msgB s t T)) oo w3 (by omega) h hk)
      have hTB : hashB (catB 64 oo (hashB (inK k (msgB s t T)) (64 + (al t + (s.size + 1))))) 96 = Tn := by rw [HTT.out, ← HOO.out]; rfl
      rw [hTB] at HE
      clear hTB
      go_wp2_with fail
      refine HTK.out.mono ?_
      rintro e w6 ⟨rfl, hc6, hr6⟩
      have HM6 := Go.Lib.hid (mac_of_heap (hc6.heap HX5.out (by omega)) hr6)
      have HC6 := Go.Lib.hid (HC5.out.then hc6 (fun i hi h => by omega))
      clear hc6 hr6 HTK HC5 HR5 HX5 HG7 HB7 HQ7 HK5
      go_wp2_with fail
      refine (HE.out _ HM6.out (HKr.out.ch HC6.out id)).mono ?_
      rintro e w7 ⟨rfl, hc7⟩
      have HC7 := Go.Lib.hid (HC6.out.trans hc7)
      clear hc7 HM6 HC6 HE
      go_upto_region 7 with (refine wpList_store_row rfl 28 (.tmp 8) (.tmp 23) rfl w7.heap.size (hv Tn) rfl rfl 28 _ (World.alloc_heap_new w7 _) (hv_info _) (by rw [show (hv Tn).size = 32 from arr_size _ _]; rfl) (hv_all _) ?_)
      generalize hW8 : World.setRow _ w7.heap.size (hv Tn) = W8
      have hx8 : W8.heap[w7.heap.size]? = some (.cells (hv Tn) 28) := by rw [← hW8]; exact heap_setRow (World.alloc_heap_new w7 _)
      have hc8 : Ch (fun _ => False) w7 W8 := by rw [← hW8]; exact ((Ch.refl _ _).alloc _).setRow (fun h => absurd h (Nat.lt_irrefl _)) _
      have HX8 := Go.Lib.hid hx8; have HC8 := Go.Lib.hid (HC7.out.trans hc8)
      have hH : wr.heap.size ≤ w7.heap.size := HC7.out.size
      have HLH := Go.Lib.hid (hash_load hx8)
      have hsz8 := HC8.out.size
      clear hx8 hc8 hW8 HC7
      generalize w7.heap.size = H at *
      obtain ⟨fn, tmps, assign, body, hy, hR⟩ := HY.out t W8 ht (HJ.out t _ _ HJr.out (HC8.out.mono (fun _ _ h => h.elim))) (by omega)
      rw [HTn.out] at hy
      have HRR := Go.Lib.hid hR; clear hR
      generalize hRV : hv Tn = RV at *
      have HRV := Go.Lib.hid hRV
      clear hRV
      rw [put_none]
      refine (wpIn_wide (n := n)).1 ?_
      gi_wp2_with (refine wpListW_load_at rfl 28 (.tmp 8) rfl ⟨H, 0, none⟩ rfl (.agg RV) HLH.out ?_)
      refine ⟨fun h => by simp [Fence.wide] at h, HRR.out.mono ?_⟩
      rintro e W' (⟨rfl, h254, hJ', hcS⟩ | ⟨rfl, hJx⟩)
      · have HJ' := Go.Lib.hid hJ'
        have hSb : ∀ i, W.heap.size ≤ i → ¬ S i := fun i hi h => by have := HS.out _ h; omega
        have hAh : AheadAt W.heap.size W' (.slice (some ⟨H, 0, none⟩) 32 32) (t + 1) Tn := .inr ⟨by omega, H, rfl, by omega, hcS.heap (by rw [HRV.out]; exact HX8.out) (hSb _ (by omega))⟩
        have hcA : Ch S wr W' := (HC8.out.mono (T := S) (fun _ _ h => h.elim)).trans hcS
        have HAh := Go.Lib.hid hAh; have HMM := Go.Lib.hid (HM.out.ch hcA (hSb _ (by omega)) (hSb _ (by omega))); have HKK := Go.Lib.hid (HKr.out.ch hcA HS0.out); have HBB := Go.Lib.hid (hcA.get HBr.out HSB.out)
        have hszz := hcA.size
        clear hJ' hAh hcA hcS hSb
        gi_wp2
        go_wp2
        go_roundg (254 - (t + 1))
        case measure => have := HGK.out; omega
        case rel => exact ⟨t + 1, by omega, rfl, by go_num, by rw [HTn.out]; exact HAh.out, HMM.out, HKK.out, HBB.out, by omega, HJ'.out⟩
      · have HJ' := Go.Lib.hid hJx; clear hJx
        gi_wp2
        go_wp2
        refine bodyPost_ret (results_none rfl _ _ _) rfl ?_
        exact ⟨⟨_, rfl⟩, HJ'.out⟩

set_option maxHeartbeats 400000 in
theorem tags_any (p : Option Addr) (n c : Nat) (s : ByteArray) (w : World) : Calls Tryd.prog 30 #[.slice p n c, .string s] w fun e w' => e = .returned (.func (.func 43) #[] #[.pointer (some ⟨w.heap.size, 0, none⟩), .pointer (some ⟨w.heap.size + 1, 0, none⟩)]) ∧ w' = (w.alloc (.cells #[.slice p n c] 22)).alloc (.cells #[.string s] 9) := by
  have hmf : ∀ (fn : Fn) (first cap : Array Value) (w : World), (Instr.makeFunc fn first cap).run Tryd.prog w = .ok (.func fn first cap) w := fun _ _ _ _ => rfl
  go_enter Tryd.func30, Tryd.ntmps30
  go_wp2
  go_ret
  exact ⟨rfl, rfl⟩
end Go.Proofs.YtikdpiedjkailaaDoor
