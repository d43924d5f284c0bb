/- The reference's join; the sum under a tag. -/
import Derived.Test.YtikdpiedjkailaaDoorOwn2
import Derived.Test.YtikdpiedjkailaaDoorF2
import Derived.Test.YtikdpiedjkailaaDoorTail
namespace Go.Proofs.YtikdpiedjkailaaDoor
open Go.RowKit

/-- n bytes of f, and those of g behind them. -/
def catB (n : Nat) (f g : Nat → UInt8) : Nat → UInt8 := fun i => if i < n then f i else g (i - n)
theorem own_nil {w : World} {base k : Nat} {v : Value} {F : Nat → UInt8} (h : w.ownsRow base 5 1 v k (fL F k)) : ∃ q c, v = .slice q k c ∧ BytesAt w q k c F := by
  obtain ⟨hlen, ⟨rfl, rfl⟩ | ⟨g, cap, cur, rfl, hbg, hg, hnc, hcm, hcs, htake⟩⟩ := h
  · exact ⟨none, 0, rfl, .inr ⟨rfl, rfl, rfl⟩⟩
  · exact ⟨_, _, rfl, .inl ⟨g, 0, rfl, hnc, fun j hj => by rw [Nat.zero_add]; exact (cell_of_heap hg _).trans (fL_cur htake j hj)⟩⟩

set_option maxRecDepth 100000 in
set_option maxHeartbeats 400000 in
theorem join_any (p q : Option Addr) (n m c d : Nat) (f g : Nat → UInt8) (w : World) (hf : BytesAt w p n c f) (hg : BytesAt w q m d g) (hn : n ≤ 10000000000000) (hm : m ≤ 10000000000000) :
    Calls Tryd.prog 29 #[.slice p n c, .slice q m d] w fun e w' => ∃ r k, e = .returned (.slice r (n + m) k) ∧ BytesAt w' r (n + m) k (catB n f g) ∧ Ch (fun _ => False) w w' := by
  have HF := Go.Lib.hid hf; have HG := Go.Lib.hid hg
  clear hf hg
  go_enter Tryd.func29, Tryd.ntmps29
  go_wp2_with (at_builtin; first
    | (refine wpList_append_bytes rfl (.tmp 5) (.tmp 6) rfl w.heap.size _ _ _ rfl (ownsRow_empty w _ (Nat.le_refl _)) p n c f rfl (HF.out.ch ((Ch.refl (fun _ => False) w).alloc _) (fun _ _ h => h)) (by omega) (by simp) ?_
       intro v1 w1 hown1 hgrow1
       rw [Nat.zero_add, List.nil_append] at hown1
       have hc1 : Ch (fun _ => False) w w1 := Ch.grown ((Ch.refl _ w).alloc _) hgrow1 (fun k hk hlt => by
         have h : some w.heap.size = some k := hk
         cases h; omega)
       have HO1 := Go.Lib.hid hown1; have HC1 := Go.Lib.hid hc1; clear hown1 hgrow1 hc1)
    | (refine wpList_append_bytes rfl (.tmp 7) (.tmp 8) rfl w.heap.size _ _ _ rfl HO1.out q m d g rfl (HG.out.ch HC1.out (fun _ _ h => h)) (by omega) HC1.out.size ?_
       intro v2 w2 hown2 hgrow2
       rw [fL_append (catB n f g) f g n m (fun j hj => by unfold catB; rw [if_pos hj]) (fun j hj => by unfold catB; rw [if_neg (by omega)]; congr 1; omega)] at hown2
       have hc2 : Ch (fun _ => False) w w2 := Ch.grown HC1.out hgrow2 (fun k hk hlt => by have := (World.ownsRow.lt HO1.out) k hk; omega)
       have HO2 := Go.Lib.hid hown2; have HC2 := Go.Lib.hid hc2; clear hown2 hgrow2 hc2))
  go_ret
  obtain ⟨r, k, rfl, hb⟩ := own_nil HO2.out
  exact ⟨r, k, rfl, hb, HC2.out⟩

set_option maxRecDepth 100000 in
set_option maxHeartbeats 400000 in
theorem hsum_any (b n : Nat) (f : Nat → UInt8) (w : World) (hn : n ≤ 1000000000000) (h : RunAt w b f n) (hK : KAt w) : Calls Tryd.prog 42 #[.agg #[.pointer (some ⟨b, 0, none⟩)]] w fun e w' => e = .returned (.agg (hv (hashB f n))) ∧ Ch (fun _ => False) w w' := by
  have HS := Go.Lib.hid (fun w' (hc : Ch (fun _ => False) w w') => sumr_any b n f w' hn (h.ch hc id) (hK.ch hc id))
  clear h hK
  go_enter Tryd.func42, Tryd.ntmps42
  go_wp2_with fail
  refine (HS.out _ (((Ch.refl _ w).alloc _).alloc _)).mono ?_
  rintro e w1 ⟨rfl, hc1⟩
  have hh : ((w.alloc (.cells #[.pointer (some ⟨b, 0, none⟩)] 64)).alloc (.cells (arr 32 fun _ => .int .u8 0) 28)).heap[w.heap.size + 1]? = some (.cells (arr 32 fun _ => .int .u8 0) 28) := by
    rw [← World.size_alloc w (.cells #[.pointer (some ⟨b, 0, none⟩)] 64)]
    exact World.alloc_heap_new _ _
  have HR1 := Go.Lib.hid (hc1.heap hh id)
  have HC1 := Go.Lib.hid ((((Ch.refl _ w).alloc _).alloc _).trans hc1)
  clear hh hc1
  go_wp2_with (refine wpList_store_row rfl 28 (.tmp 2) (.tmp 5) rfl (w.heap.size + 1) (hv (hashB f n)) rfl rfl 28 (arr 32 fun _ => .int .u8 0) HR1.out (hv_info _) (by rw [arr_size]; exact (arr_size _ _).symm) (hv_all _) ?_)
  refine bodyPost_ret (results_cell_row (h := Tryd.results42) _ _ (w.heap.size + 1) 28 _ (0, 0) _ rfl (heap_setRow HR1.out) Tryd.underlying28 rfl (hv_info _)) rfl ⟨rfl, ?_⟩
  exact HC1.out.setRow (fun h => absurd h (by omega)) _

set_option maxRecDepth 100000 in
set_option maxHeartbeats 1000000 in
theorem take_any (b n0 a off N cap : Nat) (sp : Option Addr) (P : Nat → Option Addr) (L C : Nat → Nat) (f : Nat → UInt8) (w : World) (hsp : sp = some ⟨a, off, none⟩ ∨ N = 0) (hN : N ≤ 1000000) (hb0 : b ≠ 0)
    (hn : n0 + upto L N ≤ 1000000000000) (hP : PartsAt w a off N P L C (fun j => f (n0 + j))) (hPb : ∀ i x y, i < N → L i ≠ 0 → P i = some ⟨x, y, none⟩ → x ≠ b) (hab : a ≠ b) (hR : RunAt w b f n0) (hK : KAt w) :
    Calls Tryd.prog 27 #[.agg #[.pointer (some ⟨b, 0, none⟩)], .slice sp N cap] w fun e w' => e = .returned (.int .i64 0) ∧ Ch (fun k => k = b) w w' ∧ RunAt w' b f (n0 + upto L N) := by
  have HP := Go.Lib.hid hP; have HK := Go.Lib.hid hK; have HPB := Go.Lib.hid hPb
  have hbl : b < w.heap.size := cell_lt hR.cnt
  have HR := Go.Lib.hid hR
  clear hP hK hPb hR
  go_enter Tryd.func27, Tryd.ntmps27
  go_wp2_with fail
  have hc1 : Ch (fun _ => False) w (w.alloc (.cells #[.pointer (some ⟨b, 0, none⟩)] 64)) := (Ch.refl _ w).alloc _
  have hbox : (w.alloc (.cells #[.pointer (some ⟨b, 0, none⟩)] 64)).cell? ⟨w.heap.size, 0, none⟩ = some (.pointer (some ⟨b, 0, none⟩)) := cell_fresh w _ 64 0
  generalize w.alloc (.cells #[.pointer (some ⟨b, 0, none⟩)] 64) = W1 at *
  have HC1 := Go.Lib.hid hc1; have HBX := Go.Lib.hid hbox
  clear hc1 hbox
  go_loopw [6, 7, 10] (fun _ _ i wr => ∃ k : Nat, k ≤ N ∧ i = .int .i64 k ∧ RunAt wr b f (n0 + upto L k) ∧ Ch (fun j => j = b) W1 wr) (fun _ _ i _ => N - (intOf i).toNat)
  case atStart => exact ⟨0, by omega, rfl, HR.out.ch HC1.out id, Ch.refl _ _⟩
  case round =>
    obtain ⟨k, hk, rfl, hr, hC⟩ := hrel
    have HRr := Go.Lib.hid hr; have HCr := Go.Lib.hid hC
    have HCw := Go.Lib.hid (HC1.out.mono (T := fun j => j = b) (fun _ _ h => h.elim) |>.trans hC)
    clear hr hC
    by_cases hkN : k < N
    · obtain rfl : sp = some ⟨a, off, none⟩ := hsp.resolve_right (by omega)
      have hcell : wr.cell? ⟨a, off + k, none⟩ = some (.slice (P k) (L k) (C k)) := HCw.out.get (HP.out.row k hkN) hab
      have hbx := HCr.out.get HBX.out (by show ¬ w.heap.size = b; omega)
      have hup : upto L k + L k ≤ upto L N := upto_le L (show k + 1 ≤ N by omega)
      have hrd : Calls Tryd.prog 41 #[.pointer (some ⟨b, 0, none⟩), .slice (P k) (L k) (C k)] wr fun e w' => e = .returned (.int .i64 0) ∧ Ch (fun k => k = b) wr w' ∧ RunAt w' b f (n0 + upto L k + L k) := by
        have hKr : KAt wr := HK.out.ch HCw.out (by omega)
        by_cases h0 : L k = 0
        · exact write_any b (n0 + upto L k) (L k) (C k) (b + 1) 0 (P k) f wr (.inr h0) (by omega) hb0 (by omega) HRr.out hKr (fun i hi => by omega)
        · obtain ⟨x, y, hx, hxl, hxb⟩ := HP.out.bytes k hkN
          have hx' := hx.resolve_right h0
          exact write_any b (n0 + upto L k) (L k) (C k) x y (P k) f wr (.inl hx') (HPB.out k x y hkN h0 hx') hb0 (by omega) HRr.out hKr (fun i hi => by
            have := HCw.out.get (hxb i hi) (by show ¬ x = b; exact HPB.out k x y hkN h0 hx')
            rw [this, Nat.add_assoc])
      have HRD := Go.Lib.hid hrd
      clear hrd
      go_wp2_with (go_at_call 41; refine HRD.out.mono ?_; rintro e w4 ⟨rfl, hc4, hr4⟩; have HC4 := Go.Lib.hid hc4; have HR4 := Go.Lib.hid hr4; clear hc4 hr4)
      go_roundw
      case rel => exact ⟨k + 1, by omega, by go_num, by rw [show n0 + upto L (k + 1) = n0 + upto L k + L k from (Nat.add_assoc _ _ _).symm]; exact HR4.out, HCr.out.trans HC4.out⟩
      case measure => simp [intOf]; omega
    · obtain rfl : k = N := by omega
      go_wp2_with fail
      go_ret
      exact ⟨rfl, HCw.out, HRr.out⟩
end Go.Proofs.YtikdpiedjkailaaDoor
/- The tag of one under way. -/
namespace Go.Proofs.YtikdpiedjkailaaDoor
open Go.RowKit

theorem parts_of {w : World} {a N : Nat} {P : Nat → Option Addr} {L C : Nat → Nat} {f : Nat → UInt8} (hr : ∀ i, i < N → w.cell? ⟨a, i, none⟩ = some (.slice (P i) (L i) (C i))) (hb : ∀ i, i < N → BytesAt w (P i) (L i) (C i) (fun j => f (upto L i + j))) : PartsAt w a 0 N P L C f := by
  refine ⟨fun i hi => by rw [Nat.zero_add]; exact hr i hi, fun i hi => ?_⟩
  have ha := cell_lt (hr i hi)
  rcases hb i hi with ⟨x, y, h1, h2, h3⟩ | ⟨h1, h2, h3⟩
  · by_cases e : L i = 0
    · exact ⟨a, 0, .inr e, ha, fun j hj => by omega⟩
    · exact ⟨x, y, .inl h1, cell_lt (h3 0 (by omega)), h3⟩
  · exact ⟨a, 0, .inr h2, ha, fun j hj => by omega⟩
/-- A tag under way at block b: its sum at block r, behind n bytes of f; the outer block's bytes. -/
structure MacAt (w : World) (b r : Nat) (f : Nat → UInt8) (n : Nat) (o : Nat → UInt8) : Prop where
  ptr : w.cell? ⟨b, 0, none⟩ = some (.pointer (some ⟨r, 0, none⟩))
  outer : ∀ i, i < 64 → w.cell? ⟨b, 1 + i, none⟩ = some (.int .u8 ((o i).toNat : Int))
  run : RunAt w r f n
theorem MacAt.ch {S : Nat → Prop} {w w' : World} {b r n : Nat} {f o : Nat → UInt8} (h : MacAt w b r f n o) (hc : Ch S w w') (hb : ¬ S b) (hr : ¬ S r) : MacAt w' b r f n o :=
  ⟨hc.get h.ptr hb, fun i hi => hc.get (h.outer i hi) hb, h.run.ch hc hr⟩

set_option maxRecDepth 100000 in
set_option maxHeartbeats 1000000 in
theorem ended_any (b r n : Nat) (f o : Nat → UInt8) (w : World) (hn : n ≤ 1000000000000) (h : MacAt w b r f n o) (hK : KAt w) :
    Calls Tryd.prog 28 #[.pointer (some ⟨b, 0, none⟩)] w fun e w' => e = .returned (.agg (hv (hashB (catB 64 o (hashB f n)) 96))) ∧ Ch (fun _ => False) w w' := by
  have HK := Go.Lib.hid hK
  have hptr := h.ptr
  have HM := Go.Lib.hid h
  have HS := Go.Lib.hid (fun w' (hc : Ch (fun _ => False) w w') => hsum_any r n f w' hn (h.run.ch hc id) (hK.ch hc id))
  clear h hK
  generalize hT : hashB f n = T at *
  clear hT
  have HL := Go.Lib.hid (fun (W : World) (h : W.cell? ⟨b, 0, none⟩ = some (.pointer (some ⟨r, 0, none⟩))) => run_loadVar_part (P := Tryd.prog) W ⟨b, 0, none⟩ 64 #[.pointer (some ⟨r, 0, none⟩)] _ (fun j v hj => by
    match j, hj with
    | 0, hj => obtain rfl : Value.pointer (some ⟨r, 0, none⟩) = v := by simpa using hj
               simpa [Addr.add] using h) Tryd.underlying64 rfl (by kernel_rfl))
  go_enter Tryd.func28, Tryd.ntmps28
  go_wp2_with (first | (refine wpList_load_at rfl 64 (.tmp 6) rfl ⟨b, 0, none⟩ rfl (.agg #[.pointer (some ⟨r, 0, none⟩)]) (HL.out _ (((Ch.refl (fun _ => False) w).alloc _).get hptr id)) ?_))
  refine (HS.out _ ((Ch.refl _ w).alloc _)).mono ?_
  rintro e w1 ⟨rfl, hw1⟩
  have HR1 := Go.Lib.hid (hw1.heap (World.alloc_heap_new w (.cells (arr 32 fun _ => .int .u8 0) 28)) id)
  have HC1 := Go.Lib.hid (((Ch.refl _ w).alloc _).trans hw1)
  clear hw1
  go_upto_region 2 with (refine wpList_store_row rfl 28 (.tmp 3) (.tmp 8) rfl w1.heap.size (hv T) rfl rfl 28 _ (World.alloc_heap_new w1 _) (hv_info _) (by rw [show (hv T).size = 32 from arr_size _ _]; rfl) (hv_all _) ?_)
  generalize hA : (w1.alloc _).setRow w1.heap.size (hv T) = W2
  have hx2 : W2.heap[w1.heap.size]? = some (.cells (hv T) 28) := by rw [← hA]; exact heap_setRow (World.alloc_heap_new w1 _)
  have hc2 : Ch (fun _ => False) w1 W2 := by rw [← hA]; exact ((Ch.refl _ _).alloc _).setRow (fun h => absurd h (Nat.lt_irrefl _)) _
  have HX2 := Go.Lib.hid hx2; have HR2 := Go.Lib.hid (hc2.heap HR1.out id); have HC2 := Go.Lib.hid (HC1.out.trans hc2)
  clear hA hx2 hc2 HR1 HC1
  generalize w1.heap.size = X at *
  refine wp_region_quiet_tail 5 (by kernel_rfl) (by kernel_rfl) ?_
  simp only [List.take_succ_cons, List.take_zero, List.drop_succ_cons, List.drop_zero]
  repeat (quiet_step (fail))
  refine wpQuiet_nil ?_
  intro _ hw'
  obtain ⟨q1, rfl⟩ := hw'
  have hcq : Ch (fun _ => False) W2 (W2.drewN q1) := (Ch.refl _ W2).drewN q1
  have HC3 := Go.Lib.hid (HC2.out.trans hcq); have HR3 := Go.Lib.hid (hcq.heap HR2.out id); have HX3 := Go.Lib.hid (hcq.heap HX2.out id)
  clear hcq
  generalize W2.drewN q1 = W3 at *
  have hal : Ch (fun _ => False) W3 (W3.alloc (.cells #[.slice (some ⟨b, 1, none⟩) 64 64, .slice (some ⟨X, 0, none⟩) 32 32] 22)) := (Ch.refl _ W3).alloc _
  have h31 := sum_any W3.heap.size 0 2 2 (some ⟨W3.heap.size, 0, none⟩) (fun i => if i = 0 then some ⟨b, 1, none⟩ else some ⟨X, 0, none⟩) (fun i => if i = 0 then 64 else 32) (fun i => if i = 0 then 64 else 32) (catB 64 o T)
    (W3.alloc (.cells #[.slice (some ⟨b, 1, none⟩) 64 64, .slice (some ⟨X, 0, none⟩) 32 32] 22)) (.inl rfl) (by omega) (by decide)
    (parts_of (fun i hi => by
      obtain rfl | rfl : i = 0 ∨ i = 1 := by omega
      · exact cell_fresh W3 _ 22 0
      · exact cell_fresh W3 _ 22 1) (fun i hi => by
      obtain rfl | rfl : i = 0 ∨ i = 1 := by omega
      · refine .inl ⟨b, 1, rfl, Nat.le_refl _, fun j hj => ?_⟩
        have hj' : j < 64 := hj
        refine (((HC3.out.trans hal)).get (HM.out.outer j hj') id).trans ?_
        show some _ = some (Value.int .u8 ((catB 64 o T (0 + j)).toNat : Int))
        rw [Nat.zero_add]; unfold catB; rw [if_pos hj']
      · refine .inl ⟨X, 0, rfl, Nat.le_refl _, fun j hj => ?_⟩
        have hj' : j < 32 := hj
        rw [Nat.zero_add]
        refine (cell_of_heap (hal.heap HX3.out id) _).trans ?_
        refine (arr_get 32 _ j hj').trans ?_
        show some _ = some (Value.int .u8 ((catB 64 o T (0 + 64 + j)).toNat : Int))
        unfold catB; rw [if_neg (by omega), show 0 + 64 + j - 64 = j by omega])) (HK.out.ch (HC3.out.trans hal) id)
  rw [show upto (fun i => if i = 0 then 64 else 32) 2 = 96 from rfl] at h31
  have H31 := Go.Lib.hid h31; have HAL := Go.Lib.hid hal
  clear h31 hal
  go_wp2_with fail
  refine H31.out.mono ?_
  rintro e w5 ⟨rfl, hc5⟩
  have HR5 := Go.Lib.hid (hc5.heap (HAL.out.heap HR3.out id) id)
  have HC5 := Go.Lib.hid ((HC3.out.trans HAL.out).trans hc5)
  clear hc5
  go_wp2_with (refine wpList_store_row rfl 28 (.tmp 2) (.tmp 15) rfl w.heap.size (hv (hashB (catB 64 o T) 96)) rfl rfl 28 (arr 32 fun _ => .int .u8 0) HR5.out (hv_info _) (by rw [arr_size]; exact (arr_size _ _).symm) (hv_all _) ?_)
  refine bodyPost_ret (results_cell_row (h := Tryd.results28) _ _ w.heap.size 28 _ (0, 0) _ rfl (heap_setRow HR5.out) Tryd.underlying28 rfl (hv_info _)) rfl ⟨rfl, ?_⟩
  exact HC5.out.setRow (fun h => absurd h (Nat.lt_irrefl _)) _
end Go.Proofs.YtikdpiedjkailaaDoor
/- A tag under way: its sum apart; is it there. -/
namespace Go.Proofs.YtikdpiedjkailaaDoor
open Go.RowKit

set_option maxRecDepth 100000 in
set_option maxHeartbeats 400000 in
theorem apart_any (b n : Nat) (f : Nat → UInt8) (w : World) (h : RunAt w b f n) : Calls Tryd.prog 49 #[.agg #[.pointer (some ⟨b, 0, none⟩)]] w fun e w' => ∃ r, e = .returned (.agg #[.pointer (some ⟨r, 0, none⟩)]) ∧ w.heap.size ≤ r ∧ r < w'.heap.size ∧ RunAt w' r f n ∧ Ch (fun _ => False) w w' := by
  have HS := Go.Lib.hid (fun w' (hc : Ch (fun _ => False) w w') => copy_any b n f w' (h.ch hc id))
  clear h
  go_enter Tryd.func49, Tryd.ntmps49
  go_wp2_with fail
  have hh : ((w.alloc (.cells #[.pointer (some ⟨b, 0, none⟩)] 64)).alloc (.cells #[.pointer none] 64)).heap[w.heap.size + 1]? = some (.cells #[.pointer none] 64) := by
    rw [← World.size_alloc w (.cells #[.pointer (some ⟨b, 0, none⟩)] 64)]
    exact World.alloc_heap_new _ _
  refine (HS.out _ (((Ch.refl _ w).alloc _).alloc _)).mono ?_
  rintro e w1 ⟨r, rfl, hr1, hr2, hr3, hc1⟩
  have HR1 := Go.Lib.hid (hc1.heap hh id)
  have HC1 := Go.Lib.hid ((((Ch.refl _ w).alloc _).alloc _).trans hc1)
  have HR3 := Go.Lib.hid hr3
  have HRS := Go.Lib.hid (show w.heap.size + 2 ≤ r by simp at hr1; omega)
  have HRL := Go.Lib.hid hr2
  clear hh hc1 hr3 hr1 hr2
  go_wp2_with (refine wpList_store_row rfl 64 (.tmp 2) (.tmp 6) rfl (w.heap.size + 1) #[.pointer (some ⟨r, 0, none⟩)] rfl rfl 64 #[.pointer none] HR1.out (by kernel_rfl) rfl (by simp [Value.oneCell']) ?_)
  refine bodyPost_ret (results_cell_row (h := Tryd.results49) _ _ (w.heap.size + 1) 64 _ (0, 0) _ rfl (heap_setRow HR1.out) Tryd.underlying64 rfl (by kernel_rfl)) rfl ⟨r, rfl, by have := HRS.out; omega, by simpa using HRL.out, ?_, ?_⟩
  · refine HR3.out.ch (Ch.setRow (S := fun k => k = w.heap.size + 1) (Ch.refl _ w1) (fun _ => rfl) _) (by have := HRS.out; omega)
  · exact HC1.out.setRow (fun h => absurd h (by omega)) _

set_option maxHeartbeats 400000 in
theorem mthere_any (b r : Nat) (w : World) (h : w.cell? ⟨b, 0, none⟩ = some (.pointer (some ⟨r, 0, none⟩))) : Calls Tryd.prog 33 #[.pointer (some ⟨b, 0, none⟩)] w fun e w' => e = .returned (.bool true) ∧ w = w' := by
  go_enter Tryd.func33, Tryd.ntmps33
  go_wp2
  go_ret
  exact ⟨rfl, rfl⟩
/-- No tag under way. -/
def NoMac (x : Value) (w : World) : Prop := x = .pointer none ∨ ∃ b, x = .pointer (some ⟨b, 0, none⟩) ∧ w.cell? ⟨b, 0, none⟩ = some (.pointer none)
theorem NoMac.ch {x : Value} {w w' : World} (h : NoMac x w) (hc : Ch (fun _ => False) w w') : NoMac x w' := by
  rcases h with h | ⟨b, h1, h2⟩
  · exact .inl h
  · exact .inr ⟨b, h1, hc.get h2 id⟩
set_option maxHeartbeats 400000 in
theorem mdead_any (x : Value) (w : World) (h : NoMac x w) : Calls Tryd.prog 33 #[x] w fun e w' => e = .returned (.bool false) ∧ w = w' := by
  rcases h with rfl | ⟨b, rfl, h⟩
  · go_enter Tryd.func33, Tryd.ntmps33
    go_wp2
    go_ret
    exact ⟨rfl, rfl⟩
  · go_enter Tryd.func33, Tryd.ntmps33
    go_wp2
    go_ret
    exact ⟨rfl, rfl⟩
set_option maxRecDepth 100000 in
set_option maxHeartbeats 400000 in
theorem mtag_any (b r n : Nat) (f o : Nat → UInt8) (w : World) (hn : n ≤ 1000000000000) (h : MacAt w b r f n o) (hK : KAt w) :
    Calls Tryd.prog 22 #[.pointer (some ⟨b, 0, none⟩)] w fun e w' => e = .returned (.agg (hv (hashB (catB 64 o (hashB f n)) 96))) ∧ Ch (fun _ => False) w w' := by
  have HT := Go.Lib.hid (mthere_any b r _ (((Ch.refl (fun _ => False) w).alloc (.cells (arr 32 fun _ => .int .u8 0) 28)).get h.ptr id))
  have HE := Go.Lib.hid (ended_any b r n f o _ hn (h.ch ((Ch.refl (fun _ => False) w).alloc (.cells (arr 32 fun _ => .int .u8 0) 28)) id id) (hK.ch ((Ch.refl (fun _ => False) w).alloc (.cells (arr 32 fun _ => .int .u8 0) 28)) id))
  clear h hK
  generalize hashB (catB 64 o (hashB f n)) 96 = T at *
  go_enter Tryd.func22, Tryd.ntmps22
  go_wp2_with (first | (go_at_call 33; refine HT.out.mono ?_; rintro e w1 ⟨rfl, rfl⟩) | (go_at_call 28; refine HE.out.mono ?_; rintro e w2 ⟨rfl, hc2⟩; have HC2 := Go.Lib.hid (((Ch.refl _ w).alloc _).trans hc2); have HR2 := Go.Lib.hid (hc2.heap (World.alloc_heap_new w (.cells (arr 32 fun _ => .int .u8 0) 28)) id); clear hc2) | refine wpList_store_row rfl 28 (.tmp 2) (.tmp 8) rfl w.heap.size (hv T) rfl rfl 28 (arr 32 fun _ => .int .u8 0) HR2.out (hv_info _) (by rw [arr_size]; exact (arr_size _ _).symm) (hv_all _) ?_)
  refine bodyPost_ret (results_cell_row (h := Tryd.results22) _ _ w.heap.size 28 _ (0, 0) _ rfl (heap_setRow HR2.out) Tryd.underlying28 rfl (hv_info _)) rfl ⟨rfl, ?_⟩
  exact HC2.out.setRow (fun h => absurd h (Nat.lt_irrefl _)) _
set_option maxRecDepth 100000 in
set_option maxHeartbeats 400000 in
theorem mtag_no (x : Value) (w : World) (h : NoMac x w) : Calls Tryd.prog 22 #[x] w fun e w' => e = .returned (.agg (hv fun _ => 0)) ∧ Ch (fun _ => False) w w' := by
  have HD := Go.Lib.hid (mdead_any x (w.alloc (.cells (arr 32 fun _ => .int .u8 0) 28)) (h.ch ((Ch.refl _ w).alloc _)))
  clear h
  go_enter Tryd.func22, Tryd.ntmps22
  go_wp2_with (first | (go_at_call 33; refine HD.out.mono ?_; rintro e w1 ⟨rfl, rfl⟩) | refine wpList_store_row rfl 28 (.tmp 2) (.tmp 6) rfl w.heap.size (hv fun _ => 0) rfl rfl 28 (arr 32 fun _ => .int .u8 0) (World.alloc_heap_new w _) (hv_info _) (by rw [arr_size]; exact (arr_size _ _).symm) (hv_all _) ?_)
  refine bodyPost_ret (results_cell_row (h := Tryd.results22) _ _ w.heap.size 28 _ (0, 0) _ rfl (heap_setRow (World.alloc_heap_new w _)) Tryd.underlying28 rfl (hv_info _)) rfl ⟨rfl, ?_⟩
  exact ((Ch.refl _ w).alloc _).setRow (fun h => absurd h (Nat.lt_irrefl _)) _
end Go.Proofs.YtikdpiedjkailaaDoor
/- A tag under way: Write; the blocks that a key makes. -/
namespace Go.Proofs.YtikdpiedjkailaaDoor
open Go.RowKit

set_option maxRecDepth 100000 in
set_option maxHeartbeats 1000000 in
theorem mwrite_any (b r n0 m c x y : Nat) (q : Option Addr) (f o : Nat → UInt8) (w : World) (hq : (q = some ⟨x, y, none⟩ ∧ x ≠ r) ∨ m = 0) (hr0 : r ≠ 0) (hbr : b ≠ r)
    (hn : n0 + m ≤ 1000000000000) (hg : ∀ j, j < m → w.cell? ⟨x, y + j, none⟩ = some (.int .u8 ((f (n0 + j)).toNat : Int))) (h : MacAt w b r f n0 o) (hK : KAt w) :
    Calls Tryd.prog 21 #[.pointer (some ⟨b, 0, none⟩), .slice q m c] w fun e w' => e = .returned (.int .i64 0) ∧ Ch (fun k => k = r) w w' ∧ MacAt w' b r f (n0 + m) o := by
  have HT := Go.Lib.hid (mthere_any b r w h.ptr)
  have hptr := h.ptr
  have HM := Go.Lib.hid h
  have hal : Ch (fun _ => False) w (w.alloc (.cells #[.slice q m c] 22)) := (Ch.refl _ w).alloc _
  have hrl : r < w.heap.size := cell_lt h.run.cnt
  have htk : Calls Tryd.prog 27 #[.agg #[.pointer (some ⟨r, 0, none⟩)], .slice (some ⟨w.heap.size, 0, none⟩) 1 1] (w.alloc (.cells #[.slice q m c] 22)) fun e w' => e = .returned (.int .i64 0) ∧ Ch (fun k => k = r) (w.alloc (.cells #[.slice q m c] 22)) w' ∧ RunAt w' r f (n0 + upto (fun _ => m) 1) := by
    refine take_any r n0 w.heap.size 0 1 1 (some ⟨w.heap.size, 0, none⟩) (fun _ => q) (fun _ => m) (fun _ => c) f _ (.inl rfl) (by omega) hr0 (by show n0 + (0 + m) ≤ _; omega) ⟨fun i hi => ?_, fun i hi => ?_⟩ (fun i x' y' hi hm e => ?_) (by omega) (h.run.ch hal id) (hK.ch hal id)
    · obtain rfl : i = 0 := by omega
      exact cell_fresh w _ 22 0
    · obtain rfl : i = 0 := by omega
      by_cases h0 : m = 0
      · exact ⟨r, 0, .inr h0, Nat.lt_of_lt_of_le hrl hal.size, fun j hj => by omega⟩
      · have hq' := (hq.resolve_right h0).1
        exact ⟨x, y, .inl hq', Nat.lt_of_lt_of_le (cell_lt (hg 0 (by omega))) hal.size, fun j hj => by
          rw [hal.get (hg j hj) id, show upto (fun _ => m) 0 + j = j from Nat.zero_add _]⟩
    · obtain ⟨e2, e3⟩ := hq.resolve_right hm
      rw [e2] at e; cases e; exact e3
  rw [show upto (fun _ => m) 1 = m from Nat.zero_add _] at htk
  have HTK := Go.Lib.hid htk
  have HAL := Go.Lib.hid hal
  have HL := Go.Lib.hid (run_loadVar_part (P := Tryd.prog) w ⟨b, 0, none⟩ 64 #[.pointer (some ⟨r, 0, none⟩)] _ (fun j v hj => by
    match j, hj with
    | 0, hj => obtain rfl : Value.pointer (some ⟨r, 0, none⟩) = v := by simpa using hj
               simpa [Addr.add] using hptr) Tryd.underlying64 rfl (by kernel_rfl))
  clear htk hal h hK hg hq
  go_enter Tryd.func21, Tryd.ntmps21
  go_wp2_with (first | (go_at_call 33; refine HT.out.mono ?_; rintro e w1 ⟨rfl, rfl⟩) | (refine wpList_load_at rfl 64 (.tmp 10) rfl ⟨b, 0, none⟩ rfl (.agg #[.pointer (some ⟨r, 0, none⟩)]) HL.out ?_) | (go_at_call 27; refine HTK.out.mono ?_; rintro e w2 ⟨rfl, hc2, hr2⟩; have HC2 := Go.Lib.hid hc2; have HR2 := Go.Lib.hid hr2; clear hc2 hr2))
  go_ret
  have hcw : Ch (fun k => k = r) w w2 := HAL.out.mono (T := fun k => k = r) (fun _ _ h => h.elim) |>.trans HC2.out
  exact ⟨rfl, hcw, hcw.get HM.out.ptr hbr, fun i hi => hcw.get (HM.out.outer i hi) hbr, HR2.out⟩
end Go.Proofs.YtikdpiedjkailaaDoor
/- A block, each byte of which is turned. -/
namespace Go.Proofs.YtikdpiedjkailaaDoor
open Go Go.RowKit

theorem xor_u8 (c d : UInt8) : bits .xor .u8 (c.toNat : Int) (d.toNat : Int) = ((c ^^^ d).toNat : Int) := by
  have hc := c.toNat_lt; have hd := d.toNat_lt
  have h : (c.toNat ^^^ d.toNat) < 256 := Nat.xor_lt_two_pow (n := 8) hc hd
  rw [UInt8.toNat_xor]
  show IntKind.u8.wrap ((BitVec.ofInt 8 (c.toNat : Int) ^^^ BitVec.ofInt 8 (d.toNat : Int)).toNat : Int) = _
  have e : (BitVec.ofInt 8 (c.toNat : Int) ^^^ BitVec.ofInt 8 (d.toNat : Int)).toNat = c.toNat ^^^ d.toNat := by
    rw [BitVec.toNat_xor]
    congr 1
    · simp
    · simp
  rw [e]
  simp [IntKind.wrap, IntKind.bits, IntKind.signed]
  omega
theorem b_xor8 (t : TypeId) (c d : UInt8) : binOp .xor t (.int .u8 (c.toNat : Int)) (.int .u8 (d.toNat : Int)) = pure (.int .u8 ((c ^^^ d).toNat : Int)) := by
  show pure (Value.int .u8 (bits .xor .u8 (c.toNat : Int) (d.toNat : Int))) = _
  rw [xor_u8]
attribute [local go_sem high] b_xor8
def bv64 (k : Nat → UInt8) : Array Value := arr 64 fun i => .int .u8 ((k i).toNat : Int)
theorem bv64_get (k : Nat → UInt8) (i : Nat) (h : i < 64) : (bv64 k)[i]? = some (.int .u8 ((k i).toNat : Int)) := arr_get 64 _ i h
theorem bv64_size (k : Nat → UInt8) : (bv64 k).size = 64 := arr_size _ _
theorem bv64_info (k : Nat → UInt8) : (Tryd.prog.info? 66).map (·.size) = some (bv64 k).size := by rw [bv64_size]; kernel_rfl
theorem bv64_all (k : Nat → UInt8) : (bv64 k).all (·.oneCell') = true := by
  rw [Array.all_eq_true]
  intro i hi
  have h := bv64_get k i (by rw [bv64_size] at hi; exact hi)
  rw [Array.getElem?_eq_getElem hi] at h
  rw [Option.some.inj h]; rfl
theorem bv64_load {w : World} {b o : Nat} {k : Nat → UInt8} (h : ∀ i, i < 64 → w.cell? ⟨b, o + i, none⟩ = some (.int .u8 ((k i).toNat : Int))) : (loadVar 66 ⟨b, o, none⟩).run Tryd.prog w = .ok (.agg (bv64 k)) w :=
  run_loadVar_part (P := Tryd.prog) w ⟨b, o, none⟩ 66 (bv64 k) _ (fun j v hj => by
    have hj64 : j < 64 := by
      have := (List.getElem?_eq_some_iff.1 hj).1
      rw [Array.length_toList, bv64_size] at this
      exact this
    have e : (bv64 k)[j]? = some v := by simpa using hj
    rw [bv64_get _ _ hj64] at e
    rw [← Option.some.inj e, show (⟨b, o, none⟩ : Addr).add j = ⟨b, o + j, none⟩ by simp [Addr.add]]
    exact h j hj64) Tryd.underlying66 rfl (bv64_info k)

set_option maxRecDepth 100000 in
set_option maxHeartbeats 1000000 in
theorem turn_any (b : Nat) (c : UInt8) (k : Nat → UInt8) (w : World) (hk : ∀ i, i < 64 → w.cell? ⟨b, i, none⟩ = some (.int .u8 ((k i).toNat : Int))) :
    Calls Tryd.prog 55 #[.int .u8 (c.toNat : Int), .pointer (some ⟨b, 0, none⟩)] w fun e w' => e = .returned (.agg (bv64 fun i => k i ^^^ c)) ∧ Ch (fun _ => False) w w' := by
  have HLD := Go.Lib.hid (fun w' (hc : Ch (fun _ => False) w w') => bv64_load (w := w') (b := b) (o := 0) (k := k) (fun i hi => by rw [Nat.zero_add]; exact hc.get (hk i hi) id))
  clear hk
  have HI := Go.Lib.hid (bv64_info k); have HA := Go.Lib.hid (bv64_all k); have HS := Go.Lib.hid (bv64_size k)
  go_enter Tryd.func55, Tryd.ntmps55
  go_wp2_with (first | (refine wpList_load_at rfl 66 (.tmp 1) rfl ⟨b, 0, none⟩ rfl (.agg (bv64 k)) (HLD.out _ ((Ch.refl _ w).alloc _)) ?_) | refine wpList_store_row rfl 66 (.tmp 4) (.tmp 6) rfl (w.alloc (.cells (arr 64 fun _ => .int .u8 0) 66)).heap.size (bv64 k) (by simp [Act.eval]) rfl 66 _ (World.alloc_heap_new (w.alloc (.cells (arr 64 fun _ => .int .u8 0) 66)) _) HI.out (by rw [HS.out]; rfl) HA.out ?_)
  have hh0 : (w.alloc (.cells (arr 64 fun _ => .int .u8 0) 66)).heap.size = w.heap.size + 1 := World.size_alloc _ _
  generalize hW3 : World.setRow _ (w.heap.size + 1) (bv64 k) = W3
  have hc3 : Ch (fun _ => False) w W3 := by
    rw [← hW3]
    exact (((Ch.refl _ w).alloc _).alloc _).setRow (fun h => absurd h (by omega)) _
  have hr3 : W3.heap[w.heap.size]? = some (.cells (arr 64 fun _ => .int .u8 0) 66) := by
    rw [← hW3]
    exact (Ch.setRow (S := fun k => k = w.heap.size + 1) ((Ch.refl _ (w.alloc (.cells (arr 64 fun _ => .int .u8 0) 66))).alloc _) (fun _ => rfl) _).heap (World.alloc_heap_new w _) (by omega)
  have hq3 : W3.heap[w.heap.size + 1]? = some (.cells (bv64 k) 66) := by
    rw [← hW3, ← hh0]
    exact heap_setRow (World.alloc_heap_new (w.alloc (.cells (arr 64 fun _ => .int .u8 0) 66)) _)
  have HC3 := Go.Lib.hid hc3; have HR3 := Go.Lib.hid hr3; have HQ3 := Go.Lib.hid hq3
  clear hW3 hc3 hr3 hq3 hh0
  go_loopw [5, 7] (fun _ i wr => ∃ j : Nat, j ≤ 64 ∧ i = .int .i64 j ∧ (∀ t, t < 64 → wr.cell? ⟨w.heap.size + 1, t, none⟩ = some (.int .u8 ((if t < j then k t ^^^ c else k t).toNat : Int)) ∧ wr.frozen? ⟨w.heap.size + 1, t, none⟩ = false) ∧ Ch (fun q => q = w.heap.size + 1) W3 wr) (fun _ i _ => 64 - (intOf i).toNat)
  case atStart =>
    refine ⟨0, by omega, rfl, fun t ht => ⟨(cell_of_heap HQ3.out _).trans ?_, frozen_of_heap HQ3.out _⟩, Ch.refl _ _⟩
    rw [if_neg (by omega)]; exact bv64_get k t ht
  case round =>
    obtain ⟨j, hj, rfl, hcl, hC⟩ := hrel
    have HCL := Go.Lib.hid hcl; have HC := Go.Lib.hid hC
    clear hcl hC
    by_cases hlt : j < 64
    · obtain ⟨hv, hf⟩ := HCL.out j hlt
      rw [if_neg (by omega)] at hv
      generalize hd : k j = d at *
      have HD := Go.Lib.hid hd
      clear hd
      go_wp2_with fail
      go_roundw
      case rel =>
        refine ⟨j + 1, by omega, by go_num, fun t ht => ⟨?_, ?_⟩, Ch.setCell (S := fun q => q = w.heap.size + 1) HC.out (p := ⟨w.heap.size + 1, j, none⟩) (fun _ => rfl) _⟩
        · by_cases e : t = j
          · subst e
            rw [if_pos (by omega), HD.out]; exact World.cell?_setCell_same _ _ _ hv
          · rw [World.cell?_setCell_other _ _ _ _ (fun h => e (by cases h; rfl)), (HCL.out t ht).1]
            by_cases e2 : t < j
            · rw [if_pos e2, if_pos (by omega)]
            · rw [if_neg e2, if_neg (by omega)]
        · rw [World.frozen?_setCell]; exact (HCL.out t ht).2
      case measure => simp [intOf]; omega
    · obtain rfl : j = 64 := by omega
      have HLD2 := Go.Lib.hid (bv64_load (w := wr) (b := w.heap.size + 1) (o := 0) (k := fun i => k i ^^^ c) (fun i hi => by rw [Nat.zero_add, (HCL.out i hi).1, if_pos hi]))
      have HRR := Go.Lib.hid (HC.out.heap HR3.out (by omega))
      have HI2 := Go.Lib.hid (bv64_info fun i => k i ^^^ c); have HA2 := Go.Lib.hid (bv64_all fun i => k i ^^^ c); have HS2 := Go.Lib.hid (bv64_size fun i => k i ^^^ c)
      go_wp2_with (first | (refine wpList_load_at rfl 66 (.tmp 4) rfl ⟨w.heap.size + 1, 0, none⟩ rfl (.agg (bv64 fun i => k i ^^^ c)) HLD2.out ?_) | refine wpList_store_row rfl 66 (.tmp 3) (.tmp 17) rfl w.heap.size (bv64 fun i => k i ^^^ c) rfl rfl 66 (arr 64 fun _ => .int .u8 0) HRR.out HI2.out (by rw [HS2.out]; exact arr_size _ _) HA2.out ?_)
      refine bodyPost_ret (results_cell_row (h := Tryd.results55) _ _ w.heap.size 66 _ (0, 0) _ rfl (heap_setRow HRR.out) Tryd.underlying66 rfl HI2.out) rfl ⟨rfl, ?_⟩
      exact (HC3.out.then HC.out (fun i hi h => by omega)).setRow (fun h => absurd h (Nat.lt_irrefl _)) _
end Go.Proofs.YtikdpiedjkailaaDoor
