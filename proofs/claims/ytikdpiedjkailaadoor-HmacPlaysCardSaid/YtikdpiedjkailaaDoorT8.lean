import Derived.Test.YtikdpiedjkailaaDoorT7
import Derived.Test.YtikdpiedjkailaaDoorArr
namespace Go.Proofs.YtikdpiedjkailaaDoor
open Go.RowKit
attribute [local go_sem high] b_add b_xor b_and b_or b_shr b_shl not32 wrap_un beq32

theorem RunAt.congr {w : World} {b n : Nat} {f g : Nat → UInt8} (h : RunAt w b f n) (he : ∀ i, i < n → f i = g i) : RunAt w b g n := by
  obtain ⟨⟨m, h1, h2⟩, h3, h4, h5, h6⟩ := h
  refine ⟨⟨m, h1, h2.congr (fun i hi => he i (by omega))⟩, ?_, h4, h5, h6⟩
  rw [← stN_congr (n / 64) (fun i hi => he i (by omega))]
  exact h3
theorem RunAt.ch {w w' : World} {S : Nat → Prop} {b n : Nat} {f : Nat → UInt8} (h : RunAt w b f n) (hc : Ch S w w') (hs : ¬ S b) : RunAt w' b f n := by
  obtain ⟨⟨m, h1, h2⟩, h3, h4, h5, h6⟩ := h
  exact ⟨⟨m, fun j hj => ⟨hc.get (h1 j hj).1 hs, (hc.frozen (cell_lt (h1 j hj).1) hs).trans (h1 j hj).2⟩, h2⟩,
    fun j hj => ⟨hc.get (h3 j hj).1 hs, (hc.frozen (cell_lt (h3 j hj).1) hs).trans (h3 j hj).2⟩, hc.get h4 hs, (hc.frozen (cell_lt h4) hs).trans h5, hc.get h6 hs⟩

def tail0 : Nat → Value := fun i => if i = 0 then .int .u8 128 else .int .u8 0
/-- The tail behind k bytes of the length. -/
def tailK (n k i : Nat) : Value := if i = 0 then .int .u8 128 else if gap n ≤ i ∧ i < gap n + k then bv (lenByte n (i - gap n)) else .int .u8 0

theorem lenByte_val (n k : Nat) : (.int .u8 ((n : Int) * 8 / 2 ^ (56 - 8 * k) % 256) : Value) = bv (lenByte n k) := by
  unfold bv lenByte
  rw [UInt8.toNat_ofNat']
  congr 1
theorem tail_step (n k i : Nat) : (if i = gap n + k then bv (lenByte n k) else tailK n k i) = tailK n (k + 1) i := by
  have := gap_le n
  unfold tailK
  by_cases e : i = gap n + k
  · subst e
    rw [if_pos rfl, if_neg (by omega), if_pos (by omega), show gap n + k - gap n = k by omega]
  · rw [if_neg e]
    by_cases h0 : i = 0
    · rw [if_pos h0, if_pos h0]
    · rw [if_neg h0, if_neg h0]
      by_cases h1 : gap n ≤ i ∧ i < gap n + k
      · rw [if_pos h1, if_pos (by omega)]
      · rw [if_neg h1, if_neg (by omega)]
theorem tail_pad (f : Nat → UInt8) (n i : Nat) (hi : i < gap n + 8) : tailK n 8 i = .int .u8 ((padF f n (n + i)).toNat : Int) := by
  have := gap_le n
  unfold tailK padF
  by_cases h0 : i = 0
  · subst h0
    rw [if_pos rfl, if_neg (show ¬ n + 0 < n by omega), if_pos (show n + 0 = n by omega)]; rfl
  · rw [if_neg h0, if_neg (show ¬ n + i < n by omega), if_neg (show ¬ n + i = n by omega)]
    by_cases h1 : gap n ≤ i
    · rw [if_pos (show gap n ≤ i ∧ i < gap n + 8 by omega), if_neg (show ¬ n + i < n + gap n by omega), show n + i - n - gap n = i - gap n by omega]; rfl
    · rw [if_neg (show ¬ (gap n ≤ i ∧ i < gap n + 8) by omega), if_pos (show n + i < n + gap n by omega)]; rfl

theorem hv_info (h : Nat → UInt8) : (Tryd.prog.info? 28).map (·.size) = some (hv h).size := by
  rw [show (hv h).size = 32 from arr_size _ _]; exact info31
theorem hv_all (h : Nat → UInt8) : (hv h).all (·.oneCell') = true := arr_all _ _ (fun _ _ => rfl)
theorem out_val (st : St) (i : Nat) : (.int .u8 (un (st.word (i / 4)) / 2 ^ (24 - 8 * (i % 4)) % 256) : Value) = bv (outB st i) := by
  unfold bv outB un
  rw [UInt8.toNat_ofNat']
  congr 1
theorem out_step (st : St) (k i : Nat) : (if i = k then bv (outB st k) else if i < k then bv (outB st i) else .int .u8 0) = (if i < k + 1 then bv (outB st i) else .int .u8 0) := by
  by_cases e : i = k
  · subst e; rw [if_pos rfl, if_pos (by omega)]
  · rw [if_neg e]
    by_cases h : i < k
    · rw [if_pos h, if_pos (by omega)]
    · rw [if_neg h, if_neg (by omega)]

set_option maxRecDepth 100000 in
set_option maxHeartbeats 2000000 in
theorem hash_any (b n : Nat) (f : Nat → UInt8) (w : World) (hb0 : b ≠ 0) (hn : n ≤ 1000000000000) (hR : RunAt w b f n) (hK : KAt w) :
    Calls Tryd.prog 47 #[.pointer (some ⟨b, 0, none⟩)] w fun e w' => e = .returned (.agg (hv (hashB f n))) ∧ Ch (fun k => k = b) w w' := by
  have HR := Go.Lib.hid hR; have HK := Go.Lib.hid hK
  have hlt := cell_lt hR.cnt
  simp only at hlt
  have HF := Go.Lib.hid (fun (w' : World) (h : Ch (fun _ => False) w w') => fill_any b n w' (by omega) (h.get hR.cnt id))
  have hcnt := hR.cnt
  clear hR hK
  go_enter Tryd.func47, Tryd.ntmps47
  go_wp2_with (go_at_call 60; refine (HF.out _ (((Ch.refl _ w).alloc _).alloc _)).mono ?_; rintro e w1 ⟨rfl, rfl⟩)
  have hG : (1 + (119 - (n : Int)) % 64) = ((gap n : Nat) : Int) := by unfold gap; omega
  rw [hG]
  obtain ⟨hG1, hG2⟩ := gap_le n
  obtain ⟨G, hGG⟩ : ∃ G, gap n = G := ⟨_, rfl⟩
  rw [hGG] at hG1 hG2 ⊢
  have HGG := Go.Lib.hid hGG
  clear hG hGG
  obtain ⟨W1, hW1⟩ : ∃ W1, (w.alloc (.cells #[.int .u8 0, .int .u8 0, .int .u8 0, .int .u8 0, .int .u8 0, .int .u8 0, .int .u8 0, .int .u8 0, .int .u8 0, .int .u8 0, .int .u8 0, .int .u8 0, .int .u8 0, .int .u8 0, .int .u8 0, .int .u8 0, .int .u8 0, .int .u8 0, .int .u8 0, .int .u8 0, .int .u8 0, .int .u8 0, .int .u8 0, .int .u8 0, .int .u8 0, .int .u8 0, .int .u8 0, .int .u8 0, .int .u8 0, .int .u8 0, .int .u8 0, .int .u8 0] 28)).alloc (.cells (Tryd.zeroCells107.setIfInBounds 0 (.int .u8 128)) 107) = W1 := ⟨_, rfl⟩
  rw [hW1]
  have hC1 : Ch (fun _ => False) w W1 := by rw [← hW1]; exact ((Ch.refl _ w).alloc _).alloc _
  have hH0 : W1.heap[w.heap.size]? = some (.cells (arr 32 fun _ => .int .u8 0) 28) := by
    rw [← hW1]; exact (Below.heap_alloc _ _ _ (by simp)).trans (World.alloc_heap_new w _)
  have hH1 : W1.heap[w.heap.size + 1]? = some (.cells (arr 72 (tailK n 0)) 107) := by
    have h := World.alloc_heap_new (w.alloc (.cells (arr 32 fun _ => .int .u8 0) 28)) (.cells (Tryd.zeroCells107.setIfInBounds 0 (.int .u8 128)) 107)
    rw [World.size_alloc] at h
    rw [← hW1]
    refine h.trans ?_
    have e : Tryd.zeroCells107 = arr 72 (fun _ => .int .u8 0) := rfl
    rw [e, arr_set]
    congr 2
    refine arr_congr (fun i _ => ?_)
    unfold tailK
    by_cases h0 : i = 0
    · rw [if_pos h0, if_pos h0]
    · rw [if_neg h0, if_neg h0, if_neg (by omega)]
  have hs1 : W1.heap.size = w.heap.size + 2 := by rw [← hW1]; simp
  have HC1 := Go.Lib.hid hC1; have HH0 := Go.Lib.hid hH0; have HH1 := Go.Lib.hid hH1; have Hs1 := Go.Lib.hid hs1
  clear hW1 hC1 hH0 hH1 hs1 hcnt
  go_loopw [6, 21] (fun _ i wr => ∃ k : Nat, k ≤ 8 ∧ i = .int .i64 k ∧ wr.heap[w.heap.size + 1]? = some (.cells (arr 72 (tailK n k)) 107) ∧ Ch (fun j => j = w.heap.size + 1) W1 wr) (fun _ i _ => 8 - (intOf i).toNat)
  case atStart => exact ⟨0, by omega, rfl, HH1.out, Ch.refl _ _⟩
  case round =>
    obtain ⟨k, hk, rfl, hh, hC⟩ := hrel
    have HH := Go.Lib.hid hh; have HC := Go.Lib.hid hC
    clear hh hC
    by_cases hlt8 : k < 8
    · have hcell : wr.cell? ⟨w.heap.size + 1, G + k, none⟩ = some (tailK n k (G + k)) := (cell_of_heap HH.out _).trans (arr_get _ _ _ (by omega))
      have hfr : wr.frozen? ⟨w.heap.size + 1, G + k, none⟩ = false := frozen_of_heap HH.out _
      go_wp2
      go_roundw
      case rel =>
        refine ⟨k + 1, by omega, by go_num, ?_, Ch.setCell (S := fun j => j = w.heap.size + 1) HC.out (p := ⟨w.heap.size + 1, G + k, none⟩) (fun _ => rfl) _⟩
        rw [lenByte_val]
        refine (heap_set HH.out (G + k) _).trans ?_
        rw [← HGG.out, arr_congr (fun i _ => tail_step n k i)]
      case measure => simp [intOf]; omega
    · obtain rfl : k = 8 := by omega
      have hcw : Ch (fun _ => False) w wr := HC1.out.then HC.out (fun i hi h => by omega)
      have hrd : Hid (Calls Tryd.prog 46 #[.pointer (some ⟨b, 0, none⟩), .slice (some ⟨w.heap.size + 1, 0, none⟩) (G + 8) 72] wr fun e w' => e = .returned (.tuple #[]) ∧ Ch (fun k => k = b) wr w' ∧ RunAt w' b (padF f n) (n + (G + 8))) :=
        read_bytes b n (G + 8) 72 (w.heap.size + 1) 0 _ (padF f n) wr (.inl rfl) (by omega) hb0 (by omega)
          ((HR.out.congr (fun i hi => by unfold padF; rw [if_pos hi])).ch hcw id) (fun t ht => hcw.get (HK.out t ht) id)
          (fun i hi => by
            refine (cell_of_heap HH.out _).trans ?_
            rw [Nat.zero_add, arr_get _ _ _ (by omega), tail_pad f n i (by rw [HGG.out]; exact hi)])
      have HCW := Go.Lib.hid hcw
      clear hcw
      have hG8 : (G : Int) + 8 ≤ 72 := by omega
      have hG9 : (0 : Int) ≤ (G : Int) + 8 := by omega
      have hG10 : (G : Int) ≤ 64 := by omega
      have hG11 : ((G : Int) + 8).toNat = G + 8 := by omega
      go_wp2_with (go_at_call 46; refine hrd.out.mono ?_; rintro e w2 ⟨rfl, hc2, hr2⟩; have HC2 := Go.Lib.hid hc2; have HR2 := Go.Lib.hid hr2; clear hc2 hr2)
      obtain ⟨st, hst⟩ : ∃ st, stN (padF f n) ((n + (G + 8)) / 64) = st := ⟨_, rfl⟩
      have hHS : hashB f n = outB st := by unfold hashB; rw [← hst, HGG.out, Nat.add_assoc]
      have HHS := Go.Lib.hid hHS
      have HST := Go.Lib.hid (fun j (hj : j < 8) => HR2.out.st j hj)
      rw [hst] at HST
      have hs2 : w.heap.size + 2 ≤ w2.heap.size := by have a := HC2.out.size; have b := HC.out.size; have c := Hs1.out; omega
      have hb2 : b < w2.heap.size := cell_lt HR2.out.cnt
      have HH2 := Go.Lib.hid (HC2.out.heap (HC.out.heap HH0.out (by omega)) (by omega))
      have HCA := Go.Lib.hid ((HCW.out.mono (fun _ _ h => h.elim)).trans HC2.out)
      clear hHS hst
      go_loopw [8, 40] (fun _ i wr => ∃ k : Nat, k ≤ 32 ∧ i = .int .i64 k ∧ wr.heap[w2.heap.size]? = some (.cells (arr 32 (fun i => if i < k then bv (outB st i) else .int .u8 0)) 28) ∧ Ch (fun j => False) w2 wr) (fun _ i _ => 32 - (intOf i).toNat)
      case atStart => 
        refine ⟨0, by omega, rfl, ?_, (Ch.refl _ _).alloc _⟩
        exact World.alloc_heap_new _ _
      case round =>
        obtain ⟨k2, hk2, rfl, hh2, hC3⟩ := hrel
        have HH3 := Go.Lib.hid hh2; have HC3 := Go.Lib.hid hC3
        clear hh2 hC3
        by_cases hlt32 : k2 < 32
        · have hcell : wr.cell? ⟨w2.heap.size, k2, none⟩ = some _ := (cell_of_heap HH3.out _).trans (arr_get _ _ _ (by omega))
          have hfr : wr.frozen? ⟨w2.heap.size, k2, none⟩ = false := frozen_of_heap HH3.out _
          have hw : wr.cell? ⟨b, 16 + k2 / 4, none⟩ = some (.int .u32 (un (st.word (k2 / 4)))) := HC3.out.get (HST.out (k2 / 4) (by omega)).1 id
          go_wp2
          go_roundw
          case rel =>
            refine ⟨k2 + 1, by omega, by go_num, ?_, Ch.setCell (S := fun j => False) HC3.out (p := ⟨w2.heap.size, k2, none⟩) (fun h => absurd h (Nat.lt_irrefl _)) _⟩
            refine (heap_set HH3.out k2 _).trans ?_
            rw [out_val, arr_congr (fun i _ => out_step st k2 i)]
          case measure => simp [intOf]; omega
        · obtain rfl : k2 = 32 := by omega
          have hE : (arr 32 (fun i => if i < 32 then bv (outB st i) else .int .u8 0)) = hv (hashB f n) := by
            rw [HHS.out]; exact arr_congr (fun i hi => by rw [if_pos hi]; rfl)
          have hH7 : wr.heap[w2.heap.size]? = some (.cells (hv (hashB f n)) 28) := by rw [← hE]; exact HH3.out
          have hH0 : wr.heap[w.heap.size]? = some (.cells (arr 32 fun _ => .int .u8 0) 28) := HC3.out.heap HH2.out id
          have HH7 := Go.Lib.hid hH7; have HH0 := Go.Lib.hid hH0
          clear hH7 hH0 hE
          go_wp2_with (first | refine wpList_load_row rfl 28 (.tmp 7) rfl w2.heap.size rfl 28 _ (0, 0) _ HH7.out Tryd.underlying28 rfl (hv_info _) ?_ | refine wpList_store_row rfl 28 (.tmp 2) (.tmp 59) rfl w.heap.size (hv (hashB f n)) rfl rfl 28 (arr 32 fun _ => .int .u8 0) HH0.out (hv_info _) (by rw [arr_size]; exact (arr_size _ _).symm) (hv_all _) ?_)
          refine bodyPost_ret (results_cell_row (h := Tryd.results47) _ _ w.heap.size 28 _ (0, 0) _ rfl (heap_setRow HH0.out) Tryd.underlying28 rfl (hv_info _)) rfl ⟨rfl, ?_⟩
          exact (HCA.out.then HC3.out (fun _ _ h => h.elim)).setRow (fun h => absurd h (Nat.lt_irrefl _)) _
end Go.Proofs.YtikdpiedjkailaaDoor
