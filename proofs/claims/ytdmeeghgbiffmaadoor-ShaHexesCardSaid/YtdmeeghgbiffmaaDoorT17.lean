import Derived.Test.YtdmeeghgbiffmaaDoorT16
namespace Go.Proofs.YtdmeeghgbiffmaaDoor
open Go.RowKit

theorem indexByte_get (c : UInt8) : ∀ (l : List UInt8) (v : Nat), Lib.indexByte l c = (v : Int) → l[v]? = some c
  | [], v, h => by
    have : (-1 : Int) = v := h
    omega
  | b :: l, v, h => by
    unfold Lib.indexByte at h
    split at h
    · rename_i hb
      obtain rfl : v = 0 := by omega
      have : b = c := by simpa using hb
      simp [this]
    · split at h
      · omega
      · rename_i h2
        have h3 := Lib.indexByte_ge l c
        have h4 : Lib.indexByte l c ≠ -1 := by simpa using h2
        have h5 := indexByte_get c l (Lib.indexByte l c).toNat (by omega)
        obtain rfl : v = (Lib.indexByte l c).toNat + 1 := by omega
        simpa using h5
theorem hx_digit (v : Nat) (hv : v < 16) : hx (digit v) = (v : Int) := by
  revert v; decide
theorem hx_iff (v : Nat) (hv : v < 16) (c : UInt8) : hx c = (v : Int) ↔ digit v = c := by
  constructor
  · intro h
    have h1 := indexByte_get c hexes v h
    have h2 := digit_at v hv
    have h3 : hexes[v]? = some (digit v) := by simpa [hexes] using h2
    rw [h3] at h1
    exact Option.some.inj h1
  · rintro rfl; exact hx_digit v hv
/-- What the inner loop has found behind v rounds. -/
def part (c : UInt8) (v : Nat) : Int := if hx c < (v : Int) then hx c else -1
theorem part_zero (c : UInt8) : part c 0 = -1 := by
  unfold part
  rcases hx_bounds c with h | ⟨v, h1, h2⟩
  · rw [if_pos (by omega), h]
  · rw [if_neg (by omega)]
theorem part_all (c : UInt8) : part c 16 = hx c := by
  unfold part
  rcases hx_bounds c with h | ⟨v, h1, h2⟩
  · rw [if_pos (by omega)]
  · rw [if_pos (by omega)]
theorem part_hit (c : UInt8) (v : Nat) (hv : v < 16) (h : digit v = c) : part c (v + 1) = (v : Int) := by
  have := (hx_iff v hv c).2 h
  unfold part
  rw [if_pos (by omega), this]
theorem part_miss (c : UInt8) (v : Nat) (hv : v < 16) (h : digit v ≠ c) : part c (v + 1) = part c v := by
  have : hx c ≠ (v : Int) := fun e => h ((hx_iff v hv c).1 e)
  unfold part
  by_cases e : hx c < (v : Int)
  · rw [if_pos e, if_pos (by omega)]
  · rw [if_neg e, if_neg (by omega)]

set_option maxRecDepth 100000 in
set_option maxHeartbeats 400000 in
theorem rparse_any (s : ByteArray) (w : World) :
    Calls Tryd.prog 25 #[.string s] w fun e w' => e = .returned (.tuple #[.agg (hv (parsed s)), .int .i64 (perr s)]) ∧ Ch (fun _ => False) w w' := by
  have hsz : s.size = 64 ∨ s.size ≠ 64 := by omega
  rcases hsz with hsz | hsz
  · have hsi : (s.size : Int) = 64 := by omega
    go_enter Tryd.func25, Tryd.ntmps25
    go_wp2_with fail
    generalize hW : (w.alloc _).alloc _ = W
    have hh0 : W.heap[w.heap.size]? = some (.cells (arr 32 fun _ => .int .u8 0) 31) := by
      rw [← hW]; exact (Below.heap_alloc _ _ _ (by simp)).trans (World.alloc_heap_new w _)
    have hh1 : W.heap[w.heap.size + 1]? = some (.cells (arr 32 fun i => .int .u8 (pv s 0 i : Nat)) 31) := by
      have h := World.alloc_heap_new (w.alloc (.cells (arr 32 fun _ => .int .u8 0) 31)) (.cells (arr 32 fun _ => .int .u8 0) 31)
      rw [World.size_alloc] at h
      rw [← hW]
      refine h.trans ?_
      rw [arr_congr (N := 32) (g := fun i => .int .u8 (pv s 0 i : Nat)) (g' := fun _ => .int .u8 0) (fun i _ => by unfold pv; rw [if_neg (by omega), if_neg (by omega)]; rfl)]
    have hC : Ch (fun _ => False) w W := by rw [← hW]; exact ((Ch.refl _ _).alloc _).alloc _
    have hs2 : W.heap.size = w.heap.size + 2 := by rw [← hW]; simp
    have HH0 := Go.Lib.hid hh0; have HH1 := Go.Lib.hid hh1; have HC := Go.Lib.hid hC
    clear hh0 hh1 hC hW
    go_loopw [5, 6, 7] (fun i _ _ wr => ∃ k : Nat, k ≤ 64 ∧ i = .int .i64 k ∧ (∀ j, j < k → 0 ≤ hx (byteAt s j)) ∧ wr.heap[w.heap.size + 1]? = some (.cells (arr 32 fun i => .int .u8 (pv s k i : Nat)) 31) ∧ Ch (fun j => j = w.heap.size + 1) W wr) (fun i _ _ _ => 64 - (intOf i).toNat)
    case atStart => exact ⟨0, by omega, rfl, fun j hj => absurd hj (by omega), HH1.out, Ch.refl _ _⟩
    case round =>
      obtain ⟨k, hk, rfl, hd, hr, hC⟩ := hrel
      have HR := Go.Lib.hid hr; have HCr := Go.Lib.hid hC; have HD := Go.Lib.hid hd
      have HH2 := Go.Lib.hid (hC.heap HH0.out (by omega))
      have HCw := Go.Lib.hid (HC.out.then hC (fun i hi h => by omega))
      clear hr hC hd
      by_cases hkN : k < 64
      · have hi := index_str s k (by omega)
        have HI := Go.Lib.hid hi
        clear hi
        obtain ⟨c, hc⟩ : ∃ c, byteAt s k = c := ⟨_, rfl⟩
        rw [hc] at HI
        have HCC := Go.Lib.hid hc
        clear hc
        go_wp2_with fail
        rw [show decide ((k : Int) < 64) = true from decide_eq_true (by omega)]
        go_loopw [6, 7] (fun d v wr2 => ∃ n : Nat, n ≤ 16 ∧ v = .int .u8 n ∧ d = .int .i64 (part c n) ∧ Ch (fun _ => False) wr wr2) (fun _ v _ => 16 - (intOf v).toNat)
        case atStart => exact ⟨0, by omega, rfl, by rw [part_zero], Ch.refl _ _⟩
        case round =>
          obtain ⟨n, hn, rfl, rfl, hCq⟩ := hrel
          have HCq := Go.Lib.hid hCq
          clear hCq
          by_cases hn16 : n < 16
          · have HS := Go.Lib.hid (fun w => sign_at n (n : Int) rfl hn16 w)
            go_upto_region 11 with (fail)
            refine wp_region_quiet_tail 5 (by kernel_rfl) (by kernel_rfl) ?_
            simp only [List.take_succ_cons, List.take_zero, List.drop_succ_cons, List.drop_zero]
            have hi := HI.out
            repeat (quiet_step ((go_at_call 49; (with_reducible exact quiet_q (HS.out _)))))
            refine wpQuiet_nil ?_
            intro _ hw'
            obtain ⟨q1, rfl⟩ := hw'
            clear hi
            by_cases hdc : digit n = c
            · have hdi : ((digit n).toNat : Int) = (c.toNat : Int) := by rw [hdc]
              have hph := part_hit c n hn16 hdc
              go_wp2_with fail
              go_roundw
              case rel => exact ⟨n + 1, by omega, by go_num, by rw [hph], HCq.out.drewN q1⟩
              case measure => simp [intOf]; omega
            · have hdi : ¬ ((digit n).toNat : Int) = (c.toNat : Int) := fun e => hdc (UInt8.toNat_inj.1 (by omega))
              have hpm := part_miss c n hn16 hdc
              go_wp2_with fail
              go_roundw
              case rel => exact ⟨n + 1, by omega, by go_num, by rw [hpm], HCq.out.drewN q1⟩
              case measure => simp [intOf]; omega
          · obtain rfl : n = 16 := by omega
            have hpa := part_all c
            have HR' := Go.Lib.hid (HCq.out.heap HR.out id); have HH2' := Go.Lib.hid (HCq.out.heap HH2.out id)
            have HCw' := Go.Lib.hid (HCw.out.trans HCq.out)
            have HCr' := Go.Lib.hid (HCr.out.trans (HCq.out.mono (fun _ _ h => h.elim)))
            rcases hx_bounds c with hx | ⟨v, hv, hx⟩
            · have HE := Go.Lib.hid (not_hex (s := s) hkN (by rw [HCC.out]; exact hx))
              rw [hpa, hx]
              clear hx hpa
              go_wp2_with (refine wpList_store_row rfl 31 (.tmp 2) (.tmp 30) rfl w.heap.size (hv fun _ => 0) rfl rfl 31 (arr 32 fun _ => .int .u8 0) HH2'.out (hv_info _) (by rw [arr_size]; exact (arr_size _ _).symm) (hv_all _) ?_)
              have e1 : parsed s = fun _ => 0 := by unfold parsed; rw [HE.out]; rfl
              have e2 : perr s = 110 := by unfold perr; rw [HE.out]; rfl
              refine bodyPost_ret (results_cell_slot (h := Tryd.results25) _ _ w.heap.size 31 _ (0, 0) _ (.int .i64 110) rfl rfl (heap_setRow HH2'.out) Tryd.underlying31 rfl (hv_info _)) rfl ⟨by rw [e1, e2], ?_⟩
              exact HCw'.out.setRow (fun h => absurd h (Nat.lt_irrefl _)) _
            · have hvn : vn s k = v := by unfold vn; rw [HCC.out, hx]; rfl
              have hcell : wr.cell? ⟨w.heap.size + 1, k / 2, none⟩ = some (.int .u8 (pv s k (k / 2) : Nat)) := (cell_of_heap HR'.out _).trans (arr_get 32 _ _ (by omega))
              have hfr : wr.frozen? ⟨w.heap.size + 1, k / 2, none⟩ = false := frozen_of_heap HR'.out _
              have hvi : (v : Int) < 16 := by omega
              have HX := Go.Lib.hid (show 0 ≤ YtdmeeghgbiffmaaDoor.hx (byteAt s k) by rw [HCC.out, hx]; omega)
              rw [hpa, hx]
              clear hx hpa
              rcases Nat.mod_two_eq_zero_or_one k with hk2 | hk2
              · have hp : pv s k (k / 2) = 0 := by unfold pv; rw [if_neg (by omega), if_neg (by omega)]
                rw [hp] at hcell
                go_wp2_with fail
                refine ⟨⟨k + 1, by omega, by go_num, fun j hj => ?_, ?_, Ch.setCell (S := fun j => j = w.heap.size + 1) HCr'.out (p := ⟨w.heap.size + 1, k / 2, none⟩) (fun _ => rfl) _⟩, by simp [intOf]; omega⟩
                · by_cases e : j = k
                  · subst e; exact HX.out
                  · exact HD.out j (by omega)
                · refine (heap_set HR'.out (k / 2) _).trans ?_
                  rw [arr_congr (fun i _ => pv_even s k i v hk2 hvn)]
              · have hp : pv s k (k / 2) = vn s (k - 1) := by unfold pv; rw [if_neg (by omega), if_pos (by omega), show 2 * (k / 2) = k - 1 by omega]
                rw [hp] at hcell
                obtain ⟨a, ha⟩ : ∃ a, vn s (k - 1) = a := ⟨_, rfl⟩
                have haa : a < 16 := ha ▸ vn_lt s (k - 1)
                have hai : (a : Int) < 16 := by omega
                rw [ha] at hcell
                go_wp2_with fail
                refine ⟨⟨k + 1, by omega, by go_num, fun j hj => ?_, ?_, Ch.setCell (S := fun j => j = w.heap.size + 1) HCr'.out (p := ⟨w.heap.size + 1, k / 2, none⟩) (fun _ => rfl) _⟩, by simp [intOf]; omega⟩
                · by_cases e : j = k
                  · subst e; exact HX.out
                  · exact HD.out j (by omega)
                · refine (heap_set HR'.out (k / 2) _).trans ?_
                  rw [show (a : Int) * 16 + (v : Int) = ((16 * a + v : Nat) : Int) by omega, arr_congr (fun i _ => pv_odd s k i a v hk2 ha hvn)]
      · obtain rfl : k = 64 := by omega
        have HE := Go.Lib.hid (is_hex hsz HD.out)
        have hhv : (arr 32 fun i => (.int .u8 (pv s 64 i : Nat) : Value)) = hv (parsed s) := arr_congr (fun i _ => by
          unfold parsed
          rw [HE.out, if_pos rfl, UInt8.toNat_ofNat', Nat.mod_eq_of_lt (pv_lt s 64 i)])
        have HR' := Go.Lib.hid (show wr.heap[w.heap.size + 1]? = some (.cells (hv (parsed s)) 31) by rw [← hhv]; exact HR.out)
        clear hhv
        go_wp2_with (first | refine wpList_load_row rfl 31 (.tmp 4) rfl (w.heap.size + 1) rfl 31 _ (0, 0) _ HR'.out Tryd.underlying31 rfl (hv_info _) ?_ | refine wpList_store_row rfl 31 (.tmp 2) (.tmp 42) rfl w.heap.size (hv (parsed s)) rfl rfl 31 (arr 32 fun _ => .int .u8 0) HH2.out (hv_info _) (by rw [arr_size]; exact (arr_size _ _).symm) (hv_all _) ?_)
        have e2 : perr s = 0 := by unfold perr; rw [HE.out]; rfl
        refine bodyPost_ret (results_cell_slot (h := Tryd.results25) _ _ w.heap.size 31 _ (0, 0) _ (.int .i64 0) rfl rfl (heap_setRow HH2.out) Tryd.underlying31 rfl (hv_info _)) rfl ⟨by rw [e2], ?_⟩
        exact HCw.out.setRow (fun h => absurd h (Nat.lt_irrefl _)) _
  · have hsz' : ¬ (s.size : Int) = 64 := by omega
    go_enter Tryd.func25, Tryd.ntmps25
    go_wp2_with (first | refine wpList_load_row rfl 31 (.tmp 4) rfl (w.heap.size + 1) rfl 31 _ (0, 0) _ (by have h := World.alloc_heap_new (w.alloc (.cells (arr 32 fun _ => .int .u8 0) 31)) (.cells (hv fun _ => 0) 31); rw [World.size_alloc] at h; exact h) Tryd.underlying31 rfl (hv_info _) ?_ | refine wpList_store_row rfl 31 (.tmp 2) (.tmp 11) rfl w.heap.size (hv fun _ => 0) rfl rfl 31 (arr 32 fun _ => .int .u8 0) ((Below.heap_alloc _ _ _ (by simp)).trans (World.alloc_heap_new w _)) (hv_info _) (by rw [arr_size]; exact (arr_size _ _).symm) (hv_all _) ?_)
    have e1 : parsed s = fun _ => 0 := by unfold parsed; rw [not_size hsz]; rfl
    have e2 : perr s = 110 := by unfold perr; rw [not_size hsz]; rfl
    refine bodyPost_ret (results_cell_slot (h := Tryd.results25) _ _ w.heap.size 31 _ (0, 0) _ (.int .i64 110) rfl rfl (heap_setRow (t := 31) (fr := (0, 0)) (old := arr 32 fun _ => .int .u8 0) ((Below.heap_alloc _ _ _ (by simp)).trans (World.alloc_heap_new w _))) Tryd.underlying31 rfl (hv_info _)) rfl ⟨by rw [e1, e2], ?_⟩
    exact (((Ch.refl _ w).alloc _).alloc _).setRow (fun h => absurd h (Nat.lt_irrefl _)) _
end Go.Proofs.YtdmeeghgbiffmaaDoor
