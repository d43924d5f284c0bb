import Derived.Test.YtikdpiedjkailaaDoorT8
namespace Go.Proofs.YtikdpiedjkailaaDoor
open Go.RowKit

def upto (L : Nat → Nat) : Nat → Nat
  | 0 => 0
  | k + 1 => upto L k + L k
theorem upto_le (L : Nat → Nat) {a b : Nat} (h : a ≤ b) : upto L a ≤ upto L b := by
  induction b with
  | zero => obtain rfl : a = 0 := by omega
            exact Nat.le_refl _
  | succ b ih =>
    by_cases e : a = b + 1
    · subst e; exact Nat.le_refl _
    · have := ih (by omega)
      show upto L a ≤ upto L b + L b
      omega
/-- Parts of bytes in a row of slices; together they are f. -/
structure PartsAt (w : World) (a off N : Nat) (P : Nat → Option Addr) (L C : Nat → Nat) (f : Nat → UInt8) : Prop where
  row : ∀ i, i < N → w.cell? ⟨a, off + i, none⟩ = some (.slice (P i) (L i) (C i))
  bytes : ∀ i, i < N → ∃ x y, (P i = some ⟨x, y, none⟩ ∨ L i = 0) ∧ x < w.heap.size ∧ ∀ j, j < L i → w.cell? ⟨x, y + j, none⟩ = some (.int .u8 ((f (upto L i + j)).toNat : Int))
theorem KAt.ch {S : Nat → Prop} {w w' : World} (h : KAt w) (hc : Ch S w w') (hs : ¬ S 0) : KAt w' := fun t ht => hc.get (h t ht) hs
theorem PartsAt.ch {S : Nat → Prop} {w w' : World} {a off N : Nat} {P : Nat → Option Addr} {L C : Nat → Nat} {f : Nat → UInt8} (h : PartsAt w a off N P L C f) (hc : Ch S w w') (hs : ∀ i, i < w.heap.size → ¬ S i) : PartsAt w' a off N P L C f := by
  refine ⟨fun i hi => ?_, fun i hi => ?_⟩
  · have := h.row i hi
    exact hc.get this (hs _ (cell_lt this))
  · obtain ⟨x, y, h1, h2, h3⟩ := h.bytes i hi
    exact ⟨x, y, h1, Nat.lt_of_lt_of_le h2 hc.size, fun j hj => hc.get (h3 j hj) (hs _ h2)⟩
theorem run_size : (Tryd.prog.info? 94).map (·.size) = some (runCells st0).size := by
  rw [show (runCells st0).size = 26 from rfl]; exact info65
theorem run_all : (runCells st0).all (·.oneCell') = true := by
  unfold runCells
  generalize st0 = s
  simp [Value.oneCell', wv]

set_option maxRecDepth 100000 in
set_option maxHeartbeats 2000000 in
theorem sum_any (a off N cap : Nat) (sp : Option Addr) (P : Nat → Option Addr) (L C : Nat → Nat) (f : Nat → UInt8) (w : World) (hsp : sp = some ⟨a, off, none⟩ ∨ N = 0) (hN : N ≤ 1000000)
    (hn : upto L N ≤ 1000000000000) (hP : PartsAt w a off N P L C f) (hK : KAt w) :
    Calls Tryd.prog 31 #[.slice sp N cap] w fun e w' => e = .returned (.agg (hv (hashB f (upto L N)))) ∧ Ch (fun _ => False) w w' := by
  have HP := Go.Lib.hid hP; have HK := Go.Lib.hid hK
  have HB := Go.Lib.hid (fun w => begun_any w)
  have hK0 : 0 < w.heap.size := cell_lt (hK 0 (by omega))
  clear hK hP
  generalize hrc : runCells st0 = rc
  have HRC := Go.Lib.hid hrc
  rw [hrc] at HB
  have HRS := Go.Lib.hid (hrc ▸ run_size)
  have HRA := Go.Lib.hid (hrc ▸ run_all)
  have HRZ : Hid (26 = rc.size) := Go.Lib.hid (hrc ▸ rfl)
  clear hrc
  go_enter Tryd.func31, Tryd.ntmps31
  go_wp2_with (first | (go_at_call 45; refine (HB.out _).mono ?_; rintro e w1 ⟨rfl, hw1⟩; have HW1 := Go.Lib.hid hw1; clear hw1) | refine wpList_store_row rfl 94 (.tmp 3) (.tmp 6) rfl w1.heap.size rc rfl rfl 94 _ (World.alloc_heap_new w1 _) HRS.out HRZ.out HRA.out ?_)
  generalize hW2 : (w1.alloc _).setRow w1.heap.size rc = W2
  have hc2 : Ch (fun _ => False) w1 W2 := by rw [← hW2]; exact ((Ch.refl _ _).alloc _).setRow (fun h => absurd h (Nat.lt_irrefl _)) _
  have hc0 : Ch (fun _ => False) w w1 := ((Ch.refl _ w).alloc _).trans (HW1.out.mono (fun _ _ h => h))
  have hh0 : W2.heap[w.heap.size]? = some (.cells (arr 32 fun _ => .int .u8 0) 28) := hc2.heap (HW1.out.heap (World.alloc_heap_new w _) id) id
  have hr0 : RunAt W2 w1.heap.size f 0 := by
    refine run_heap ?_ f
    rw [HRC.out, ← hW2]
    exact heap_setRow (World.alloc_heap_new w1 _)
  have hsz : w.heap.size < w1.heap.size := by have := HW1.out.size; simp at this; omega
  have HC := Go.Lib.hid (hc0.trans hc2); have HH0 := Go.Lib.hid hh0; have HR0 := Go.Lib.hid hr0
  clear hc2 hc0 hh0 hr0 hW2
  generalize w1.heap.size = B at *
  go_loopw [5, 9] (fun _ i wr => ∃ k : Nat, k ≤ N ∧ i = .int .i64 k ∧ RunAt wr B f (upto L k) ∧ Ch (fun j => j = B) W2 wr) (fun _ i _ => N - (intOf i).toNat)
  case atStart => exact ⟨0, by omega, rfl, HR0.out, Ch.refl _ _⟩
  case round =>
    obtain ⟨k, hk, rfl, hr, hC⟩ := hrel
    have HR := Go.Lib.hid hr; have HCr := Go.Lib.hid hC
    have HCw := Go.Lib.hid (HC.out.then hC (fun i hi h => by omega))
    clear hr hC
    by_cases hkN : k < N
    · obtain rfl : sp = some ⟨a, off, none⟩ := hsp.resolve_right (by omega)
      have hcell : wr.cell? ⟨a, off + k, none⟩ = some (.slice (P k) (L k) (C k)) := HCw.out.get (HP.out.row k hkN) id
      obtain ⟨x, y, hx, hxl, hxb⟩ := HP.out.bytes k hkN
      have hup : upto L k + L k ≤ upto L N := upto_le L (show k + 1 ≤ N by omega)
      have hrd := Go.Lib.hid (read_bytes B (upto L k) (L k) (C k) x y (P k) f wr hx (by omega) (by omega) (by omega) HR.out (HK.out.ch HCw.out id) (fun j hj => HCw.out.get (hxb j hj) id))
      clear hx hxb
      go_wp2_with (go_at_call 46; refine hrd.out.mono ?_; rintro e w4 ⟨rfl, hc4, hr4⟩; have HC4 := Go.Lib.hid hc4; have HR4 := Go.Lib.hid hr4; clear hc4 hr4)
      go_roundw
      case rel => exact ⟨k + 1, by omega, by go_num, HR4.out, HCr.out.trans HC4.out⟩
      case measure => simp [intOf]; omega
    · obtain rfl : k = N := by omega
      have hB : B < wr.heap.size := cell_lt HR.out.cnt
      have hha := Go.Lib.hid (hash_any B (upto L k) f wr (by omega) hn HR.out (HK.out.ch HCw.out id))
      have HH1 := Go.Lib.hid (HCr.out.heap HH0.out (by omega))
      go_wp2_with (first | (go_at_call 47; refine hha.out.mono ?_; rintro e w5 ⟨rfl, hc5⟩; have HC5 := Go.Lib.hid hc5; have HH5 := Go.Lib.hid (hc5.heap HH1.out (by omega)); clear hc5) | refine wpList_store_row rfl 28 (.tmp 2) (.tmp 16) rfl w.heap.size (hv (hashB f (upto L k))) rfl rfl 28 (arr 32 fun _ => .int .u8 0) HH5.out (hv_info _) (by rw [arr_size]; exact (arr_size _ _).symm) (hv_all _) ?_)
      refine bodyPost_ret (results_cell_row (h := Tryd.results31) _ _ w.heap.size 28 _ (0, 0) _ rfl (heap_setRow HH5.out) Tryd.underlying28 rfl (hv_info _)) rfl ⟨rfl, ?_⟩
      exact (HCw.out.then HC5.out (fun i hi h => by omega)).setRow (fun h => absurd h (Nat.lt_irrefl _)) _
end Go.Proofs.YtikdpiedjkailaaDoor
