/- The reference's Take. -/
import Derived.Test.YtljllfdigfojdaaR5
import Derived.Test.YtljllfdigfojdaaV18
namespace Go.Proofs.Ytljllfdigfojdaa
open Go Go.RowKit

theorem res81 (w1 : World) (B : Nat) (s : Option Addr) (n c : Nat) (b : Bool) (v : Value) (no : Int) (h : w1.heap[B]? = some (.cells #[.slice s n c, .bool b] 51)) (t : Array Value) (h4 : t[4]? = some (.pointer (some ⟨B, 0, none⟩))) (h5 : t[5]? = some v) (h6 : t[6]? = some (.int .i64 no)) :
    (results Try.f81 t).run Try.prog w1 = .ok (.tuple #[.agg #[.slice s n c, .bool b], v, .int .i64 no]) w1 := by
  have h0 : w1.cell? ⟨B, 0, none⟩ = some (.slice s n c) := (cell_of_heap h 0).trans rfl
  have h1 : w1.cell? ⟨B, 1, none⟩ = some (.bool b) := (cell_of_heap h 1).trans rfl
  simp [results, Try.results81, go_sem, h0, h1, h4, h5, h6]
theorem rTake_bad (p : Option Addr) (n c k : Nat) (w : World) :
    Calls Try.prog 81 #[.agg #[.slice p n c, .bool true], .int .i64 (k : Int)] w fun e w' => e = .returned (.tuple #[.agg #[.slice p n c, .bool true], .slice none 0 0, .int .i64 140]) ∧ Ch (fun _ => False) w w' := by
  go_enter Try.func81, Try.ntmps81
  go_wp2
  have hB : ((w.alloc (.cells #[.slice p n c, .bool true] 51)).alloc (.cells #[.slice p n c, .bool true] 51)).heap[w.heap.size + 1]? = some (.cells #[.slice p n c, .bool true] 51) := by
    rw [← World.size_alloc w (.cells #[.slice p n c, .bool true] 51)]
    exact World.alloc_heap_new _ _
  exact bodyPost_ret (res81 _ _ p n c true _ 140 hB _ rfl rfl rfl) rfl ⟨rfl, ((Ch.refl _ w).alloc _).alloc _⟩
theorem rTake_lack (p : Option Addr) (n c k : Nat) (w : World) (hk : n < k) :
    Calls Try.prog 81 #[.agg #[.slice p n c, .bool false], .int .i64 (k : Int)] w fun e w' => e = .returned (.tuple #[.agg #[.slice p n c, .bool true], .slice none 0 0, .int .i64 140]) ∧ Ch (fun _ => False) w w' := by
  have hk' : (n : Int) < (k : Int) := by omega
  clear hk
  go_enter Try.func81, Try.ntmps81
  go_wp2
  have hB : ((w.alloc (.cells #[.slice p n c, .bool false] 51)).alloc (.cells #[.slice p n c, .bool true] 51)).heap[w.heap.size + 1]? = some (.cells #[.slice p n c, .bool true] 51) := by
    rw [← World.size_alloc w (.cells #[.slice p n c, .bool false] 51)]
    exact World.alloc_heap_new _ _
  exact bodyPost_ret (res81 _ _ p n c true _ 140 hB _ rfl rfl rfl) rfl ⟨rfl, ((Ch.refl _ w).alloc _).alloc _⟩
set_option maxRecDepth 100000 in
set_option maxHeartbeats 1000000 in
theorem rTake_some (xb yb n c k : Nat) (w : World) (hk : k ≤ n) (hkcN : k < c) (hnc : n ≤ c) :
    Calls Try.prog 81 #[.agg #[.slice (some ⟨xb, yb, none⟩) n c, .bool false], .int .i64 (k : Int)] w fun e w' => e = .returned (.tuple #[.agg #[.slice (some ⟨xb, yb + k, none⟩) (n - k) (c - k), .bool false], .slice (some ⟨xb, yb, none⟩) k c, .int .i64 0]) ∧ Ch (fun _ => False) w w' := by
  have hk1 : ¬ (n : Int) < (k : Int) := by omega
  have hkn : (k : Int) ≤ (n : Int) := by omega
  have hkc : (k : Int) ≤ (c : Int) := by omega
  have hnc' : (n : Int) ≤ (c : Int) := by omega
  go_enter Try.func81, Try.ntmps81
  go_upto_region 3 with fail
  have HA0 := Go.Lib.hid (((Ch.refl (fun _ => False) (w.alloc (.cells #[.slice (some ⟨xb, yb, none⟩) n c, .bool false] 51))).alloc (.cells #[.slice none 0 0, .bool false] 51)).heap (World.alloc_heap_new w _) id)
  have HC00 := Go.Lib.hid (show ((w.alloc (.cells #[.slice (some ⟨xb, yb, none⟩) n c, .bool false] 51)).alloc (.cells #[.slice none 0 0, .bool false] 51)).heap[w.heap.size + 1]? = some (.cells #[.slice none 0 0, .bool false] 51) from by
    rw [← World.size_alloc w (.cells #[.slice (some ⟨xb, yb, none⟩) n c, .bool false] 51)]
    exact World.alloc_heap_new _ _)
  have HCC := Go.Lib.hid (((Ch.refl (fun _ => False) w).alloc (.cells #[.slice (some ⟨xb, yb, none⟩) n c, .bool false] 51)).alloc (.cells #[.slice none 0 0, .bool false] 51))
  have HCF := Go.Lib.hid (fun W (h : Ch (fun q => q = w.heap.size + 1) ((w.alloc (.cells #[.slice (some ⟨xb, yb, none⟩) n c, .bool false] 51)).alloc (.cells #[.slice none 0 0, .bool false] 51)) W) => (show Ch (fun _ => False) w W from HCC.out.then h (fun i hi e => by have e' : i = w.heap.size + 1 := e; omega)))
  have HAC := Go.Lib.hid (show ¬ w.heap.size = w.heap.size + 1 by omega)
  clear HCC
  generalize (w.alloc (.cells #[.slice (some ⟨xb, yb, none⟩) n c, .bool false] 51)).alloc (.cells #[.slice none 0 0, .bool false] 51) = w0 at *
  generalize w.heap.size + 1 = C at *
  generalize w.heap.size = A at *
  have HA := Go.Lib.hid HA0.out; have HC0 := Go.Lib.hid HC00.out
  clear HA0 HC00
  generalize hax : Act.mk _ _ = ax
  have HSZ := Go.Lib.hid (show ax.tmps.size = 28 by rw [← hax]; rfl)
  have F1 := Go.Lib.hid (show gt ax 1 = .int .i64 (k : Int) by rw [← hax]; rfl)
  have F2 := Go.Lib.hid (show gt ax 2 = .pointer (some ⟨A, 0, none⟩) by rw [← hax]; rfl)
  have F4 := Go.Lib.hid (show gt ax 4 = .pointer (some ⟨C, 0, none⟩) by rw [← hax]; rfl)
  have HAX := Go.Lib.hid hax
  clear hax
  have HND := Go.Lib.hid (show ([19, 20, 21, 22, 23, 24, 25, 26, 27] : List Nat).Nodup by decide)
  have HLS : Hid (Lasts [(19, fun x _ => x = .pointer (some ⟨A, 0, none⟩)), (20, fun x _ => x = .slice (some ⟨xb, yb, none⟩) n c), (21, fun x _ => x = .int .i64 (k : Int)), (22, fun x _ => x = .slice (some ⟨xb, yb + k, none⟩) (n - k) (c - k)), (23, fun x _ => x = .agg #[.slice (some ⟨xb, yb + k, none⟩) (n - k) (c - k), .bool false]), (24, fun x _ => x = .pointer (some ⟨A, 0, none⟩)), (25, fun x _ => x = .slice (some ⟨xb, yb, none⟩) n c), (26, fun x _ => x = .int .i64 (k : Int)), (27, fun x _ => x = .slice (some ⟨xb, yb, none⟩) k c)]) := Go.Lib.hid (by
    intro p hp v w1 w2 hc h
    simp only [List.mem_cons, List.not_mem_nil, or_false] at hp
    rcases hp with rfl | rfl | rfl | rfl | rfl | rfl | rfl | rfl | rfl
    all_goals first | exact h | (obtain ⟨g, h1, h2⟩ := h; exact ⟨g, h1, hc.heap h2 id⟩) | (obtain ⟨g, c, h1, h2⟩ := h; exact ⟨g, c, h1, h2.ch hc (fun _ _ h => h)⟩))
  refine wp_region_open_tail 10 (InvQ 28 [(19, fun x _ => x = .pointer (some ⟨A, 0, none⟩)), (20, fun x _ => x = .slice (some ⟨xb, yb, none⟩) n c), (21, fun x _ => x = .int .i64 (k : Int)), (22, fun x _ => x = .slice (some ⟨xb, yb + k, none⟩) (n - k) (c - k)), (23, fun x _ => x = .agg #[.slice (some ⟨xb, yb + k, none⟩) (n - k) (c - k), .bool false]), (24, fun x _ => x = .pointer (some ⟨A, 0, none⟩)), (25, fun x _ => x = .slice (some ⟨xb, yb, none⟩) n c), (26, fun x _ => x = .int .i64 (k : Int)), (27, fun x _ => x = .slice (some ⟨xb, yb, none⟩) k c)] (IAsk w0 C 9 12 (.slice (some ⟨xb, yb + k, none⟩) (n - k) (c - k)) false) ax) (by kernel_rfl) (by kernel_rfl) (InvQ.start (by simp) HSZ.out (IAsk.start HC0.out)) ?_ ?_
  · intro L a w' i hI hr hlt
    obtain ⟨h1, o, ho, hall⟩ := mem_ready.1 hr
    have hun : lg L i = false := by
      have h2 : i < L.size := Nat.lt_of_lt_of_le hlt (by rw [hI.wld.size]; decide)
      unfold lg; simp [h2] at h1 ⊢; exact h1
    have hsplit : i = 0 ∨ i = 1 ∨ i = 2 ∨ i = 3 ∨ i = 4 ∨ i = 5 ∨ i = 6 ∨ i = 7 ∨ i = 8 ∨ i = 9 := by omega
    clear hlt h1 hr
    rcases hsplit with rfl | rfl | rfl | rfl | rfl | rfl | rfl | rfl | rfl | rfl
    · have q2 := (hI.fixed 2 (by simp)).trans F2.out
      unfold gt at q2
      clear hall
      refine wpOp_step (o := _) rfl (fun K' hK' => ?_)
      go_simp
      exact hK' _ _ (hI.put 0 rfl (by decide) HND.out HLS.out (Ch.refl _ _) rfl (hI.wld.step 0 (by decide) (by decide) (Ch.refl _ _)))
    · simp at ho
      have e0 : lg L 0 = true := by unfold lg; simpa using hall ⟨0, .data⟩ (by rw [← ho]; simp) rfl
      have f0 : gt a 19 = .pointer (some ⟨A, 0, none⟩) := hI.val 0 _ rfl e0
      have hD := hI.wld.ch.heap HA.out HAC.out
      have hcl0 : w'.cell? ⟨A, 0, none⟩ = some (.slice (some ⟨xb, yb, none⟩) n c) := (cell_of_heap hD 0).trans rfl
      clear hD
      unfold gt at f0
      clear hall
      clear ho
      refine wpOp_step (o := _) rfl (fun K' hK' => ?_)
      go_simp
      exact hK' _ _ (hI.put 1 rfl (by decide) HND.out HLS.out (Ch.refl _ _) rfl (hI.wld.step 1 (by decide) (by decide) (Ch.refl _ _)))
    · have q1 := (hI.fixed 1 (by simp)).trans F1.out
      unfold gt at q1
      clear hall
      refine wpOp_step (o := _) rfl (fun K' hK' => ?_)
      go_simp
      exact hK' _ _ (hI.put 2 rfl (by decide) HND.out HLS.out (Ch.refl _ _) rfl (hI.wld.step 2 (by decide) (by decide) (Ch.refl _ _)))
    · simp at ho
      have e1 : lg L 1 = true := by unfold lg; simpa using hall ⟨1, .data⟩ (by rw [← ho]; simp) rfl
      have f1 : gt a 20 = .slice (some ⟨xb, yb, none⟩) n c := hI.val 1 _ rfl e1
      have e2 : lg L 2 = true := by unfold lg; simpa using hall ⟨2, .data⟩ (by rw [← ho]; simp) rfl
      have f2 : gt a 21 = .int .i64 (k : Int) := hI.val 2 _ rfl e2
      have hck : ¬ c = k := by omega
      unfold gt at f1 f2
      clear hall
      clear ho
      refine wpOp_step (o := _) rfl (fun K' hK' => ?_)
      go_simp
      exact hK' _ _ (hI.put 3 rfl (by decide) HND.out HLS.out (Ch.refl _ _) rfl (hI.wld.step 3 (by decide) (by decide) (Ch.refl _ _)))
    · simp at ho
      have e3 : lg L 3 = true := by unfold lg; simpa using hall ⟨3, .data⟩ (by rw [← ho]; simp) rfl
      have f3 : gt a 22 = .slice (some ⟨xb, yb + k, none⟩) (n - k) (c - k) := hI.val 3 _ rfl e3
      unfold gt at f3
      clear hall
      clear ho
      refine wpOp_step (o := _) rfl (fun K' hK' => ?_)
      go_simp
      exact hK' _ _ (hI.put 4 rfl (by decide) HND.out HLS.out (Ch.refl _ _) rfl (hI.wld.step 4 (by decide) (by decide) (Ch.refl _ _)))
    · have q2 := (hI.fixed 2 (by simp)).trans F2.out
      unfold gt at q2
      clear hall
      refine wpOp_step (o := _) rfl (fun K' hK' => ?_)
      go_simp
      exact hK' _ _ (hI.put 5 rfl (by decide) HND.out HLS.out (Ch.refl _ _) rfl (hI.wld.step 5 (by decide) (by decide) (Ch.refl _ _)))
    · simp at ho
      have e5 : lg L 5 = true := by unfold lg; simpa using hall ⟨5, .data⟩ (by rw [← ho]; simp) rfl
      have f5 : gt a 24 = .pointer (some ⟨A, 0, none⟩) := hI.val 5 _ rfl e5
      have hD := hI.wld.ch.heap HA.out HAC.out
      have hcl0 : w'.cell? ⟨A, 0, none⟩ = some (.slice (some ⟨xb, yb, none⟩) n c) := (cell_of_heap hD 0).trans rfl
      clear hD
      unfold gt at f5
      clear hall
      clear ho
      refine wpOp_step (o := _) rfl (fun K' hK' => ?_)
      go_simp
      exact hK' _ _ (hI.put 6 rfl (by decide) HND.out HLS.out (Ch.refl _ _) rfl (hI.wld.step 6 (by decide) (by decide) (Ch.refl _ _)))
    · have q1 := (hI.fixed 1 (by simp)).trans F1.out
      unfold gt at q1
      clear hall
      refine wpOp_step (o := _) rfl (fun K' hK' => ?_)
      go_simp
      exact hK' _ _ (hI.put 7 rfl (by decide) HND.out HLS.out (Ch.refl _ _) rfl (hI.wld.step 7 (by decide) (by decide) (Ch.refl _ _)))
    · simp at ho
      have e6 : lg L 6 = true := by unfold lg; simpa using hall ⟨6, .data⟩ (by rw [← ho]; simp) rfl
      have f6 : gt a 25 = .slice (some ⟨xb, yb, none⟩) n c := hI.val 6 _ rfl e6
      have e7 : lg L 7 = true := by unfold lg; simpa using hall ⟨7, .data⟩ (by rw [← ho]; simp) rfl
      have f7 : gt a 26 = .int .i64 (k : Int) := hI.val 7 _ rfl e7
      unfold gt at f6 f7
      clear hall
      clear ho
      refine wpOp_step (o := _) rfl (fun K' hK' => ?_)
      go_simp
      exact hK' _ _ (hI.put 8 rfl (by decide) HND.out HLS.out (Ch.refl _ _) rfl (hI.wld.step 8 (by decide) (by decide) (Ch.refl _ _)))
    · simp at ho
      have e4 : lg L 4 = true := by unfold lg; simpa using hall ⟨4, .data⟩ (by rw [← ho]; simp) rfl
      have f4 : gt a 23 = .agg #[.slice (some ⟨xb, yb + k, none⟩) (n - k) (c - k), .bool false] := hI.val 4 _ rfl e4
      have q4 := (hI.fixed 4 (by simp)).trans F4.out
      have hrow := hI.wld.before hun
      have hcl0 := (cell_of_heap hrow 0).trans rfl
      have hcl1 := (cell_of_heap hrow 1).trans rfl
      have hfz0 := frozen_of_heap hrow 0
      have hfz1 := frozen_of_heap hrow 1
      unfold gt at f4 q4
      clear hall
      clear ho
      refine wpOp_step (o := _) rfl (fun K' hK' => ?_)
      clear hrow
      go_simp
      exact hK' _ _ (hI.skipX 9 (Nat.le_refl 9) (by rw [hI.wld.size]; decide) (fun k p hp hl h => by
        have hk9 : k < 9 := (List.getElem?_eq_some_iff.1 hp).1
        obtain rfl | rfl | rfl | rfl | rfl | rfl | rfl | rfl | rfl : k = 0 ∨ k = 1 ∨ k = 2 ∨ k = 3 ∨ k = 4 ∨ k = 5 ∨ k = 6 ∨ k = 7 ∨ k = 8 := by omega
        all_goals (cases hp; exact h)) (hI.wld.store (by decide) hun))
  · intro L a w' hI hal
    have hfr := hI.frame HSZ.out (by simp) (fun i hi => hal i (by have h10 : i < 9 := hi; omega))
    have k0 : gt a 19 = .pointer (some ⟨A, 0, none⟩) := hI.val 0 _ rfl (hal 0 (by decide))
    have k1 : gt a 20 = .slice (some ⟨xb, yb, none⟩) n c := hI.val 1 _ rfl (hal 1 (by decide))
    have k2 : gt a 21 = .int .i64 (k : Int) := hI.val 2 _ rfl (hal 2 (by decide))
    have k3 : gt a 22 = .slice (some ⟨xb, yb + k, none⟩) (n - k) (c - k) := hI.val 3 _ rfl (hal 3 (by decide))
    have k4 : gt a 23 = .agg #[.slice (some ⟨xb, yb + k, none⟩) (n - k) (c - k), .bool false] := hI.val 4 _ rfl (hal 4 (by decide))
    have k5 : gt a 24 = .pointer (some ⟨A, 0, none⟩) := hI.val 5 _ rfl (hal 5 (by decide))
    have k6 : gt a 25 = .slice (some ⟨xb, yb, none⟩) n c := hI.val 6 _ rfl (hal 6 (by decide))
    have k7 : gt a 26 = .int .i64 (k : Int) := hI.val 7 _ rfl (hal 7 (by decide))
    have k8 : gt a 27 = .slice (some ⟨xb, yb, none⟩) k c := hI.val 8 _ rfl (hal 8 (by decide))
    rw [hfr, ← HAX.out]
    have HWB := Go.Lib.hid (hI.wld.behind (hal 9 (by decide))); have HWC := Go.Lib.hid hI.wld.ch
    simp only [List.map_cons, List.map_nil, List.foldl_cons, List.foldl_nil, k0, k1, k2, k3, k4, k5, k6, k7, k8, List.setIfInBounds_toArray, List.set_cons_succ, List.set_cons_zero]
    clear hfr hI hal k0 k1 k2 k3 k4 k5 k6 k7 k8 HSZ HND HLS HAX F1 F2 F4
    simp only [List.drop_succ_cons, List.drop_zero]
    go_wp2_with fail
    exact bodyPost_ret (res81 w' C (some ⟨xb, yb + k, none⟩) (n - k) (c - k) false _ 0 HWB.out _ rfl rfl rfl) rfl ⟨rfl, HCF.out _ HWC.out⟩
set_option maxRecDepth 100000 in
set_option maxHeartbeats 1000000 in
theorem rTake_full (xb yb k : Nat) (w : World)  :
    Calls Try.prog 81 #[.agg #[.slice (some ⟨xb, yb, none⟩) k k, .bool false], .int .i64 (k : Int)] w fun e w' => e = .returned (.tuple #[.agg #[.slice (some ⟨xb, yb, none⟩) 0 0, .bool false], .slice (some ⟨xb, yb, none⟩) k k, .int .i64 0]) ∧ Ch (fun _ => False) w w' := by
  have hk1 : ¬ (k : Int) < (k : Int) := by omega
  have hkn : (k : Int) ≤ (k : Int) := by omega
  go_enter Try.func81, Try.ntmps81
  go_upto_region 3 with fail
  have HA0 := Go.Lib.hid (((Ch.refl (fun _ => False) (w.alloc (.cells #[.slice (some ⟨xb, yb, none⟩) k k, .bool false] 51))).alloc (.cells #[.slice none 0 0, .bool false] 51)).heap (World.alloc_heap_new w _) id)
  have HC00 := Go.Lib.hid (show ((w.alloc (.cells #[.slice (some ⟨xb, yb, none⟩) k k, .bool false] 51)).alloc (.cells #[.slice none 0 0, .bool false] 51)).heap[w.heap.size + 1]? = some (.cells #[.slice none 0 0, .bool false] 51) from by
    rw [← World.size_alloc w (.cells #[.slice (some ⟨xb, yb, none⟩) k k, .bool false] 51)]
    exact World.alloc_heap_new _ _)
  have HCC := Go.Lib.hid (((Ch.refl (fun _ => False) w).alloc (.cells #[.slice (some ⟨xb, yb, none⟩) k k, .bool false] 51)).alloc (.cells #[.slice none 0 0, .bool false] 51))
  have HCF := Go.Lib.hid (fun W (h : Ch (fun q => q = w.heap.size + 1) ((w.alloc (.cells #[.slice (some ⟨xb, yb, none⟩) k k, .bool false] 51)).alloc (.cells #[.slice none 0 0, .bool false] 51)) W) => (show Ch (fun _ => False) w W from HCC.out.then h (fun i hi e => by have e' : i = w.heap.size + 1 := e; omega)))
  have HAC := Go.Lib.hid (show ¬ w.heap.size = w.heap.size + 1 by omega)
  clear HCC
  generalize (w.alloc (.cells #[.slice (some ⟨xb, yb, none⟩) k k, .bool false] 51)).alloc (.cells #[.slice none 0 0, .bool false] 51) = w0 at *
  generalize w.heap.size + 1 = C at *
  generalize w.heap.size = A at *
  have HA := Go.Lib.hid HA0.out; have HC0 := Go.Lib.hid HC00.out
  clear HA0 HC00
  generalize hax : Act.mk _ _ = ax
  have HSZ := Go.Lib.hid (show ax.tmps.size = 28 by rw [← hax]; rfl)
  have F1 := Go.Lib.hid (show gt ax 1 = .int .i64 (k : Int) by rw [← hax]; rfl)
  have F2 := Go.Lib.hid (show gt ax 2 = .pointer (some ⟨A, 0, none⟩) by rw [← hax]; rfl)
  have F4 := Go.Lib.hid (show gt ax 4 = .pointer (some ⟨C, 0, none⟩) by rw [← hax]; rfl)
  have HAX := Go.Lib.hid hax
  clear hax
  have HND := Go.Lib.hid (show ([19, 20, 21, 22, 23, 24, 25, 26, 27] : List Nat).Nodup by decide)
  have HLS : Hid (Lasts [(19, fun x _ => x = .pointer (some ⟨A, 0, none⟩)), (20, fun x _ => x = .slice (some ⟨xb, yb, none⟩) k k), (21, fun x _ => x = .int .i64 (k : Int)), (22, fun x _ => x = .slice (some ⟨xb, yb, none⟩) 0 0), (23, fun x _ => x = .agg #[.slice (some ⟨xb, yb, none⟩) 0 0, .bool false]), (24, fun x _ => x = .pointer (some ⟨A, 0, none⟩)), (25, fun x _ => x = .slice (some ⟨xb, yb, none⟩) k k), (26, fun x _ => x = .int .i64 (k : Int)), (27, fun x _ => x = .slice (some ⟨xb, yb, none⟩) k k)]) := Go.Lib.hid (by
    intro p hp v w1 w2 hc h
    simp only [List.mem_cons, List.not_mem_nil, or_false] at hp
    rcases hp with rfl | rfl | rfl | rfl | rfl | rfl | rfl | rfl | rfl
    all_goals first | exact h | (obtain ⟨g, h1, h2⟩ := h; exact ⟨g, h1, hc.heap h2 id⟩) | (obtain ⟨g, c, h1, h2⟩ := h; exact ⟨g, c, h1, h2.ch hc (fun _ _ h => h)⟩))
  refine wp_region_open_tail 10 (InvQ 28 [(19, fun x _ => x = .pointer (some ⟨A, 0, none⟩)), (20, fun x _ => x = .slice (some ⟨xb, yb, none⟩) k k), (21, fun x _ => x = .int .i64 (k : Int)), (22, fun x _ => x = .slice (some ⟨xb, yb, none⟩) 0 0), (23, fun x _ => x = .agg #[.slice (some ⟨xb, yb, none⟩) 0 0, .bool false]), (24, fun x _ => x = .pointer (some ⟨A, 0, none⟩)), (25, fun x _ => x = .slice (some ⟨xb, yb, none⟩) k k), (26, fun x _ => x = .int .i64 (k : Int)), (27, fun x _ => x = .slice (some ⟨xb, yb, none⟩) k k)] (IAsk w0 C 9 12 (.slice (some ⟨xb, yb, none⟩) 0 0) false) ax) (by kernel_rfl) (by kernel_rfl) (InvQ.start (by simp) HSZ.out (IAsk.start HC0.out)) ?_ ?_
  · intro L a w' i hI hr hlt
    obtain ⟨h1, o, ho, hall⟩ := mem_ready.1 hr
    have hun : lg L i = false := by
      have h2 : i < L.size := Nat.lt_of_lt_of_le hlt (by rw [hI.wld.size]; decide)
      unfold lg; simp [h2] at h1 ⊢; exact h1
    have hsplit : i = 0 ∨ i = 1 ∨ i = 2 ∨ i = 3 ∨ i = 4 ∨ i = 5 ∨ i = 6 ∨ i = 7 ∨ i = 8 ∨ i = 9 := by omega
    clear hlt h1 hr
    rcases hsplit with rfl | rfl | rfl | rfl | rfl | rfl | rfl | rfl | rfl | rfl
    · have q2 := (hI.fixed 2 (by simp)).trans F2.out
      unfold gt at q2
      clear hall
      refine wpOp_step (o := _) rfl (fun K' hK' => ?_)
      go_simp
      exact hK' _ _ (hI.put 0 rfl (by decide) HND.out HLS.out (Ch.refl _ _) rfl (hI.wld.step 0 (by decide) (by decide) (Ch.refl _ _)))
    · simp at ho
      have e0 : lg L 0 = true := by unfold lg; simpa using hall ⟨0, .data⟩ (by rw [← ho]; simp) rfl
      have f0 : gt a 19 = .pointer (some ⟨A, 0, none⟩) := hI.val 0 _ rfl e0
      have hD := hI.wld.ch.heap HA.out HAC.out
      have hcl0 : w'.cell? ⟨A, 0, none⟩ = some (.slice (some ⟨xb, yb, none⟩) k k) := (cell_of_heap hD 0).trans rfl
      clear hD
      unfold gt at f0
      clear hall
      clear ho
      refine wpOp_step (o := _) rfl (fun K' hK' => ?_)
      go_simp
      exact hK' _ _ (hI.put 1 rfl (by decide) HND.out HLS.out (Ch.refl _ _) rfl (hI.wld.step 1 (by decide) (by decide) (Ch.refl _ _)))
    · have q1 := (hI.fixed 1 (by simp)).trans F1.out
      unfold gt at q1
      clear hall
      refine wpOp_step (o := _) rfl (fun K' hK' => ?_)
      go_simp
      exact hK' _ _ (hI.put 2 rfl (by decide) HND.out HLS.out (Ch.refl _ _) rfl (hI.wld.step 2 (by decide) (by decide) (Ch.refl _ _)))
    · simp at ho
      have e1 : lg L 1 = true := by unfold lg; simpa using hall ⟨1, .data⟩ (by rw [← ho]; simp) rfl
      have f1 : gt a 20 = .slice (some ⟨xb, yb, none⟩) k k := hI.val 1 _ rfl e1
      have e2 : lg L 2 = true := by unfold lg; simpa using hall ⟨2, .data⟩ (by rw [← ho]; simp) rfl
      have f2 : gt a 21 = .int .i64 (k : Int) := hI.val 2 _ rfl e2
      unfold gt at f1 f2
      clear hall
      clear ho
      refine wpOp_step (o := _) rfl (fun K' hK' => ?_)
      go_simp
      exact hK' _ _ (hI.put 3 rfl (by decide) HND.out HLS.out (Ch.refl _ _) rfl (hI.wld.step 3 (by decide) (by decide) (Ch.refl _ _)))
    · simp at ho
      have e3 : lg L 3 = true := by unfold lg; simpa using hall ⟨3, .data⟩ (by rw [← ho]; simp) rfl
      have f3 : gt a 22 = .slice (some ⟨xb, yb, none⟩) 0 0 := hI.val 3 _ rfl e3
      unfold gt at f3
      clear hall
      clear ho
      refine wpOp_step (o := _) rfl (fun K' hK' => ?_)
      go_simp
      exact hK' _ _ (hI.put 4 rfl (by decide) HND.out HLS.out (Ch.refl _ _) rfl (hI.wld.step 4 (by decide) (by decide) (Ch.refl _ _)))
    · have q2 := (hI.fixed 2 (by simp)).trans F2.out
      unfold gt at q2
      clear hall
      refine wpOp_step (o := _) rfl (fun K' hK' => ?_)
      go_simp
      exact hK' _ _ (hI.put 5 rfl (by decide) HND.out HLS.out (Ch.refl _ _) rfl (hI.wld.step 5 (by decide) (by decide) (Ch.refl _ _)))
    · simp at ho
      have e5 : lg L 5 = true := by unfold lg; simpa using hall ⟨5, .data⟩ (by rw [← ho]; simp) rfl
      have f5 : gt a 24 = .pointer (some ⟨A, 0, none⟩) := hI.val 5 _ rfl e5
      have hD := hI.wld.ch.heap HA.out HAC.out
      have hcl0 : w'.cell? ⟨A, 0, none⟩ = some (.slice (some ⟨xb, yb, none⟩) k k) := (cell_of_heap hD 0).trans rfl
      clear hD
      unfold gt at f5
      clear hall
      clear ho
      refine wpOp_step (o := _) rfl (fun K' hK' => ?_)
      go_simp
      exact hK' _ _ (hI.put 6 rfl (by decide) HND.out HLS.out (Ch.refl _ _) rfl (hI.wld.step 6 (by decide) (by decide) (Ch.refl _ _)))
    · have q1 := (hI.fixed 1 (by simp)).trans F1.out
      unfold gt at q1
      clear hall
      refine wpOp_step (o := _) rfl (fun K' hK' => ?_)
      go_simp
      exact hK' _ _ (hI.put 7 rfl (by decide) HND.out HLS.out (Ch.refl _ _) rfl (hI.wld.step 7 (by decide) (by decide) (Ch.refl _ _)))
    · simp at ho
      have e6 : lg L 6 = true := by unfold lg; simpa using hall ⟨6, .data⟩ (by rw [← ho]; simp) rfl
      have f6 : gt a 25 = .slice (some ⟨xb, yb, none⟩) k k := hI.val 6 _ rfl e6
      have e7 : lg L 7 = true := by unfold lg; simpa using hall ⟨7, .data⟩ (by rw [← ho]; simp) rfl
      have f7 : gt a 26 = .int .i64 (k : Int) := hI.val 7 _ rfl e7
      unfold gt at f6 f7
      clear hall
      clear ho
      refine wpOp_step (o := _) rfl (fun K' hK' => ?_)
      go_simp
      exact hK' _ _ (hI.put 8 rfl (by decide) HND.out HLS.out (Ch.refl _ _) rfl (hI.wld.step 8 (by decide) (by decide) (Ch.refl _ _)))
    · simp at ho
      have e4 : lg L 4 = true := by unfold lg; simpa using hall ⟨4, .data⟩ (by rw [← ho]; simp) rfl
      have f4 : gt a 23 = .agg #[.slice (some ⟨xb, yb, none⟩) 0 0, .bool false] := hI.val 4 _ rfl e4
      have q4 := (hI.fixed 4 (by simp)).trans F4.out
      have hrow := hI.wld.before hun
      have hcl0 := (cell_of_heap hrow 0).trans rfl
      have hcl1 := (cell_of_heap hrow 1).trans rfl
      have hfz0 := frozen_of_heap hrow 0
      have hfz1 := frozen_of_heap hrow 1
      unfold gt at f4 q4
      clear hall
      clear ho
      refine wpOp_step (o := _) rfl (fun K' hK' => ?_)
      clear hrow
      go_simp
      exact hK' _ _ (hI.skipX 9 (Nat.le_refl 9) (by rw [hI.wld.size]; decide) (fun k p hp hl h => by
        have hk9 : k < 9 := (List.getElem?_eq_some_iff.1 hp).1
        obtain rfl | rfl | rfl | rfl | rfl | rfl | rfl | rfl | rfl : k = 0 ∨ k = 1 ∨ k = 2 ∨ k = 3 ∨ k = 4 ∨ k = 5 ∨ k = 6 ∨ k = 7 ∨ k = 8 := by omega
        all_goals (cases hp; exact h)) (hI.wld.store (by decide) hun))
  · intro L a w' hI hal
    have hfr := hI.frame HSZ.out (by simp) (fun i hi => hal i (by have h10 : i < 9 := hi; omega))
    have k0 : gt a 19 = .pointer (some ⟨A, 0, none⟩) := hI.val 0 _ rfl (hal 0 (by decide))
    have k1 : gt a 20 = .slice (some ⟨xb, yb, none⟩) k k := hI.val 1 _ rfl (hal 1 (by decide))
    have k2 : gt a 21 = .int .i64 (k : Int) := hI.val 2 _ rfl (hal 2 (by decide))
    have k3 : gt a 22 = .slice (some ⟨xb, yb, none⟩) 0 0 := hI.val 3 _ rfl (hal 3 (by decide))
    have k4 : gt a 23 = .agg #[.slice (some ⟨xb, yb, none⟩) 0 0, .bool false] := hI.val 4 _ rfl (hal 4 (by decide))
    have k5 : gt a 24 = .pointer (some ⟨A, 0, none⟩) := hI.val 5 _ rfl (hal 5 (by decide))
    have k6 : gt a 25 = .slice (some ⟨xb, yb, none⟩) k k := hI.val 6 _ rfl (hal 6 (by decide))
    have k7 : gt a 26 = .int .i64 (k : Int) := hI.val 7 _ rfl (hal 7 (by decide))
    have k8 : gt a 27 = .slice (some ⟨xb, yb, none⟩) k k := hI.val 8 _ rfl (hal 8 (by decide))
    rw [hfr, ← HAX.out]
    have HWB := Go.Lib.hid (hI.wld.behind (hal 9 (by decide))); have HWC := Go.Lib.hid hI.wld.ch
    simp only [List.map_cons, List.map_nil, List.foldl_cons, List.foldl_nil, k0, k1, k2, k3, k4, k5, k6, k7, k8, List.setIfInBounds_toArray, List.set_cons_succ, List.set_cons_zero]
    clear hfr hI hal k0 k1 k2 k3 k4 k5 k6 k7 k8 HSZ HND HLS HAX F1 F2 F4
    simp only [List.drop_succ_cons, List.drop_zero]
    go_wp2_with fail
    exact bodyPost_ret (res81 w' C (some ⟨xb, yb, none⟩) 0 0 false _ 0 HWB.out _ rfl rfl rfl) rfl ⟨rfl, HCF.out _ HWC.out⟩
set_option maxRecDepth 100000 in
set_option maxHeartbeats 1000000 in
theorem rTake_none  (w : World)  :
    Calls Try.prog 81 #[.agg #[.slice none 0 0, .bool false], .int .i64 (0 : Int)] w fun e w' => e = .returned (.tuple #[.agg #[.slice none 0 0, .bool false], .slice none 0 0, .int .i64 0]) ∧ Ch (fun _ => False) w w' := by
  go_enter Try.func81, Try.ntmps81
  go_upto_region 3 with fail
  have HA0 := Go.Lib.hid (((Ch.refl (fun _ => False) (w.alloc (.cells #[.slice none 0 0, .bool false] 51))).alloc (.cells #[.slice none 0 0, .bool false] 51)).heap (World.alloc_heap_new w _) id)
  have HC00 := Go.Lib.hid (show ((w.alloc (.cells #[.slice none 0 0, .bool false] 51)).alloc (.cells #[.slice none 0 0, .bool false] 51)).heap[w.heap.size + 1]? = some (.cells #[.slice none 0 0, .bool false] 51) from by
    rw [← World.size_alloc w (.cells #[.slice none 0 0, .bool false] 51)]
    exact World.alloc_heap_new _ _)
  have HCC := Go.Lib.hid (((Ch.refl (fun _ => False) w).alloc (.cells #[.slice none 0 0, .bool false] 51)).alloc (.cells #[.slice none 0 0, .bool false] 51))
  have HCF := Go.Lib.hid (fun W (h : Ch (fun q => q = w.heap.size + 1) ((w.alloc (.cells #[.slice none 0 0, .bool false] 51)).alloc (.cells #[.slice none 0 0, .bool false] 51)) W) => (show Ch (fun _ => False) w W from HCC.out.then h (fun i hi e => by have e' : i = w.heap.size + 1 := e; omega)))
  have HAC := Go.Lib.hid (show ¬ w.heap.size = w.heap.size + 1 by omega)
  clear HCC
  generalize (w.alloc (.cells #[.slice none 0 0, .bool false] 51)).alloc (.cells #[.slice none 0 0, .bool false] 51) = w0 at *
  generalize w.heap.size + 1 = C at *
  generalize w.heap.size = A at *
  have HA := Go.Lib.hid HA0.out; have HC0 := Go.Lib.hid HC00.out
  clear HA0 HC00
  generalize hax : Act.mk _ _ = ax
  have HSZ := Go.Lib.hid (show ax.tmps.size = 28 by rw [← hax]; rfl)
  have F1 := Go.Lib.hid (show gt ax 1 = .int .i64 (0 : Int) by rw [← hax]; rfl)
  have F2 := Go.Lib.hid (show gt ax 2 = .pointer (some ⟨A, 0, none⟩) by rw [← hax]; rfl)
  have F4 := Go.Lib.hid (show gt ax 4 = .pointer (some ⟨C, 0, none⟩) by rw [← hax]; rfl)
  have HAX := Go.Lib.hid hax
  clear hax
  have HND := Go.Lib.hid (show ([19, 20, 21, 22, 23, 24, 25, 26, 27] : List Nat).Nodup by decide)
  have HLS : Hid (Lasts [(19, fun x _ => x = .pointer (some ⟨A, 0, none⟩)), (20, fun x _ => x = .slice none 0 0), (21, fun x _ => x = .int .i64 (0 : Int)), (22, fun x _ => x = .slice none 0 0), (23, fun x _ => x = .agg #[.slice none 0 0, .bool false]), (24, fun x _ => x = .pointer (some ⟨A, 0, none⟩)), (25, fun x _ => x = .slice none 0 0), (26, fun x _ => x = .int .i64 (0 : Int)), (27, fun x _ => x = .slice none 0 0)]) := Go.Lib.hid (by
    intro p hp v w1 w2 hc h
    simp only [List.mem_cons, List.not_mem_nil, or_false] at hp
    rcases hp with rfl | rfl | rfl | rfl | rfl | rfl | rfl | rfl | rfl
    all_goals first | exact h | (obtain ⟨g, h1, h2⟩ := h; exact ⟨g, h1, hc.heap h2 id⟩) | (obtain ⟨g, c, h1, h2⟩ := h; exact ⟨g, c, h1, h2.ch hc (fun _ _ h => h)⟩))
  refine wp_region_open_tail 10 (InvQ 28 [(19, fun x _ => x = .pointer (some ⟨A, 0, none⟩)), (20, fun x _ => x = .slice none 0 0), (21, fun x _ => x = .int .i64 (0 : Int)), (22, fun x _ => x = .slice none 0 0), (23, fun x _ => x = .agg #[.slice none 0 0, .bool false]), (24, fun x _ => x = .pointer (some ⟨A, 0, none⟩)), (25, fun x _ => x = .slice none 0 0), (26, fun x _ => x = .int .i64 (0 : Int)), (27, fun x _ => x = .slice none 0 0)] (IAsk w0 C 9 12 (.slice none 0 0) false) ax) (by kernel_rfl) (by kernel_rfl) (InvQ.start (by simp) HSZ.out (IAsk.start HC0.out)) ?_ ?_
  · intro L a w' i hI hr hlt
    obtain ⟨h1, o, ho, hall⟩ := mem_ready.1 hr
    have hun : lg L i = false := by
      have h2 : i < L.size := Nat.lt_of_lt_of_le hlt (by rw [hI.wld.size]; decide)
      unfold lg; simp [h2] at h1 ⊢; exact h1
    have hsplit : i = 0 ∨ i = 1 ∨ i = 2 ∨ i = 3 ∨ i = 4 ∨ i = 5 ∨ i = 6 ∨ i = 7 ∨ i = 8 ∨ i = 9 := by omega
    clear hlt h1 hr
    rcases hsplit with rfl | rfl | rfl | rfl | rfl | rfl | rfl | rfl | rfl | rfl
    · have q2 := (hI.fixed 2 (by simp)).trans F2.out
      unfold gt at q2
      clear hall
      refine wpOp_step (o := _) rfl (fun K' hK' => ?_)
      go_simp
      exact hK' _ _ (hI.put 0 rfl (by decide) HND.out HLS.out (Ch.refl _ _) rfl (hI.wld.step 0 (by decide) (by decide) (Ch.refl _ _)))
    · simp at ho
      have e0 : lg L 0 = true := by unfold lg; simpa using hall ⟨0, .data⟩ (by rw [← ho]; simp) rfl
      have f0 : gt a 19 = .pointer (some ⟨A, 0, none⟩) := hI.val 0 _ rfl e0
      have hD := hI.wld.ch.heap HA.out HAC.out
      have hcl0 : w'.cell? ⟨A, 0, none⟩ = some (.slice none 0 0) := (cell_of_heap hD 0).trans rfl
      clear hD
      unfold gt at f0
      clear hall
      clear ho
      refine wpOp_step (o := _) rfl (fun K' hK' => ?_)
      go_simp
      exact hK' _ _ (hI.put 1 rfl (by decide) HND.out HLS.out (Ch.refl _ _) rfl (hI.wld.step 1 (by decide) (by decide) (Ch.refl _ _)))
    · have q1 := (hI.fixed 1 (by simp)).trans F1.out
      unfold gt at q1
      clear hall
      refine wpOp_step (o := _) rfl (fun K' hK' => ?_)
      go_simp
      exact hK' _ _ (hI.put 2 rfl (by decide) HND.out HLS.out (Ch.refl _ _) rfl (hI.wld.step 2 (by decide) (by decide) (Ch.refl _ _)))
    · simp at ho
      have e1 : lg L 1 = true := by unfold lg; simpa using hall ⟨1, .data⟩ (by rw [← ho]; simp) rfl
      have f1 : gt a 20 = .slice none 0 0 := hI.val 1 _ rfl e1
      have e2 : lg L 2 = true := by unfold lg; simpa using hall ⟨2, .data⟩ (by rw [← ho]; simp) rfl
      have f2 : gt a 21 = .int .i64 (0 : Int) := hI.val 2 _ rfl e2
      unfold gt at f1 f2
      clear hall
      clear ho
      refine wpOp_step (o := _) rfl (fun K' hK' => ?_)
      go_simp
      exact hK' _ _ (hI.put 3 rfl (by decide) HND.out HLS.out (Ch.refl _ _) rfl (hI.wld.step 3 (by decide) (by decide) (Ch.refl _ _)))
    · simp at ho
      have e3 : lg L 3 = true := by unfold lg; simpa using hall ⟨3, .data⟩ (by rw [← ho]; simp) rfl
      have f3 : gt a 22 = .slice none 0 0 := hI.val 3 _ rfl e3
      unfold gt at f3
      clear hall
      clear ho
      refine wpOp_step (o := _) rfl (fun K' hK' => ?_)
      go_simp
      exact hK' _ _ (hI.put 4 rfl (by decide) HND.out HLS.out (Ch.refl _ _) rfl (hI.wld.step 4 (by decide) (by decide) (Ch.refl _ _)))
    · have q2 := (hI.fixed 2 (by simp)).trans F2.out
      unfold gt at q2
      clear hall
      refine wpOp_step (o := _) rfl (fun K' hK' => ?_)
      go_simp
      exact hK' _ _ (hI.put 5 rfl (by decide) HND.out HLS.out (Ch.refl _ _) rfl (hI.wld.step 5 (by decide) (by decide) (Ch.refl _ _)))
    · simp at ho
      have e5 : lg L 5 = true := by unfold lg; simpa using hall ⟨5, .data⟩ (by rw [← ho]; simp) rfl
      have f5 : gt a 24 = .pointer (some ⟨A, 0, none⟩) := hI.val 5 _ rfl e5
      have hD := hI.wld.ch.heap HA.out HAC.out
      have hcl0 : w'.cell? ⟨A, 0, none⟩ = some (.slice none 0 0) := (cell_of_heap hD 0).trans rfl
      clear hD
      unfold gt at f5
      clear hall
      clear ho
      refine wpOp_step (o := _) rfl (fun K' hK' => ?_)
      go_simp
      exact hK' _ _ (hI.put 6 rfl (by decide) HND.out HLS.out (Ch.refl _ _) rfl (hI.wld.step 6 (by decide) (by decide) (Ch.refl _ _)))
    · have q1 := (hI.fixed 1 (by simp)).trans F1.out
      unfold gt at q1
      clear hall
      refine wpOp_step (o := _) rfl (fun K' hK' => ?_)
      go_simp
      exact hK' _ _ (hI.put 7 rfl (by decide) HND.out HLS.out (Ch.refl _ _) rfl (hI.wld.step 7 (by decide) (by decide) (Ch.refl _ _)))
    · simp at ho
      have e6 : lg L 6 = true := by unfold lg; simpa using hall ⟨6, .data⟩ (by rw [← ho]; simp) rfl
      have f6 : gt a 25 = .slice none 0 0 := hI.val 6 _ rfl e6
      have e7 : lg L 7 = true := by unfold lg; simpa using hall ⟨7, .data⟩ (by rw [← ho]; simp) rfl
      have f7 : gt a 26 = .int .i64 (0 : Int) := hI.val 7 _ rfl e7
      unfold gt at f6 f7
      clear hall
      clear ho
      refine wpOp_step (o := _) rfl (fun K' hK' => ?_)
      go_simp
      exact hK' _ _ (hI.put 8 rfl (by decide) HND.out HLS.out (Ch.refl _ _) rfl (hI.wld.step 8 (by decide) (by decide) (Ch.refl _ _)))
    · simp at ho
      have e4 : lg L 4 = true := by unfold lg; simpa using hall ⟨4, .data⟩ (by rw [← ho]; simp) rfl
      have f4 : gt a 23 = .agg #[.slice none 0 0, .bool false] := hI.val 4 _ rfl e4
      have q4 := (hI.fixed 4 (by simp)).trans F4.out
      have hrow := hI.wld.before hun
      have hcl0 := (cell_of_heap hrow 0).trans rfl
      have hcl1 := (cell_of_heap hrow 1).trans rfl
      have hfz0 := frozen_of_heap hrow 0
      have hfz1 := frozen_of_heap hrow 1
      unfold gt at f4 q4
      clear hall
      clear ho
      refine wpOp_step (o := _) rfl (fun K' hK' => ?_)
      clear hrow
      go_simp
      exact hK' _ _ (hI.skipX 9 (Nat.le_refl 9) (by rw [hI.wld.size]; decide) (fun k p hp hl h => by
        have hk9 : k < 9 := (List.getElem?_eq_some_iff.1 hp).1
        obtain rfl | rfl | rfl | rfl | rfl | rfl | rfl | rfl | rfl : k = 0 ∨ k = 1 ∨ k = 2 ∨ k = 3 ∨ k = 4 ∨ k = 5 ∨ k = 6 ∨ k = 7 ∨ k = 8 := by omega
        all_goals (cases hp; exact h)) (hI.wld.store (by decide) hun))
  · intro L a w' hI hal
    have hfr := hI.frame HSZ.out (by simp) (fun i hi => hal i (by have h10 : i < 9 := hi; omega))
    have k0 : gt a 19 = .pointer (some ⟨A, 0, none⟩) := hI.val 0 _ rfl (hal 0 (by decide))
    have k1 : gt a 20 = .slice none 0 0 := hI.val 1 _ rfl (hal 1 (by decide))
    have k2 : gt a 21 = .int .i64 (0 : Int) := hI.val 2 _ rfl (hal 2 (by decide))
    have k3 : gt a 22 = .slice none 0 0 := hI.val 3 _ rfl (hal 3 (by decide))
    have k4 : gt a 23 = .agg #[.slice none 0 0, .bool false] := hI.val 4 _ rfl (hal 4 (by decide))
    have k5 : gt a 24 = .pointer (some ⟨A, 0, none⟩) := hI.val 5 _ rfl (hal 5 (by decide))
    have k6 : gt a 25 = .slice none 0 0 := hI.val 6 _ rfl (hal 6 (by decide))
    have k7 : gt a 26 = .int .i64 (0 : Int) := hI.val 7 _ rfl (hal 7 (by decide))
    have k8 : gt a 27 = .slice none 0 0 := hI.val 8 _ rfl (hal 8 (by decide))
    rw [hfr, ← HAX.out]
    have HWB := Go.Lib.hid (hI.wld.behind (hal 9 (by decide))); have HWC := Go.Lib.hid hI.wld.ch
    simp only [List.map_cons, List.map_nil, List.foldl_cons, List.foldl_nil, k0, k1, k2, k3, k4, k5, k6, k7, k8, List.setIfInBounds_toArray, List.set_cons_succ, List.set_cons_zero]
    clear hfr hI hal k0 k1 k2 k3 k4 k5 k6 k7 k8 HSZ HND HLS HAX F1 F2 F4
    simp only [List.drop_succ_cons, List.drop_zero]
    go_wp2_with fail
    exact bodyPost_ret (res81 w' C none 0 0 false _ 0 HWB.out _ rfl rfl rfl) rfl ⟨rfl, HCF.out _ HWC.out⟩
set_option maxRecDepth 100000 in
set_option maxHeartbeats 1000000 in
theorem rTake_zero (ad : Addr) (c : Nat) (w : World)  :
    Calls Try.prog 81 #[.agg #[.slice (some ad) 0 c, .bool false], .int .i64 (0 : Int)] w fun e w' => e = .returned (.tuple #[.agg #[.slice (some ad) 0 c, .bool false], .slice (some ad) 0 c, .int .i64 0]) ∧ Ch (fun _ => False) w w' := by
  have hc0 : (0 : Int) ≤ (c : Int) := by omega
  go_enter Try.func81, Try.ntmps81
  go_upto_region 3 with fail
  have HA0 := Go.Lib.hid (((Ch.refl (fun _ => False) (w.alloc (.cells #[.slice (some ad) 0 c, .bool false] 51))).alloc (.cells #[.slice none 0 0, .bool false] 51)).heap (World.alloc_heap_new w _) id)
  have HC00 := Go.Lib.hid (show ((w.alloc (.cells #[.slice (some ad) 0 c, .bool false] 51)).alloc (.cells #[.slice none 0 0, .bool false] 51)).heap[w.heap.size + 1]? = some (.cells #[.slice none 0 0, .bool false] 51) from by
    rw [← World.size_alloc w (.cells #[.slice (some ad) 0 c, .bool false] 51)]
    exact World.alloc_heap_new _ _)
  have HCC := Go.Lib.hid (((Ch.refl (fun _ => False) w).alloc (.cells #[.slice (some ad) 0 c, .bool false] 51)).alloc (.cells #[.slice none 0 0, .bool false] 51))
  have HCF := Go.Lib.hid (fun W (h : Ch (fun q => q = w.heap.size + 1) ((w.alloc (.cells #[.slice (some ad) 0 c, .bool false] 51)).alloc (.cells #[.slice none 0 0, .bool false] 51)) W) => (show Ch (fun _ => False) w W from HCC.out.then h (fun i hi e => by have e' : i = w.heap.size + 1 := e; omega)))
  have HAC := Go.Lib.hid (show ¬ w.heap.size = w.heap.size + 1 by omega)
  clear HCC
  generalize (w.alloc (.cells #[.slice (some ad) 0 c, .bool false] 51)).alloc (.cells #[.slice none 0 0, .bool false] 51) = w0 at *
  generalize w.heap.size + 1 = C at *
  generalize w.heap.size = A at *
  have HA := Go.Lib.hid HA0.out; have HC0 := Go.Lib.hid HC00.out
  clear HA0 HC00
  generalize hax : Act.mk _ _ = ax
  have HSZ := Go.Lib.hid (show ax.tmps.size = 28 by rw [← hax]; rfl)
  have F1 := Go.Lib.hid (show gt ax 1 = .int .i64 (0 : Int) by rw [← hax]; rfl)
  have F2 := Go.Lib.hid (show gt ax 2 = .pointer (some ⟨A, 0, none⟩) by rw [← hax]; rfl)
  have F4 := Go.Lib.hid (show gt ax 4 = .pointer (some ⟨C, 0, none⟩) by rw [← hax]; rfl)
  have HAX := Go.Lib.hid hax
  clear hax
  have HND := Go.Lib.hid (show ([19, 20, 21, 22, 23, 24, 25, 26, 27] : List Nat).Nodup by decide)
  have HLS : Hid (Lasts [(19, fun x _ => x = .pointer (some ⟨A, 0, none⟩)), (20, fun x _ => x = .slice (some ad) 0 c), (21, fun x _ => x = .int .i64 (0 : Int)), (22, fun x _ => x = .slice (some ad) 0 c), (23, fun x _ => x = .agg #[.slice (some ad) 0 c, .bool false]), (24, fun x _ => x = .pointer (some ⟨A, 0, none⟩)), (25, fun x _ => x = .slice (some ad) 0 c), (26, fun x _ => x = .int .i64 (0 : Int)), (27, fun x _ => x = .slice (some ad) 0 c)]) := Go.Lib.hid (by
    intro p hp v w1 w2 hc h
    simp only [List.mem_cons, List.not_mem_nil, or_false] at hp
    rcases hp with rfl | rfl | rfl | rfl | rfl | rfl | rfl | rfl | rfl
    all_goals first | exact h | (obtain ⟨g, h1, h2⟩ := h; exact ⟨g, h1, hc.heap h2 id⟩) | (obtain ⟨g, c, h1, h2⟩ := h; exact ⟨g, c, h1, h2.ch hc (fun _ _ h => h)⟩))
  refine wp_region_open_tail 10 (InvQ 28 [(19, fun x _ => x = .pointer (some ⟨A, 0, none⟩)), (20, fun x _ => x = .slice (some ad) 0 c), (21, fun x _ => x = .int .i64 (0 : Int)), (22, fun x _ => x = .slice (some ad) 0 c), (23, fun x _ => x = .agg #[.slice (some ad) 0 c, .bool false]), (24, fun x _ => x = .pointer (some ⟨A, 0, none⟩)), (25, fun x _ => x = .slice (some ad) 0 c), (26, fun x _ => x = .int .i64 (0 : Int)), (27, fun x _ => x = .slice (some ad) 0 c)] (IAsk w0 C 9 12 (.slice (some ad) 0 c) false) ax) (by kernel_rfl) (by kernel_rfl) (InvQ.start (by simp) HSZ.out (IAsk.start HC0.out)) ?_ ?_
  · intro L a w' i hI hr hlt
    obtain ⟨h1, o, ho, hall⟩ := mem_ready.1 hr
    have hun : lg L i = false := by
      have h2 : i < L.size := Nat.lt_of_lt_of_le hlt (by rw [hI.wld.size]; decide)
      unfold lg; simp [h2] at h1 ⊢; exact h1
    have hsplit : i = 0 ∨ i = 1 ∨ i = 2 ∨ i = 3 ∨ i = 4 ∨ i = 5 ∨ i = 6 ∨ i = 7 ∨ i = 8 ∨ i = 9 := by omega
    clear hlt h1 hr
    rcases hsplit with rfl | rfl | rfl | rfl | rfl | rfl | rfl | rfl | rfl | rfl
    · have q2 := (hI.fixed 2 (by simp)).trans F2.out
      unfold gt at q2
      clear hall
      refine wpOp_step (o := _) rfl (fun K' hK' => ?_)
      go_simp
      exact hK' _ _ (hI.put 0 rfl (by decide) HND.out HLS.out (Ch.refl _ _) rfl (hI.wld.step 0 (by decide) (by decide) (Ch.refl _ _)))
    · simp at ho
      have e0 : lg L 0 = true := by unfold lg; simpa using hall ⟨0, .data⟩ (by rw [← ho]; simp) rfl
      have f0 : gt a 19 = .pointer (some ⟨A, 0, none⟩) := hI.val 0 _ rfl e0
      have hD := hI.wld.ch.heap HA.out HAC.out
      have hcl0 : w'.cell? ⟨A, 0, none⟩ = some (.slice (some ad) 0 c) := (cell_of_heap hD 0).trans rfl
      clear hD
      unfold gt at f0
      clear hall
      clear ho
      refine wpOp_step (o := _) rfl (fun K' hK' => ?_)
      go_simp
      exact hK' _ _ (hI.put 1 rfl (by decide) HND.out HLS.out (Ch.refl _ _) rfl (hI.wld.step 1 (by decide) (by decide) (Ch.refl _ _)))
    · have q1 := (hI.fixed 1 (by simp)).trans F1.out
      unfold gt at q1
      clear hall
      refine wpOp_step (o := _) rfl (fun K' hK' => ?_)
      go_simp
      exact hK' _ _ (hI.put 2 rfl (by decide) HND.out HLS.out (Ch.refl _ _) rfl (hI.wld.step 2 (by decide) (by decide) (Ch.refl _ _)))
    · simp at ho
      have e1 : lg L 1 = true := by unfold lg; simpa using hall ⟨1, .data⟩ (by rw [← ho]; simp) rfl
      have f1 : gt a 20 = .slice (some ad) 0 c := hI.val 1 _ rfl e1
      have e2 : lg L 2 = true := by unfold lg; simpa using hall ⟨2, .data⟩ (by rw [← ho]; simp) rfl
      have f2 : gt a 21 = .int .i64 (0 : Int) := hI.val 2 _ rfl e2
      unfold gt at f1 f2
      clear hall
      clear ho
      refine wpOp_step (o := _) rfl (fun K' hK' => ?_)
      go_simp
      exact hK' _ _ (hI.put 3 rfl (by decide) HND.out HLS.out (Ch.refl _ _) rfl (hI.wld.step 3 (by decide) (by decide) (Ch.refl _ _)))
    · simp at ho
      have e3 : lg L 3 = true := by unfold lg; simpa using hall ⟨3, .data⟩ (by rw [← ho]; simp) rfl
      have f3 : gt a 22 = .slice (some ad) 0 c := hI.val 3 _ rfl e3
      unfold gt at f3
      clear hall
      clear ho
      refine wpOp_step (o := _) rfl (fun K' hK' => ?_)
      go_simp
      exact hK' _ _ (hI.put 4 rfl (by decide) HND.out HLS.out (Ch.refl _ _) rfl (hI.wld.step 4 (by decide) (by decide) (Ch.refl _ _)))
    · have q2 := (hI.fixed 2 (by simp)).trans F2.out
      unfold gt at q2
      clear hall
      refine wpOp_step (o := _) rfl (fun K' hK' => ?_)
      go_simp
      exact hK' _ _ (hI.put 5 rfl (by decide) HND.out HLS.out (Ch.refl _ _) rfl (hI.wld.step 5 (by decide) (by decide) (Ch.refl _ _)))
    · simp at ho
      have e5 : lg L 5 = true := by unfold lg; simpa using hall ⟨5, .data⟩ (by rw [← ho]; simp) rfl
      have f5 : gt a 24 = .pointer (some ⟨A, 0, none⟩) := hI.val 5 _ rfl e5
      have hD := hI.wld.ch.heap HA.out HAC.out
      have hcl0 : w'.cell? ⟨A, 0, none⟩ = some (.slice (some ad) 0 c) := (cell_of_heap hD 0).trans rfl
      clear hD
      unfold gt at f5
      clear hall
      clear ho
      refine wpOp_step (o := _) rfl (fun K' hK' => ?_)
      go_simp
      exact hK' _ _ (hI.put 6 rfl (by decide) HND.out HLS.out (Ch.refl _ _) rfl (hI.wld.step 6 (by decide) (by decide) (Ch.refl _ _)))
    · have q1 := (hI.fixed 1 (by simp)).trans F1.out
      unfold gt at q1
      clear hall
      refine wpOp_step (o := _) rfl (fun K' hK' => ?_)
      go_simp
      exact hK' _ _ (hI.put 7 rfl (by decide) HND.out HLS.out (Ch.refl _ _) rfl (hI.wld.step 7 (by decide) (by decide) (Ch.refl _ _)))
    · simp at ho
      have e6 : lg L 6 = true := by unfold lg; simpa using hall ⟨6, .data⟩ (by rw [← ho]; simp) rfl
      have f6 : gt a 25 = .slice (some ad) 0 c := hI.val 6 _ rfl e6
      have e7 : lg L 7 = true := by unfold lg; simpa using hall ⟨7, .data⟩ (by rw [← ho]; simp) rfl
      have f7 : gt a 26 = .int .i64 (0 : Int) := hI.val 7 _ rfl e7
      unfold gt at f6 f7
      clear hall
      clear ho
      refine wpOp_step (o := _) rfl (fun K' hK' => ?_)
      go_simp
      exact hK' _ _ (hI.put 8 rfl (by decide) HND.out HLS.out (Ch.refl _ _) rfl (hI.wld.step 8 (by decide) (by decide) (Ch.refl _ _)))
    · simp at ho
      have e4 : lg L 4 = true := by unfold lg; simpa using hall ⟨4, .data⟩ (by rw [← ho]; simp) rfl
      have f4 : gt a 23 = .agg #[.slice (some ad) 0 c, .bool false] := hI.val 4 _ rfl e4
      have q4 := (hI.fixed 4 (by simp)).trans F4.out
      have hrow := hI.wld.before hun
      have hcl0 := (cell_of_heap hrow 0).trans rfl
      have hcl1 := (cell_of_heap hrow 1).trans rfl
      have hfz0 := frozen_of_heap hrow 0
      have hfz1 := frozen_of_heap hrow 1
      unfold gt at f4 q4
      clear hall
      clear ho
      refine wpOp_step (o := _) rfl (fun K' hK' => ?_)
      clear hrow
      go_simp
      exact hK' _ _ (hI.skipX 9 (Nat.le_refl 9) (by rw [hI.wld.size]; decide) (fun k p hp hl h => by
        have hk9 : k < 9 := (List.getElem?_eq_some_iff.1 hp).1
        obtain rfl | rfl | rfl | rfl | rfl | rfl | rfl | rfl | rfl : k = 0 ∨ k = 1 ∨ k = 2 ∨ k = 3 ∨ k = 4 ∨ k = 5 ∨ k = 6 ∨ k = 7 ∨ k = 8 := by omega
        all_goals (cases hp; exact h)) (hI.wld.store (by decide) hun))
  · intro L a w' hI hal
    have hfr := hI.frame HSZ.out (by simp) (fun i hi => hal i (by have h10 : i < 9 := hi; omega))
    have k0 : gt a 19 = .pointer (some ⟨A, 0, none⟩) := hI.val 0 _ rfl (hal 0 (by decide))
    have k1 : gt a 20 = .slice (some ad) 0 c := hI.val 1 _ rfl (hal 1 (by decide))
    have k2 : gt a 21 = .int .i64 (0 : Int) := hI.val 2 _ rfl (hal 2 (by decide))
    have k3 : gt a 22 = .slice (some ad) 0 c := hI.val 3 _ rfl (hal 3 (by decide))
    have k4 : gt a 23 = .agg #[.slice (some ad) 0 c, .bool false] := hI.val 4 _ rfl (hal 4 (by decide))
    have k5 : gt a 24 = .pointer (some ⟨A, 0, none⟩) := hI.val 5 _ rfl (hal 5 (by decide))
    have k6 : gt a 25 = .slice (some ad) 0 c := hI.val 6 _ rfl (hal 6 (by decide))
    have k7 : gt a 26 = .int .i64 (0 : Int) := hI.val 7 _ rfl (hal 7 (by decide))
    have k8 : gt a 27 = .slice (some ad) 0 c := hI.val 8 _ rfl (hal 8 (by decide))
    rw [hfr, ← HAX.out]
    have HWB := Go.Lib.hid (hI.wld.behind (hal 9 (by decide))); have HWC := Go.Lib.hid hI.wld.ch
    simp only [List.map_cons, List.map_nil, List.foldl_cons, List.foldl_nil, k0, k1, k2, k3, k4, k5, k6, k7, k8, List.setIfInBounds_toArray, List.set_cons_succ, List.set_cons_zero]
    clear hfr hI hal k0 k1 k2 k3 k4 k5 k6 k7 k8 HSZ HND HLS HAX F1 F2 F4
    simp only [List.drop_succ_cons, List.drop_zero]
    go_wp2_with fail
    exact bodyPost_ret (res81 w' C (some ad) 0 c false _ 0 HWB.out _ rfl rfl rfl) rfl ⟨rfl, HCF.out _ HWC.out⟩
end Go.Proofs.Ytljllfdigfojdaa
