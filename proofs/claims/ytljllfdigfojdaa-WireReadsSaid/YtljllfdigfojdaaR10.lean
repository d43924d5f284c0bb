/- The reference's Truth. -/
import Derived.Test.YtljllfdigfojdaaR6
import Derived.Test.YtljllfdigfojdaaV19
namespace Go.Proofs.Ytljllfdigfojdaa
open Go Go.RowKit

theorem rTake_ok (p : Option Addr) (n c k x0 : Nat) (f : Nat → UInt8) (w : World) (hb : BytesAt w p n c f) (hblk : ∀ ad, p = some ad → ad.block = x0) (hk : k ≤ n) :
    Calls Try.prog 81 #[.agg #[.slice p n c, .bool false], .int .i64 (k : Int)] w fun e w' => Ch (fun _ => False) w w' ∧ ∃ p' c', e = .returned (.tuple #[.agg #[.slice p' (n - k) c', .bool false], .slice p k c, .int .i64 0]) ∧
      BytesAt w' p' (n - k) c' (fun j => f (k + j)) ∧ BytesAt w' p k c f ∧ ∀ ad, p' = some ad → ad.block = x0 := by
  have HC := Go.Lib.hid (fun w' (hc : Ch (fun _ => False) w w') => hb.ch hc (fun _ _ => id))
  rcases hb with ⟨x, y, rfl, hnc, hx, hcell⟩ | ⟨rfl, hp⟩
  · have hx0 : x = x0 := hblk _ rfl
    by_cases hkc : k < c
    · refine (rTake_some x y n c k w hk hkc hnc).mono ?_
      rintro e w' ⟨rfl, hc⟩
      refine ⟨hc, some ⟨x, y + k, none⟩, c - k, rfl, ?_, .inl ⟨x, y, rfl, by omega, Nat.lt_of_lt_of_le hx hc.size, fun j hj => hc.get (hcell j (by omega)) id⟩, fun ad e => by cases e; exact hx0⟩
      exact .inl ⟨x, y + k, rfl, by omega, Nat.lt_of_lt_of_le hx hc.size, fun j hj => by rw [Nat.add_assoc]; exact hc.get (hcell (k + j) (by omega)) id⟩
    · obtain rfl : c = k := by omega
      obtain rfl : n = c := by omega
      refine (rTake_full x y n w).mono ?_
      rintro e w' ⟨rfl, hc⟩
      exact ⟨hc, some ⟨x, y, none⟩, 0, by rw [Nat.sub_self], .inr ⟨by omega, fun h => by cases h⟩, .inl ⟨x, y, rfl, hnc, Nat.lt_of_lt_of_le hx hc.size, fun j hj => hc.get (hcell j hj) id⟩, fun ad e => by cases e; exact hx0⟩
  · obtain rfl : k = 0 := by omega
    cases p with
    | none =>
      obtain rfl := hp rfl
      refine (rTake_none w).mono ?_
      rintro e w' ⟨rfl, hc⟩
      exact ⟨hc, none, 0, rfl, .inr ⟨rfl, fun _ => rfl⟩, .inr ⟨rfl, fun _ => rfl⟩, fun ad e => by cases e⟩
    | some ad =>
      refine (rTake_zero ad c w).mono ?_
      rintro e w' ⟨rfl, hc⟩
      exact ⟨hc, some ad, c, rfl, .inr ⟨rfl, fun h => by cases h⟩, .inr ⟨rfl, fun h => by cases h⟩, fun a e => hblk a e⟩
theorem res51 (w1 : World) (B : Nat) (s : Option Addr) (n c : Nat) (b : Bool) (v : Value) (no : Int) (h : w1.heap[B]? = some (.cells #[.slice s n c, .bool b] 51)) (t : Array Value) (h4 : t[2]? = some (.pointer (some ⟨B, 0, none⟩))) (h5 : t[3]? = some v) (h6 : t[4]? = some (.int .i64 no)) :
    (results Try.f51 t).run Try.prog w1 = .ok (.tuple #[.agg #[.slice s n c, .bool b], v, .int .i64 no]) w1 := by
  have h0 : w1.cell? ⟨B, 0, none⟩ = some (.slice s n c) := (cell_of_heap h 0).trans rfl
  have h1 : w1.cell? ⟨B, 1, none⟩ = some (.bool b) := (cell_of_heap h 1).trans rfl
  simp [results, Try.results51, go_sem, h0, h1, h4, h5, h6]
/-- Two blocks just laid. -/
theorem two_at (w : World) (a b : Array Value) (t u : TypeId) : ((w.alloc (.cells a t)).alloc (.cells b u)).heap[w.heap.size]? = some (.cells a t) ∧ ((w.alloc (.cells a t)).alloc (.cells b u)).heap[w.heap.size + 1]? = some (.cells b u) ∧ Ch (fun _ => False) w ((w.alloc (.cells a t)).alloc (.cells b u)) := by
  refine ⟨((Ch.refl (fun _ => False) _).alloc _).heap (World.alloc_heap_new w _) id, ?_, ((Ch.refl _ w).alloc _).alloc _⟩
  rw [← World.size_alloc w (.cells a t)]
  exact World.alloc_heap_new _ _
set_option maxRecDepth 100000 in
set_option maxHeartbeats 2000000 in
theorem rrTruth_no (p : Option Addr) (n c : Nat) (bad : Bool) (w : World)
    (H : ∀ W, Calls Try.prog 81 #[.agg #[.slice p n c, .bool bad], .int .i64 1] W fun e w' => e = .returned (.tuple #[.agg #[.slice p n c, .bool true], .slice none 0 0, .int .i64 140]) ∧ Ch (fun _ => False) W w') :
    Calls Try.prog 51 #[.agg #[.slice p n c, .bool bad]] w fun e w' => e = .returned (.tuple #[.agg #[.slice p n c, .bool true], .bool false, .int .i64 140]) ∧ Ch (fun _ => False) w w' := by
  have HH := Go.Lib.hid H
  obtain ⟨hA, hC, hc⟩ := two_at w #[.slice p n c, .bool bad] #[.slice none 0 0, .bool false] 51 51
  have HA := Go.Lib.hid hA; have HC := Go.Lib.hid hC; have HCH := Go.Lib.hid hc
  clear H hA hC hc
  go_enter Try.func51, Try.ntmps51
  go_wp2_with fail
  refine (HH.out _).mono ?_
  rintro e w1 ⟨rfl, hc1⟩
  have hc2 : Ch (fun _ => False) w1 (w1.alloc (.cells #[.slice p n c, .bool true] 51)) := (Ch.refl _ w1).alloc _
  have hA2 := (hc1.trans hc2).heap HA.out id
  have hC2 := (hc1.trans hc2).heap HC.out id
  have ha0 := (cell_of_heap hA2 0).trans rfl
  have hcl0 := (cell_of_heap hC2 0).trans rfl
  have hcl1 := (cell_of_heap hC2 1).trans rfl
  have hfz0 := frozen_of_heap hC2 0
  have hfz1 := frozen_of_heap hC2 1
  have HCX := Go.Lib.hid (HCH.out.trans (hc1.trans hc2)); have HC2 := Go.Lib.hid hC2
  clear hc1 hc2 hA2 hC2
  go_wp2_with fail
  have hfin := set_two HC2.out (.slice p n c) (.bool true)
  have hall := ch_two HCX.out (b := w.heap.size + 1) (fun h => by omega) (.slice p n c) (.bool true)
  generalize (World.setCell _ ⟨w.heap.size + 1, 0, none⟩ (.slice p n c)).setCell ⟨w.heap.size + 1, 1, none⟩ (.bool true) = WF at *
  exact bodyPost_ret (res51 WF _ p n c true _ 140 hfin _ rfl rfl rfl) rfl ⟨rfl, hall⟩
end Go.Proofs.Ytljllfdigfojdaa
/- The reference's Truth, of any bytes. -/
namespace Go.Proofs.Ytljllfdigfojdaa
open Go Go.RowKit

/-- What the reference's reader tells of a truth, a hash. -/
def RrTold2 (out : Out) (f : Nat → UInt8) (p : Option Addr) (n c x0 : Nat) (zero : Value) (w : World) (e : Ending) (w' : World) : Prop :=
  Ch (fun _ => False) w w' ∧ match out with
    | .got x k => k ≤ n ∧ ∃ p' c', e = .returned (.tuple #[.agg #[.slice p' (n - k) c', .bool false], x, .int .i64 0]) ∧ BytesAt w' p' (n - k) c' (fun j => f (k + j)) ∧ ∀ ad, p' = some ad → ad.block = x0
    | _ => e = .returned (.tuple #[.agg #[.slice p n c, .bool true], zero, .int .i64 140])
set_option maxRecDepth 100000 in
set_option maxHeartbeats 2000000 in
theorem rrTruth_any (p : Option Addr) (n c x0 : Nat) (f : Nat → UInt8) (w : World) (hb : BytesAt w p n c f) (hblk : ∀ ad, p = some ad → ad.block = x0) :
    Calls Try.prog 51 #[.agg #[.slice p n c, .bool false]] w (RrTold2 (outB f n) f p n c x0 (.bool false) w) := by
  by_cases h0 : n = 0
  · have HO := Go.Lib.hid (show outB f n = .lack from if_pos h0)
    refine (rrTruth_no p n c false w (fun W => rTake_lack p n c 1 W (by omega))).mono ?_
    rintro e w' ⟨rfl, hc⟩
    unfold RrTold2
    rw [HO.out]
    exact ⟨hc, rfl⟩
  · obtain ⟨xb, yb, rfl, hnc, hx, hbc⟩ : ∃ x y, p = some ⟨x, y, none⟩ ∧ n ≤ c ∧ x < w.heap.size ∧ ∀ j, j < n → w.cell? ⟨x, y + j, none⟩ = some (.int .u8 ((f j).toNat : Int)) := by
      rcases hb with ⟨x, y, h1, h2, h3, h4⟩ | ⟨h1, _⟩
      · exact ⟨x, y, h1, h2, h3, h4⟩
      · omega
    have HT := Go.Lib.hid (fun W (hc : Ch (fun _ => False) w W) => rTake_ok (some ⟨xb, yb, none⟩) n c 1 x0 f W (hb.ch hc (fun _ _ => id)) hblk (by omega))
    have hz0 := hbc 0 (by omega)
    have HX0 := Go.Lib.hid (show xb = x0 from hblk ⟨xb, yb, none⟩ rfl)
    have HO := Go.Lib.hid (show outB f n = if 1 < (f 0).toNat then .wrong else .got (.bool (decide ((f 0).toNat = 1))) 1 from if_neg h0)
    have HN := Go.Lib.hid (show 1 ≤ n by omega)
    generalize (f 0).toNat = z at *
    have HZ := Go.Lib.hid hz0; have HXL := Go.Lib.hid hx
    obtain ⟨hA, hC, hc⟩ := two_at w #[.slice (some ⟨xb, yb, none⟩) n c, .bool false] #[.slice none 0 0, .bool false] 51 51
    have HA := Go.Lib.hid hA; have HC := Go.Lib.hid hC; have HCH := Go.Lib.hid hc
    clear hb hblk hbc hz0 h0 hx hA hC hc hnc
    by_cases h1 : 1 < z
    · rw [if_pos h1] at HO
      have h1' : (1 : Int) < (z : Int) := by omega
      clear h1
      go_enter Try.func51, Try.ntmps51
      go_wp2_with fail
      refine (HT.out _ HCH.out).mono ?_
      rintro e w1 ⟨hc1, q2, d2, rfl, hb2, hbx, hq2⟩
      have hc2 : Ch (fun _ => False) w1 (w1.alloc (.cells #[.slice q2 (n - 1) d2, .bool false] 51)) := (Ch.refl _ w1).alloc _
      have hcell : (w1.alloc (.cells #[.slice q2 (n - 1) d2, .bool false] 51)).cell? ⟨xb, yb, none⟩ = some (.int .u8 (z : Int)) := (HCH.out.trans (hc1.trans hc2)).get HZ.out id
      have hA2 := (hc1.trans hc2).heap HA.out id
      have hC2 := (hc1.trans hc2).heap HC.out id
      have ha0 := (cell_of_heap hA2 0).trans rfl
      have hcl0 := (cell_of_heap hC2 0).trans rfl
      have hcl1 := (cell_of_heap hC2 1).trans rfl
      have hfz0 := frozen_of_heap hC2 0
      have hfz1 := frozen_of_heap hC2 1
      have HCX := Go.Lib.hid (HCH.out.trans (hc1.trans hc2)); have HC2 := Go.Lib.hid hC2
      clear hc1 hc2 hA2 hC2 hb2 hbx hq2
      go_wp2_with fail
      have hfin := set_two HC2.out (.slice (some ⟨xb, yb, none⟩) n c) (.bool true)
      have hall := ch_two HCX.out (b := w.heap.size + 1) (fun h => by omega) (.slice (some ⟨xb, yb, none⟩) n c) (.bool true)
      generalize (World.setCell _ ⟨w.heap.size + 1, 0, none⟩ (.slice (some ⟨xb, yb, none⟩) n c)).setCell ⟨w.heap.size + 1, 1, none⟩ (.bool true) = WF at *
      refine bodyPost_ret (res51 WF _ (some ⟨xb, yb, none⟩) n c true _ 140 hfin _ rfl rfl rfl) rfl ?_
      unfold RrTold2
      rw [HO.out]
      exact ⟨hall, rfl⟩
    · rw [if_neg h1] at HO
      have h1' : ¬ (1 : Int) < (z : Int) := by omega
      obtain ⟨B, hB⟩ : ∃ B, decide (z = 1) = B := ⟨_, rfl⟩
      have hB' : decide ((z : Int) = 1) = B := by rw [← hB]; exact decide_eq_decide.2 ⟨fun h => by omega, fun h => by omega⟩
      rw [hB] at HO
      have HB2 := Go.Lib.hid (show ((z : Int) == 1) = B from hB'); have HBD := Go.Lib.hid hB'
      clear hB hB' h1
      go_enter Try.func51, Try.ntmps51
      go_wp2_with fail
      refine (HT.out _ HCH.out).mono ?_
      rintro e w1 ⟨hc1, q2, d2, rfl, hb2, hbx, hq2⟩
      have hc2 : Ch (fun _ => False) w1 (w1.alloc (.cells #[.slice q2 (n - 1) d2, .bool false] 51)) := (Ch.refl _ w1).alloc _
      have hcell : (w1.alloc (.cells #[.slice q2 (n - 1) d2, .bool false] 51)).cell? ⟨xb, yb, none⟩ = some (.int .u8 (z : Int)) := (HCH.out.trans (hc1.trans hc2)).get HZ.out id
      have HZC := Go.Lib.hid hcell
      have HC0 := Go.Lib.hid ((hc1.trans hc2).heap HC.out id)
      have HD := Go.Lib.hid (World.alloc_heap_new w1 (.cells #[.slice q2 (n - 1) d2, .bool false] 51))
      have HCX := Go.Lib.hid (HCH.out.trans (hc1.trans hc2))
      have HDC := Go.Lib.hid (show ¬ w1.heap.size = w.heap.size + 1 by have := row_lt HC.out; have := hc1.size; omega)
      have HXC := Go.Lib.hid (show ¬ xb = w.heap.size + 1 by have := HXL.out; omega)
      have HCF := Go.Lib.hid (fun W (h : Ch (fun q => q = w.heap.size + 1) (w1.alloc (.cells #[.slice q2 (n - 1) d2, .bool false] 51)) W) => (show Ch (fun _ => False) w W from (HCH.out.trans (hc1.trans hc2)).then h (fun i hi e => by have e' : i = w.heap.size + 1 := e; omega)))
      have HQB := Go.Lib.hid (fun W (h : Ch (fun q => q = w.heap.size + 1) (w1.alloc (.cells #[.slice q2 (n - 1) d2, .bool false] 51)) W) => (hb2.ch hc2 (fun _ _ => id)).but2 h hq2 (fun _ => show ¬ x0 = w.heap.size + 1 from by
        have e1 : xb = x0 := HX0.out
        have := HXL.out
        omega))
      have HQ2 := Go.Lib.hid hq2
      clear hc1 hc2 hb2 hbx hq2
      go_upto_region 4 with fail
      clear hcell
      generalize w1.alloc (.cells #[.slice q2 (n - 1) d2, .bool false] 51) = w2 at *
      generalize w1.heap.size = D at *
      generalize w.heap.size + 1 = C at *
      generalize hnm : n - 1 = m at *
      have HNM := Go.Lib.hid hnm
      clear hnm
      generalize hax : Act.mk _ _ = ax
      have HSZ := Go.Lib.hid (show ax.tmps.size = 30 by rw [← hax]; rfl)
      have F2 := Go.Lib.hid (show gt ax 2 = .pointer (some ⟨C, 0, none⟩) by rw [← hax]; rfl)
      have F5 := Go.Lib.hid (show gt ax 5 = .pointer (some ⟨D, 0, none⟩) by rw [← hax]; rfl)
      have F6 := Go.Lib.hid (show gt ax 6 = .slice (some ⟨xb, yb, none⟩) 1 c by rw [← hax]; rfl)
      have HAX := Go.Lib.hid hax
      clear hax
      have HND := Go.Lib.hid (show ([25, 26, 27, 28, 29] : List Nat).Nodup by decide)
      have HLS : Hid (Lasts [(25, fun x _ => x = .agg #[.slice q2 m d2, .bool false]), (26, fun x _ => x = .slice (some ⟨xb, yb, none⟩) 1 c), (27, fun x _ => x = .pointer (some ⟨xb, yb, none⟩)), (28, fun x _ => x = .int .u8 (z : Int)), (29, fun x _ => x = .bool B)]) := Go.Lib.hid (by
        intro p hp v w1 w2 hc h
        simp only [List.mem_cons, List.not_mem_nil, or_false] at hp
        rcases hp with rfl | rfl | rfl | rfl | rfl
        all_goals first | exact h | (obtain ⟨g, h1, h2⟩ := h; exact ⟨g, h1, hc.heap h2 id⟩) | (obtain ⟨g, c, h1, h2⟩ := h; exact ⟨g, c, h1, h2.ch hc (fun _ _ h => h)⟩))
      refine wp_region_open_tail 6 (InvQ 30 [(25, fun x _ => x = .agg #[.slice q2 m d2, .bool false]), (26, fun x _ => x = .slice (some ⟨xb, yb, none⟩) 1 c), (27, fun x _ => x = .pointer (some ⟨xb, yb, none⟩)), (28, fun x _ => x = .int .u8 (z : Int)), (29, fun x _ => x = .bool B)] (IAsk w2 C 5 8 (.slice q2 m d2) false) ax) (by kernel_rfl) (by kernel_rfl) (InvQ.start (by simp) HSZ.out (IAsk.start HC0.out)) ?_ ?_
      · intro L a w' i hI hr hlt
        obtain ⟨h1, o, ho, hall⟩ := mem_ready.1 hr
        have hun : lg L i = false := by
          have h2 : i < L.size := Nat.lt_of_lt_of_le hlt (by rw [hI.wld.size]; decide)
          unfold lg; simp [h2] at h1 ⊢; exact h1
        have hsplit : i = 0 ∨ i = 1 ∨ i = 2 ∨ i = 3 ∨ i = 4 ∨ i = 5 := by omega
        clear hlt h1 hr
        rcases hsplit with rfl | rfl | rfl | rfl | rfl | rfl
        · have q5 := (hI.fixed 5 (by simp)).trans F5.out
          have hD := hI.wld.ch.heap HD.out HDC.out
          have hcl0 : w'.cell? ⟨D, 0, none⟩ = some (.slice q2 m d2) := (cell_of_heap hD 0).trans rfl
          have hcl1 : w'.cell? ⟨D, 1, none⟩ = some (.bool false) := (cell_of_heap hD 1).trans rfl
          clear hD
          unfold gt at q5
          clear hall
          refine wpOp_step (o := _) rfl (fun K' hK' => ?_)
          go_simp
          exact hK' _ _ (hI.put 0 rfl (by decide) HND.out HLS.out (Ch.refl _ _) rfl (hI.wld.step 0 (by decide) (by decide) (Ch.refl _ _)))
        · have q6 := (hI.fixed 6 (by simp)).trans F6.out
          unfold gt at q6
          clear hall
          refine wpOp_step (o := _) rfl (fun K' hK' => ?_)
          go_simp
          exact hK' _ _ (hI.put 1 rfl (by decide) HND.out HLS.out (Ch.refl _ _) rfl (hI.wld.step 1 (by decide) (by decide) (Ch.refl _ _)))
        · simp at ho
          have e1 : lg L 1 = true := by unfold lg; simpa using hall ⟨1, .data⟩ (by rw [← ho]; simp) rfl
          have f1 : gt a 26 = .slice (some ⟨xb, yb, none⟩) 1 c := hI.val 1 _ rfl e1
          unfold gt at f1
          clear hall
          clear ho
          refine wpOp_step (o := _) rfl (fun K' hK' => ?_)
          go_simp
          exact hK' _ _ (hI.put 2 rfl (by decide) HND.out HLS.out (Ch.refl _ _) rfl (hI.wld.step 2 (by decide) (by decide) (Ch.refl _ _)))
        · simp at ho
          have e2 : lg L 2 = true := by unfold lg; simpa using hall ⟨2, .data⟩ (by rw [← ho]; simp) rfl
          have f2 : gt a 27 = .pointer (some ⟨xb, yb, none⟩) := hI.val 2 _ rfl e2
          have hcl := hI.wld.ch.get HZC.out HXC.out
          unfold gt at f2
          clear hall
          clear ho
          refine wpOp_step (o := _) rfl (fun K' hK' => ?_)
          go_simp
          exact hK' _ _ (hI.put 3 rfl (by decide) HND.out HLS.out (Ch.refl _ _) rfl (hI.wld.step 3 (by decide) (by decide) (Ch.refl _ _)))
        · simp at ho
          have e3 : lg L 3 = true := by unfold lg; simpa using hall ⟨3, .data⟩ (by rw [← ho]; simp) rfl
          have f3 : gt a 28 = .int .u8 (z : Int) := hI.val 3 _ rfl e3
          have hB2 := HB2.out
          have hBD := HBD.out
          unfold gt at f3
          clear hall
          clear ho
          refine wpOp_step (o := _) rfl (fun K' hK' => ?_)
          go_simp
          exact hK' _ _ (hI.put 4 rfl (by decide) HND.out HLS.out (Ch.refl _ _) rfl (hI.wld.step 4 (by decide) (by decide) (Ch.refl _ _)))
        · simp at ho
          have e0 : lg L 0 = true := by unfold lg; simpa using hall ⟨0, .data⟩ (by rw [← ho]; simp) rfl
          have f0 : gt a 25 = .agg #[.slice q2 m d2, .bool false] := hI.val 0 _ rfl e0
          have q2 := (hI.fixed 2 (by simp)).trans F2.out
          have hrow := hI.wld.before hun
          have hcl0 := (cell_of_heap hrow 0).trans rfl
          have hcl1 := (cell_of_heap hrow 1).trans rfl
          have hfz0 := frozen_of_heap hrow 0
          have hfz1 := frozen_of_heap hrow 1
          unfold gt at f0 q2
          clear hall
          clear ho
          refine wpOp_step (o := _) rfl (fun K' hK' => ?_)
          clear hrow
          go_simp
          exact hK' _ _ (hI.skipX 5 (Nat.le_refl 5) (by rw [hI.wld.size]; decide) (fun k p hp hl h => by
            have hk5 : k < 5 := (List.getElem?_eq_some_iff.1 hp).1
            obtain rfl | rfl | rfl | rfl | rfl : k = 0 ∨ k = 1 ∨ k = 2 ∨ k = 3 ∨ k = 4 := by omega
            all_goals (cases hp; exact h)) (hI.wld.store (by decide) hun))
      · intro L a w' hI hal
        have hfr := hI.frame HSZ.out (by simp) (fun i hi => hal i (by have h10 : i < 5 := hi; omega))
        have k0 : gt a 25 = .agg #[.slice q2 m d2, .bool false] := hI.val 0 _ rfl (hal 0 (by decide))
        have k1 : gt a 26 = .slice (some ⟨xb, yb, none⟩) 1 c := hI.val 1 _ rfl (hal 1 (by decide))
        have k2 : gt a 27 = .pointer (some ⟨xb, yb, none⟩) := hI.val 2 _ rfl (hal 2 (by decide))
        have k3 : gt a 28 = .int .u8 (z : Int) := hI.val 3 _ rfl (hal 3 (by decide))
        have k4 : gt a 29 = .bool B := hI.val 4 _ rfl (hal 4 (by decide))
        rw [hfr, ← HAX.out]
        have HWB := Go.Lib.hid (hI.wld.behind (hal 5 (by decide))); have HWC := Go.Lib.hid hI.wld.ch
        simp only [List.map_cons, List.map_nil, List.foldl_cons, List.foldl_nil, k0, k1, k2, k3, k4, List.setIfInBounds_toArray, List.set_cons_succ, List.set_cons_zero]
        clear hfr hI hal k0 k1 k2 k3 k4 HSZ HND HLS HAX F2 F5 F6
        simp only [List.drop_succ_cons, List.drop_zero]
        go_wp2_with fail
        refine bodyPost_ret (res51 w' C q2 m d2 false (.bool B) 0 HWB.out _ rfl rfl rfl) rfl ?_
        unfold RrTold2
        rw [HO.out]
        exact ⟨HCF.out _ HWC.out, HN.out, q2, d2, by rw [HNM.out], by rw [HNM.out]; exact HQB.out _ HWC.out, HQ2.out⟩
end Go.Proofs.Ytljllfdigfojdaa
/- The reference's reader that refused; its Text. -/
namespace Go.Proofs.Ytljllfdigfojdaa
open Go Go.RowKit

theorem rrTruth_bad (p : Option Addr) (n c : Nat) (w : World) : Calls Try.prog 51 #[.agg #[.slice p n c, .bool true]] w fun e w' => e = .returned (.tuple #[.agg #[.slice p n c, .bool true], .bool false, .int .i64 140]) ∧ Ch (fun _ => False) w w' :=
  rrTruth_no p n c true w (fun W => rTake_bad p n c 1 W)
theorem rrNumber_bad (p : Option Addr) (n c : Nat) (most : Int) (w : World) :
    Calls Try.prog 50 #[.agg #[.slice p n c, .bool true], .int .i64 most] w fun e w' => e = .returned (.tuple #[.agg #[.slice p n c, .bool true], .int .i64 0, .int .i64 140]) ∧ Ch (fun _ => False) w w' := by
  go_enter Try.func50, Try.ntmps50
  go_wp2
  obtain ⟨_, hB, hall⟩ := two_at w #[.slice p n c, .bool true] #[.slice p n c, .bool true] 51 51
  generalize (w.alloc (.cells #[.slice p n c, .bool true] 51)).alloc (.cells #[.slice p n c, .bool true] 51) = WF at *
  exact bodyPost_ret (res50 WF _ p n c true _ 140 hB _ rfl rfl rfl) rfl ⟨rfl, hall⟩
theorem res53 (w1 : World) (B : Nat) (s : Option Addr) (n c : Nat) (b : Bool) (v : Value) (no : Int) (h : w1.heap[B]? = some (.cells #[.slice s n c, .bool b] 51)) (t : Array Value) (h4 : t[4]? = some (.pointer (some ⟨B, 0, none⟩))) (h5 : t[5]? = some v) (h6 : t[6]? = some (.int .i64 no)) :
    (results Try.f53 t).run Try.prog w1 = .ok (.tuple #[.agg #[.slice s n c, .bool b], v, .int .i64 no]) w1 := by
  have h0 : w1.cell? ⟨B, 0, none⟩ = some (.slice s n c) := (cell_of_heap h 0).trans rfl
  have h1 : w1.cell? ⟨B, 1, none⟩ = some (.bool b) := (cell_of_heap h 1).trans rfl
  simp [results, Try.results53, go_sem, h0, h1, h4, h5, h6]
set_option maxRecDepth 100000 in
set_option maxHeartbeats 2000000 in
theorem rrText_err2 (p : Option Addr) (n c : Nat) (bad b : Bool) (most : Int) (w : World)
    (H : ∀ W, Ch (fun _ => False) w W → Calls Try.prog 50 #[.agg #[.slice p n c, .bool bad], .int .i64 most] W fun e w' => e = .returned (.tuple #[.agg #[.slice p n c, .bool b], .int .i64 0, .int .i64 2]) ∧ Ch (fun _ => False) W w') :
    Calls Try.prog 53 #[.agg #[.slice p n c, .bool bad], .int .i64 most] w fun e w' => e = .returned (.tuple #[.agg #[.slice p n c, .bool b], .string { data := #[] }, .int .i64 2]) ∧ Ch (fun _ => False) w w' := by
  have HH := Go.Lib.hid H
  obtain ⟨hA, hC, hc⟩ := two_at w #[.slice p n c, .bool bad] #[.slice none 0 0, .bool false] 51 51
  have HC := Go.Lib.hid hC; have HCH := Go.Lib.hid hc
  clear H hA hC hc
  go_enter Try.func53, Try.ntmps53
  go_wp2_with fail
  refine (HH.out _ HCH.out).mono ?_
  rintro e w1 ⟨rfl, hc1⟩
  have hc2 : Ch (fun _ => False) w1 (w1.alloc (.cells #[.slice p n c, .bool b] 51)) := (Ch.refl _ w1).alloc _
  have hC2 := (hc1.trans hc2).heap HC.out id
  have hcl0 := (cell_of_heap hC2 0).trans rfl
  have hcl1 := (cell_of_heap hC2 1).trans rfl
  have hfz0 := frozen_of_heap hC2 0
  have hfz1 := frozen_of_heap hC2 1
  have HCX := Go.Lib.hid (HCH.out.trans (hc1.trans hc2)); have HC2 := Go.Lib.hid hC2
  clear hc1 hc2 hC2
  go_wp2_with fail
  have hfin := set_two HC2.out (.slice p n c) (.bool b)
  have hall := ch_two HCX.out (b := w.heap.size + 1) (fun h => by omega) (.slice p n c) (.bool b)
  generalize (World.setCell _ ⟨w.heap.size + 1, 0, none⟩ (.slice p n c)).setCell ⟨w.heap.size + 1, 1, none⟩ (.bool b) = WF at *
  exact bodyPost_ret (res53 WF _ p n c b (.string { data := #[] }) 2 hfin _ rfl rfl rfl) rfl ⟨rfl, hall⟩
set_option maxRecDepth 100000 in
set_option maxHeartbeats 2000000 in
theorem rrText_err140 (p : Option Addr) (n c : Nat) (bad b : Bool) (most : Int) (w : World)
    (H : ∀ W, Ch (fun _ => False) w W → Calls Try.prog 50 #[.agg #[.slice p n c, .bool bad], .int .i64 most] W fun e w' => e = .returned (.tuple #[.agg #[.slice p n c, .bool b], .int .i64 0, .int .i64 140]) ∧ Ch (fun _ => False) W w') :
    Calls Try.prog 53 #[.agg #[.slice p n c, .bool bad], .int .i64 most] w fun e w' => e = .returned (.tuple #[.agg #[.slice p n c, .bool b], .string { data := #[] }, .int .i64 140]) ∧ Ch (fun _ => False) w w' := by
  have HH := Go.Lib.hid H
  obtain ⟨hA, hC, hc⟩ := two_at w #[.slice p n c, .bool bad] #[.slice none 0 0, .bool false] 51 51
  have HC := Go.Lib.hid hC; have HCH := Go.Lib.hid hc
  clear H hA hC hc
  go_enter Try.func53, Try.ntmps53
  go_wp2_with fail
  refine (HH.out _ HCH.out).mono ?_
  rintro e w1 ⟨rfl, hc1⟩
  have hc2 : Ch (fun _ => False) w1 (w1.alloc (.cells #[.slice p n c, .bool b] 51)) := (Ch.refl _ w1).alloc _
  have hC2 := (hc1.trans hc2).heap HC.out id
  have hcl0 := (cell_of_heap hC2 0).trans rfl
  have hcl1 := (cell_of_heap hC2 1).trans rfl
  have hfz0 := frozen_of_heap hC2 0
  have hfz1 := frozen_of_heap hC2 1
  have HCX := Go.Lib.hid (HCH.out.trans (hc1.trans hc2)); have HC2 := Go.Lib.hid hC2
  clear hc1 hc2 hC2
  go_wp2_with fail
  have hfin := set_two HC2.out (.slice p n c) (.bool b)
  have hall := ch_two HCX.out (b := w.heap.size + 1) (fun h => by omega) (.slice p n c) (.bool b)
  generalize (World.setCell _ ⟨w.heap.size + 1, 0, none⟩ (.slice p n c)).setCell ⟨w.heap.size + 1, 1, none⟩ (.bool b) = WF at *
  exact bodyPost_ret (res53 WF _ p n c b (.string { data := #[] }) 140 hfin _ rfl rfl rfl) rfl ⟨rfl, hall⟩
theorem rrText_bad (p : Option Addr) (n c : Nat) (most : Int) (w : World) : Calls Try.prog 53 #[.agg #[.slice p n c, .bool true], .int .i64 most] w fun e w' => e = .returned (.tuple #[.agg #[.slice p n c, .bool true], .string { data := #[] }, .int .i64 140]) ∧ Ch (fun _ => False) w w' :=
  rrText_err140 p n c true true most w (fun W _ => rrNumber_bad p n c most W)
theorem rrText_neg (p : Option Addr) (n c : Nat) (most : Int) (w : World) (hm : most < 0) : Calls Try.prog 53 #[.agg #[.slice p n c, .bool false], .int .i64 most] w fun e w' => e = .returned (.tuple #[.agg #[.slice p n c, .bool false], .string { data := #[] }, .int .i64 2]) ∧ Ch (fun _ => False) w w' :=
  rrText_err2 p n c false false most w (fun W _ => rrNumber_neg p n c most W hm)
end Go.Proofs.Ytljllfdigfojdaa
/- The reference's Text, of any bytes. -/
namespace Go.Proofs.Ytljllfdigfojdaa
open Go Go.RowKit

set_option maxRecDepth 100000 in
set_option maxHeartbeats 4000000 in
theorem rrText_any (p : Option Addr) (n c x0 : Nat) (f : Nat → UInt8) (most : Int) (w : World) (hm : 0 ≤ most) (hb : BytesAt w p n c f) (hblk : ∀ ad, p = some ad → ad.block = x0) (hx0 : x0 < w.heap.size) (hn : n ≤ 1000000000000) :
    Calls Try.prog 53 #[.agg #[.slice p n c, .bool false], .int .i64 most] w (RrTold2 (outT most f n) f p n c x0 (.string { data := #[] }) w) := by
  have HN := Go.Lib.hid (fun W (hc : Ch (fun _ => False) w W) => rrNumber_any p n c x0 f most W hm (hb.ch hc (fun _ _ => id)) hblk hn)
  unfold RrTold at HN
  have HX0 := Go.Lib.hid hx0
  cases ho : outN most f n with
  | lack =>
    have HO := Go.Lib.hid (show outT most f n = .lack from by unfold outT; rw [ho])
    rw [ho] at HN
    refine (rrText_err140 p n c false true most w (fun W hc => (HN.out W hc).mono (by rintro e w' ⟨h1, h2⟩; exact ⟨h2, h1⟩))).mono ?_
    rintro e w' ⟨rfl, hc⟩
    unfold RrTold2
    rw [HO.out]
    exact ⟨hc, rfl⟩
  | wrong =>
    have HO := Go.Lib.hid (show outT most f n = .wrong from by unfold outT; rw [ho])
    rw [ho] at HN
    refine (rrText_err140 p n c false true most w (fun W hc => (HN.out W hc).mono (by rintro e w' ⟨h1, h2⟩; exact ⟨h2, h1⟩))).mono ?_
    rintro e w' ⟨rfl, hc⟩
    unfold RrTold2
    rw [HO.out]
    exact ⟨hc, rfl⟩
  | got x k =>
    obtain ⟨v, rfl, _⟩ := outN_got ho
    have HO := Go.Lib.hid (show outT most f n = if n < k + v then .lack else .got (.string (bS (fun j => f (k + j)) v)) (k + v) from by unfold outT; rw [ho]; simp only [Int.toNat_natCast])
    rw [ho] at HN
    obtain ⟨hA, hC, hc⟩ := two_at w #[.slice p n c, .bool false] #[.slice none 0 0, .bool false] 51 51
    have HA := Go.Lib.hid hA; have HC := Go.Lib.hid hC; have HCH := Go.Lib.hid hc
    clear ho hb hblk hA hC hc hx0 hm
    by_cases hlt : n < k + v
    · rw [if_pos hlt] at HO
      go_enter Try.func53, Try.ntmps53
      go_wp2_with fail
      refine (HN.out _ HCH.out).mono ?_
      rintro e w1 ⟨hc1, hkn, q2, d2, rfl, hb2, hq2⟩
      have HT := Go.Lib.hid (fun W => rTake_lack q2 (n - k) d2 v W (by omega))
      have HC1 := Go.Lib.hid hc1
      clear hlt hkn hb2 hq2 hc1
      generalize n - k = m at *
      go_wp2_with fail
      refine (HT.out _).mono ?_
      rintro e w3 ⟨rfl, hc3⟩
      have hc13 : Ch (fun _ => False) w1 w3 := ((Ch.refl _ w1).alloc _).trans hc3
      have hD3 : w3.heap[w1.heap.size]? = some (.cells #[.slice q2 m d2, .bool false] 51) := hc3.heap (World.alloc_heap_new w1 _) id
      have hd0 := (cell_of_heap hD3 0).trans rfl
      have hd1 := (cell_of_heap hD3 1).trans rfl
      have hdf0 := frozen_of_heap hD3 0
      have hdf1 := frozen_of_heap hD3 1
      have hs1 := HC1.out.size
      have hac := row_lt HC.out
      have HW4 := Go.Lib.hid (ch_two (S := fun q => q = w1.heap.size) (Ch.refl _ w3) (b := w1.heap.size) (fun _ => rfl) (.slice q2 m d2) (.bool true))
      have hA4 := HW4.out.heap ((HC1.out.trans hc13).heap HA.out id) (show ¬ w.heap.size = w1.heap.size by omega)
      have hC4 := HW4.out.heap ((HC1.out.trans hc13).heap HC.out id) (show ¬ w.heap.size + 1 = w1.heap.size by omega)
      have ha0 := (cell_of_heap hA4 0).trans rfl
      have hcl0 := (cell_of_heap hC4 0).trans rfl
      have hcl1 := (cell_of_heap hC4 1).trans rfl
      have hfz0 := frozen_of_heap hC4 0
      have hfz1 := frozen_of_heap hC4 1
      have HCX := Go.Lib.hid ((HCH.out.trans (HC1.out.trans hc13)).then HW4.out (fun i hi e => by have e' : i = w1.heap.size := e; have := HCH.out.size; omega)); have HC4 := Go.Lib.hid hC4
      clear hc13 hc3 hD3 hA4 hC4 hs1 hac
      go_wp2_with fail
      have hfin := set_two HC4.out (.slice p n c) (.bool true)
      have hall := ch_two HCX.out (b := w.heap.size + 1) (fun h => by omega) (.slice p n c) (.bool true)
      generalize (World.setCell _ ⟨w.heap.size + 1, 0, none⟩ (.slice p n c)).setCell ⟨w.heap.size + 1, 1, none⟩ (.bool true) = WF at *
      refine bodyPost_ret (res53 WF _ p n c true (.string { data := #[] }) 140 hfin _ rfl rfl rfl) rfl ?_
      unfold RrTold2
      rw [HO.out]
      exact ⟨hall, rfl⟩
    · rw [if_neg hlt] at HO
      go_enter Try.func53, Try.ntmps53
      go_wp2_with fail
      refine (HN.out _ HCH.out).mono ?_
      rintro e w1 ⟨hc1, hkn, q2, d2, rfl, hb2, hq2⟩
      have hc2 : Ch (fun _ => False) w1 (w1.alloc (.cells #[.slice q2 (n - k) d2, .bool false] 51)) := (Ch.refl _ w1).alloc _
      have HT := Go.Lib.hid (rTake_ok q2 (n - k) d2 v x0 (fun j => f (k + j)) (w1.alloc (.cells #[.slice q2 (n - k) d2, .bool false] 51)) (hb2.ch hc2 (fun _ _ => id)) hq2 (by omega))
      have HC1 := Go.Lib.hid hc1; have HC2 := Go.Lib.hid hc2
      have HKN := Go.Lib.hid (show k + v ≤ n by omega)
      have HQ2 := Go.Lib.hid hq2
      clear hlt hkn hb2 hq2 hc1 hc2
      generalize hmm : n - k = m at *
      have HM := Go.Lib.hid hmm
      clear hmm
      go_wp2_with fail
      refine HT.out.mono ?_
      rintro e w3 ⟨hc3, q3, d3, rfl, hb3, hbs3, hq3⟩
      have hc13 : Ch (fun _ => False) w1 w3 := HC2.out.trans hc3
      have hD3 : w3.heap[w1.heap.size]? = some (.cells #[.slice q2 m d2, .bool false] 51) := hc3.heap (World.alloc_heap_new w1 _) id
      have hd0 := (cell_of_heap hD3 0).trans rfl
      have hd1 := (cell_of_heap hD3 1).trans rfl
      have hdf0 := frozen_of_heap hD3 0
      have hdf1 := frozen_of_heap hD3 1
      have hs1 := HC1.out.size
      have hs0 := HCH.out.size
      have hac := row_lt HC.out
      have hxl := HX0.out
      generalize hmv : m - v = m3 at *
      have HMV := Go.Lib.hid hmv
      have hW4 := ch_two (S := fun q => q = w1.heap.size) (Ch.refl _ w3) (b := w1.heap.size) (fun _ => rfl) (.slice q3 m3 d3) (.bool false)
      have HC4 := Go.Lib.hid (hW4.heap ((HC1.out.trans hc13).heap HC.out id) (show ¬ w.heap.size + 1 = w1.heap.size by omega))
      have HD4 := Go.Lib.hid (set_two hD3 (.slice q3 m3 d3) (.bool false))
      have HDC := Go.Lib.hid (show ¬ w1.heap.size = w.heap.size + 1 by omega)
      have HB4 := Go.Lib.hid (hb3.but2 hW4 hq3 (fun _ => show ¬ x0 = w1.heap.size by omega))
      have HS4 := Go.Lib.hid (hbs3.but2 hW4 HQ2.out (fun _ => show ¬ x0 = w1.heap.size by omega))
      have HXC := Go.Lib.hid (show ¬ x0 = w.heap.size + 1 by omega)
      have hcx := (HCH.out.trans (HC1.out.trans hc13)).then hW4 (fun i hi e => by have e' : i = w1.heap.size := e; omega)
      have HCF := Go.Lib.hid (fun W (h : Ch (fun q => q = w.heap.size + 1) ((w3.setCell ⟨w1.heap.size, 0, none⟩ (.slice q3 m3 d3)).setCell ⟨w1.heap.size, 1, none⟩ (.bool false)) W) => (show Ch (fun _ => False) w W from hcx.then h (fun i hi e => by have e' : i = w.heap.size + 1 := e; omega)))
      have HQ3 := Go.Lib.hid hq3
      clear hc13 hc3 hD3 hs1 hs0 hac hxl hW4 hcx hb3 hbs3 hq3 hmv
      go_upto_region 7 with fail
      clear hd0 hd1 hdf0 hdf1
      generalize (w3.setCell ⟨w1.heap.size, 0, none⟩ (.slice q3 m3 d3)).setCell ⟨w1.heap.size, 1, none⟩ (.bool false) = w4 at *
      generalize w1.heap.size = D at *
      generalize w.heap.size + 1 = C at *
      have HCV := Go.Lib.hid (fun W (h : Ch (fun q => q = C) w4 W) => conv_bytes (HS4.out.but2 h HQ2.out (fun _ => HXC.out)))
      generalize bS (fun j => f (k + j)) v = sg at *
      generalize hax : Act.mk _ _ = ax
      have HSZ := Go.Lib.hid (show ax.tmps.size = 38 by rw [← hax]; rfl)
      have F4 := Go.Lib.hid (show gt ax 4 = .pointer (some ⟨C, 0, none⟩) by rw [← hax]; rfl)
      have F7 := Go.Lib.hid (show gt ax 7 = .pointer (some ⟨D, 0, none⟩) by rw [← hax]; rfl)
      have F10 := Go.Lib.hid (show gt ax 10 = .slice q2 v d2 by rw [← hax]; rfl)
      have HAX := Go.Lib.hid hax
      clear hax
      have HND := Go.Lib.hid (show ([35, 36, 37] : List Nat).Nodup by decide)
      have HLS : Hid (Lasts [(35, fun x _ => x = .agg #[.slice q3 m3 d3, .bool false]), (36, fun x _ => x = .slice q2 v d2), (37, fun x _ => x = .string sg)]) := Go.Lib.hid (by
        intro p hp v w1 w2 hc h
        simp only [List.mem_cons, List.not_mem_nil, or_false] at hp
        rcases hp with rfl | rfl | rfl
        all_goals first | exact h | (obtain ⟨g, h1, h2⟩ := h; exact ⟨g, h1, hc.heap h2 id⟩) | (obtain ⟨g, c, h1, h2⟩ := h; exact ⟨g, c, h1, h2.ch hc (fun _ _ h => h)⟩))
      refine wp_region_open_tail 4 (InvQ 38 [(35, fun x _ => x = .agg #[.slice q3 m3 d3, .bool false]), (36, fun x _ => x = .slice q2 v d2), (37, fun x _ => x = .string sg)] (IAsk w4 C 3 6 (.slice q3 m3 d3) false) ax) (by kernel_rfl) (by kernel_rfl) (InvQ.start (by simp) HSZ.out (IAsk.start HC4.out)) ?_ ?_
      · intro L a w' i hI hr hlt
        obtain ⟨h1, o, ho, hall⟩ := mem_ready.1 hr
        have hun : lg L i = false := by
          have h2 : i < L.size := Nat.lt_of_lt_of_le hlt (by rw [hI.wld.size]; decide)
          unfold lg; simp [h2] at h1 ⊢; exact h1
        have hsplit : i = 0 ∨ i = 1 ∨ i = 2 ∨ i = 3 := by omega
        clear hlt h1 hr
        rcases hsplit with rfl | rfl | rfl | rfl
        · have q7 := (hI.fixed 7 (by simp)).trans F7.out
          have hD := hI.wld.ch.heap HD4.out HDC.out
          have hcl0 : w'.cell? ⟨D, 0, none⟩ = some (.slice q3 m3 d3) := (cell_of_heap hD 0).trans rfl
          have hcl1 : w'.cell? ⟨D, 1, none⟩ = some (.bool false) := (cell_of_heap hD 1).trans rfl
          clear hD
          unfold gt at q7
          clear hall
          refine wpOp_step (o := _) rfl (fun K' hK' => ?_)
          go_simp
          exact hK' _ _ (hI.put 0 rfl (by decide) HND.out HLS.out (Ch.refl _ _) rfl (hI.wld.step 0 (by decide) (by decide) (Ch.refl _ _)))
        · have q10 := (hI.fixed 10 (by simp)).trans F10.out
          unfold gt at q10
          clear hall
          refine wpOp_step (o := _) rfl (fun K' hK' => ?_)
          go_simp
          exact hK' _ _ (hI.put 1 rfl (by decide) HND.out HLS.out (Ch.refl _ _) rfl (hI.wld.step 1 (by decide) (by decide) (Ch.refl _ _)))
        · simp at ho
          have e1 : lg L 1 = true := by unfold lg; simpa using hall ⟨1, .data⟩ (by rw [← ho]; simp) rfl
          have f1 : gt a 36 = .slice q2 v d2 := hI.val 1 _ rfl e1
          have hcv := HCV.out w' hI.wld.ch
          unfold gt at f1
          clear hall
          clear ho
          refine wpOp_step (o := _) rfl (fun K' hK' => ?_)
          go_simp
          exact hK' _ _ (hI.put 2 rfl (by decide) HND.out HLS.out (Ch.refl _ _) rfl (hI.wld.step 2 (by decide) (by decide) (Ch.refl _ _)))
        · simp at ho
          have e0 : lg L 0 = true := by unfold lg; simpa using hall ⟨0, .data⟩ (by rw [← ho]; simp) rfl
          have f0 : gt a 35 = .agg #[.slice q3 m3 d3, .bool false] := hI.val 0 _ rfl e0
          have q4 := (hI.fixed 4 (by simp)).trans F4.out
          have hrow := hI.wld.before hun
          have hcl0 := (cell_of_heap hrow 0).trans rfl
          have hcl1 := (cell_of_heap hrow 1).trans rfl
          have hfz0 := frozen_of_heap hrow 0
          have hfz1 := frozen_of_heap hrow 1
          unfold gt at f0 q4
          clear hall
          clear ho
          refine wpOp_step (o := _) rfl (fun K' hK' => ?_)
          clear hrow
          go_simp
          exact hK' _ _ (hI.skipX 3 (Nat.le_refl 3) (by rw [hI.wld.size]; decide) (fun k p hp hl h => by
            have hk3 : k < 3 := (List.getElem?_eq_some_iff.1 hp).1
            obtain rfl | rfl | rfl : k = 0 ∨ k = 1 ∨ k = 2 := by omega
            all_goals (cases hp; exact h)) (hI.wld.store (by decide) hun))
      · intro L a w' hI hal
        have hfr := hI.frame HSZ.out (by simp) (fun i hi => hal i (by have h10 : i < 3 := hi; omega))
        have k0 : gt a 35 = .agg #[.slice q3 m3 d3, .bool false] := hI.val 0 _ rfl (hal 0 (by decide))
        have k1 : gt a 36 = .slice q2 v d2 := hI.val 1 _ rfl (hal 1 (by decide))
        have k2 : gt a 37 = .string sg := hI.val 2 _ rfl (hal 2 (by decide))
        rw [hfr, ← HAX.out]
        have HWB := Go.Lib.hid (hI.wld.behind (hal 3 (by decide))); have HWC := Go.Lib.hid hI.wld.ch
        simp only [List.map_cons, List.map_nil, List.foldl_cons, List.foldl_nil, k0, k1, k2, List.setIfInBounds_toArray, List.set_cons_succ, List.set_cons_zero]
        clear hfr hI hal k0 k1 k2 HSZ HND HLS HAX F4 F7 F10
        simp only [List.drop_succ_cons, List.drop_zero]
        go_wp2_with fail
        refine bodyPost_ret (res53 w' C q3 m3 d3 false (.string sg) 0 HWB.out _ rfl rfl rfl) rfl ?_
        have e1 : n - (k + v) = m3 := by have := HM.out; have := HMV.out; omega
        have e2 : (fun j => f (k + v + j)) = fun j => (fun j => f (k + j)) (v + j) := funext fun j => by show f _ = f _; rw [Nat.add_assoc]
        unfold RrTold2
        rw [HO.out]
        exact ⟨HCF.out _ HWC.out, HKN.out, q3, d3, by rw [e1], by rw [e1, e2]; exact HB4.out.but2 HWC.out HQ3.out (fun _ => HXC.out), HQ3.out⟩
end Go.Proofs.Ytljllfdigfojdaa
