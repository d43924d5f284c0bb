/- CrcBursts: the function. -/
import Derived.Test.YthbpfgcgfhlmnaaT23
import Derived.Test.YthbpfgcgfhlmnaaM3
import Derived.Test.YthbpfgcgfhlmnaaTail
namespace Go.Proofs.Ythbpfgcgfhlmnaa
open Go Go.RowKit
attribute [local go_sem high] b_add b_xor b_and b_or b_shr b_shl not32 wrap_un beq32 neg32 b_turn lowB_wrap b_and1 beq_1

theorem b_shl8 (t : TypeId) (yk : IntKind) (n : Int) (h0 : 0 ≤ n) (h : n ≤ 7) : binOp .shl t (.int .u8 1) (.int yk n) = pure (.int .u8 ((bitB n.toNat).toNat : Int)) := by
  obtain ⟨m, rfl⟩ := Int.eq_ofNat_of_zero_le h0
  obtain rfl | rfl | rfl | rfl | rfl | rfl | rfl | rfl : m = 0 ∨ m = 1 ∨ m = 2 ∨ m = 3 ∨ m = 4 ∨ m = 5 ∨ m = 6 ∨ m = 7 := by omega
  all_goals rfl
attribute [local go_sem high] b_shl8 b_xor8
theorem own_pos {w : World} {base k : Nat} {v : Value} {xs : List Value} (h : w.ownsRow base 5 1 v k xs) (hk : 0 < k) : ∃ g cap cur, v = .slice (some ⟨g, 0, none⟩) k cap ∧ base ≤ g ∧ w.heap[g]? = some (.cells cur 5) ∧ k ≤ cap ∧ cur.toList.take k = xs := by
  obtain ⟨m, rfl⟩ : ∃ m, k = m + 1 := ⟨k - 1, by omega⟩
  exact own_some h
theorem more1 (g : Nat) (q : Option Addr) (n c : Nat) (f : Nat → UInt8) (x : BitVec 32) (w : World) (hg : w.cell? ⟨g, 0, none⟩ = some (.slice q n c)) (hb : BytesAt w q n c f) (hn : n ≤ 100000000000) :
    Calls Try.prog 13 #[.int .u32 (un x), .slice (some ⟨g, 0, none⟩) 1 1] w fun e w' => e = .returned (.int .u32 (un (~~~(cw (~~~x) f n)))) ∧ Ch (fun _ => False) w w' := by
  have h := more_any g 0 1 1 _ (fun _ => q) (fun _ => n) (fun _ => c) _ x w (.inl rfl) (parts_cat (F := fun _ => f) (fun i hi => by
    have hi0 : i = 0 := by omega
    subst hi0
    exact ⟨hg, hb⟩)) (by omega) (by rw [upto_one]; omega)
  rw [cw_cat] at h
  exact h
theorem slice_from (q : Option Addr) (n c k : Nat) (h : k ≤ n) (hc : n ≤ c) (w : World) : (Instr.slice 24 (.slice q n c) (some (.int .i64 (k : Int))) none none).run Try.prog w = .ok (.slice (if c = k then q else q.map (·.add k)) (n - k) (c - k)) w := by
  have e : ¬ n < k := by omega
  cases q with
  | none => simp [Instr.slice, Instr.sliceBounds, Instr.sliceBound, run_underlying Try.underlying24, asIntOf, go_sem, e]
  | some a => simp [Instr.slice, Instr.sliceBounds, Instr.sliceBound, run_underlying Try.underlying24, asIntOf, go_sem, e]
theorem BytesAt.from {w : World} {q : Option Addr} {n c k : Nat} {f : Nat → UInt8} (h : BytesAt w q n c f) (hc : n ≤ c) (hk : k ≤ n) : BytesAt w (if c = k then q else q.map (·.add k)) (n - k) (c - k) (fun j => f (k + j)) := by
  by_cases h0 : k = n
  · refine .inr ⟨by omega, fun e => ?_⟩
    rcases h with ⟨x, y, rfl, _⟩ | ⟨h1, h2⟩
    · split at e <;> cases e
    · by_cases hq : q = none
      · have := h2 hq; omega
      · cases q with
        | none => exact absurd rfl hq
        | some a => split at e <;> cases e
  · obtain ⟨x, y, rfl, hx, hb⟩ := h.at0 (by omega)
    rw [if_neg (by omega)]
    refine .inl ⟨x, y + k, by simp [Addr.add], by omega, hx, fun j hj => ?_⟩
    rw [Nat.add_assoc]
    exact hb (k + j) (by omega)
set_option maxRecDepth 100000 in
set_option maxHeartbeats 1000000 in
theorem bursts_out (q : Option Addr) (n c : Nat) (cut first : Int) (bits : BitVec 32) (w : World) (h : ¬ (n ≤ 300 ∧ 0 ≤ cut ∧ cut ≤ n ∧ 0 ≤ first)) :
    Calls Try.prog 9 #[.slice q n c, .int .i64 cut, .int .i64 first, .int .u32 (un bits)] w fun e w' => e = .returned (.bool true) ∧ Ch (fun _ => False) w w' := by
  by_cases h0 : n ≤ 300
  · have i0 : (n : Int) ≤ 300 := by omega
    by_cases h1 : 0 ≤ cut
    · by_cases h2 : cut ≤ n
      · have h3 : first < 0 := by omega
        clear h h0
        go_enter Try.func9, Try.ntmps9
        go_wp2_with (go_at_call 11; refine (works_any _).mono ?_; rintro e w9 ⟨rfl, hw9⟩; have HC9 := Go.Lib.hid hw9; clear hw9)
        go_ret
        exact ⟨rfl, HC9.out⟩
      · have i2 : (n : Int) < cut := by omega
        clear h h0 h2
        go_enter Try.func9, Try.ntmps9
        go_wp2_with (go_at_call 11; refine (works_any _).mono ?_; rintro e w9 ⟨rfl, hw9⟩; have HC9 := Go.Lib.hid hw9; clear hw9)
        go_ret
        exact ⟨rfl, HC9.out⟩
    · have i1 : cut < 0 := by omega
      clear h h0 h1
      go_enter Try.func9, Try.ntmps9
      go_wp2_with (go_at_call 11; refine (works_any _).mono ?_; rintro e w9 ⟨rfl, hw9⟩; have HC9 := Go.Lib.hid hw9; clear hw9)
      go_ret
      exact ⟨rfl, HC9.out⟩
  · have i0 : 300 < (n : Int) := by omega
    clear h h0
    go_enter Try.func9, Try.ntmps9
    go_wp2_with (go_at_call 11; refine (works_any _).mono ?_; rintro e w9 ⟨rfl, hw9⟩; have HC9 := Go.Lib.hid hw9; clear hw9)
    go_ret
    exact ⟨rfl, HC9.out⟩

theorem seal_lit (w : World) (q : Option Addr) (n c : Nat) (f : Nat → UInt8) (hb : BytesAt w q n c f) (hn : n ≤ 100000000000) :
    Calls Try.prog 23 #[.slice (some ⟨w.heap.size, 0, none⟩) 1 1] (w.alloc (.cells #[.slice q n c] 24)) fun e w' => ∃ v, e = .returned v ∧ w'.ownsRow (w.alloc (.cells #[.slice q n c] 24)).heap.size 5 1 v (n + 4) (fL (sealF f n) (n + 4)) ∧ Ch (fun _ => False) w w' := by
  have hal : Ch (fun _ => False) w (w.alloc (.cells #[.slice q n c] 24)) := (Ch.refl _ w).alloc _
  have h := seal_any w.heap.size 0 1 1 (some ⟨w.heap.size, 0, none⟩) (fun _ => q) (fun _ => n) (fun _ => c) (catF (fun _ => n) (fun _ => f) 1) (w.alloc (.cells #[.slice q n c] 24)) (.inl rfl) (parts_cat (F := fun _ => f) (fun i hi => by
    have hi0 : i = 0 := by omega
    subst hi0
    exact ⟨cell_fresh w _ 24 0, hb.ch hal (fun _ _ h => h)⟩)) (by omega) (by rw [upto_one]; omega)
  rw [upto_one] at h
  have e0 : ∀ j, j < n → catF (fun _ => n) (fun _ => f) 1 j = f j := fun j hj => by
    have := catF_at (fun _ => n) (fun _ => f) 1 0 j (by omega) hj
    rw [show upto (fun _ => n) 0 + j = j by simp [upto]] at this
    exact this
  have e1 : fL (sealF (catF (fun _ => n) (fun _ => f) 1) n) (n + 4) = fL (sealF f n) (n + 4) := fL_congr _ (fun j hj => by
    have e2 : sumF (catF (fun _ => n) (fun _ => f) 1) n = sumF f n := by unfold sumF; rw [cw_congr _ _ e0]
    unfold sealF
    rw [e2]
    by_cases h : j < n
    · rw [if_pos h, if_pos h, e0 j h]
    · rw [if_neg h, if_neg h])
  rw [e1] at h
  exact h.mono (fun e w' ⟨v, h1, h2, h3⟩ => ⟨v, h1, h2, hal.trans h3⟩)
set_option maxRecDepth 100000 in
set_option maxHeartbeats 4000000 in
theorem bursts_in (q : Option Addr) (n c k first : Nat) (f : Nat → UInt8) (bits : BitVec 32) (w : World) (hb : BytesAt w q n c f) (hc : n ≤ c) (hn : n ≤ 300) (hk : k ≤ n) (hf : first ≤ 9223372036854775807) :
    Calls Try.prog 9 #[.slice q n c, .int .i64 (k : Int), .int .i64 (first : Int), .int .u32 (un bits)] w fun e w' => e = .returned (.bool true) ∧ Ch (fun _ => False) w w' := by
  obtain ⟨ti, hi, hz0, hz1, hz2⟩ := info_parts info5
  have HB := Go.Lib.hid hb
  have hbf := hb.from hc hk
  have HST := Go.Lib.hid (fun w => slice_to q n c k (by omega) w)
  have HSF := Go.Lib.hid (fun w => slice_from q n c k hk hc w)
  generalize (if c = k then q else q.map (·.add k)) = qc at *
  have HBF := Go.Lib.hid hbf
  have HBP := Go.Lib.hid (hb.short hk)
  have H2 := Go.Lib.hid (fun g w' (h : Ch (fun _ => False) w w') (hh : w'.heap[g]? = some (.cells #[.slice q k c, .slice qc (n - k) (c - k)] 24)) => sum2 g q qc k c (n - k) (c - k) f (fun j => f (k + j)) w' (cell_of_heap hh 0) (cell_of_heap hh 1) (HBP.out.ch h (fun _ _ h => h)) (HBF.out.ch h (fun _ _ h => h)) (by omega) (by omega))
  have H1 := Go.Lib.hid (fun g w' (h : Ch (fun _ => False) w w') (hh : w'.heap[g]? = some (.cells #[.slice q n c] 24)) => sum1 g q n c f w' (cell_of_heap hh 0) (HB.out.ch h (fun _ _ h => h)) (by omega))
  have HP := Go.Lib.hid (fun g w' (h : Ch (fun _ => False) w w') (hh : w'.heap[g]? = some (.cells #[.slice q k c] 24)) => sum1 g q k c f w' (cell_of_heap hh 0) (HBP.out.ch h (fun _ _ h => h)) (by omega))
  have HM := Go.Lib.hid (fun g w' (h : Ch (fun _ => False) w w') (hh : w'.heap[g]? = some (.cells #[.slice qc (n - k) (c - k)] 24)) => more1 g qc (n - k) (c - k) (fun j => f (k + j)) (~~~(cw1 f k)) w' (cell_of_heap hh 0) (HBF.out.ch h (fun _ _ h => h)) (by omega))
  have e1 : cw (cw1 f k) (fun j => f (k + j)) (n - k) = cw1 f n := by
    unfold cw1
    rw [← cw_app, show k + (n - k) = n by omega]
  rw [e1] at H2
  rw [BitVec.not_not, e1] at HM
  have HSU := Go.Lib.hid (burst_sum f n first bits)
  have HBO := Go.Lib.hid (burst_open f n first bits)
  have HSM := Go.Lib.hid (fun (h : trn bits first (n + 4) 32 = false) l (hl : l < n) => burst_same f n first bits h l hl)
  generalize hX : ~~~(cw1 f n) = X at *
  have HX := Go.Lib.hid hX
  generalize ~~~(cw1 f k) = Y at *
  clear hb hbf e1 hX
  have i0 : (n : Int) ≤ 300 := by omega
  have i1 : (k : Int) ≤ (n : Int) := by omega
  go_enter Try.func9, Try.ntmps9
  go_upto_region 3 with (fail)
  refine wp_region_any (by kernel_rfl) ?_
  generalize hwx : ({ w with drawn := w.drawn + 1 } : World) = wx
  have HWX := Go.Lib.hid (show Ch (fun _ => False) w wx by rw [← hwx]; exact (Ch.refl _ _).drew)
  clear hwx
  generalize hax : Act.mk _ _ = ax
  have HSZ := Go.Lib.hid (show ax.tmps.size = 156 by rw [← hax]; rfl)
  have F0 := Go.Lib.hid (show gt ax 0 = .slice q n c by rw [← hax]; rfl)
  have F1 := Go.Lib.hid (show gt ax 1 = .int .i64 (k : Int) by rw [← hax]; rfl)
  have HAX := Go.Lib.hid hax
  clear hax
  have HND := Go.Lib.hid (show ([35, 36, 37, 38, 39, 40, 41, 42, 43, 44, 45, 46, 47, 48, 49, 50, 51, 52, 53, 54, 55, 56, 57, 58, 59, 60, 61, 62] : List Nat).Nodup by decide)
  have HLS : Hid (Lasts [(35, fun x _ => x = .slice q n c), (36, fun x _ => x = .int .i64 (k : Int)), (37, fun x _ => x = .slice q k c), (38, fun x _ => x = .slice q n c), (39, fun x _ => x = .int .i64 (k : Int)), (40, fun x _ => x = .slice qc (n - k) (c - k)), (41, fun x v => ∃ g, x = .slice (some ⟨g, 0, none⟩) 2 2 ∧ v.heap[g]? = some (.cells #[.slice q k c, .slice qc (n - k) (c - k)] 24)), (42, fun x _ => x = .int .u32 (un X)), (43, fun x _ => x = .slice q n c), (44, fun x v => ∃ g, x = .slice (some ⟨g, 0, none⟩) 1 1 ∧ v.heap[g]? = some (.cells #[.slice q n c] 24)), (45, fun x _ => x = .int .u32 (un X)), (46, fun x _ => x = .bool false), (47, fun x _ => x = .bool false), (48, fun x _ => x = .slice q n c), (49, fun x _ => x = .int .i64 (k : Int)), (50, fun x _ => x = .slice q k c), (51, fun x v => ∃ g, x = .slice (some ⟨g, 0, none⟩) 1 1 ∧ v.heap[g]? = some (.cells #[.slice q k c] 24)), (52, fun x _ => x = .int .u32 (un Y)), (53, fun x _ => x = .slice q n c), (54, fun x _ => x = .int .i64 (k : Int)), (55, fun x _ => x = .slice qc (n - k) (c - k)), (56, fun x v => ∃ g, x = .slice (some ⟨g, 0, none⟩) 1 1 ∧ v.heap[g]? = some (.cells #[.slice qc (n - k) (c - k)] 24)), (57, fun x _ => x = .int .u32 (un X)), (58, fun x _ => x = .slice q n c), (59, fun x v => ∃ g, x = .slice (some ⟨g, 0, none⟩) 1 1 ∧ v.heap[g]? = some (.cells #[.slice q n c] 24)), (60, fun x _ => x = .int .u32 (un X)), (61, fun x _ => x = .bool false), (62, fun x _ => x = .bool false)]) := Go.Lib.hid (by
    intro p hp v w1 w2 hc h
    simp only [List.mem_cons, List.not_mem_nil, or_false] at hp
    rcases hp with rfl | rfl | rfl | rfl | rfl | rfl | rfl | rfl | rfl | rfl | rfl | rfl | rfl | rfl | rfl | rfl | rfl | rfl | rfl | rfl | rfl | rfl | rfl | rfl | rfl | rfl | rfl | rfl
    all_goals first | exact h | (obtain ⟨g, h1, h2⟩ := h; exact ⟨g, h1, hc.heap h2 id⟩) | (obtain ⟨g, c, h1, h2⟩ := h; exact ⟨g, c, h1, h2.ch hc (fun _ _ h => h)⟩))
  refine wpAny_inv (InvP 156 [(35, fun x _ => x = .slice q n c), (36, fun x _ => x = .int .i64 (k : Int)), (37, fun x _ => x = .slice q k c), (38, fun x _ => x = .slice q n c), (39, fun x _ => x = .int .i64 (k : Int)), (40, fun x _ => x = .slice qc (n - k) (c - k)), (41, fun x v => ∃ g, x = .slice (some ⟨g, 0, none⟩) 2 2 ∧ v.heap[g]? = some (.cells #[.slice q k c, .slice qc (n - k) (c - k)] 24)), (42, fun x _ => x = .int .u32 (un X)), (43, fun x _ => x = .slice q n c), (44, fun x v => ∃ g, x = .slice (some ⟨g, 0, none⟩) 1 1 ∧ v.heap[g]? = some (.cells #[.slice q n c] 24)), (45, fun x _ => x = .int .u32 (un X)), (46, fun x _ => x = .bool false), (47, fun x _ => x = .bool false), (48, fun x _ => x = .slice q n c), (49, fun x _ => x = .int .i64 (k : Int)), (50, fun x _ => x = .slice q k c), (51, fun x v => ∃ g, x = .slice (some ⟨g, 0, none⟩) 1 1 ∧ v.heap[g]? = some (.cells #[.slice q k c] 24)), (52, fun x _ => x = .int .u32 (un Y)), (53, fun x _ => x = .slice q n c), (54, fun x _ => x = .int .i64 (k : Int)), (55, fun x _ => x = .slice qc (n - k) (c - k)), (56, fun x v => ∃ g, x = .slice (some ⟨g, 0, none⟩) 1 1 ∧ v.heap[g]? = some (.cells #[.slice qc (n - k) (c - k)] 24)), (57, fun x _ => x = .int .u32 (un X)), (58, fun x _ => x = .slice q n c), (59, fun x v => ∃ g, x = .slice (some ⟨g, 0, none⟩) 1 1 ∧ v.heap[g]? = some (.cells #[.slice q n c] 24)), (60, fun x _ => x = .int .u32 (un X)), (61, fun x _ => x = .bool false), (62, fun x _ => x = .bool false)] (fun _ w' => Ch (fun _ => False) wx w') ax) ?_ ?_ _ _ _ _ rfl (by decide) (InvP.start rfl HSZ.out (Ch.refl _ _))
  · intro L a w' i hI hr
    obtain ⟨h1, o, ho, hall⟩ := mem_ready.1 hr
    have hlt : i < 28 := (Array.getElem?_eq_some_iff.1 ho).1
    have hsplit : i = 0 ∨ i = 1 ∨ i = 2 ∨ i = 3 ∨ i = 4 ∨ i = 5 ∨ i = 6 ∨ i = 7 ∨ i = 8 ∨ i = 9 ∨ i = 10 ∨ i = 11 ∨ i = 12 ∨ i = 13 ∨ i = 14 ∨ i = 15 ∨ i = 16 ∨ i = 17 ∨ i = 18 ∨ i = 19 ∨ i = 20 ∨ i = 21 ∨ i = 22 ∨ i = 23 ∨ i = 24 ∨ i = 25 ∨ i = 26 ∨ i = 27 := by omega
    clear hlt h1 hr
    rcases hsplit with rfl | rfl | rfl | rfl | rfl | rfl | rfl | rfl | rfl | rfl | rfl | rfl | rfl | rfl | rfl | rfl | rfl | rfl | rfl | rfl | rfl | rfl | rfl | rfl | rfl | rfl | rfl | rfl
    · have q0 := (hI.fixed 0 (by simp)).trans F0.out
      unfold gt at q0
      clear hall
      refine wpOp_step (o := _) rfl (fun K' hK' => ?_)
      go_simp
      exact hK' _ _ (hI.put 0 rfl (by decide) HND.out HLS.out  (Ch.refl _ _) rfl hI.wld)
    · have q1 := (hI.fixed 1 (by simp)).trans F1.out
      unfold gt at q1
      clear hall
      refine wpOp_step (o := _) rfl (fun K' hK' => ?_)
      go_simp
      exact hK' _ _ (hI.put 1 rfl (by decide) HND.out HLS.out  (Ch.refl _ _) rfl hI.wld)
    · simp at ho
      have e0 : lg L 0 = true := by unfold lg; simpa using hall ⟨0, .data⟩ (by rw [← ho]; simp) rfl
      have f0 : gt a 35 = .slice q n c := hI.val 0 _ rfl e0
      have e1 : lg L 1 = true := by unfold lg; simpa using hall ⟨1, .data⟩ (by rw [← ho]; simp) rfl
      have f1 : gt a 36 = .int .i64 (k : Int) := hI.val 1 _ rfl e1
      have hsl := HST.out w'
      unfold gt at f0 f1
      clear hall
      clear ho
      refine wpOp_step (o := _) rfl (fun K' hK' => ?_)
      go_simp
      exact hK' _ _ (hI.put 2 rfl (by decide) HND.out HLS.out  (Ch.refl _ _) rfl hI.wld)
    · have q0 := (hI.fixed 0 (by simp)).trans F0.out
      unfold gt at q0
      clear hall
      refine wpOp_step (o := _) rfl (fun K' hK' => ?_)
      go_simp
      exact hK' _ _ (hI.put 3 rfl (by decide) HND.out HLS.out  (Ch.refl _ _) rfl hI.wld)
    · have q1 := (hI.fixed 1 (by simp)).trans F1.out
      unfold gt at q1
      clear hall
      refine wpOp_step (o := _) rfl (fun K' hK' => ?_)
      go_simp
      exact hK' _ _ (hI.put 4 rfl (by decide) HND.out HLS.out  (Ch.refl _ _) rfl hI.wld)
    · simp at ho
      have e3 : lg L 3 = true := by unfold lg; simpa using hall ⟨3, .data⟩ (by rw [← ho]; simp) rfl
      have f3 : gt a 38 = .slice q n c := hI.val 3 _ rfl e3
      have e4 : lg L 4 = true := by unfold lg; simpa using hall ⟨4, .data⟩ (by rw [← ho]; simp) rfl
      have f4 : gt a 39 = .int .i64 (k : Int) := hI.val 4 _ rfl e4
      have hsl := HSF.out w'
      unfold gt at f3 f4
      clear hall
      clear ho
      refine wpOp_step (o := _) rfl (fun K' hK' => ?_)
      go_simp
      exact hK' _ _ (hI.put 5 rfl (by decide) HND.out HLS.out  (Ch.refl _ _) rfl hI.wld)
    · simp at ho
      have e2 : lg L 2 = true := by unfold lg; simpa using hall ⟨2, .data⟩ (by rw [← ho]; simp) rfl
      have f2 : gt a 37 = .slice q k c := hI.val 2 _ rfl e2
      have e5 : lg L 5 = true := by unfold lg; simpa using hall ⟨5, .data⟩ (by rw [← ho]; simp) rfl
      have f5 : gt a 40 = .slice qc (n - k) (c - k) := hI.val 5 _ rfl e5
      unfold gt at f2 f5
      clear hall
      clear ho
      refine wpOp_step (o := _) rfl (fun K' hK' => ?_)
      go_simp
      exact hK' _ _ (hI.put 6 rfl (by decide) HND.out HLS.out  ((Ch.refl _ _).alloc _) ⟨_, rfl, World.alloc_heap_new w' _⟩ (hI.wld.alloc _))
    · simp at ho
      have e6 : lg L 6 = true := by unfold lg; simpa using hall ⟨6, .data⟩ (by rw [← ho]; simp) rfl
      obtain ⟨g6, f6, hh6⟩ : ∃ g, gt a 41 = .slice (some ⟨g, 0, none⟩) 2 2 ∧ w'.heap[g]? = some (.cells #[.slice q k c, .slice qc (n - k) (c - k)] 24) := hI.val 6 _ rfl e6
      unfold gt at f6
      clear hall
      clear ho
      have HCT := Go.Lib.hid (H2.out g6 w' (HWX.out.trans hI.wld) hh6)
      refine wpOp_step (o := _) rfl (fun K' hK' => ?_)
      go_simp
      refine HCT.out.mono ?_
      rintro e w3 ⟨rfl, hc⟩
      exact hK' _ _ (hI.put 7 rfl (by decide) HND.out HLS.out  hc rfl (hI.wld.trans hc))
    · have q0 := (hI.fixed 0 (by simp)).trans F0.out
      unfold gt at q0
      clear hall
      refine wpOp_step (o := _) rfl (fun K' hK' => ?_)
      go_simp
      exact hK' _ _ (hI.put 8 rfl (by decide) HND.out HLS.out  (Ch.refl _ _) rfl hI.wld)
    · simp at ho
      have e8 : lg L 8 = true := by unfold lg; simpa using hall ⟨8, .data⟩ (by rw [← ho]; simp) rfl
      have f8 : gt a 43 = .slice q n c := hI.val 8 _ rfl e8
      unfold gt at f8
      clear hall
      clear ho
      refine wpOp_step (o := _) rfl (fun K' hK' => ?_)
      go_simp
      exact hK' _ _ (hI.put 9 rfl (by decide) HND.out HLS.out  ((Ch.refl _ _).alloc _) ⟨_, rfl, World.alloc_heap_new w' _⟩ (hI.wld.alloc _))
    · simp at ho
      have e9 : lg L 9 = true := by unfold lg; simpa using hall ⟨9, .data⟩ (by rw [← ho]; simp) rfl
      obtain ⟨g9, f9, hh9⟩ : ∃ g, gt a 44 = .slice (some ⟨g, 0, none⟩) 1 1 ∧ w'.heap[g]? = some (.cells #[.slice q n c] 24) := hI.val 9 _ rfl e9
      unfold gt at f9
      clear hall
      clear ho
      have HCT := Go.Lib.hid (H1.out g9 w' (HWX.out.trans hI.wld) hh9)
      refine wpOp_step (o := _) rfl (fun K' hK' => ?_)
      go_simp
      refine HCT.out.mono ?_
      rintro e w3 ⟨rfl, hc⟩
      exact hK' _ _ (hI.put 10 rfl (by decide) HND.out HLS.out  hc rfl (hI.wld.trans hc))
    · simp at ho
      have e7 : lg L 7 = true := by unfold lg; simpa using hall ⟨7, .data⟩ (by rw [← ho]; simp) rfl
      have f7 : gt a 42 = .int .u32 (un X) := hI.val 7 _ rfl e7
      have e10 : lg L 10 = true := by unfold lg; simpa using hall ⟨10, .data⟩ (by rw [← ho]; simp) rfl
      have f10 : gt a 45 = .int .u32 (un X) := hI.val 10 _ rfl e10
      unfold gt at f7 f10
      clear hall
      clear ho
      refine wpOp_step (o := _) rfl (fun K' hK' => ?_)
      go_simp
      exact hK' _ _ (hI.put 11 rfl (by decide) HND.out HLS.out  (Ch.refl _ _) rfl hI.wld)
    · simp at ho
      have e11 : lg L 11 = true := by unfold lg; simpa using hall ⟨11, .data⟩ (by rw [← ho]; simp) rfl
      have f11 : gt a 46 = .bool false := hI.val 11 _ rfl e11
      unfold gt at f11
      clear hall
      clear ho
      refine wpOp_step (o := _) rfl (fun K' hK' => ?_)
      go_simp
      exact hK' _ _ (hI.put 12 rfl (by decide) HND.out HLS.out  (Ch.refl _ _) rfl hI.wld)
    · simp at ho
      have q0 := (hI.fixed 0 (by simp)).trans F0.out
      have eg : lg L 12 = true := by unfold lg; simpa using hall ⟨12, .guard⟩ (by rw [← ho]; simp) rfl
      have fg0 : gt a 47 = .bool false := hI.val 12 _ rfl eg
      have fg := guard_of fg0 (by rw [hI.size]; decide)
      clear eg fg0
      unfold gt at q0
      clear hall
      clear ho
      refine wpOp_step (o := _) rfl (fun K' hK' => ?_)
      go_simp
      exact hK' _ _ (hI.put 13 rfl (by decide) HND.out HLS.out  (Ch.refl _ _) rfl hI.wld)
    · simp at ho
      have q1 := (hI.fixed 1 (by simp)).trans F1.out
      have eg : lg L 12 = true := by unfold lg; simpa using hall ⟨12, .guard⟩ (by rw [← ho]; simp) rfl
      have fg0 : gt a 47 = .bool false := hI.val 12 _ rfl eg
      have fg := guard_of fg0 (by rw [hI.size]; decide)
      clear eg fg0
      unfold gt at q1
      clear hall
      clear ho
      refine wpOp_step (o := _) rfl (fun K' hK' => ?_)
      go_simp
      exact hK' _ _ (hI.put 14 rfl (by decide) HND.out HLS.out  (Ch.refl _ _) rfl hI.wld)
    · simp at ho
      have e13 : lg L 13 = true := by unfold lg; simpa using hall ⟨13, .data⟩ (by rw [← ho]; simp) rfl
      have f13 : gt a 48 = .slice q n c := hI.val 13 _ rfl e13
      have e14 : lg L 14 = true := by unfold lg; simpa using hall ⟨14, .data⟩ (by rw [← ho]; simp) rfl
      have f14 : gt a 49 = .int .i64 (k : Int) := hI.val 14 _ rfl e14
      have eg : lg L 12 = true := by unfold lg; simpa using hall ⟨12, .guard⟩ (by rw [← ho]; simp) rfl
      have fg0 : gt a 47 = .bool false := hI.val 12 _ rfl eg
      have fg := guard_of fg0 (by rw [hI.size]; decide)
      clear eg fg0
      have hsl := HST.out w'
      unfold gt at f13 f14
      clear hall
      clear ho
      refine wpOp_step (o := _) rfl (fun K' hK' => ?_)
      go_simp
      exact hK' _ _ (hI.put 15 rfl (by decide) HND.out HLS.out  (Ch.refl _ _) rfl hI.wld)
    · simp at ho
      have e15 : lg L 15 = true := by unfold lg; simpa using hall ⟨15, .data⟩ (by rw [← ho]; simp) rfl
      have f15 : gt a 50 = .slice q k c := hI.val 15 _ rfl e15
      have eg : lg L 12 = true := by unfold lg; simpa using hall ⟨12, .guard⟩ (by rw [← ho]; simp) rfl
      have fg0 : gt a 47 = .bool false := hI.val 12 _ rfl eg
      have fg := guard_of fg0 (by rw [hI.size]; decide)
      clear eg fg0
      unfold gt at f15
      clear hall
      clear ho
      refine wpOp_step (o := _) rfl (fun K' hK' => ?_)
      go_simp
      exact hK' _ _ (hI.put 16 rfl (by decide) HND.out HLS.out  ((Ch.refl _ _).alloc _) ⟨_, rfl, World.alloc_heap_new w' _⟩ (hI.wld.alloc _))
    · simp at ho
      have e16 : lg L 16 = true := by unfold lg; simpa using hall ⟨16, .data⟩ (by rw [← ho]; simp) rfl
      obtain ⟨g16, f16, hh16⟩ : ∃ g, gt a 51 = .slice (some ⟨g, 0, none⟩) 1 1 ∧ w'.heap[g]? = some (.cells #[.slice q k c] 24) := hI.val 16 _ rfl e16
      have eg : lg L 12 = true := by unfold lg; simpa using hall ⟨12, .guard⟩ (by rw [← ho]; simp) rfl
      have fg0 : gt a 47 = .bool false := hI.val 12 _ rfl eg
      have fg := guard_of fg0 (by rw [hI.size]; decide)
      clear eg fg0
      unfold gt at f16
      clear hall
      clear ho
      have HCT := Go.Lib.hid (HP.out g16 w' (HWX.out.trans hI.wld) hh16)
      refine wpOp_step (o := _) rfl (fun K' hK' => ?_)
      go_simp
      refine HCT.out.mono ?_
      rintro e w3 ⟨rfl, hc⟩
      exact hK' _ _ (hI.put 17 rfl (by decide) HND.out HLS.out  hc rfl (hI.wld.trans hc))
    · simp at ho
      have q0 := (hI.fixed 0 (by simp)).trans F0.out
      have eg : lg L 12 = true := by unfold lg; simpa using hall ⟨12, .guard⟩ (by rw [← ho]; simp) rfl
      have fg0 : gt a 47 = .bool false := hI.val 12 _ rfl eg
      have fg := guard_of fg0 (by rw [hI.size]; decide)
      clear eg fg0
      unfold gt at q0
      clear hall
      clear ho
      refine wpOp_step (o := _) rfl (fun K' hK' => ?_)
      go_simp
      exact hK' _ _ (hI.put 18 rfl (by decide) HND.out HLS.out  (Ch.refl _ _) rfl hI.wld)
    · simp at ho
      have q1 := (hI.fixed 1 (by simp)).trans F1.out
      have eg : lg L 12 = true := by unfold lg; simpa using hall ⟨12, .guard⟩ (by rw [← ho]; simp) rfl
      have fg0 : gt a 47 = .bool false := hI.val 12 _ rfl eg
      have fg := guard_of fg0 (by rw [hI.size]; decide)
      clear eg fg0
      unfold gt at q1
      clear hall
      clear ho
      refine wpOp_step (o := _) rfl (fun K' hK' => ?_)
      go_simp
      exact hK' _ _ (hI.put 19 rfl (by decide) HND.out HLS.out  (Ch.refl _ _) rfl hI.wld)
    · simp at ho
      have e18 : lg L 18 = true := by unfold lg; simpa using hall ⟨18, .data⟩ (by rw [← ho]; simp) rfl
      have f18 : gt a 53 = .slice q n c := hI.val 18 _ rfl e18
      have e19 : lg L 19 = true := by unfold lg; simpa using hall ⟨19, .data⟩ (by rw [← ho]; simp) rfl
      have f19 : gt a 54 = .int .i64 (k : Int) := hI.val 19 _ rfl e19
      have eg : lg L 12 = true := by unfold lg; simpa using hall ⟨12, .guard⟩ (by rw [← ho]; simp) rfl
      have fg0 : gt a 47 = .bool false := hI.val 12 _ rfl eg
      have fg := guard_of fg0 (by rw [hI.size]; decide)
      clear eg fg0
      have hsl := HSF.out w'
      unfold gt at f18 f19
      clear hall
      clear ho
      refine wpOp_step (o := _) rfl (fun K' hK' => ?_)
      go_simp
      exact hK' _ _ (hI.put 20 rfl (by decide) HND.out HLS.out  (Ch.refl _ _) rfl hI.wld)
    · simp at ho
      have e20 : lg L 20 = true := by unfold lg; simpa using hall ⟨20, .data⟩ (by rw [← ho]; simp) rfl
      have f20 : gt a 55 = .slice qc (n - k) (c - k) := hI.val 20 _ rfl e20
      have eg : lg L 12 = true := by unfold lg; simpa using hall ⟨12, .guard⟩ (by rw [← ho]; simp) rfl
      have fg0 : gt a 47 = .bool false := hI.val 12 _ rfl eg
      have fg := guard_of fg0 (by rw [hI.size]; decide)
      clear eg fg0
      unfold gt at f20
      clear hall
      clear ho
      refine wpOp_step (o := _) rfl (fun K' hK' => ?_)
      go_simp
      exact hK' _ _ (hI.put 21 rfl (by decide) HND.out HLS.out  ((Ch.refl _ _).alloc _) ⟨_, rfl, World.alloc_heap_new w' _⟩ (hI.wld.alloc _))
    · simp at ho
      have e17 : lg L 17 = true := by unfold lg; simpa using hall ⟨17, .data⟩ (by rw [← ho]; simp) rfl
      have f17 : gt a 52 = .int .u32 (un Y) := hI.val 17 _ rfl e17
      have e21 : lg L 21 = true := by unfold lg; simpa using hall ⟨21, .data⟩ (by rw [← ho]; simp) rfl
      obtain ⟨g21, f21, hh21⟩ : ∃ g, gt a 56 = .slice (some ⟨g, 0, none⟩) 1 1 ∧ w'.heap[g]? = some (.cells #[.slice qc (n - k) (c - k)] 24) := hI.val 21 _ rfl e21
      have eg : lg L 12 = true := by unfold lg; simpa using hall ⟨12, .guard⟩ (by rw [← ho]; simp) rfl
      have fg0 : gt a 47 = .bool false := hI.val 12 _ rfl eg
      have fg := guard_of fg0 (by rw [hI.size]; decide)
      clear eg fg0
      unfold gt at f17 f21
      clear hall
      clear ho
      have HCT := Go.Lib.hid (HM.out g21 w' (HWX.out.trans hI.wld) hh21)
      refine wpOp_step (o := _) rfl (fun K' hK' => ?_)
      go_simp
      refine HCT.out.mono ?_
      rintro e w3 ⟨rfl, hc⟩
      exact hK' _ _ (hI.put 22 rfl (by decide) HND.out HLS.out  hc rfl (hI.wld.trans hc))
    · simp at ho
      have q0 := (hI.fixed 0 (by simp)).trans F0.out
      have eg : lg L 12 = true := by unfold lg; simpa using hall ⟨12, .guard⟩ (by rw [← ho]; simp) rfl
      have fg0 : gt a 47 = .bool false := hI.val 12 _ rfl eg
      have fg := guard_of fg0 (by rw [hI.size]; decide)
      clear eg fg0
      unfold gt at q0
      clear hall
      clear ho
      refine wpOp_step (o := _) rfl (fun K' hK' => ?_)
      go_simp
      exact hK' _ _ (hI.put 23 rfl (by decide) HND.out HLS.out  (Ch.refl _ _) rfl hI.wld)
    · simp at ho
      have e23 : lg L 23 = true := by unfold lg; simpa using hall ⟨23, .data⟩ (by rw [← ho]; simp) rfl
      have f23 : gt a 58 = .slice q n c := hI.val 23 _ rfl e23
      have eg : lg L 12 = true := by unfold lg; simpa using hall ⟨12, .guard⟩ (by rw [← ho]; simp) rfl
      have fg0 : gt a 47 = .bool false := hI.val 12 _ rfl eg
      have fg := guard_of fg0 (by rw [hI.size]; decide)
      clear eg fg0
      unfold gt at f23
      clear hall
      clear ho
      refine wpOp_step (o := _) rfl (fun K' hK' => ?_)
      go_simp
      exact hK' _ _ (hI.put 24 rfl (by decide) HND.out HLS.out  ((Ch.refl _ _).alloc _) ⟨_, rfl, World.alloc_heap_new w' _⟩ (hI.wld.alloc _))
    · simp at ho
      have e24 : lg L 24 = true := by unfold lg; simpa using hall ⟨24, .data⟩ (by rw [← ho]; simp) rfl
      obtain ⟨g24, f24, hh24⟩ : ∃ g, gt a 59 = .slice (some ⟨g, 0, none⟩) 1 1 ∧ w'.heap[g]? = some (.cells #[.slice q n c] 24) := hI.val 24 _ rfl e24
      have eg : lg L 12 = true := by unfold lg; simpa using hall ⟨12, .guard⟩ (by rw [← ho]; simp) rfl
      have fg0 : gt a 47 = .bool false := hI.val 12 _ rfl eg
      have fg := guard_of fg0 (by rw [hI.size]; decide)
      clear eg fg0
      unfold gt at f24
      clear hall
      clear ho
      have HCT := Go.Lib.hid (H1.out g24 w' (HWX.out.trans hI.wld) hh24)
      refine wpOp_step (o := _) rfl (fun K' hK' => ?_)
      go_simp
      refine HCT.out.mono ?_
      rintro e w3 ⟨rfl, hc⟩
      exact hK' _ _ (hI.put 25 rfl (by decide) HND.out HLS.out  hc rfl (hI.wld.trans hc))
    · simp at ho
      have e22 : lg L 22 = true := by unfold lg; simpa using hall ⟨22, .data⟩ (by rw [← ho]; simp) rfl
      have f22 : gt a 57 = .int .u32 (un X) := hI.val 22 _ rfl e22
      have e25 : lg L 25 = true := by unfold lg; simpa using hall ⟨25, .data⟩ (by rw [← ho]; simp) rfl
      have f25 : gt a 60 = .int .u32 (un X) := hI.val 25 _ rfl e25
      have eg : lg L 12 = true := by unfold lg; simpa using hall ⟨12, .guard⟩ (by rw [← ho]; simp) rfl
      have fg0 : gt a 47 = .bool false := hI.val 12 _ rfl eg
      have fg := guard_of fg0 (by rw [hI.size]; decide)
      clear eg fg0
      unfold gt at f22 f25
      clear hall
      clear ho
      refine wpOp_step (o := _) rfl (fun K' hK' => ?_)
      go_simp
      exact hK' _ _ (hI.put 26 rfl (by decide) HND.out HLS.out  (Ch.refl _ _) rfl hI.wld)
    · simp at ho
      have e12 : lg L 12 = true := by unfold lg; simpa using hall ⟨12, .data⟩ (by rw [← ho]; simp) rfl
      have f12 : gt a 47 = .bool false := hI.val 12 _ rfl e12
      have e26 : lg L 26 = true := by unfold lg; simpa using hall ⟨26, .data⟩ (by rw [← ho]; simp) rfl
      have f26 : gt a 61 = .bool false := hI.val 26 _ rfl e26
      unfold gt at f12 f26
      clear hall
      clear ho
      refine wpOp_step (o := _) rfl (fun K' hK' => ?_)
      go_simp
      exact hK' _ _ (hI.put 27 rfl (by decide) HND.out HLS.out  (Ch.refl _ _) rfl hI.wld)
  · intro L a w' hI hr
    have hal := all_listed' (md := .any) (by kernel_rfl) hI.lsize hr
    have hfr := hI.frame HSZ.out (by simp) (fun i hi => hal i hi)
    have k0 : gt a 35 = .slice q n c := hI.val 0 _ rfl (hal 0 (by decide))
    have k1 : gt a 36 = .int .i64 (k : Int) := hI.val 1 _ rfl (hal 1 (by decide))
    have k2 : gt a 37 = .slice q k c := hI.val 2 _ rfl (hal 2 (by decide))
    have k3 : gt a 38 = .slice q n c := hI.val 3 _ rfl (hal 3 (by decide))
    have k4 : gt a 39 = .int .i64 (k : Int) := hI.val 4 _ rfl (hal 4 (by decide))
    have k5 : gt a 40 = .slice qc (n - k) (c - k) := hI.val 5 _ rfl (hal 5 (by decide))
    obtain ⟨g6, k6, _⟩ : ∃ g, gt a 41 = .slice (some ⟨g, 0, none⟩) 2 2 ∧ w'.heap[g]? = some (.cells #[.slice q k c, .slice qc (n - k) (c - k)] 24) := hI.val 6 _ rfl (hal 6 (by decide))
    have k7 : gt a 42 = .int .u32 (un X) := hI.val 7 _ rfl (hal 7 (by decide))
    have k8 : gt a 43 = .slice q n c := hI.val 8 _ rfl (hal 8 (by decide))
    obtain ⟨g9, k9, _⟩ : ∃ g, gt a 44 = .slice (some ⟨g, 0, none⟩) 1 1 ∧ w'.heap[g]? = some (.cells #[.slice q n c] 24) := hI.val 9 _ rfl (hal 9 (by decide))
    have k10 : gt a 45 = .int .u32 (un X) := hI.val 10 _ rfl (hal 10 (by decide))
    have k11 : gt a 46 = .bool false := hI.val 11 _ rfl (hal 11 (by decide))
    have k12 : gt a 47 = .bool false := hI.val 12 _ rfl (hal 12 (by decide))
    have k13 : gt a 48 = .slice q n c := hI.val 13 _ rfl (hal 13 (by decide))
    have k14 : gt a 49 = .int .i64 (k : Int) := hI.val 14 _ rfl (hal 14 (by decide))
    have k15 : gt a 50 = .slice q k c := hI.val 15 _ rfl (hal 15 (by decide))
    obtain ⟨g16, k16, _⟩ : ∃ g, gt a 51 = .slice (some ⟨g, 0, none⟩) 1 1 ∧ w'.heap[g]? = some (.cells #[.slice q k c] 24) := hI.val 16 _ rfl (hal 16 (by decide))
    have k17 : gt a 52 = .int .u32 (un Y) := hI.val 17 _ rfl (hal 17 (by decide))
    have k18 : gt a 53 = .slice q n c := hI.val 18 _ rfl (hal 18 (by decide))
    have k19 : gt a 54 = .int .i64 (k : Int) := hI.val 19 _ rfl (hal 19 (by decide))
    have k20 : gt a 55 = .slice qc (n - k) (c - k) := hI.val 20 _ rfl (hal 20 (by decide))
    obtain ⟨g21, k21, _⟩ : ∃ g, gt a 56 = .slice (some ⟨g, 0, none⟩) 1 1 ∧ w'.heap[g]? = some (.cells #[.slice qc (n - k) (c - k)] 24) := hI.val 21 _ rfl (hal 21 (by decide))
    have k22 : gt a 57 = .int .u32 (un X) := hI.val 22 _ rfl (hal 22 (by decide))
    have k23 : gt a 58 = .slice q n c := hI.val 23 _ rfl (hal 23 (by decide))
    obtain ⟨g24, k24, _⟩ : ∃ g, gt a 59 = .slice (some ⟨g, 0, none⟩) 1 1 ∧ w'.heap[g]? = some (.cells #[.slice q n c] 24) := hI.val 24 _ rfl (hal 24 (by decide))
    have k25 : gt a 60 = .int .u32 (un X) := hI.val 25 _ rfl (hal 25 (by decide))
    have k26 : gt a 61 = .bool false := hI.val 26 _ rfl (hal 26 (by decide))
    have k27 : gt a 62 = .bool false := hI.val 27 _ rfl (hal 27 (by decide))
    rw [hfr, ← HAX.out]
    have HCZ := Go.Lib.hid (HWX.out.trans hI.wld)
    simp only [List.map_cons, List.map_nil, List.foldl_cons, List.foldl_nil, k0, k1, k2, k3, k4, k5, k6, k7, k8, k9, k10, k11, k12, k13, k14, k15, k16, k17, k18, k19, k20, k21, k22, k23, k24, k25, k26, k27, List.setIfInBounds_toArray, List.set_cons_succ, List.set_cons_zero]
    clear hfr hI hr hal k0 k1 k2 k3 k4 k5 k6 k7 k8 k9 k10 k11 k12 k13 k14 k15 k16 k17 k18 k19 k20 k21 k22 k23 k24 k25 k26 k27
    clear H2 HP HM HST HSF HBF HBP HLS HND F0 F1 HSZ HAX
    go_wp2_with fail
    have hsl := seal_lit w' q n c f (HB.out.ch HCZ.out (fun _ _ h => h)) (by omega)
    have HSE := Go.Lib.hid hsl
    clear hsl
    refine HSE.out.mono ?_
    rintro e w2 ⟨v, rfl, ho, hc2⟩
    obtain ⟨gs, cs, cus, rfl, _, hgs, hcs, htk⟩ := own_pos ho (by omega)
    have hbs : BytesAt w2 (some ⟨gs, 0, none⟩) (n + 4) cs (sealF f n) := .inl ⟨gs, 0, rfl, hcs, (Array.getElem?_eq_some_iff.1 hgs).1, fun j hj => (cell_of_heap hgs _).trans (by
      rw [Nat.zero_add, take_at htk j hj]; simp [fL, hj])⟩
    have HBS := Go.Lib.hid hbs
    have HC2 := Go.Lib.hid (HCZ.out.trans hc2)
    clear ho hgs htk hc2 hbs HSE HCZ
    go_wp2_with (at_builtin; first
      | (refine wpList_append_bytes rfl (.tmp 72) (.tmp 73) rfl w2.heap.size _ _ _ rfl (ownsRow_empty w2 _ (Nat.le_refl _)) (some ⟨gs, 0, none⟩) (n + 4) cs (sealF f n) rfl (HBS.out.ch ((Ch.refl (fun _ => False) w2).alloc _) (fun _ _ h => h)) (by omega) (by simp) ?_
         intro v3 w3 hown3 hgrow3
         rw [Nat.zero_add, List.nil_append] at hown3
         have hc3 : Ch (fun _ => False) w w3 := Ch.grown (HC2.out.alloc _) hgrow3 (fun k hk hlt => by
           have h : some w2.heap.size = some k := hk
           have := HC2.out.size
           cases h; omega)
         obtain ⟨gm, cm, cum, rfl, hgb, hgm, hcm, htm⟩ := own_pos hown3 (by omega)
         have HC3 := Go.Lib.hid hc3; have HGM := Go.Lib.hid hgm
         have HCM := Go.Lib.hid (show ∀ j, j < n + 4 → cum[j]? = some (.int .u8 ((sealF f n j).toNat : Int)) from fun j hj => by rw [take_at htm j hj]; simp [fL, hj])
         have HGB := Go.Lib.hid (show w.heap.size ≤ gm from Nat.le_trans HC2.out.size hgb)
         clear hown3 hgrow3 hc3 hgm htm hgb HBS))
    generalize sealF f n = s at *
    go_loopw [11, 12] (fun t i wr => ∃ (j : Nat) (cu : Array Value), j ≤ 32 ∧ i = .int .i64 j ∧ t = .bool (trn bits first (n + 4) j) ∧ wr.heap[gm]? = some (.cells cu 5) ∧ (∀ l, l < n + 4 → cu[l]? = some (.int .u8 ((mF s bits first (n + 4) j l).toNat : Int))) ∧ Ch (fun _ => False) w wr) (fun _ i _ => 32 - (intOf i).toNat)
    case atStart => exact ⟨0, cum, by omega, rfl, rfl, HGM.out, HCM.out, HC3.out⟩
    case round =>
      clear HGM HCM HC3
      obtain ⟨j, cu, hj, rfl, rfl, hg, hcu, hC⟩ := hrel
      have HG := Go.Lib.hid hg; have HCU := Go.Lib.hid hcu; have HC := Go.Lib.hid hC
      clear hg hcu hC
      by_cases hlt : j < 32
      · have hj31 : (j : Int) ≤ 31 := by omega
        have hbit := bit_beq bits j
        have HT := Go.Lib.hid (show trn bits first (n + 4) (j + 1) = (trn bits first (n + 4) j || cnd bits first (n + 4) j) from rfl)
        have HMF := Go.Lib.hid (show mF s bits first (n + 4) (j + 1) = if cnd bits first (n + 4) j then flip (mF s bits first (n + 4) j) ((first + j) / 8) ((first + j) % 8) else mF s bits first (n + 4) j from rfl)
        generalize trn bits first (n + 4) j = tr at *
        generalize mF s bits first (n + 4) j = mf at *
        by_cases hcd : cnd bits first (n + 4) j = true
        · rw [hcd] at HT HMF
          rw [if_pos rfl] at HMF
          have hbt : bits.getLsbD j = true := by unfold cnd at hcd; simp at hcd; exact hcd.1
          have hfl : first + j < 8 * (n + 4) := by unfold cnd at hcd; simp at hcd; omega
          rw [hbt] at hbit
          clear hcd
          have hcd1 : (first : Int) < 8 * ((n : Int) + 4) - (j : Int) := by omega
          have hps : IntKind.i64.wrap ((first : Int) + (j : Int)) = (first : Int) + (j : Int) := by rw [IntKind.wrap_i64]; omega
          have hpd : ((first : Int) + (j : Int)).tdiv 8 = ((first : Int) + (j : Int)) / 8 := Int.tdiv_eq_ediv_of_nonneg (by omega)
          have hpq : IntKind.i64.wrap (((first : Int) + (j : Int)) / 8) = ((first : Int) + (j : Int)) / 8 := by rw [IntKind.wrap_i64]; omega
          have hpk : (((first : Int) + (j : Int)) / 8).toNat = (first + j) / 8 := by omega
          have hpl : 0 ≤ ((first : Int) + (j : Int)) / 8 := by omega
          have hpg : ((first : Int) + (j : Int)) / 8 < (n : Int) + 4 := by omega
          have hpm : ((first : Int) + (j : Int)).tmod 8 = ((first : Int) + (j : Int)) % 8 := Int.tmod_eq_emod_of_nonneg (by omega)
          have hp0 : 0 ≤ ((first : Int) + (j : Int)) % 8 := by omega
          have hp7 : ((first : Int) + (j : Int)) % 8 ≤ 7 := by omega
          have hpt : (((first : Int) + (j : Int)) % 8).toNat = (first + j) % 8 := by omega
          have hcl : wr.cell? ⟨gm, (first + j) / 8, none⟩ = some (.int .u8 ((mf ((first + j) / 8)).toNat : Int)) := (cell_of_heap HG.out _).trans (HCU.out _ (by omega))
          have hfz : ∀ (m : Nat), (wr.drewN m).frozen? ⟨gm, (first + j) / 8, none⟩ = false := fun m => frozen_of_heap (w := wr) HG.out _
          have hcz : ∀ (m : Nat), (wr.drewN m).cell? ⟨gm, (first + j) / 8, none⟩ = some (.int .u8 ((mf ((first + j) / 8)).toNat : Int)) := fun m => hcl
          go_upto_region 14 with (fail)
          refine wp_region_quiet_tail 14 (by kernel_rfl) (by kernel_rfl) ?_
          simp only [List.take_succ_cons, List.take_zero, List.drop_succ_cons, List.drop_zero]
          repeat (quiet_step (fail))
          refine wpQuiet_nil ?_
          intro _ hw'
          obtain ⟨q1, rfl⟩ := hw'
          have hfq := hfz q1
          have hcq := hcz q1
          have HG2 := Go.Lib.hid (show (wr.drewN q1).heap[gm]? = some (.cells cu 5) from HG.out)
          have HC4 := Go.Lib.hid (HC.out.drewN q1)
          clear hfz hcz hps hpd hpq hpk hpl hpg hpm hp0 hp7 hpt hcl
          go_wp2_with fail
          go_roundw
          case rel =>
            refine ⟨j + 1, _, by omega, by go_num, by rw [HT.out]; simp, heap_setC HG2.out _ _, fun l hl => ?_, Ch.setCell (S := fun _ => False) HC4.out (p := ⟨gm, (first + j) / 8, none⟩) (fun hlt => by have := HGB.out; simp at hlt; omega) _⟩
            rw [Array.getElem?_setIfInBounds, HMF.out]
            unfold flip
            by_cases e : (first + j) / 8 = l
            · subst e
              have hsz : (first + j) / 8 < cu.size := (Array.getElem?_eq_some_iff.1 (HCU.out _ hl)).1
              rw [if_pos rfl, if_pos hsz, if_pos rfl, UInt8.toNat_xor]
            · rw [if_neg e, if_neg (Ne.symm e)]
              exact HCU.out l hl
          case measure => simp [intOf]; omega
        · have hcf : cnd bits first (n + 4) j = false := by simpa using hcd
          rw [hcf] at HT HMF
          rw [if_neg (by simp)] at HMF
          cases hbt : bits.getLsbD j with
          | false =>
            rw [hbt] at hbit
            clear hcd hcf
            go_wp2_with fail
            go_roundw
            case rel => exact ⟨j + 1, cu, by omega, by go_num, by rw [HT.out]; simp, HG.out, fun l hl => by rw [HMF.out]; exact HCU.out l hl, HC.out⟩
            case measure => simp [intOf]; omega
          | true =>
            rw [hbt] at hbit
            have hge : ¬ (first + j < 8 * (n + 4)) := by
              intro h
              unfold cnd at hcf
              rw [hbt] at hcf
              simp at hcf
              omega
            have hge2 : 8 * ((n : Int) + 4) - (j : Int) ≤ (first : Int) := by omega
            clear hcd hcf hge
            go_wp2_with fail
            go_roundw
            case rel => exact ⟨j + 1, cu, by omega, by go_num, by rw [HT.out]; simp, HG.out, fun l hl => by rw [HMF.out]; exact HCU.out l hl, HC.out⟩
            case measure => simp [intOf]; omega
      · obtain rfl : j = 32 := by omega
        generalize trn bits first (n + 4) 32 = tr at *
        generalize mF s bits first (n + 4) 32 = mf at *
        have hgmw : gm < wr.heap.size := (Array.getElem?_eq_some_iff.1 HG.out).1
        have hbm : ∀ l, l < n + 4 → wr.cell? ⟨gm, 0 + l, none⟩ = some (.int .u8 ((mf l).toNat : Int)) := fun l hl => (cell_of_heap HG.out _).trans (by rw [Nat.zero_add]; exact HCU.out l hl)
        have HOP := Go.Lib.hid (open_long gm 0 n cm mf wr (by omega) hcm hgmw hbm)
        have HBM := Go.Lib.hid (show BytesAt wr (some ⟨gm, 0, none⟩) n cm mf from .inl ⟨gm, 0, rfl, by omega, hgmw, fun l hl => hbm l (by omega)⟩)
        clear hbm hgmw
        have hsl := fun w => slice_to (some ⟨gm, 0, none⟩) (n + 4) cm n (by omega) w
        have HA1 := Go.Lib.hid (fun g w' (h : Ch (fun _ => False) wr w') (hh : w'.heap[g]? = some (.cells #[.slice (some ⟨gm, 0, none⟩) n cm] 24)) => sum1 g (some ⟨gm, 0, none⟩) n cm mf w' (cell_of_heap hh 0) (HBM.out.ch h (fun _ _ h => h)) (by omega))
        generalize ~~~(cw1 mf n) = A at *
        go_wp2_with fail
        refine HOP.out.mono ?_
        rintro e w5 ⟨hc5, h5⟩
        have HC5 := Go.Lib.hid (HC.out.trans hc5)
        have HR5 := Go.Lib.hid hc5
        have HQ1 := Go.Lib.hid (show ((bS mf n).toList == (bS f n).toList) = (bL mf n == bL f n) by rw [bS_list, bS_list])
        have HQ2 := Go.Lib.hid (show ((bS mf n).toList != (bS f n).toList) = !(bL mf n == bL f n) by rw [bS_list, bS_list]; rfl)
        have HCV1 := Go.Lib.hid (fun w' (h : Ch (fun _ => False) w5 w') => conv_bytes (HBM.out.ch (HR5.out.trans h) (fun _ _ h => h)))
        have HCV2 := Go.Lib.hid (fun w' (h : Ch (fun _ => False) w5 w') => conv_bytes (HB.out.ch (HC5.out.trans h) (fun _ _ h => h)))
        have HTE := Go.Lib.hid (show ∃ (tr2 : Bool) (er : Int) (v : Value), tr = tr2 ∧ e = .returned (.tuple #[v, .int .i64 er]) ∧ ((tr2 = true ∧ er = 130) ∨ (tr2 = false ∧ er = 0 ∧ (convert 24 9 v).run Try.prog w5 = .ok (.string (bS f n)) w5)) from by
          rcases h5 with ⟨hE, rfl⟩ | ⟨hE, h, cur, rfl, _, hh, hcu⟩
          · rw [HBO.out] at hE
            exact ⟨true, 130, _, by simpa using hE, rfl, .inl ⟨rfl, rfl⟩⟩
          · rw [HBO.out] at hE
            have htr : tr = false := by simpa using hE
            refine ⟨false, 0, _, htr, rfl, .inr ⟨rfl, rfl, ?_⟩⟩
            have hbx : BytesAt w5 (some ⟨h, 0, none⟩) n n f := .inl ⟨h, 0, rfl, Nat.le_refl _, (Array.getElem?_eq_some_iff.1 hh).1, fun l hl => (cell_of_heap hh _).trans (by rw [Nat.zero_add, hcu l hl, HSM.out htr l hl])⟩
            exact conv_bytes hbx)
        obtain ⟨tr2, er, v5, rfl, rfl, hcase⟩ := HTE.out
        have HA2 := Go.Lib.hid (fun (h : (bL mf n == bL f n) = false) => HSU.out h)
        generalize (bL mf n == bL f n) = E at *
        generalize bS mf n = SX at *
        generalize bS f n = SB at *
        clear h5 hc5 HTE HOP HBO HSM HC HG HCU
        have hz0 : ((0 : Int) == 0) = true := rfl
        rcases hcase with ⟨rfl, rfl⟩ | ⟨rfl, rfl, hcx⟩
        all_goals
          have hcb := HCV2.out w5 (Ch.refl _ _)
          go_upto_region 20 with (go_at_call 20; refine (num_any _ _).mono ?_; rintro e w' ⟨rfl, rfl⟩)
          clear hcb
          have hcb2 : ∀ m, (convert 24 9 (.slice q n c)).run Try.prog (w5.drewN m) = .ok (.string SB) (w5.drewN m) := fun m => HCV2.out _ ((Ch.refl _ w5).drewN m)
          have hcm2 : ∀ m, (convert 24 9 (.slice (some ⟨gm, 0, none⟩) n cm)).run Try.prog (w5.drewN m) = .ok (.string SX) (w5.drewN m) := fun m => HCV1.out _ ((Ch.refl _ w5).drewN m)
          have hq1 := HQ1.out
          have hq2 := HQ2.out
          go_quiet (fail)
          have HCQ := Go.Lib.hid ((Ch.refl (fun _ => False) w5).drewN nq)
          generalize w5.drewN nq = w6 at *
          clear hcb2 hcm2 hq1 hq2 HCV1 HCV2 HQ1 HQ2
          cases E with
          | true =>
            clear HA2
            go_wp2_with (go_at_call 11; refine (works_any _).mono ?_; rintro e w9 ⟨rfl, hw9⟩; have HC9 := Go.Lib.hid hw9; clear hw9)
            go_ret
            exact ⟨rfl, (HC5.out.trans HCQ.out).trans HC9.out⟩
          | false =>
            have hne : (A == X) = false := by rw [← beq32]; exact HA2.out rfl
            have hne2 : (A != X) = true := by rw [bne, hne]; rfl
            have hne3 : (un A != un X) = true := by rw [bne, beq32, hne]; rfl
            clear HA2
            go_wp2_with fail
            have hca := (HR5.out.trans HCQ.out).alloc (.cells #[.slice (some ⟨gm, 0, none⟩) n cm] 24)
            have hcw := (HC5.out.trans HCQ.out).alloc (.cells #[.slice (some ⟨gm, 0, none⟩) n cm] 24)
            have HS7 := Go.Lib.hid (HA1.out _ _ hca (World.alloc_heap_new w6 _))
            have HCW := Go.Lib.hid hcw
            clear hca hcw
            refine HS7.out.mono ?_
            rintro e w7 ⟨rfl, hc7⟩
            have HC7 := Go.Lib.hid (HCW.out.trans hc7)
            clear hc7 HS7 HCW
            go_wp2_with fail
            have hcw := HC7.out.alloc (.cells #[.slice q n c] 24)
            have HS8 := Go.Lib.hid (H1.out _ _ hcw (World.alloc_heap_new w7 _))
            have HCW := Go.Lib.hid hcw
            clear hcw
            refine HS8.out.mono ?_
            rintro e w8 ⟨rfl, hc8⟩
            have HC8 := Go.Lib.hid (HCW.out.trans hc8)
            clear hc8 HS8 HCW
            go_wp2_with (go_at_call 11; refine (works_any _).mono ?_; rintro e w9 ⟨rfl, hw9⟩; have HC9 := Go.Lib.hid hw9; clear hw9)
            go_ret
            exact ⟨rfl, HC8.out.trans HC9.out⟩
theorem crcBursts_any (q : Option Addr) (n c : Nat) (f : Nat → UInt8) (cut first : Int) (bits : BitVec 32) (w : World) (hb : BytesAt w q n c f) (hc : n ≤ c) (hf : first ≤ 9223372036854775807) :
    Calls Try.prog 9 #[.slice q n c, .int .i64 cut, .int .i64 first, .int .u32 (un bits)] w fun e w' => e = .returned (.bool true) ∧ Ch (fun _ => False) w w' := by
  by_cases h : n ≤ 300 ∧ 0 ≤ cut ∧ cut ≤ n ∧ 0 ≤ first
  · obtain ⟨h1, h2, h3, h4⟩ := h
    obtain ⟨k, rfl⟩ := Int.eq_ofNat_of_zero_le h2
    obtain ⟨fi, rfl⟩ := Int.eq_ofNat_of_zero_le h4
    exact bursts_in q n c k fi f bits w hb hc h1 (by omega) (by omega)
  · exact bursts_out q n c cut first bits w h
end Go.Proofs.Ythbpfgcgfhlmnaa
