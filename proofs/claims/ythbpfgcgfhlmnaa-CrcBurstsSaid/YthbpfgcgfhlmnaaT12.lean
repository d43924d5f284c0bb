/- The reference's far. -/
import Derived.Test.YthbpfgcgfhlmnaaT11
import Derived.Test.YthbpfgcgfhlmnaaRegD
namespace Go.Proofs.Ythbpfgcgfhlmnaa
open Go Go.RowKit
attribute [local go_sem high] b_add b_xor b_and b_or b_shr b_shl not32 wrap_un beq32 neg32 b_and1 b_andC b_rem2 b_quo2 beq_1

theorem b_shl1 (t : TypeId) (yk : IntKind) (n : Int) (h0 : 0 ≤ n) (h : n ≤ 31) : binOp .shl t (.int .u32 1) (.int yk n) = pure (.int .u32 (un (1#32 <<< n.toNat))) := by
  rw [un_1]; exact b_shl t yk _ n h0 h
attribute [local go_sem high] b_shl1
theorem info73 : (Try.prog.info? 73).map (·.size) = some 32 := by kernel_rfl
theorem mrow_info (F : Nat → BitVec 32) : (Try.prog.info? 73).map (·.size) = some (mrow F).size := by rw [mrow_size]; exact info73
theorem mrow_all (F : Nat → BitVec 32) : (mrow F).all (·.oneCell') = true := arr_all _ _ (fun _ _ => rfl)
def z73 : Array Value := arr 32 fun _ => .int .u32 0
/-- A row whose first k words are told. -/
def upR (F : Nat → BitVec 32) (k : Nat) : Array Value := arr 32 fun j => if j < k then wv (F j) else .int .u32 0
theorem upR_0 (F : Nat → BitVec 32) : upR F 0 = z73 := arr_congr fun j _ => by rw [if_neg (by omega)]
theorem upR_32 (F : Nat → BitVec 32) : upR F 32 = mrow F := arr_congr fun j hj => by rw [if_pos hj]
theorem upR_set (F : Nat → BitVec 32) (k : Nat) : (arr 32 fun j => if j = k then wv (F k) else if j < k then wv (F j) else .int .u32 0) = upR F (k + 1) := arr_congr fun j _ => by
  by_cases e : j = k
  · subst e; rw [if_pos rfl, if_pos (by omega)]
  · rw [if_neg e]
    by_cases h : j < k
    · rw [if_pos h, if_pos (by omega)]
    · rw [if_neg h, if_neg (by omega)]
theorem upR_get (F : Nat → BitVec 32) (k : Nat) (h : k < 32) : (upR F k)[k]? = some (.int .u32 0) := (arr_get _ _ _ h).trans (by rw [if_neg (by omega)])
theorem halve (K q b : Nat) (y : BitVec 32) : sN ((K + K) * q) (sN (K * b) y) = sN (K * (2 * q + b)) y := by
  rw [← sN_add]
  congr 1
  rw [Nat.mul_add, Nat.add_mul, ← Nat.mul_assoc, Nat.mul_comm K 2]
  rw [Nat.mul_assoc 2 K q]; omega

theorem far_alloc {w w1 : World} {M : Nat} {R z : Array Value} (h : Ch (fun _ => False) w w1) (hm : w1.heap[M]? = some (.cells R 73)) :
    ∃ W, w1.alloc (.cells z 73) = W ∧ W.heap[M]? = some (.cells R 73) ∧ W.heap[w1.heap.size]? = some (.cells z 73) ∧ Ch (fun _ => False) w W ∧ M ≠ w1.heap.size ∧ w.heap.size ≤ w1.heap.size :=
  ⟨_, rfl, Ch.heap ((Ch.refl (fun _ => False) _).alloc _) hm id, World.alloc_heap_new _ _, h.alloc _, by have := (Array.getElem?_eq_some_iff.1 hm).1; omega, h.size⟩
/-- What the region of 'twice[i] = by(m, m[i])' leaves. -/
structure IFar (wx : World) (T : Nat) (A B : Array Value) (L : Array Bool) (w : World) : Prop where
  ch : Ch (fun j => j = T) wx w
  row : lg L 7 = false → w.heap[T]? = some (.cells A 73)
  done : lg L 7 = true → w.heap[T]? = some (.cells B 73)
theorem IFar.keep {wx w w' : World} {T : Nat} {A B : Array Value} {L : Array Bool} (h : IFar wx T A B L w) (hs : L.size = 8) (j : Nat) (hj : j < 8) (hj2 : j ≠ 7) (hc : Ch (fun _ => False) w w') : IFar wx T A B (L.setIfInBounds j true) w' := by
  have l := lg_set L j 7 (by omega)
  rw [if_neg (Ne.symm hj2)] at l
  exact ⟨h.ch.trans (hc.mono (fun _ _ h => h.elim)), fun e => hc.heap (h.row (by rw [← l]; exact e)) id, fun e => hc.heap (h.done (by rw [← l]; exact e)) id⟩
theorem IFar.store {wx w : World} {T k : Nat} {F : Nat → BitVec 32} {B : Array Value} {L : Array Bool} {v : Value} (h : IFar wx T (upR F k) B L w) (hs : L.size = 8) (hr : w.heap[T]? = some (.cells (upR F k) 73)) (hB : (arr 32 fun j => if j = k then v else if j < k then wv (F j) else .int .u32 0) = B) : IFar wx T (upR F k) B (L.setIfInBounds 7 true) (w.setCell ⟨T, k, none⟩ v) := by
  have l := lg_set L 7 7 (by omega)
  rw [if_pos rfl] at l
  exact ⟨Ch.setCell (S := fun j => j = T) h.ch (p := ⟨T, k, none⟩) (fun _ => rfl) _, fun e => (by rw [l] at e; cases e), fun _ => (heap_set hr k _).trans (by rw [← hB])⟩

set_option maxRecDepth 100000 in
set_option maxHeartbeats 2000000 in
theorem far_any (x : BitVec 32) (n0 : Nat) (hn0 : n0 ≤ 1099511627776) (w : World) : Calls Try.prog 34 #[.int .u32 (un x), .int .i64 (n0 : Int)] w fun e w' => e = .returned (.int .u32 (un (sN (8 * n0) x))) ∧ Ch (fun _ => False) w w' := by
  go_enter Try.func34, Try.ntmps34
  go_wp2_with fail
  generalize hW : w.alloc _ = W
  have hh : W.heap[w.heap.size]? = some (.cells (upR (fun j => sN 8 (e j)) 0) 73) := by rw [upR_0, ← hW]; exact World.alloc_heap_new w _
  have HH := Go.Lib.hid hh
  have HC := Go.Lib.hid (show Ch (fun _ => False) w W by rw [← hW]; exact (Ch.refl _ w).alloc _)
  clear hW hh
  generalize hM : w.heap.size = M at *
  have HM := Go.Lib.hid hM
  clear hM
  go_loopw [6] (fun i wr => ∃ k : Nat, k ≤ 32 ∧ i = .int .i64 k ∧ wr.heap[M]? = some (.cells (upR (fun j => sN 8 (e j)) k) 73) ∧ Ch (fun k => k = M) W wr) (fun i _ => 32 - (intOf i).toNat)
  case atStart => exact ⟨0, by omega, rfl, HH.out, Ch.refl _ _⟩
  case round =>
    obtain ⟨k, hk, rfl, hr, hC⟩ := hrel
    have HR := Go.Lib.hid hr; have HC2 := Go.Lib.hid hC
    clear hr hC
    by_cases hlt : k < 32
    · have hcA : wr.cell? ⟨M, k, none⟩ = some (.int .u32 0) := (cell_of_heap HR.out _).trans (upR_get _ _ hlt)
      have hfA : wr.frozen? ⟨M, k, none⟩ = false := frozen_of_heap HR.out _
      have h1 : (k : Int) ≤ 31 := by omega
      have HB := Go.Lib.hid (fun W => (show Calls Try.prog 30 #[.int .u32 (un (1#32 <<< k)), .int .u8 0] W fun e' w' => e' = .returned (.int .u32 (un (sN 8 (e k)))) ∧ W = w' from byteOn_any (e k) 0 W |>.mono (fun e' w' h => by
        refine ⟨h.1.trans ?_, h.2⟩
        rw [show (e k ^^^ BitVec.ofNat 32 (0 : UInt8).toNat) = e k by simp])))
      have HU := Go.Lib.hid (upR_set (fun j => sN 8 (e j)) k)
      generalize sN 8 (e k) = y at *
      go_wp2_with (go_at_call 30; refine (HB.out _).mono ?_; rintro e w' ⟨rfl, rfl⟩)
      go_roundw
      case rel =>
        refine ⟨k + 1, by omega, by go_num, (heap_set HR.out k _).trans ?_, Ch.setCell (S := fun k => k = M) HC2.out (p := ⟨M, k, none⟩) (fun _ => rfl) _⟩
        rw [← HU.out]
      case measure => simp [intOf]; omega
    · obtain rfl : k = 32 := by omega
      have HW := Go.Lib.hid (HC.out.then HC2.out (fun i hi h => by have := HM.out; omega))
      have HR8 := Go.Lib.hid (show wr.heap[M]? = some (.cells (mrow (fun j => sN 8 (e j))) 73) by rw [← upR_32]; exact HR.out)
      clear HR HC2 HC
      rw [show ((32 : Nat) : Int) = (32 : Int) from rfl]
      go_wp2_with fail
      go_loopw [0, 1, 7, 8] (fun z s _ _ wz => ∃ (n K : Nat) (y : BitVec 32), s = .int .i64 n ∧ z = .int .u32 (un y) ∧ n ≤ n0 ∧ wz.heap[M]? = some (.cells (mrow (fun j => sN K (e j))) 73) ∧ sN (K * n) y = sN (8 * n0) x ∧ Ch (fun _ => False) w wz) (fun _ s _ _ _ => (intOf s).toNat)
      case atStart => exact ⟨n0, 8, x, rfl, rfl, Nat.le_refl _, HR8.out, rfl, HW.out⟩
      case round =>
        clear HW HR8
        obtain ⟨n, K, y, rfl, rfl, hn, hr, he, hC⟩ := hrel
        have HR := Go.Lib.hid hr; have HC2 := Go.Lib.hid hC; have HE := Go.Lib.hid he
        clear hr hC he
        by_cases hpos : 0 < n
        · obtain ⟨q, b, hb, hnq⟩ : ∃ q b, b < 2 ∧ n = 2 * q + b := ⟨n / 2, n % 2, by omega, by omega⟩
          have HNQ := Go.Lib.hid hnq
          have HBy := Go.Lib.hid (fun F y W => by_any F y W)
          have hb2 : b = 0 ∨ b = 1 := by omega
          clear hnq
          have HAL := Go.Lib.hid (fun (w1 : World) (h : Ch (fun _ => False) w w1) (hm : w1.heap[M]? = some (.cells (mrow (fun j => sN K (e j))) 73)) => far_alloc (z := z73) h hm)
          rcases hb2 with rfl | rfl
          case' inl =>
            have hm2 : ((n : Int) % 2 == 1) = false := beq_eq_false_iff_ne.2 (by have := HNQ.out; omega)
            have HE2 : Hid (sN ((K + K) * q) y = sN (8 * n0) x) := Go.Lib.hid (by rw [← HE.out, HNQ.out, ← halve K q 0 y]; rfl)
            have HAX := Go.Lib.hid (HAL.out wr HC2.out HR.out)
            clear HAL
            go_upto_region 11 with (fail)
            obtain ⟨W2, hW2, a1, a2, a3, a4, a5⟩ := HAX.out
            generalize hW3 : wr.alloc _ = W3
            obtain rfl : W3 = W2 := hW3.symm.trans hW2
            clear hW3
            generalize wr.heap.size = T at *
          case' inr =>
            have hm2 : ((n : Int) % 2 == 1) = true := beq_iff_eq.2 (by have := HNQ.out; omega)
            have HE2 : Hid (sN ((K + K) * q) (sN K y) = sN (8 * n0) x) := Go.Lib.hid (by rw [← HE.out, HNQ.out, ← halve K q 1 y, Nat.mul_one])
            have HBX := Go.Lib.hid (show ∀ W, Calls Try.prog 41 #[.agg (mrow (fun j => sN K (e j))), .int .u32 (un y)] W fun e' w' => e' = .returned (.int .u32 (un (sN K y))) ∧ Ch (fun _ => False) W w' from fun W => by rw [← lin_sN K y]; exact by_any _ y W)
            have HMI := Go.Lib.hid (mrow_info (fun j => sN K (e j)))
            have HMX := Go.Lib.hid (show ∃ R, mrow (fun j => sN K (e j)) = R from ⟨_, rfl⟩)
            generalize sN K y = y1 at *
            go_upto_region 10 with (first | (refine wpList_load_row rfl 73 (.tmp 5) rfl M rfl 73 _ (0, 0) _ HR.out Try.underlying73 rfl HMI.out ?_) | (go_at_call 41; refine (HBX.out _).mono ?_; rintro e' w1 ⟨rfl, hw1⟩; have HW1 := Go.Lib.hid hw1; clear hw1))
            have HAX := Go.Lib.hid (HAL.out w1 (HC2.out.trans HW1.out) (HW1.out.heap HR.out id))
            clear HAL HBX HMI HMX
            go_upto_region 11 with (fail)
            obtain ⟨W2, hW2, a1, a2, a3, a4, a5⟩ := HAX.out
            generalize hW3 : w1.alloc _ = W3
            obtain rfl : W3 = W2 := hW3.symm.trans hW2
            clear hW3
            generalize w1.heap.size = T at *
          all_goals
            rw [← upR_0 (fun j => sN (K + K) (e j))] at a2
            have HXR := Go.Lib.hid a1; have HXT := Go.Lib.hid a2; have HXC := Go.Lib.hid a3; have HMT := Go.Lib.hid a4; have HTW := Go.Lib.hid a5
            clear a1 a2 a3 a4 a5 hW2 HAX HR HC2 HE hm2
            go_wp2_with fail
            go_loopw [8] (fun i wt => ∃ k : Nat, k ≤ 32 ∧ i = .int .i64 k ∧ wt.heap[T]? = some (.cells (upR (fun j => sN (K + K) (e j)) k) 73) ∧ Ch (fun k => k = T) W3 wt) (fun i _ => 32 - (intOf i).toNat)
            case atStart => exact ⟨0, by omega, rfl, HXT.out, Ch.refl _ _⟩
            case round =>
              obtain ⟨k, hk, rfl, hr, hC⟩ := hrel
              have HR := Go.Lib.hid hr; have HC2 := Go.Lib.hid hC
              clear hr hC
              by_cases hlt2 : k < 32
              · have HXM := Go.Lib.hid (HC2.out.heap HXR.out HMT.out)
                have HXK0 := Go.Lib.hid ((cell_of_heap HXM.out k).trans (mrow_get (fun j => sN K (e j)) k hlt2))
                have HBK := Go.Lib.hid (show ∀ W, Calls Try.prog 41 #[.agg (mrow (fun j => sN K (e j))), .int .u32 (un (sN K (e k)))] W fun e' w' => e' = .returned (.int .u32 (un (sN (K + K) (e k)))) ∧ Ch (fun _ => False) W w' from fun W => by rw [sN_add, ← lin_sN K (sN K (e k))]; exact by_any _ _ W)
                have HMI := Go.Lib.hid (mrow_info (fun j => sN K (e j)))
                have HUS := Go.Lib.hid (upR_set (fun j => sN (K + K) (e j)) k)
                have HXM0 := HXM
                generalize hMR : mrow (fun j => sN K (e j)) = MR at HXM HBK HMI
                generalize hfk : sN K (e k) = fk at HXK0 HBK
                generalize hy2 : sN (K + K) (e k) = y2 at HBK HUS
                have hk1 : (k : Int) < 32 := by omega
                clear hMR hfk hy2
                go_upto_region 14 with (fail)
                refine wp_region_any (by kernel_rfl) ?_
                generalize hwx : ({ wr with drawn := wr.drawn + 1 } : World) = wx
                have hcx : Ch (fun _ => False) wr wx := by rw [← hwx]; exact (Ch.refl _ wr).drew
                have HXM1 := Go.Lib.hid (hcx.heap HXM.out id); have HXK := Go.Lib.hid (hcx.get HXK0.out id); have HXT1 := Go.Lib.hid (hcx.heap HR.out id)
                have HCX := Go.Lib.hid (HC2.out.trans (hcx.mono (fun _ _ h => h.elim)))
                clear hwx hcx HXM HXK0 HR HC2
                have HXM := HXM1
                generalize hax : Act.mk _ _ = ax
                have HSZ := Go.Lib.hid (show ax.tmps.size = 42 by rw [← hax]; rfl)
                have F5 := Go.Lib.hid (show gt ax 5 = .pointer (some ⟨M, 0, none⟩) by rw [← hax]; rfl)
                have F7 := Go.Lib.hid (show gt ax 7 = .pointer (some ⟨T, 0, none⟩) by rw [← hax]; rfl)
                have F8 := Go.Lib.hid (show gt ax 8 = .int .i64 (k : Int) by rw [← hax]; rfl)
                have HAXE := Go.Lib.hid hax
                clear hax
                have HND := Go.Lib.hid (show ([33, 34, 35, 36, 37, 38, 39, 50] : List Nat).Nodup by decide)
                refine wpAny_inv (InvD 42 [(33, .int .i64 (k : Int)), (34, .agg MR), (35, .int .i64 (k : Int)), (36, .pointer (some ⟨M, k, none⟩)), (37, wv fk), (38, wv y2), (39, .pointer (some ⟨T, k, none⟩)), (50, undef)] (IFar wx T (upR (fun j => sN (K + K) (e j)) k) (upR (fun j => sN (K + K) (e j)) (k + 1))) ax) ?_ ?_ _ _ _ _ rfl (by decide) (InvD.start rfl HSZ.out ⟨Ch.refl _ _, fun _ => HXT1.out, fun h => (lg_none' _ _ h).elim⟩)
                · intro L a w' i hI hr
                  obtain ⟨h1, o, ho, hall⟩ := mem_ready.1 hr
                  have hun0 : lg L i = false := by
                    have h2 : i < L.size := by have := (Array.getElem?_eq_some_iff.1 ho).1; rw [hI.lsize]; exact this
                    unfold lg; simp [h2] at h1 ⊢; exact h1
                  have hlt : i < 8 := (Array.getElem?_eq_some_iff.1 ho).1
                  have hsplit : i = 0 ∨ i = 1 ∨ i = 2 ∨ i = 3 ∨ i = 4 ∨ i = 5 ∨ i = 6 ∨ i = 7 := by omega
                  clear hlt h1 hr
                  rcases hsplit with rfl | rfl | rfl | rfl | rfl | rfl | rfl | rfl
                  · have q8 := (hI.fixed 8 (by simp)).trans F8.out
                    unfold gt at q8
                    clear hall
                    refine wpOp_step (o := _) rfl (fun K' hK' => ?_)
                    go_simp
                    exact hK' _ _ (hI.put 0 rfl (by decide) HND.out (hI.wld.keep hI.lsize 0 (by decide) (by decide) (Ch.refl _ _)))
                  · have q5 := (hI.fixed 5 (by simp)).trans F5.out
                    unfold gt at q5
                    clear hall
                    refine wpOp_step (o := _) rfl (fun K' hK' => ?_)
                    exact wp_load_row 73 (.tmp 5) rfl M (by simpa [Act.eval] using q5) 73 MR (0, 0) _ (hI.wld.ch.heap HXM.out HMT.out) Try.underlying73 rfl HMI.out (hK' _ _ (hI.put 1 rfl (by decide) HND.out (hI.wld.keep hI.lsize 1 (by decide) (by decide) (Ch.refl _ _))))
                  · have q8 := (hI.fixed 8 (by simp)).trans F8.out
                    unfold gt at q8
                    clear hall
                    refine wpOp_step (o := _) rfl (fun K' hK' => ?_)
                    go_simp
                    exact hK' _ _ (hI.put 2 rfl (by decide) HND.out (hI.wld.keep hI.lsize 2 (by decide) (by decide) (Ch.refl _ _)))
                  · simp at ho
                    have e2 : lg L 2 = true := by unfold lg; simpa using hall ⟨2, .data⟩ (by rw [← ho]; simp) rfl
                    have f2 : gt a 35 = .int .i64 (k : Int) := hI.val 2 (35, .int .i64 (k : Int)) rfl e2
                    have q5 := (hI.fixed 5 (by simp)).trans F5.out
                    unfold gt at f2 q5
                    clear hall
                    clear ho
                    refine wpOp_step (o := _) rfl (fun K' hK' => ?_)
                    go_simp
                    exact hK' _ _ (hI.put 3 rfl (by decide) HND.out (hI.wld.keep hI.lsize 3 (by decide) (by decide) (Ch.refl _ _)))
                  · simp at ho
                    have e3 : lg L 3 = true := by unfold lg; simpa using hall ⟨3, .data⟩ (by rw [← ho]; simp) rfl
                    have f3 : gt a 36 = .pointer (some ⟨M, k, none⟩) := hI.val 3 (36, .pointer (some ⟨M, k, none⟩)) rfl e3
                    have hcl := hI.wld.ch.get HXK.out HMT.out
                    unfold gt at f3
                    clear hall
                    clear ho
                    refine wpOp_step (o := _) rfl (fun K' hK' => ?_)
                    go_simp
                    exact hK' _ _ (hI.put 4 rfl (by decide) HND.out (hI.wld.keep hI.lsize 4 (by decide) (by decide) (Ch.refl _ _)))
                  · simp at ho
                    have e1 : lg L 1 = true := by unfold lg; simpa using hall ⟨1, .data⟩ (by rw [← ho]; simp) rfl
                    have f1 : gt a 34 = .agg MR := hI.val 1 (34, .agg MR) rfl e1
                    have e4 : lg L 4 = true := by unfold lg; simpa using hall ⟨4, .data⟩ (by rw [← ho]; simp) rfl
                    have f4 : gt a 37 = wv fk := hI.val 4 (37, wv fk) rfl e4
                    unfold gt at f1 f4
                    clear hall
                    clear ho
                    have HCT := Go.Lib.hid (HBK.out w')
                    refine wpOp_step (o := _) rfl (fun K' hK' => ?_)
                    go_simp
                    refine HCT.out.mono ?_
                    rintro e w3 ⟨rfl, hc⟩
                    exact hK' _ _ (hI.put 5 rfl (by decide) HND.out (hI.wld.keep hI.lsize 5 (by decide) (by decide) hc))
                  · simp at ho
                    have e0 : lg L 0 = true := by unfold lg; simpa using hall ⟨0, .data⟩ (by rw [← ho]; simp) rfl
                    have f0 : gt a 33 = .int .i64 (k : Int) := hI.val 0 (33, .int .i64 (k : Int)) rfl e0
                    have q7 := (hI.fixed 7 (by simp)).trans F7.out
                    unfold gt at f0 q7
                    clear hall
                    clear ho
                    refine wpOp_step (o := _) rfl (fun K' hK' => ?_)
                    go_simp
                    exact hK' _ _ (hI.put 6 rfl (by decide) HND.out (hI.wld.keep hI.lsize 6 (by decide) (by decide) (Ch.refl _ _)))
                  · simp at ho
                    have e5 : lg L 5 = true := by unfold lg; simpa using hall ⟨5, .data⟩ (by rw [← ho]; simp) rfl
                    have f5 : gt a 38 = wv y2 := hI.val 5 (38, wv y2) rfl e5
                    have e6 : lg L 6 = true := by unfold lg; simpa using hall ⟨6, .data⟩ (by rw [← ho]; simp) rfl
                    have f6 : gt a 39 = .pointer (some ⟨T, k, none⟩) := hI.val 6 (39, .pointer (some ⟨T, k, none⟩)) rfl e6
                    have hrow := hI.wld.row hun0
                    have hcA : w'.cell? ⟨T, k, none⟩ = some (.int .u32 0) := (cell_of_heap hrow _).trans (upR_get _ _ hlt2)
                    have hfA : w'.frozen? ⟨T, k, none⟩ = false := frozen_of_heap hrow _
                    unfold gt at f5 f6
                    clear hall
                    clear ho
                    refine wpOp_step (o := _) rfl (fun K' hK' => ?_)
                    go_simp
                    exact hK' _ _ (hI.skip 7 rfl (by decide) (hI.wld.store hI.lsize hrow HUS.out))
                · intro L a w' hI hr
                  have hal := all_listed' (md := .any) (by kernel_rfl) hI.lsize hr
                  have hfr := hI.frame HSZ.out (by simp) (fun i hi => hal i hi)
                  rw [hfr, ← HAXE.out]
                  have HRW := Go.Lib.hid (hI.wld.done (hal 7 (by decide)))
                  have HCZ := Go.Lib.hid (HCX.out.trans hI.wld.ch)
                  clear hfr hI hr hal
                  simp only [List.foldl_cons, List.foldl_nil, List.setIfInBounds_toArray, List.set_cons_succ, List.set_cons_zero]
                  go_wp2_with fail
                  go_roundw
                  case rel => exact ⟨k + 1, by omega, by go_num, HRW.out, HCZ.out⟩
                  case measure => simp [intOf]; omega
              · obtain rfl : k = 32 := by omega
                have HRT := Go.Lib.hid (show wr.heap[T]? = some (.cells (mrow (fun j => sN (K + K) (e j))) 73) by rw [← upR_32]; exact HR.out)
                have HRM := Go.Lib.hid (HC2.out.heap HXR.out HMT.out)
                have HM2 := Go.Lib.hid (mrow_info (fun j => sN (K + K) (e j)))
                have HS2 := Go.Lib.hid (show (mrow (fun j => sN K (e j))).size = (mrow (fun j => sN (K + K) (e j))).size by rw [mrow_size, mrow_size])
                have HA2 := Go.Lib.hid (mrow_all (fun j => sN (K + K) (e j)))
                have HCW := Go.Lib.hid (HXC.out.then HC2.out (fun i hi h => by have := HTW.out; omega))
                have HNN := Go.Lib.hid (show ((n : Int)) / 2 = (q : Int) by have := HNQ.out; omega)
                go_wp2_with (first | (refine wpList_load_row rfl 73 (.tmp 7) rfl T rfl 73 _ (0, 0) _ HRT.out Try.underlying73 rfl HM2.out ?_) | (refine wpList_store_row rfl 73 (.tmp 5) (.tmp 40) rfl M _ rfl rfl 73 _ HRM.out HM2.out HS2.out HA2.out ?_))
                go_roundw
                case rel =>
                  refine ⟨q, K + K, _, ?_, rfl, by have := HNQ.out; omega, heap_setRow HRM.out, HE2.out, ?_⟩
                  · congr 1
                  · exact HCW.out.setRow (fun h => absurd h (by have := HM.out; omega)) _
                case measure => simp [intOf]; omega
        · obtain rfl : n = 0 := by omega
          have HE2 := Go.Lib.hid (show y = sN (8 * n0) x from HE.out)
          go_wp2_with fail
          go_ret
          exact ⟨by rw [← HE2.out]; rfl, HC2.out⟩
end Go.Proofs.Ythbpfgcgfhlmnaa
