/- WireBounds: the function. -/
import Derived.Test.YtljllfdigfojdaaU5
import Derived.Test.YtljllfdigfojdaaU2
import Derived.Test.YtljllfdigfojdaaV13
import Derived.Laws.OwnMore
namespace Go.Proofs.Ytljllfdigfojdaa
open Go Go.RowKit

theorem make_zeros (n : Nat) (w : World) (hn : n ≤ 100000000) : ∃ w', (Instr.makeSlice 27 (.int .i64 (n : Int)) (.int .i64 (n : Int))).run Try.prog w = .ok (.slice (some ⟨w.heap.size, 0, none⟩) n n) w' ∧ BytesAt w' (some ⟨w.heap.size, 0, none⟩) n n (fun _ => 0) ∧ Ch (fun _ => False) w w' ∧ w.heap.size < w'.heap.size := by
  obtain ⟨i0, hi, hz0, hz1, hz2⟩ := info_parts info5
  obtain ⟨w', hr, ho, hg⟩ := run_make_full (P := Try.prog) w w.heap.size 27 5 i0 (.int .u8 0) 1 Try.underlying27 hi hz0 hz1 .i64 .i64 n (by rw [hz2]; omega) (by simp only [maxLen]; omega) (Nat.le_refl _)
  have hc : Ch (fun _ => False) w w' := Ch.grown (Ch.refl _ w) hg (fun k hk => by cases hk)
  have e : (madeCells (Value.int .u8 0).cells (n * 1)).toList = fL (fun _ => 0) n := by
    show (madeCells #[Value.int .u8 0] (n * 1)).toList = _
    rw [Nat.mul_one, toList_madeCells_one]
    unfold fL
    apply List.ext_getElem?
    intro j
    by_cases h : j < n <;> simp [h]
  rw [e] at ho
  obtain ⟨p, c, h1, h2⟩ := own_bytes ho
  cases h1
  refine ⟨w', hr, h2, hc, ?_⟩
  rcases ho.2 with ⟨h, _⟩ | ⟨g, cap, cur, h, hbg, hg2, _⟩
  · cases h
  · cases h; exact row_lt hg2
theorem bS_size (f : Nat → UInt8) (n : Nat) : (bS f n).size = n := by
  show (bL f n).toArray.size = n
  simp [bL_len]
set_option maxRecDepth 100000 in
set_option maxHeartbeats 4000000 in
theorem bounds_law (more : Int) (w : World) : Calls Try.prog 7 #[.int .i64 more] w fun e w' => e = .returned (.bool true) ∧ Ch (fun _ => False) w w' := by
  by_cases h1 : more < -2
  · go_enter Try.func7, Try.ntmps7
    go_wp2_with fail
    refine (wworks_any _).mono ?_
    rintro e w2 ⟨rfl, hc2⟩
    go_wp2_with fail
    go_ret
    exact ⟨rfl, hc2⟩
  · by_cases h2 : 2 < more
    · go_enter Try.func7, Try.ntmps7
      go_wp2_with fail
      refine (wworks_any _).mono ?_
      rintro e w2 ⟨rfl, hc2⟩
      go_wp2_with fail
      go_ret
      exact ⟨rfl, hc2⟩
    · obtain ⟨M, hM⟩ : ∃ M : Nat, (M : Int) = 1048576 + more := ⟨(1048576 + more).toNat, by omega⟩
      obtain ⟨N, hN⟩ : ∃ N : Nat, (N : Int) = 8192 + more := ⟨(8192 + more).toNat, by omega⟩
      have hwM : IntKind.i64.wrap (1048576 + more) = (M : Int) := by rw [hM]; simp [IntKind.wrap, IntKind.bits, IntKind.signed]; omega
      have hwN : IntKind.i64.wrap (8192 + more) = (N : Int) := by rw [hN]; simp [IntKind.wrap, IntKind.bits, IntKind.signed]; omega
      have HM := Go.Lib.hid hM; have HN := Go.Lib.hid hN
      have hMb : M ≤ 1048578 := by omega
      have hNb : N ≤ 8194 := by omega
      clear hM hN
      go_enter Try.func7, Try.ntmps7
      by_cases hp : 0 < more
      · have HMp := Go.Lib.hid (show 1048576 < M by have := HM.out; omega); have HNp := Go.Lib.hid (show 8192 < N by have := HN.out; omega)
        go_wp2_with fail
        refine (new_any (fun _ => 0) w).mono ?_
        rintro e w1 ⟨b, rfl, hb, hw1, hc1⟩
        have HW1 := Go.Lib.hid hw1; have HC1 := Go.Lib.hid hc1
        clear hb hw1 hc1
        obtain ⟨w2, hr2, hb2, hc2, hs2⟩ := make_zeros M w1 (by omega)
        have hcv := conv_bytes hb2
        have HC2 := Go.Lib.hid (HC1.out.trans hc2); have HW2 := Go.Lib.hid (HW1.out.ch hc2 id (fun _ _ => id))
        clear hb2 hc2 hs2 HW1 HC1
        have HTX := Go.Lib.hid (wText_long b 0 _ _ (bS (fun _ => 0) M) w2 HW2.out (by rw [bS_size]; exact HMp.out))
        generalize bS (fun _ => 0) M = sg at *
        go_wp2_with fail
        refine HTX.out.mono ?_
        rintro e w' ⟨rfl, rfl⟩
        clear hr2 hcv
        obtain ⟨w3, hr3, hb3, hc3, hs3⟩ := make_zeros N w2 (by omega)
        have HC3 := Go.Lib.hid (HC2.out.trans hc3); have HW3 := Go.Lib.hid (HW2.out.ch hc3 id (fun _ _ => id))
        clear hb3 hc3 hs3 HW2 HC2
        have HFR := Go.Lib.hid (frame_long (some ⟨w2.heap.size, 0, none⟩) N N w3 HNp.out)
        go_wp2_with fail
        refine HFR.out.mono ?_
        rintro e w' ⟨rfl, rfl⟩
        clear hr3
        have HAL := Go.Lib.hid (all_any b 0 _ _ w3 HW3.out (by omega))
        go_wp2_with (first
          | (go_at_call 14; refine (num_any _ _).mono ?_; rintro e w' ⟨rfl, rfl⟩)
          | (go_at_call 13; refine HAL.out.mono ?_; rintro e w4 ⟨v', rfl, ho, hc⟩; obtain ⟨p', c', rfl, -⟩ := own_bytes ho; have HC4 := Go.Lib.hid (HC3.out.trans hc); clear ho hc)
          | (go_at_call 10; refine (wworks_any _).mono ?_; rintro e w5 ⟨rfl, hc5⟩; have HC5 := Go.Lib.hid (HC4.out.trans hc5); clear hc5))
        go_ret
        exact ⟨rfl, HC5.out⟩
      · have HMp := Go.Lib.hid (show M ≤ 1048576 by have := HM.out; omega); have HNp := Go.Lib.hid (show N ≤ 8192 by have := HN.out; omega)
        go_wp2_with fail
        refine (new_any (textB (bS (fun _ => 0) M)) w).mono ?_
        rintro e w1 ⟨b, rfl, hb, hw1, hc1⟩
        have HW1 := Go.Lib.hid hw1; have HC1 := Go.Lib.hid hc1; have HB := Go.Lib.hid hb
        clear hb hw1 hc1
        obtain ⟨w2, hr2, hb2, hc2, hs2⟩ := make_zeros M w1 (by omega)
        have hcv := conv_bytes hb2
        have HC2 := Go.Lib.hid (HC1.out.trans hc2); have HW2 := Go.Lib.hid (HW1.out.ch hc2 id (fun _ _ => id))
        clear hb2 hc2 hs2 HW1 HC1
        have HTX := Go.Lib.hid (wText_ok b 0 _ _ (bS (fun _ => 0) M) w2 HW2.out (by rw [bS_size]; exact HMp.out) (by omega) (fun j _ => by rw [Nat.zero_add]))
        have HTL := Go.Lib.hid (show 0 < textL (bS (fun _ => 0) M) ∧ textL (bS (fun _ => 0) M) ≤ 2000000 from by
          have h1 := numL_le (bS (fun _ => 0) M).size
          have h2 : 0 < numL (bS (fun _ => 0) M).size := by unfold numL; split <;> omega
          have h3 := HMp.out
          unfold textL; rw [bS_size] at *; omega)
        rw [Nat.zero_add] at HTX
        generalize textB (bS (fun _ => 0) M) = TF at *
        generalize textL (bS (fun _ => 0) M) = TL at *
        generalize bS (fun _ => 0) M = sg at *
        go_wp2_with fail
        refine HTX.out.mono ?_
        rintro e w3 ⟨rfl, v3, hw3, hg3⟩
        have HW3 := Go.Lib.hid hw3
        have HC3 := Go.Lib.hid (show Ch (fun _ => False) w w3 from HC2.out.then hg3.ch (fun i hi e => by
          rcases e with rfl | e
          · have := HB.out; omega
          · simp [Value.ownBlock] at e))
        clear hr2 hcv hw3 hg3 HTX HW2 HC2
        obtain ⟨w4, hr4, hb4, hc4, hs4⟩ := make_zeros N w3 (by omega)
        have HC4 := Go.Lib.hid (HC3.out.trans hc4); have HW4 := Go.Lib.hid (HW3.out.ch hc4 id (fun _ _ => id))
        have HFR := Go.Lib.hid (frame_ok (some ⟨w3.heap.size, 0, none⟩) N N (fun _ => 0) w4 hb4 HNp.out)
        clear hb4 hc4 hs4 HW3 HC3
        go_wp2_with fail
        refine HFR.out.mono ?_
        rintro e w5 ⟨v5, rfl, ho5, hc5⟩
        obtain ⟨p5, c5, rfl, hb5⟩ := own_bytes ho5
        have HFL := Go.Lib.hid (show 0 < frL N by unfold frL; omega)
        obtain ⟨x5, hx5, hblk5⟩ := hb5.home HFL.out
        have HB5 := Go.Lib.hid hb5; have HBK := Go.Lib.hid (And.intro hx5 hblk5)
        have HC5 := Go.Lib.hid (HC4.out.trans hc5); have HW5 := Go.Lib.hid (HW4.out.ch hc5 id (fun _ _ => id))
        clear hr4 ho5 hc5 hb5 hx5 hblk5 HW4 HC4 HFR
        have HAL := Go.Lib.hid (all_any b TL _ _ w5 HW5.out (by have := HTL.out; omega))
        have HSP := Go.Lib.hid (fun W (hc : Ch (fun _ => False) w5 W) => split_frame p5 N c5 x5 (fun _ => 0) W (HB5.out.ch hc (fun _ _ => id)) (Nat.lt_of_lt_of_le HBK.out.1 hc.size) HBK.out.2 HNp.out)
        have hT0 : (((TL : Nat) : Int) == 0) = false := by have := HTL.out; simp; omega
        have hF0 : (((frL N : Nat) : Int) == 0) = false := by have := HFL.out; simp; omega
        generalize frL N = FL at *
        go_wp2_with (first
          | (go_at_call 14; refine (num_any _ _).mono ?_; rintro e w' ⟨rfl, rfl⟩)
          | (go_at_call 13; refine HAL.out.mono ?_; rintro e w6 ⟨v', rfl, ho, hc⟩; obtain ⟨p', c', rfl, -⟩ := own_bytes ho; have HC6 := Go.Lib.hid hc; clear ho hc)
          | (go_at_call 30; refine (HSP.out w6 HC6.out).mono ?_; rintro e w7 ⟨hc7, h, cur, rfl, -⟩; have HC7 := Go.Lib.hid ((HC5.out.trans HC6.out).trans hc7); clear hc7)
          | (go_at_call 10; refine (wworks_any _).mono ?_; rintro e w8 ⟨rfl, hc8⟩; have HC8 := Go.Lib.hid (HC7.out.trans hc8); clear hc8))
        go_ret
        exact ⟨rfl, HC8.out⟩
end Go.Proofs.Ytljllfdigfojdaa
