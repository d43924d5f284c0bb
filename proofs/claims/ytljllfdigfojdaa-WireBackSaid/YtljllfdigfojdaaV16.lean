/- The reference's first, and its reader's Number. -/
import Derived.Test.YtljllfdigfojdaaV15
namespace Go.Proofs.Ytljllfdigfojdaa
open Go Go.RowKit

def fstN (f : Nat → UInt8) (n : Nat) : Int × Int := match rdN f n with
  | .lack => (0, 0)
  | .wrong => (0, -1)
  | .got v k => ((v : Int), (k : Int))
theorem numL_mark (V m : Nat) (hm : m = 253 ∨ m = 254 ∨ m = 255) : numL V = 1 + wdN m ↔ mkN V = m := by
  unfold numL mkN wdN
  by_cases h1 : V < 253
  · simp only [h1, if_true]
    rcases hm with rfl | rfl | rfl <;> simp <;> omega
  · by_cases h2 : V ≤ 65535
    · simp only [h1, h2, if_false, if_true]
      rcases hm with rfl | rfl | rfl <;> simp
    · by_cases h3 : V ≤ 4294967295
      · simp only [h1, h2, h3, if_false, if_true]
        rcases hm with rfl | rfl | rfl <;> simp
      · simp only [h1, h2, h3, if_false]
        rcases hm with rfl | rfl | rfl <;> simp
set_option maxRecDepth 100000 in
theorem u64_step (V c : Nat) (hV : V < 72057594037927936) (hc : c < 256) : IntKind.u64.wrap (256 * (V : Int)) = ((256 * V : Nat) : Int) ∧ IntKind.u64.wrap (((256 * V : Nat) : Int) + (c : Int)) = ((256 * V + c : Nat) : Int) := by
  constructor <;> simp [IntKind.wrap, IntKind.bits, IntKind.signed] <;> omega
set_option maxRecDepth 100000 in
set_option maxHeartbeats 1000000 in
theorem first_any (p : Option Addr) (n c : Nat) (f : Nat → UInt8) (w : World) (hb : BytesAt w p n c f) (hn : n ≤ 1000000000000) :
    Calls Try.prog 73 #[.slice p n c] w fun e w' => e = .returned (.tuple #[.int .i64 (fstN f n).1, .int .i64 (fstN f n).2]) ∧ Ch (fun _ => False) w w' := by
  have HFS := Go.Lib.hid (show fstN f n = (match (if n = 0 then Res.lack else if (f 0).toNat < 253 then .got (f 0).toNat 1 else if n < 1 + wdN (f 0).toNat then .lack else if 4611686018427387904 < beN f 1 (wdN (f 0).toNat) ∨ mkN (beN f 1 (wdN (f 0).toNat)) ≠ (f 0).toNat then .wrong else .got (beN f 1 (wdN (f 0).toNat)) (1 + wdN (f 0).toNat)) with | .lack => (0, 0) | .wrong => (0, -1) | .got v k => ((v : Int), (k : Int))) from rfl)
  generalize fstN f n = E at *
  by_cases h0 : n = 0
  · subst h0
    rw [if_pos rfl] at HFS
    clear hb
    go_enter Try.func73, Try.ntmps73
    go_wp2
    refine bodyPost_ret (v := .tuple #[.int .i64 0, .int .i64 0]) (by simp [results, Try.results73, go_sem]) rfl ⟨by rw [HFS.out], Ch.refl _ _⟩
  · rw [if_neg h0] at HFS
    obtain ⟨x, y, rfl, hx, hcell⟩ := hb.at0 (by omega)
    have HM := Go.Lib.hid hcell
    have h0' : ¬ (n : Int) = 0 := by omega
    have hb0 : w.cell? ⟨x, y, none⟩ = some (.int .u8 ((f 0).toNat : Int)) := hcell 0 (by omega)
    clear hb hcell
    by_cases hm : (f 0).toNat < 253
    · have hm' : (((f 0).toNat : Nat) : Int) < 253 := by omega
      rw [if_pos hm] at HFS
      clear hm
      generalize (f 0).toNat = m at *
      go_enter Try.func73, Try.ntmps73
      go_wp2_with fail
      refine bodyPost_ret (v := .tuple #[.int .i64 (m : Int), .int .i64 1]) (by simp [results, Try.results73, go_sem]) rfl ⟨by rw [HFS.out]; rfl, Ch.refl _ _⟩
    · have hm' : ¬ (((f 0).toNat : Nat) : Int) < 253 := by omega
      have hlt := (f 0).toNat_lt
      rw [if_neg hm] at HFS
      have hm3 : (f 0).toNat = 253 ∨ (f 0).toNat = 254 ∨ (f 0).toNat = 255 := by omega
      have HNM := Go.Lib.hid (fun V => numL_mark V (f 0).toNat hm3)
      have HWV := Go.Lib.hid (show wdN (f 0).toNat = if (f 0).toNat = 253 then 2 else if (f 0).toNat = 254 then 4 else 8 from rfl)
      clear hm hlt
      generalize hmm : (f 0).toNat = m at *
      clear hmm
      generalize wdN m = W at *
      have hcase : (m = 253 ∧ W = 2) ∨ (m = 254 ∧ W = 4) ∨ (m = 255 ∧ W = 8) := by
        have := HWV.out
        rcases hm3 with rfl | rfl | rfl
        · exact .inl ⟨rfl, this⟩
        · exact .inr (.inl ⟨rfl, this⟩)
        · exact .inr (.inr ⟨rfl, this⟩)
      have HC := Go.Lib.hid hcase
      clear hm3 hcase HWV
      by_cases hn1 : n < 1 + W
      · have hn1' : (n : Int) < 1 + (W : Int) := by omega
        rw [if_pos hn1] at HFS
        clear hn1
        go_enter Try.func73, Try.ntmps73
        rcases HC.out with ⟨rfl, rfl⟩ | ⟨rfl, rfl⟩ | ⟨rfl, rfl⟩
        all_goals
          go_wp2_with fail
          refine bodyPost_ret (v := .tuple #[.int .i64 0, .int .i64 0]) (by simp [results, Try.results73, go_sem]) rfl ⟨by rw [HFS.out], Ch.refl _ _⟩
      · have hn1' : ¬ (n : Int) < 1 + (W : Int) := by omega
        rw [if_neg hn1] at HFS
        have HNW := Go.Lib.hid (show 1 + W ≤ n by omega)
        clear hn1
        go_enter Try.func73, Try.ntmps73
        rcases HC.out with ⟨rfl, rfl⟩ | ⟨rfl, rfl⟩ | ⟨rfl, rfl⟩
        · go_wp2_with fail
          go_loop [5, 6] (fun z ix => ∃ i : Nat, i ≤ 2 ∧ ix = .int .i64 ((i : Int) + 1) ∧ z = .int .u64 (beN f 1 i : Int)) (fun _ ix => 2 + 1 - (intOf ix).toNat)
          case atStart => exact ⟨0, by omega, rfl, rfl⟩
          case round =>
            obtain ⟨i, hi, rfl, rfl⟩ := hrel
            by_cases hlt : i < 2
            · obtain ⟨q, hq⟩ : ∃ q, q = 1 + i := ⟨_, rfl⟩
              have hci : w.cell? ⟨x, y + q, none⟩ = some (.int .u8 ((f (1 + i)).toNat : Int)) := by
                rw [hq]; exact HM.out (1 + i) (by have := HNW.out; omega)
              have HV := Go.Lib.hid (show beN f 1 (i + 1) = 256 * beN f 1 i + (f (1 + i)).toNat from rfl)
              have hb1 := beN_lt f 1 i
              obtain ⟨hu1, hu2⟩ := u64_step (beN f 1 i) (f (1 + i)).toNat (Nat.lt_of_lt_of_le hb1 (Nat.le_trans (Nat.pow_le_pow_right (by omega) (show i ≤ 7 by omega)) (by decide))) (f (1 + i)).toNat_lt
              have hcw : IntKind.u64.wrap (((f (1 + i)).toNat : Nat) : Int) = ((f (1 + i)).toNat : Int) := by
                have := (f (1 + i)).toNat_lt
                simp [IntKind.wrap, IntKind.bits, IntKind.signed]; omega
              have hix : (i : Int) + 1 = (q : Int) := by omega
              have hq2 : (q : Int) ≤ 2 := by omega
              have hqn : q < n := by have := HNW.out; omega
              have HQ := Go.Lib.hid hq
              rw [hix]
              clear hb1 hq hix
              generalize hVV : beN f 1 i = V at *
              clear hVV
              generalize (f (1 + i)).toNat = cb at *
              generalize 256 * V = V2 at *
              go_wp2_with fail
              go_round
              case rel => exact ⟨i + 1, by omega, by have := HQ.out; go_num, by rw [HV.out, Int.natCast_add]⟩
              case measure => have := HQ.out; simp [intOf]; omega
            · obtain rfl : i = 2 := by omega
              have HVL := Go.Lib.hid (show beN f 1 2 < 18446744073709551616 from Nat.lt_of_lt_of_le (beN_lt f 1 2) (Nat.le_trans (Nat.pow_le_pow_right (by omega) (show 2 ≤ 8 by omega)) (by decide)))
              generalize beN f 1 2 = V at *
              have HNV := Go.Lib.hid (HNM.out V)
              by_cases hbig : 4611686018427387904 < V
              · have hbig' : (4611686018427387904 : Int) < (V : Int) := by omega
                rw [if_pos (.inl hbig)] at HFS
                clear hbig
                go_wp2_with fail
                refine bodyPost_ret (v := .tuple #[.int .i64 0, .int .i64 (-1)]) (by simp [results, Try.results73, go_sem]) rfl ⟨by rw [HFS.out], Ch.refl _ _⟩
              · have hbig' : ¬ (4611686018427387904 : Int) < (V : Int) := by omega
                have hwv : IntKind.i64.wrap (V : Int) = (V : Int) := by simp [IntKind.wrap, IntKind.bits, IntKind.signed]; omega
                have HRN := Go.Lib.hid (fun W' => rnum_any V W' (by omega))
                have hnl := numL_le V
                by_cases hmk : mkN V = 253
                · rw [if_neg (fun h => h.elim hbig (fun h => h hmk))] at HFS
                  have hlen : numL V = 1 + 2 := HNV.out.2 hmk
                  rw [hlen] at HRN
                  clear hbig hmk HNV hnl hlen
                  go_wp2_with (go_at_call 28; refine (HRN.out _).mono ?_; rintro e w2 ⟨v2, rfl, ho, hc⟩; obtain ⟨p2, c2, rfl, -⟩ := own_bytes ho; have HC2 := Go.Lib.hid hc; clear ho hc)
                  refine bodyPost_ret (v := .tuple #[.int .i64 (V : Int), .int .i64 (((1 + 2 : Nat)) : Int)]) (by simp [results, Try.results73, go_sem]) rfl ⟨by rw [HFS.out], HC2.out⟩
                · rw [if_pos (.inr hmk)] at HFS
                  have hlen : ¬ ((numL V : Nat) : Int) = 1 + 2 := fun h => hmk (HNV.out.1 (by omega))
                  clear hbig hmk HNV
                  generalize numL V = nl at *
                  go_wp2_with (go_at_call 28; refine (HRN.out _).mono ?_; rintro e w2 ⟨v2, rfl, ho, hc⟩; obtain ⟨p2, c2, rfl, -⟩ := own_bytes ho; have HC2 := Go.Lib.hid hc; clear ho hc)
                  refine bodyPost_ret (v := .tuple #[.int .i64 0, .int .i64 (-1)]) (by simp [results, Try.results73, go_sem]) rfl ⟨by rw [HFS.out], HC2.out⟩
        · go_wp2_with fail
          go_loop [5, 6] (fun z ix => ∃ i : Nat, i ≤ 4 ∧ ix = .int .i64 ((i : Int) + 1) ∧ z = .int .u64 (beN f 1 i : Int)) (fun _ ix => 4 + 1 - (intOf ix).toNat)
          case atStart => exact ⟨0, by omega, rfl, rfl⟩
          case round =>
            obtain ⟨i, hi, rfl, rfl⟩ := hrel
            by_cases hlt : i < 4
            · obtain ⟨q, hq⟩ : ∃ q, q = 1 + i := ⟨_, rfl⟩
              have hci : w.cell? ⟨x, y + q, none⟩ = some (.int .u8 ((f (1 + i)).toNat : Int)) := by
                rw [hq]; exact HM.out (1 + i) (by have := HNW.out; omega)
              have HV := Go.Lib.hid (show beN f 1 (i + 1) = 256 * beN f 1 i + (f (1 + i)).toNat from rfl)
              have hb1 := beN_lt f 1 i
              obtain ⟨hu1, hu2⟩ := u64_step (beN f 1 i) (f (1 + i)).toNat (Nat.lt_of_lt_of_le hb1 (Nat.le_trans (Nat.pow_le_pow_right (by omega) (show i ≤ 7 by omega)) (by decide))) (f (1 + i)).toNat_lt
              have hcw : IntKind.u64.wrap (((f (1 + i)).toNat : Nat) : Int) = ((f (1 + i)).toNat : Int) := by
                have := (f (1 + i)).toNat_lt
                simp [IntKind.wrap, IntKind.bits, IntKind.signed]; omega
              have hix : (i : Int) + 1 = (q : Int) := by omega
              have hq2 : (q : Int) ≤ 4 := by omega
              have hqn : q < n := by have := HNW.out; omega
              have HQ := Go.Lib.hid hq
              rw [hix]
              clear hb1 hq hix
              generalize hVV : beN f 1 i = V at *
              clear hVV
              generalize (f (1 + i)).toNat = cb at *
              generalize 256 * V = V2 at *
              go_wp2_with fail
              go_round
              case rel => exact ⟨i + 1, by omega, by have := HQ.out; go_num, by rw [HV.out, Int.natCast_add]⟩
              case measure => have := HQ.out; simp [intOf]; omega
            · obtain rfl : i = 4 := by omega
              have HVL := Go.Lib.hid (show beN f 1 4 < 18446744073709551616 from Nat.lt_of_lt_of_le (beN_lt f 1 4) (Nat.le_trans (Nat.pow_le_pow_right (by omega) (show 4 ≤ 8 by omega)) (by decide)))
              generalize beN f 1 4 = V at *
              have HNV := Go.Lib.hid (HNM.out V)
              by_cases hbig : 4611686018427387904 < V
              · have hbig' : (4611686018427387904 : Int) < (V : Int) := by omega
                rw [if_pos (.inl hbig)] at HFS
                clear hbig
                go_wp2_with fail
                refine bodyPost_ret (v := .tuple #[.int .i64 0, .int .i64 (-1)]) (by simp [results, Try.results73, go_sem]) rfl ⟨by rw [HFS.out], Ch.refl _ _⟩
              · have hbig' : ¬ (4611686018427387904 : Int) < (V : Int) := by omega
                have hwv : IntKind.i64.wrap (V : Int) = (V : Int) := by simp [IntKind.wrap, IntKind.bits, IntKind.signed]; omega
                have HRN := Go.Lib.hid (fun W' => rnum_any V W' (by omega))
                have hnl := numL_le V
                by_cases hmk : mkN V = 254
                · rw [if_neg (fun h => h.elim hbig (fun h => h hmk))] at HFS
                  have hlen : numL V = 1 + 4 := HNV.out.2 hmk
                  rw [hlen] at HRN
                  clear hbig hmk HNV hnl hlen
                  go_wp2_with (go_at_call 28; refine (HRN.out _).mono ?_; rintro e w2 ⟨v2, rfl, ho, hc⟩; obtain ⟨p2, c2, rfl, -⟩ := own_bytes ho; have HC2 := Go.Lib.hid hc; clear ho hc)
                  refine bodyPost_ret (v := .tuple #[.int .i64 (V : Int), .int .i64 (((1 + 4 : Nat)) : Int)]) (by simp [results, Try.results73, go_sem]) rfl ⟨by rw [HFS.out], HC2.out⟩
                · rw [if_pos (.inr hmk)] at HFS
                  have hlen : ¬ ((numL V : Nat) : Int) = 1 + 4 := fun h => hmk (HNV.out.1 (by omega))
                  clear hbig hmk HNV
                  generalize numL V = nl at *
                  go_wp2_with (go_at_call 28; refine (HRN.out _).mono ?_; rintro e w2 ⟨v2, rfl, ho, hc⟩; obtain ⟨p2, c2, rfl, -⟩ := own_bytes ho; have HC2 := Go.Lib.hid hc; clear ho hc)
                  refine bodyPost_ret (v := .tuple #[.int .i64 0, .int .i64 (-1)]) (by simp [results, Try.results73, go_sem]) rfl ⟨by rw [HFS.out], HC2.out⟩
        · go_wp2_with fail
          go_loop [5, 6] (fun z ix => ∃ i : Nat, i ≤ 8 ∧ ix = .int .i64 ((i : Int) + 1) ∧ z = .int .u64 (beN f 1 i : Int)) (fun _ ix => 8 + 1 - (intOf ix).toNat)
          case atStart => exact ⟨0, by omega, rfl, rfl⟩
          case round =>
            obtain ⟨i, hi, rfl, rfl⟩ := hrel
            by_cases hlt : i < 8
            · obtain ⟨q, hq⟩ : ∃ q, q = 1 + i := ⟨_, rfl⟩
              have hci : w.cell? ⟨x, y + q, none⟩ = some (.int .u8 ((f (1 + i)).toNat : Int)) := by
                rw [hq]; exact HM.out (1 + i) (by have := HNW.out; omega)
              have HV := Go.Lib.hid (show beN f 1 (i + 1) = 256 * beN f 1 i + (f (1 + i)).toNat from rfl)
              have hb1 := beN_lt f 1 i
              obtain ⟨hu1, hu2⟩ := u64_step (beN f 1 i) (f (1 + i)).toNat (Nat.lt_of_lt_of_le hb1 (Nat.le_trans (Nat.pow_le_pow_right (by omega) (show i ≤ 7 by omega)) (by decide))) (f (1 + i)).toNat_lt
              have hcw : IntKind.u64.wrap (((f (1 + i)).toNat : Nat) : Int) = ((f (1 + i)).toNat : Int) := by
                have := (f (1 + i)).toNat_lt
                simp [IntKind.wrap, IntKind.bits, IntKind.signed]; omega
              have hix : (i : Int) + 1 = (q : Int) := by omega
              have hq2 : (q : Int) ≤ 8 := by omega
              have hqn : q < n := by have := HNW.out; omega
              have HQ := Go.Lib.hid hq
              rw [hix]
              clear hb1 hq hix
              generalize hVV : beN f 1 i = V at *
              clear hVV
              generalize (f (1 + i)).toNat = cb at *
              generalize 256 * V = V2 at *
              go_wp2_with fail
              go_round
              case rel => exact ⟨i + 1, by omega, by have := HQ.out; go_num, by rw [HV.out, Int.natCast_add]⟩
              case measure => have := HQ.out; simp [intOf]; omega
            · obtain rfl : i = 8 := by omega
              have HVL := Go.Lib.hid (show beN f 1 8 < 18446744073709551616 from Nat.lt_of_lt_of_le (beN_lt f 1 8) (Nat.le_trans (Nat.pow_le_pow_right (by omega) (show 8 ≤ 8 by omega)) (by decide)))
              generalize beN f 1 8 = V at *
              have HNV := Go.Lib.hid (HNM.out V)
              by_cases hbig : 4611686018427387904 < V
              · have hbig' : (4611686018427387904 : Int) < (V : Int) := by omega
                rw [if_pos (.inl hbig)] at HFS
                clear hbig
                go_wp2_with fail
                refine bodyPost_ret (v := .tuple #[.int .i64 0, .int .i64 (-1)]) (by simp [results, Try.results73, go_sem]) rfl ⟨by rw [HFS.out], Ch.refl _ _⟩
              · have hbig' : ¬ (4611686018427387904 : Int) < (V : Int) := by omega
                have hwv : IntKind.i64.wrap (V : Int) = (V : Int) := by simp [IntKind.wrap, IntKind.bits, IntKind.signed]; omega
                have HRN := Go.Lib.hid (fun W' => rnum_any V W' (by omega))
                have hnl := numL_le V
                by_cases hmk : mkN V = 255
                · rw [if_neg (fun h => h.elim hbig (fun h => h hmk))] at HFS
                  have hlen : numL V = 1 + 8 := HNV.out.2 hmk
                  rw [hlen] at HRN
                  clear hbig hmk HNV hnl hlen
                  go_wp2_with (go_at_call 28; refine (HRN.out _).mono ?_; rintro e w2 ⟨v2, rfl, ho, hc⟩; obtain ⟨p2, c2, rfl, -⟩ := own_bytes ho; have HC2 := Go.Lib.hid hc; clear ho hc)
                  refine bodyPost_ret (v := .tuple #[.int .i64 (V : Int), .int .i64 (((1 + 8 : Nat)) : Int)]) (by simp [results, Try.results73, go_sem]) rfl ⟨by rw [HFS.out], HC2.out⟩
                · rw [if_pos (.inr hmk)] at HFS
                  have hlen : ¬ ((numL V : Nat) : Int) = 1 + 8 := fun h => hmk (HNV.out.1 (by omega))
                  clear hbig hmk HNV
                  generalize numL V = nl at *
                  go_wp2_with (go_at_call 28; refine (HRN.out _).mono ?_; rintro e w2 ⟨v2, rfl, ho, hc⟩; obtain ⟨p2, c2, rfl, -⟩ := own_bytes ho; have HC2 := Go.Lib.hid hc; clear ho hc)
                  refine bodyPost_ret (v := .tuple #[.int .i64 0, .int .i64 (-1)]) (by simp [results, Try.results73, go_sem]) rfl ⟨by rw [HFS.out], HC2.out⟩
end Go.Proofs.Ytljllfdigfojdaa
