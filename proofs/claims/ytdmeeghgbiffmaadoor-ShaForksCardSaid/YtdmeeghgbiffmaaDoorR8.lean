/- ShaLengths: the function. -/
import Derived.Test.YtdmeeghgbiffmaaDoorR7
import Derived.Test.YtdmeeghgbiffmaaDoorEq
namespace Go.Proofs.YtdmeeghgbiffmaaDoor
open Go.RowKit

set_option maxRecDepth 100000 in
set_option maxHeartbeats 1000000 in
theorem lengths_out (x s : Int) (w : World) (hK : KAt w) (hx : x < 0 ∨ 700 < x) :
    Calls Tryd.prog 5 #[.int .i64 x, .int .u8 s] w fun e w' => e = .returned (.bool true) ∧ Ch (fun _ => False) w w' := by
  have hw := Go.Lib.hid (works_any w hK)
  clear hK
  by_cases h0 : x < 0
  · go_enter Tryd.func5, Tryd.ntmps5
    go_wp2_with fail
    refine hw.out.mono ?_; rintro e w1 ⟨rfl, hw1⟩; have HC := Go.Lib.hid hw1; clear hw1
    go_wp2_with fail
    go_ret
    exact ⟨rfl, HC.out⟩
  · have h1 : 700 < x := by omega
    go_enter Tryd.func5, Tryd.ntmps5
    go_wp2_with fail
    refine hw.out.mono ?_; rintro e w1 ⟨rfl, hw1⟩; have HC := Go.Lib.hid hw1; clear hw1
    go_wp2_with fail
    go_ret
    exact ⟨rfl, HC.out⟩

theorem xor_byte (a b : Int) : ∃ c : UInt8, bits .xor .u8 a b = (c.toNat : Int) := by
  have h := bounds_u8 (wf_bits .xor .u8 a b)
  exact ⟨UInt8.ofNat (bits .xor .u8 a b).toNat, by rw [UInt8.toNat_ofNat']; omega⟩
theorem fL_upd (f : Nat → UInt8) (k : Nat) (c : UInt8) : fL f k ++ [.int .u8 (c.toNat : Int)] = fL (fun j => if j = k then c else f j) (k + 1) := by
  rw [fL_succ, fL_congr k (f := f) (g := fun j => if j = k then c else f j) (fun j hj => by rw [if_neg (by omega)])]
  simp
theorem own_bytes {w : World} {base n : Nat} {v : Value} {f : Nat → UInt8} (h : w.ownsRow base 5 1 v n (fL f n)) : ∃ p c, v = .slice p n c ∧ BytesAt w p n c f := by
  rcases h.2 with ⟨rfl, rfl⟩ | ⟨g, cap, cur, rfl, _, hg, hnc, _, _, htake⟩
  · exact ⟨none, 0, rfl, .inr ⟨rfl, rfl, rfl⟩⟩
  · exact ⟨some ⟨g, 0, none⟩, cap, rfl, .inl ⟨g, 0, rfl, hnc, fun j hj => (cell_of_heap hg _).trans (by rw [Nat.zero_add]; exact fL_cur htake j hj)⟩⟩
theorem parts_one {w : World} {p : Option Addr} {n c a : Nat} {f : Nat → UInt8} (h : BytesAt w p n c f) (ha : w.cell? ⟨a, 0, none⟩ = some (.slice p n c)) : PartsAt w a 0 1 (fun _ => p) (fun _ => n) (fun _ => c) f := by
  refine ⟨fun i hi => ?_, fun i hi => ?_⟩
  · obtain rfl : i = 0 := by omega
    exact ha
  · obtain rfl : i = 0 := by omega
    have hlt := cell_lt ha
    simp only at hlt
    rcases h with ⟨x, y, rfl, _, h⟩ | ⟨rfl, rfl, rfl⟩
    · by_cases h0 : n = 0
      · exact ⟨a, 0, .inr h0, hlt, fun j hj => by omega⟩
      · have hx := cell_lt (h 0 (by omega))
        refine ⟨x, y, .inl rfl, hx, fun j hj => ?_⟩
        rw [show upto (fun _ => n) 0 = 0 from rfl, Nat.zero_add]
        exact h j hj
    · exact ⟨a, 0, .inr rfl, hlt, fun j hj => by omega⟩
/-- The code's Sum and Twice of one part. -/
theorem sum_one (p : Option Addr) (n c a : Nat) (f : Nat → UInt8) (w : World) (hn : n ≤ 1000000000000) (h : BytesAt w p n c f) (ha : w.cell? ⟨a, 0, none⟩ = some (.slice p n c)) (hK : KAt w) :
    Calls Tryd.prog 17 #[.slice (some ⟨a, 0, none⟩) 1 1] w fun e w' => e = .returned (.agg (hv (hashB f n))) ∧ Ch (fun _ => False) w w' := by
  have e : upto (fun _ => n) 1 = n := by simp [upto]
  have := sum_any a 0 1 1 (some ⟨a, 0, none⟩) (fun _ => p) (fun _ => n) (fun _ => c) f w (.inl rfl) (by omega) (by rw [e]; exact hn) (parts_one h ha) hK
  rw [e] at this
  exact this
theorem twice_one (p : Option Addr) (n c a : Nat) (f : Nat → UInt8) (w : World) (hn : n ≤ 1000000000000) (h : BytesAt w p n c f) (ha : w.cell? ⟨a, 0, none⟩ = some (.slice p n c)) (hK : KAt w) :
    Calls Tryd.prog 19 #[.slice (some ⟨a, 0, none⟩) 1 1] w fun e w' => e = .returned (.agg (hv (hashB (hashB f n) 32))) ∧ Ch (fun _ => False) w w' := by
  have e : upto (fun _ => n) 1 = n := by simp [upto]
  have := twice_any a 0 1 1 (some ⟨a, 0, none⟩) (fun _ => p) (fun _ => n) (fun _ => c) f w (.inl rfl) (by omega) (by rw [e]; exact hn) (parts_one h ha) hK
  rw [e] at this
  exact this
theorem eq_self' (g : Nat → UInt8) (w : World) : (Op.equalIn 10000 31 (.agg (hv g)) (.agg (hv g))).run Tryd.prog w = .ok true w := by
  rw [eq_hv]; simp

set_option maxRecDepth 100000 in
set_option maxHeartbeats 1000000 in
theorem lengths_in (n : Nat) (s : UInt8) (w : World) (hK : KAt w) (hn : n ≤ 700) :
    Calls Tryd.prog 5 #[.int .i64 (n : Int), .int .u8 (s.toNat : Int)] w fun e w' => e = .returned (.bool true) ∧ Ch (fun _ => False) w w' := by
  obtain ⟨i0, hi, hz0, hz1, hz2⟩ := info_parts info5
  have HK := Go.Lib.hid hK
  clear hK
  have hn1 : (n : Int) ≤ 700 := by omega
  go_enter Tryd.func5, Tryd.ntmps5
  go_wp2_with fail
  go_loopw [5, 6] (fun v i wr => ∃ k : Nat, ∃ f : Nat → UInt8, k ≤ n ∧ i = .int .i64 k ∧ wr.ownsRow w.heap.size 5 1 v k (fL f k) ∧ Ch (fun _ => False) w wr) (fun _ i _ => n - (intOf i).toNat)
  case atStart => exact ⟨0, fun _ => 0, by omega, rfl, World.ownsRow_nil _ _ _ _, Ch.refl _ _⟩
  case round =>
    obtain ⟨k, f, hk, rfl, hown, hC⟩ := hrel
    have HC := Go.Lib.hid hC
    clear hC
    by_cases hlt : k < n
    · have hsz : w.heap.size ≤ wr.heap.size := HC.out.size
      have HOB := Go.Lib.hid hown.lt
      have HOW := Go.Lib.hid hown
      clear hown
      obtain ⟨cc, hcc⟩ := xor_byte (((k : Int) * 7 + (s.toNat : Int)) % 256) ((k : Int) / 256)
      have HCC := Go.Lib.hid hcc
      clear hcc
      go_wp2_with (at_builtin; refine wpList_append_own _ rfl (.tmp 19) (.tmp 29) 34 rfl w.heap.size 5 i0 (.int .u8 0) 1 1 Tryd.underlying34 hi hz0 hz1 hz2 rfl (by decide) _ _ _ rfl (HOW.out.alloc _) ⟨wr.heap.size, 0, none⟩ 1 1 [.int .u8 (bits .xor .u8 (((k : Int) * 7 + (s.toNat : Int)) % 256) ((k : Int) / 256))] rfl rfl (one_at wr _ _) (by simp [Value.oneCell']) (by simp [maxLen]; omega) (by omega) (by simp; omega) ?_; intro v' w1 hown' hgrow hx; clear hx; have HO1 := Go.Lib.hid hown'; have HG := Go.Lib.hid hgrow; clear hown' hgrow)
      go_roundw
      case rel =>
        refine ⟨k + 1, fun j => if j = k then cc else f j, by omega, by go_num, ?_, Ch.grown (HC.out.alloc _) HG.out (fun j hj hlt => absurd (HOB.out j hj).1 (by omega))⟩
        have h := HO1.out
        rw [HCC.out, fL_upd] at h
        exact h
      case measure => simp [intOf]; omega
    · obtain rfl : k = n := by omega
      obtain ⟨p, c, rfl, hb⟩ := own_bytes hown
      have hn2 : k ≤ 1000000000000 := by omega
      have HR := Go.Lib.hid (fun (W : World) (h : Ch (fun _ => False) wr W) => rsum_any p k c f W hn2 (hb.ch h (fun _ _ => id)))
      have HRT := Go.Lib.hid (fun (W : World) (h : Ch (fun _ => False) wr W) => rtwice_any p k c f W hn2 (hb.ch h (fun _ _ => id)))
      have HS := Go.Lib.hid (fun (W : World) (a : Nat) (h : Ch (fun _ => False) wr W) (ha : W.cell? ⟨a, 0, none⟩ = some (.slice p k c)) => sum_one p k c a f W hn2 (hb.ch h (fun _ _ => id)) ha (HK.out.ch (HC.out.trans h) id))
      have HST := Go.Lib.hid (fun (W : World) (a : Nat) (h : Ch (fun _ => False) wr W) (ha : W.cell? ⟨a, 0, none⟩ = some (.slice p k c)) => twice_one p k c a f W hn2 (hb.ch h (fun _ _ => id)) ha (HK.out.ch (HC.out.trans h) id))
      have HW := Go.Lib.hid (fun (W : World) (h : Ch (fun _ => False) wr W) => works_any W (HK.out.ch (HC.out.trans h) id))
      have HE1 := eq_self' (hashB f k)
      have HE2 := eq_self' (hashB (hashB f k) 32)
      clear hown hb hlt
      generalize hashB f k = g1 at *
      generalize hashB g1 32 = g2 at *
      generalize hv g1 = R1 at *
      generalize hv g2 = R2 at *
      clear hi hz0 hz1 hz2 i0
      have HEE := Go.Lib.hid HE2
      clear HE2
      go_wp2_with fail
      refine (HS.out _ wr.heap.size ((Ch.refl _ wr).alloc _) (cell_fresh wr _ 34 0)).mono ?_; rintro e w1 ⟨rfl, hw1⟩
      have HC1 := Go.Lib.hid (((Ch.refl _ wr).alloc _).trans hw1); clear hw1
      go_wp2_with fail
      refine (HR.out _ HC1.out).mono ?_; rintro e w2 ⟨rfl, hw2⟩
      have HC2 := Go.Lib.hid (HC1.out.trans hw2); clear hw2
      go_wp2_with fail
      refine (HST.out _ w2.heap.size (HC2.out.alloc _) (cell_fresh w2 _ 34 0)).mono ?_; rintro e w3 ⟨rfl, hw3⟩
      have HC3 := Go.Lib.hid ((HC2.out.alloc _).trans hw3); clear hw3
      go_wp2_with fail
      refine (HRT.out _ HC3.out).mono ?_; rintro e w4 ⟨rfl, hw4⟩
      have HC4 := Go.Lib.hid (HC3.out.trans hw4); clear hw4
      clear HE1
      go_wp2_with (refine wpList_eql_wanted rfl (.tmp 40) (.tmp 42) 31 31 rfl R2 R2 rfl rfl eqg31 (HEE.out _) ?_)
      refine (HW.out _ HC4.out).mono ?_; rintro e w5 ⟨rfl, hw5⟩
      have HC5 := Go.Lib.hid (HC4.out.trans hw5); clear hw5
      go_wp2_with fail
      go_ret
      exact ⟨rfl, HC.out.trans HC5.out⟩
end Go.Proofs.YtdmeeghgbiffmaaDoor
