/- What takes a part off a second view of a reader's bytes, and part. -/
import Derived.Test.YtljllfdigfojdaaV6
namespace Go.Proofs.Ytljllfdigfojdaa
open Go Go.RowKit

theorem TakeTold.of {out : Out} {f : Nat → UInt8} {n l x0 : Nat} {w w' : World} {e : Ending} (h : TakeTold out f n l x0 w e w') : TakeTold out f n l x0 w e w' := h
/-- The closure of Number. -/
theorem num1_any (l x0 mb : Nat) (p : Option Addr) (n c : Nat) (f : Nat → UInt8) (most : Int) (w : World) (hl : LeftAt w l x0 p n c f) (hm : w.cell? ⟨mb, 0, none⟩ = some (.int .i64 most)) :
    Calls Try.prog 57 #[.pointer (some ⟨l, 0, none⟩), .pointer (some ⟨mb, 0, none⟩)] w (TakeTold (outN most f n) f n l x0 w) := by
  have HU := Go.Lib.hid (upTo_any l x0 p n c f most w hl)
  clear hl
  unfold TakeTold at *
  generalize outN most f n = out at *
  cases out with
  | lack =>
    go_enter Try.func57, Try.ntmps57
    go_wp2_with fail
    refine HU.out.mono ?_
    rintro e w' ⟨hc, rfl⟩
    have HC := Go.Lib.hid hc
    clear hc
    go_wp2_with fail
    exact ⟨rfl, HC.out, rfl⟩
  | wrong =>
    go_enter Try.func57, Try.ntmps57
    go_wp2_with fail
    refine HU.out.mono ?_
    rintro e w' ⟨hc, rfl⟩
    have HC := Go.Lib.hid hc
    clear hc
    go_wp2_with fail
    exact ⟨rfl, HC.out, rfl⟩
  | got x k =>
    go_enter Try.func57, Try.ntmps57
    go_wp2_with fail
    refine HU.out.mono ?_
    rintro e w' ⟨hc, rfl, h2⟩
    have HC := Go.Lib.hid hc; have H2 := Go.Lib.hid h2
    clear hc h2
    go_wp2_with fail
    go_ret
    exact ⟨HC.out, rfl, H2.out⟩
set_option maxRecDepth 100000 in
theorem take_none (l n c : Nat) (w : World) (hrow : w.heap[l]? = some (.cells #[.slice none 0 0] 57)) :
    Calls Try.prog 85 #[.pointer (some ⟨l, 0, none⟩), .int .i64 0] w fun e w' => e = .returned (.slice none 0 0) ∧ w'.heap[l]? = some (.cells #[.slice none 0 0] 57) ∧ Ch (fun q => q = l) w w' := by
  have hc : w.cell? ⟨l, 0, none⟩ = some (.slice none 0 0) := (cell_of_heap hrow 0).trans rfl
  have hf : w.frozen? ⟨l, 0, none⟩ = false := frozen_of_heap hrow 0
  have HR := Go.Lib.hid hrow
  clear hrow
  go_enter Try.func85, Try.ntmps85
  go_wp2
  go_ret
  exact ⟨rfl, set_left w l _ _ HR.out, ch_left w l _⟩
set_option maxRecDepth 100000 in
theorem take_zero (l c : Nat) (ad : Addr) (w : World) (hrow : w.heap[l]? = some (.cells #[.slice (some ad) 0 c] 57)) :
    Calls Try.prog 85 #[.pointer (some ⟨l, 0, none⟩), .int .i64 0] w fun e w' => e = .returned (.slice (some ad) 0 c) ∧ (∃ ad' : Addr, ad'.block = ad.block ∧ ∃ c' : Nat, w'.heap[l]? = some (.cells #[.slice (some ad') 0 c'] 57)) ∧ Ch (fun q => q = l) w w' := by
  have hc : w.cell? ⟨l, 0, none⟩ = some (.slice (some ad) 0 c) := (cell_of_heap hrow 0).trans rfl
  have hf : w.frozen? ⟨l, 0, none⟩ = false := frozen_of_heap hrow 0
  have HR := Go.Lib.hid hrow
  have HADD := Go.Lib.hid (show ad.block = ad.block ∧ (ad.add 0).block = ad.block from ⟨rfl, rfl⟩)
  clear hrow
  go_enter Try.func85, Try.ntmps85
  go_wp2
  all_goals
    go_ret
    first
      | exact ⟨rfl, ⟨ad, rfl, c, set_left w l _ _ HR.out⟩, ch_left w l _⟩
      | exact ⟨rfl, ⟨ad, rfl, 0, set_left w l _ _ HR.out⟩, ch_left w l _⟩
      | exact ⟨rfl, ⟨ad.add 0, HADD.out.2, _, set_left w l _ _ HR.out⟩, ch_left w l _⟩
/-- Some of the bytes that are left. -/
theorem takeL_any (l x0 : Nat) (p : Option Addr) (n c : Nat) (f : Nat → UInt8) (k : Nat) (w : World) (hl : LeftAt w l x0 p n c f) (hk : k ≤ n) :
    Calls Try.prog 85 #[.pointer (some ⟨l, 0, none⟩), .int .i64 (k : Int)] w fun e w' => Ch (fun q => q = l) w w' ∧ e = .returned (.slice p k c) ∧ BytesAt w' p k c f ∧ ∃ p' c', LeftAt w' l x0 p' (n - k) c' (fun j => f (k + j)) := by
  rcases hl.bytes with ⟨x, y, rfl, hnc, hx, hb⟩ | ⟨rfl, hp⟩
  · obtain rfl : x = x0 := hl.blk _ rfl
    refine (take_some l x y n c f k w hl.row ⟨hx, hb⟩ hl.ne hk hnc).mono ?_
    rintro e w' ⟨rfl, ⟨p', c', h1, _⟩, hc⟩
    exact ⟨hc, rfl, .inl ⟨x, y, rfl, by omega, Nat.lt_of_lt_of_le hx hc.size, fun j hj => hc.get (hb j (by omega)) hl.ne⟩, p', c', h1⟩
  · obtain rfl : k = 0 := by omega
    cases p with
    | none =>
      obtain rfl := hp rfl
      refine (take_none l 0 0 w hl.row).mono ?_
      rintro e w' ⟨rfl, hr, hc⟩
      exact ⟨hc, rfl, .inr ⟨rfl, fun _ => rfl⟩, none, 0, ⟨hr, .inr ⟨rfl, fun _ => rfl⟩, hl.ne, fun ad e => by cases e⟩⟩
    | some ad =>
      refine (take_zero l c ad w hl.row).mono ?_
      rintro e w' ⟨rfl, ⟨ad', h1, c', hr⟩, hc⟩
      exact ⟨hc, rfl, .inr ⟨rfl, fun h => by cases h⟩, some ad', c', ⟨hr, .inr ⟨rfl, fun h => by cases h⟩, hl.ne, fun a e => by cases e; exact h1.trans (hl.blk _ rfl)⟩⟩
def outT (most : Int) (f : Nat → UInt8) (n : Nat) : Out := match outN most f n with
  | .got (.int .i64 v) k => if n < k + v.toNat then .lack else .got (.string (bS (fun j => f (k + j)) v.toNat)) (k + v.toNat)
  | r => r
theorem outN_got {most : Int} {f : Nat → UInt8} {n k : Nat} {x : Value} (h : outN most f n = .got x k) : ∃ v : Nat, x = .int .i64 (v : Int) ∧ (v : Int) ≤ most := by
  unfold outN at h
  cases hr : rdN f n with
  | lack => rw [hr] at h; cases h
  | wrong => rw [hr] at h; cases h
  | got v k =>
    rw [hr] at h
    simp only at h
    split at h
    · cases h
    · cases h; exact ⟨v, rfl, by omega⟩
set_option maxHeartbeats 400000 in
theorem text_any (l x0 : Nat) (p : Option Addr) (n c : Nat) (f : Nat → UInt8) (most : Int) (w : World) (hl : LeftAt w l x0 p n c f) :
    Calls Try.prog 65 #[.pointer (some ⟨l, 0, none⟩), .int .i64 most] w (TakeTold (outT most f n) f n l x0 w) := by
  have HU := Go.Lib.hid (upTo_any l x0 p n c f most w hl)
  clear hl
  unfold TakeTold at *
  unfold outT
  cases ho : outN most f n with
  | lack =>
    rw [ho] at HU
    clear ho
    go_enter Try.func65, Try.ntmps65
    go_wp2_with fail
    refine HU.out.mono ?_
    rintro e w' ⟨hc, rfl⟩
    have HC := Go.Lib.hid hc
    clear hc
    go_wp2_with fail
    exact ⟨rfl, HC.out, rfl⟩
  | wrong =>
    rw [ho] at HU
    clear ho
    go_enter Try.func65, Try.ntmps65
    go_wp2_with fail
    refine HU.out.mono ?_
    rintro e w' ⟨hc, rfl⟩
    have HC := Go.Lib.hid hc
    clear hc
    go_wp2_with fail
    exact ⟨rfl, HC.out, rfl⟩
  | got x k =>
    obtain ⟨v, rfl, _⟩ := outN_got ho
    rw [ho] at HU
    clear ho
    simp only [Int.toNat_natCast]
    by_cases hlt : n < k + v
    · simp only [if_pos hlt]
      go_enter Try.func65, Try.ntmps65
      go_wp2_with fail
      refine HU.out.mono ?_
      rintro e w1 ⟨hc, rfl, hk, p1, c1, h1⟩
      have HC := Go.Lib.hid hc; have HT := Go.Lib.hid (take_lack l x0 p1 (n - k) c1 _ v w1 h1 (by omega))
      clear hc h1 hlt
      go_wp2_with fail
      refine HT.out.mono ?_
      rintro e w2 ⟨rfl, rfl⟩
      go_wp2_with fail
      exact ⟨rfl, HC.out, rfl⟩
    · simp only [if_neg hlt]
      go_enter Try.func65, Try.ntmps65
      go_wp2_with fail
      refine HU.out.mono ?_
      rintro e w1 ⟨hc, rfl, hk, p1, c1, h1⟩
      have HC := Go.Lib.hid hc; have HT := Go.Lib.hid (takeL_any l x0 p1 (n - k) c1 _ v w1 h1 (by omega))
      have HK := Go.Lib.hid (show k + v ≤ n by omega)
      clear hc h1 hlt hk
      go_wp2_with fail
      refine HT.out.mono ?_
      rintro e w2 ⟨hc2, rfl, hb, p2, c2, h2⟩
      have hcv := conv_bytes hb
      have HC2 := Go.Lib.hid (HC.out.trans hc2); have H2 := Go.Lib.hid h2
      clear hc2 h2 hb
      go_wp2_with fail
      go_ret
      have h3 := H2.out
      rw [show n - k - v = n - (k + v) by omega, show (fun j => f (k + (v + j))) = (fun j => f (k + v + j)) from funext fun j => by rw [Nat.add_assoc]] at h3
      exact ⟨HC2.out, rfl, HK.out, p2, c2, h3⟩
/-- The closure of Text. -/
theorem text1_any (l x0 mb : Nat) (p : Option Addr) (n c : Nat) (f : Nat → UInt8) (most : Int) (w : World) (hl : LeftAt w l x0 p n c f) (hm : w.cell? ⟨mb, 0, none⟩ = some (.int .i64 most)) :
    Calls Try.prog 64 #[.pointer (some ⟨l, 0, none⟩), .pointer (some ⟨mb, 0, none⟩)] w (TakeTold (outT most f n) f n l x0 w) := by
  have HU := Go.Lib.hid (text_any l x0 p n c f most w hl)
  clear hl
  unfold TakeTold at *
  generalize outT most f n = out at *
  cases out with
  | lack =>
    go_enter Try.func64, Try.ntmps64
    go_wp2_with fail
    refine HU.out.mono ?_
    rintro e w' ⟨hc, rfl⟩
    have HC := Go.Lib.hid hc
    clear hc
    go_wp2_with fail
    exact ⟨rfl, HC.out, rfl⟩
  | wrong =>
    go_enter Try.func64, Try.ntmps64
    go_wp2_with fail
    refine HU.out.mono ?_
    rintro e w' ⟨hc, rfl⟩
    have HC := Go.Lib.hid hc
    clear hc
    go_wp2_with fail
    exact ⟨rfl, HC.out, rfl⟩
  | got x k =>
    go_enter Try.func64, Try.ntmps64
    go_wp2_with fail
    refine HU.out.mono ?_
    rintro e w' ⟨hc, rfl, h2⟩
    have HC := Go.Lib.hid hc; have H2 := Go.Lib.hid h2
    clear hc h2
    go_wp2_with fail
    go_ret
    exact ⟨HC.out, rfl, H2.out⟩
end Go.Proofs.Ytljllfdigfojdaa
