/- What is read off the bytes that are left: take, a number. -/
import Derived.Test.YtljllfdigfojdaaV4
namespace Go.Proofs.Ytljllfdigfojdaa
open Go Go.RowKit

/-- How what was tried ended: the values that give up. -/
abbrev gaveUp (n : Int) : Ending := .panicked [{ v := .iface 127 (.int .i64 n), recovered := false }]
/-- The bytes that are left, in a variable at l. -/
structure LeftAt (w : World) (l x0 : Nat) (p : Option Addr) (n c : Nat) (f : Nat → UInt8) : Prop where
  row : w.heap[l]? = some (.cells #[.slice p n c] 57)
  bytes : BytesAt w p n c f
  ne : x0 ≠ l
  blk : ∀ ad, p = some ad → ad.block = x0
set_option maxRecDepth 100000 in
theorem take_lack (l x0 : Nat) (p : Option Addr) (n c : Nat) (f : Nat → UInt8) (k : Nat) (w : World) (hl : LeftAt w l x0 p n c f) (hk : n < k) :
    Calls Try.prog 85 #[.pointer (some ⟨l, 0, none⟩), .int .i64 (k : Int)] w fun e w' => e = gaveUp 1 ∧ w = w' := by
  have hc : w.cell? ⟨l, 0, none⟩ = some (.slice p n c) := (cell_of_heap hl.row 0).trans rfl
  have hk' : (n : Int) < (k : Int) := by omega
  clear hl
  go_enter Try.func85, Try.ntmps85
  go_wp2
  exact ⟨rfl, rfl, rfl⟩
theorem set_left (w : World) (l : Nat) (u v : Value) (h : w.heap[l]? = some (.cells #[u] 57)) : (w.setCell ⟨l, 0, none⟩ v).heap[l]? = some (.cells #[v] 57) := (row_setM h 0 v).trans rfl
theorem ch_left (w : World) (l : Nat) (v : Value) : Ch (fun q => q = l) w (w.setCell ⟨l, 0, none⟩ v) := Ch.setCell (S := fun q => q = l) (Ch.refl _ w) (p := ⟨l, 0, none⟩) (fun _ => rfl) v
/-- Bytes that lie in memory. -/
def InMem (w : World) (x y n : Nat) (f : Nat → UInt8) : Prop := x < w.heap.size ∧ ∀ j, j < n → w.cell? ⟨x, y + j, none⟩ = some (.int .u8 ((f j).toNat : Int))
theorem InMem.ch {S : Nat → Prop} {w w' : World} {x y n : Nat} {f : Nat → UInt8} (h : InMem w x y n f) (hc : Ch S w w') (hx : ¬ S x) : InMem w' x y n f := ⟨Nat.lt_of_lt_of_le h.1 hc.size, fun j hj => hc.get (h.2 j hj) hx⟩
set_option maxRecDepth 100000 in
theorem take_some (l x y n c : Nat) (f : Nat → UInt8) (k : Nat) (w : World) (hrow : w.heap[l]? = some (.cells #[.slice (some ⟨x, y, none⟩) n c] 57)) (hm : InMem w x y n f) (hx : x ≠ l) (hk : k ≤ n) (hnc : n ≤ c) :
    Calls Try.prog 85 #[.pointer (some ⟨l, 0, none⟩), .int .i64 (k : Int)] w fun e w' => e = .returned (.slice (some ⟨x, y, none⟩) k c) ∧ (∃ p' c', LeftAt w' l x p' (n - k) c' (fun j => f (k + j)) ∧ ((p' = some ⟨x, y + k, none⟩ ∧ n - k ≤ c') ∨ n - k = 0)) ∧ Ch (fun q => q = l) w w' := by
  have hc : w.cell? ⟨l, 0, none⟩ = some (.slice (some ⟨x, y, none⟩) n c) := (cell_of_heap hrow 0).trans rfl
  have hf : w.frozen? ⟨l, 0, none⟩ = false := frozen_of_heap hrow 0
  have hk' : ¬ (n : Int) < (k : Int) := by omega
  have HR := Go.Lib.hid hrow; have HM := Go.Lib.hid hm
  have HE := Go.Lib.hid (show ∀ w' c', Ch (fun q => q = l) w w' → w'.heap[l]? = some (.cells #[.slice (some ⟨x, y + k, none⟩) (n - k) c'] 57) → n - k ≤ c' → LeftAt w' l x (some ⟨x, y + k, none⟩) (n - k) c' (fun j => f (k + j)) from fun w' c' hch hr hcc =>
    ⟨hr, .inl ⟨x, y + k, rfl, hcc, Nat.lt_of_lt_of_le hm.1 hch.size, fun j hj => by rw [Nat.add_assoc]; exact hch.get (hm.2 (k + j) (by omega)) hx⟩, hx, fun ad e => by cases e; rfl⟩)
  clear hrow hm
  go_enter Try.func85, Try.ntmps85
  go_wp2
  all_goals
    go_ret
    first
      | exact ⟨rfl, ⟨_, _, HE.out _ _ (ch_left w l _) (set_left w l _ _ HR.out) (by omega), .inl ⟨rfl, by omega⟩⟩, ch_left w l _⟩
      | exact ⟨rfl, ⟨_, _, ⟨set_left w l _ _ HR.out, .inr ⟨by omega, fun h => by cases h⟩, hx, fun ad e => by cases e; rfl⟩, .inr (by omega)⟩, ch_left w l _⟩
set_option maxRecDepth 100000 in
theorem or_bytes (V c : Nat) (hV : V < 72057594037927936) (hc : c < 256) : bits BinOp.or IntKind.u64 (IntKind.u64.wrap ((V : Int) * 256)) (IntKind.u64.wrap (c : Int)) = ((256 * V + c : Nat) : Int) := by
  have e1 : IntKind.u64.wrap ((V : Int) * 256) = ((V * 256 : Nat) : Int) := by
    rw [show (V : Int) * 256 = ((V * 256 : Nat) : Int) by push_cast; rfl]
    simp [IntKind.wrap, IntKind.bits, IntKind.signed]; omega
  have e2 : IntKind.u64.wrap (c : Int) = (c : Int) := by simp [IntKind.wrap, IntKind.bits, IntKind.signed]; omega
  rw [e1, e2]
  show IntKind.u64.wrap ((BitVec.ofInt 64 ((V * 256 : Nat) : Int) ||| BitVec.ofInt 64 (c : Int)).toNat : Int) = _
  have e3 : (BitVec.ofInt 64 ((V * 256 : Nat) : Int) ||| BitVec.ofInt 64 (c : Int)).toNat = 256 * V + c := by
    rw [BitVec.toNat_or, BitVec.ofInt_natCast, BitVec.ofInt_natCast, BitVec.toNat_ofNat, BitVec.toNat_ofNat, Nat.mod_eq_of_lt (by omega), Nat.mod_eq_of_lt (by omega)]
    have := Nat.shiftLeft_add_eq_or_of_lt (i := 8) (show c < 2 ^ 8 by omega) V
    rw [Nat.shiftLeft_eq] at this
    rw [← this]; omega
  rw [e3]
  simp [IntKind.wrap, IntKind.bits, IntKind.signed]; omega
/-- Bytes, the highest ahead. -/
def beN (f : Nat → UInt8) (i : Nat) : Nat → Nat
  | 0 => 0
  | k + 1 => 256 * beN f i k + (f (i + k)).toNat
theorem beN_lt (f : Nat → UInt8) (i k : Nat) : beN f i k < 256 ^ k := by
  induction k with
  | zero => simp [beN]
  | succ k ih =>
    have := (f (i + k)).toNat_lt
    show 256 * beN f i k + _ < 256 ^ (k + 1)
    rw [Nat.pow_succ]
    omega
/-- How a number is read: bytes lack, it is none, or it is v, of k bytes. -/
inductive Res where
  | lack
  | wrong
  | got (v k : Nat)
def rdN (f : Nat → UInt8) (n : Nat) : Res :=
  if n = 0 then .lack
  else if (f 0).toNat < 253 then .got (f 0).toNat 1
  else if n < 1 + wdN (f 0).toNat then .lack
  else if 4611686018427387904 < beN f 1 (wdN (f 0).toNat) ∨ mkN (beN f 1 (wdN (f 0).toNat)) ≠ (f 0).toNat then .wrong
  else .got (beN f 1 (wdN (f 0).toNat)) (1 + wdN (f 0).toNat)
def NumTold (f : Nat → UInt8) (n : Nat) (l x0 : Nat) (w : World) (e : Ending) (w' : World) : Prop :=
  Ch (fun q => q = l) w w' ∧ match rdN f n with
    | .lack => e = gaveUp 1
    | .wrong => e = gaveUp 2
    | .got v k => e = .returned (.int .i64 (v : Int)) ∧ k ≤ n ∧ ∃ p' c', LeftAt w' l x0 p' (n - k) c' (fun j => f (k + j))
set_option maxRecDepth 100000 in
set_option maxHeartbeats 1000000 in
theorem number_any (l x0 : Nat) (p : Option Addr) (n c : Nat) (f : Nat → UInt8) (w : World) (hl : LeftAt w l x0 p n c f) :
    Calls Try.prog 83 #[.pointer (some ⟨l, 0, none⟩)] w (NumTold f n l x0 w) := by
  by_cases h0 : n = 0
  · have HT := Go.Lib.hid (take_lack l x0 p n c f 1 w hl (by omega))
    have HN := Go.Lib.hid (show NumTold f n l x0 w (gaveUp 1) w from ⟨Ch.refl _ _, by unfold rdN; rw [if_pos h0]⟩)
    clear hl h0
    go_enter Try.func83, Try.ntmps83
    go_wp2_with fail
    refine HT.out.mono ?_
    rintro e w' ⟨rfl, rfl⟩
    go_wp2_with fail
    exact ⟨rfl, HN.out⟩
  · obtain ⟨x, y, rfl, hxl, hcell⟩ := hl.bytes.at0 (by omega)
    have hx : x ≠ l := by have h1 := hl.blk _ rfl; have h2 := hl.ne; simp only at h1; omega
    obtain rfl : x = x0 := hl.blk _ rfl
    have hnc : n ≤ c := by
      rcases hl.bytes with ⟨_, _, _, h, _⟩ | ⟨h, _⟩
      · exact h
      · exact absurd h h0
    have HM := Go.Lib.hid (show InMem w x y n f from ⟨hxl, hcell⟩)
    have HT := Go.Lib.hid (take_some l x y n c f 1 w hl.row ⟨hxl, hcell⟩ hx (by omega) hnc)
    have HRD := Go.Lib.hid (show rdN f n = if (f 0).toNat < 253 then Res.got (f 0).toNat 1 else if n < 1 + wdN (f 0).toNat then .lack else if 4611686018427387904 < beN f 1 (wdN (f 0).toNat) ∨ mkN (beN f 1 (wdN (f 0).toNat)) ≠ (f 0).toNat then .wrong else .got (beN f 1 (wdN (f 0).toNat)) (1 + wdN (f 0).toNat) by unfold rdN; rw [if_neg h0])
    clear hl hcell hxl
    go_enter Try.func83, Try.ntmps83
    go_wp2_with fail
    refine HT.out.mono ?_
    rintro e w1 ⟨rfl, ⟨p1, c1, hl1, hp1⟩, hc1⟩
    have HL1 := Go.Lib.hid hl1; have HP1 := Go.Lib.hid hp1; have HC1 := Go.Lib.hid hc1
    have hb0 : w1.cell? ⟨x, y, none⟩ = some (.int .u8 ((f 0).toNat : Int)) := hc1.get (HM.out.2 0 (by omega)) hx
    clear hl1 hp1 hc1 HT
    by_cases hm : (f 0).toNat < 253
    · have hm' : (((f 0).toNat : Nat) : Int) < 253 := by omega
      have HN := Go.Lib.hid (show NumTold f n l x w (.returned (.int .i64 ((f 0).toNat : Int))) w1 from ⟨HC1.out, by rw [HRD.out, if_pos hm]; exact ⟨rfl, by omega, p1, c1, HL1.out⟩⟩)
      clear HRD hm
      generalize (f 0).toNat = m at *
      go_wp2_with fail
      go_ret
      exact HN.out
    · have hm' : ¬ (((f 0).toNat : Nat) : Int) < 253 := by omega
      have hlt := (f 0).toNat_lt
      have HW := Go.Lib.hid (fun W => width_any (f 0).toNat W (by omega))
      rw [if_neg hm] at HRD
      have HWB := Go.Lib.hid (show 0 < wdN (f 0).toNat ∧ wdN (f 0).toNat ≤ 8 by unfold wdN; split <;> (try split) <;> omega)
      clear hm hlt
      generalize hmm : (f 0).toNat = m at *
      clear hmm
      generalize wdN m = W at *
      by_cases hn : n < 1 + W
      · have HT2 := Go.Lib.hid (take_lack l x p1 (n - 1) c1 _ W w1 HL1.out (by omega))
        have HN := Go.Lib.hid (show NumTold f n l x w (gaveUp 1) w1 from ⟨HC1.out, by rw [HRD.out, if_pos hn]⟩)
        clear HRD hn
        go_wp2_with (first
          | (go_at_call 80; refine (HW.out _).mono ?_; rintro e w' ⟨rfl, rfl⟩)
          | (go_at_call 85; refine HT2.out.mono ?_; rintro e w' ⟨rfl, rfl⟩))
        exact ⟨rfl, HN.out⟩
      · obtain ⟨rfl, hc2⟩ := HP1.out.resolve_right (by have := HWB.out; omega)
        rw [if_neg hn] at HRD
        have HM1 := Go.Lib.hid (show InMem w1 x (y + 1) (n - 1) (fun j => f (1 + j)) from ⟨Nat.lt_of_lt_of_le HM.out.1 HC1.out.size, fun j hj => by rw [Nat.add_assoc]; exact HC1.out.get (HM.out.2 (1 + j) (by omega)) hx⟩)
        have HT2 := Go.Lib.hid (take_some l x (y + 1) (n - 1) c1 _ W w1 HL1.out.row HM1.out hx (by omega) hc2)
        go_wp2_with (first
          | (go_at_call 80; refine (HW.out _).mono ?_; rintro e w' ⟨rfl, rfl⟩)
          | (go_at_call 85; refine HT2.out.mono ?_; rintro e w2 ⟨rfl, ⟨p2, c2, hl2, hp2⟩, hc3⟩; have HL2 := Go.Lib.hid hl2; have HC2 := Go.Lib.hid (HC1.out.trans hc3); have HC3 := Go.Lib.hid hc3; clear hl2 hp2 hc3))
        go_loop [4, 20] (fun z ix => ∃ i : Nat, i ≤ W ∧ ix = .int .i64 i ∧ z = .int .u64 (beN f 1 i : Int)) (fun _ ix => W - (intOf ix).toNat)
        case atStart => exact ⟨0, by omega, rfl, rfl⟩
        case round =>
          obtain ⟨i, hi, rfl, rfl⟩ := hrel
          have hW8 := HWB.out.2
          by_cases hlt : i < W
          · have hci : w2.cell? ⟨x, y + 1 + i, none⟩ = some (.int .u8 ((f (1 + i)).toNat : Int)) := HC3.out.get (HM1.out.2 i (by omega)) hx
            have HV := Go.Lib.hid (show beN f 1 (i + 1) = 256 * beN f 1 i + (f (1 + i)).toNat from rfl)
            have hb1 := beN_lt f 1 i
            have hb2 := (f (1 + i)).toNat_lt
            have HOR := Go.Lib.hid (or_bytes (beN f 1 i) (f (1 + i)).toNat (Nat.lt_of_lt_of_le hb1 (Nat.le_trans (Nat.pow_le_pow_right (by omega) (show i ≤ 7 by have := HWB.out; omega)) (by decide))) hb2)
            clear hb1 hb2
            generalize beN f 1 i = V at *
            generalize (f (1 + i)).toNat = cb at *
            go_wp2_with fail
            go_round
            case rel => exact ⟨i + 1, by omega, by go_num, by rw [HV.out, HOR.out]⟩
            case measure => simp [intOf]; omega
          · obtain rfl : W = i := by omega
            have HVL := Go.Lib.hid (show beN f 1 W < 18446744073709551616 from Nat.lt_of_lt_of_le (beN_lt f 1 W) (Nat.le_trans (Nat.pow_le_pow_right (by omega) HWB.out.2) (by decide)))
            have HMK := Go.Lib.hid (fun w => mark_any (beN f 1 W) w)
            have HRN := Go.Lib.hid (show ∀ e, (match (if 4611686018427387904 < beN f 1 W ∨ mkN (beN f 1 W) ≠ m then Res.wrong else .got (beN f 1 W) (1 + W)) with | .lack => e = gaveUp 1 | .wrong => e = gaveUp 2 | .got v k => e = .returned (.int .i64 (v : Int)) ∧ k ≤ n ∧ ∃ p' c', LeftAt w2 l x p' (n - k) c' (fun j => f (k + j))) → NumTold f n l x w e w2 from fun e h => ⟨HC2.out, by rw [HRD.out]; exact h⟩)
            have HLL := Go.Lib.hid (show ∃ p' c', LeftAt w2 l x p' (n - (1 + W)) c' (fun j => f (1 + W + j)) from ⟨p2, c2, by
              have := HL2.out
              rw [show n - 1 - W = n - (1 + W) by omega] at this
              refine ⟨this.row, ?_, this.ne, this.blk⟩
              have hb := this.bytes
              rw [show (fun j => f (1 + (W + j))) = (fun j => f (1 + W + j)) from funext fun j => by rw [Nat.add_assoc]] at hb
              exact hb⟩)
            clear HL2 HRD HC2 HC3 HT2 HM HM1
            have HVB := Go.Lib.hid (show 1 + W ≤ n by omega)
            generalize beN f 1 W = V at *
            by_cases hbig : 4611686018427387904 < V
            · have hbig' : (4611686018427387904 : Int) < (V : Int) := by omega
              have HE := Go.Lib.hid (HRN.out (gaveUp 2) (by rw [if_pos (.inl hbig)]))
              clear HRN hbig
              go_wp2_with fail
              exact ⟨rfl, HE.out⟩
            · have hbig' : ¬ (4611686018427387904 : Int) < (V : Int) := by omega
              have hwv : IntKind.i64.wrap (V : Int) = (V : Int) := by simp [IntKind.wrap, IntKind.bits, IntKind.signed]; omega
              by_cases hmk : mkN V = m
              · have HE := Go.Lib.hid (HRN.out (.returned (.int .i64 (V : Int))) (by rw [if_neg (fun h => h.elim hbig (fun h => h hmk))]; exact ⟨rfl, HVB.out, HLL.out⟩))
                rw [hmk] at HMK
                clear HRN hbig hmk
                go_wp2_with (go_at_call 79; refine (HMK.out _).mono ?_; rintro e w' ⟨rfl, rfl⟩)
                go_ret
                exact HE.out
              · have HE := Go.Lib.hid (HRN.out (gaveUp 2) (by rw [if_pos (.inr hmk)]))
                have hne : ((mkN V : Nat) : Int) ≠ (m : Int) := by omega
                clear HRN hbig hmk
                generalize mkN V = mv at *
                go_wp2_with (go_at_call 79; refine (HMK.out _).mono ?_; rintro e w' ⟨rfl, rfl⟩)
                exact ⟨rfl, HE.out⟩
end Go.Proofs.Ytljllfdigfojdaa
