/- Parse: where a text is cut, the number that its two halves spell, and whether its text is the text. -/
import Derived.Test.YtcceialiedaccaaDoorA6
namespace Go.Proofs.YtcceialiedaccaaDoor
open Go Go.RowKit

/-- What stands ahead of the first point, and behind it. -/
def coinsL (l : List UInt8) : List UInt8 := if Lib.indexByte l 46 < 0 then l else l.take (Lib.indexByte l 46).toNat
def unitsOf (l : List UInt8) : List UInt8 := if Lib.indexByte l 46 < 0 then [] else l.drop ((Lib.indexByte l 46).toNat + 1)
theorem tB_eta (s : ByteArray) : tB s.data.toList = s := by cases s; simp [tB]
theorem index_lt (l : List UInt8) (c : UInt8) (h : 0 ≤ Lib.indexByte l c) : (Lib.indexByte l c).toNat < l.length := by
  induction l with
  | nil => simp [Lib.indexByte] at h
  | cons b l ih =>
    unfold Lib.indexByte at h ⊢
    split at h
    · rename_i e; rw [if_pos e]; simp
    · rename_i e
      rw [if_neg e]
      split at h
      · omega
      · rename_i e2
        rw [if_neg e2]
        have h3 := Lib.indexByte_ge l c
        have h4 : Lib.indexByte l c ≠ -1 := by simpa using e2
        have := ih (by omega)
        simp only [List.length_cons]
        omega
theorem extract_upto' (s : ByteArray) (k : Nat) : s.extract 0 k = tB (s.data.toList.take k) := Lib.extract_upto s k
theorem extract_from' (s : ByteArray) (k : Nat) : s.extract k s.size = tB (s.data.toList.drop k) := Lib.extract_from s k

set_option maxRecDepth 100000 in
set_option maxHeartbeats 1000000 in
theorem scut_any (s : ByteArray) (w : World) (hs : s.size ≤ 1000000) :
    Calls Tryd.prog 56 #[.string s, .string ⟨#[46]⟩] w fun e w' => ∃ b, e = .returned (.tuple #[.string (tB (coinsL s.data.toList)), .string (tB (unitsOf s.data.toList)), .bool b]) ∧ Ch (fun _ => False) w w' := by
  have HI := Go.Lib.hid (Tryd.stringslite_Index_one s 46 w)
  have hlt := index_lt s.data.toList 46
  have hge := Lib.indexByte_ge s.data.toList 46
  have hlen : s.data.toList.length = s.size := Array.length_toList
  unfold coinsL unitsOf
  by_cases h : Lib.indexByte s.data.toList 46 < 0
  · rw [if_pos h, if_pos h, tB_eta]
    generalize Lib.indexByte s.data.toList 46 = i at *
    clear hlt hge hlen
    go_enter Tryd.func56, Tryd.ntmps56
    go_wp2_with (go_at_call 69; refine HI.out.mono ?_; rintro e w' ⟨rfl, rfl⟩)
    refine bodyPost_ret (v := .tuple #[.string s, .string (tB []), .bool false]) (by simp [results, Tryd.results56, go_sem, tB]) rfl ⟨_, rfl, Ch.refl _ _⟩
  · rw [if_neg h, if_neg h]
    have hi := hlt (by omega)
    obtain ⟨k, hk⟩ := Int.eq_ofNat_of_zero_le (show 0 ≤ Lib.indexByte s.data.toList 46 by omega)
    rw [hk] at HI hi ⊢
    have hks : k < s.size := by omega
    have HE1 := Go.Lib.hid (extract_upto' s k)
    have HE2 := Go.Lib.hid (extract_from' s (k + 1))
    have hw : wrap64 ((k : Int) + 1) = ((k + 1 : Nat) : Int) := by unfold wrap64; omega
    clear hlt hge hk hi h
    go_enter Tryd.func56, Tryd.ntmps56
    go_upto_region 3 with (go_at_call 69; refine HI.out.mono ?_; rintro e w' ⟨rfl, rfl⟩)
    go_quiet (fail)
    go_wp2_with fail
    rw [show (((k : Nat) : Int).toNat) = k by omega]
    refine bodyPost_ret (v := .tuple #[.string (tB (s.data.toList.take k)), .string (tB (s.data.toList.drop (k + 1))), .bool true]) (by simp [results, Tryd.results56, go_sem, ← HE1.out, ← HE2.out]) rfl ⟨_, rfl, (Ch.refl _ _).drewN _⟩
set_option maxRecDepth 100000 in
set_option maxHeartbeats 1000000 in
theorem cut_any (s : ByteArray) (w : World) (hs : s.size ≤ 1000000) :
    Calls Tryd.prog 46 #[.string s, .string ⟨#[46]⟩] w fun e w' => ∃ b, e = .returned (.tuple #[.string (tB (coinsL s.data.toList)), .string (tB (unitsOf s.data.toList)), .bool b]) ∧ Ch (fun _ => False) w w' := by
  have HI := Go.Lib.hid (scut_any s w hs)
  generalize tB (coinsL s.data.toList) = A at *
  generalize tB (unitsOf s.data.toList) = B at *
  go_enter Tryd.func46, Tryd.ntmps46
  go_wp2_with fail
  refine HI.out.mono ?_
  rintro e w1 ⟨b, rfl, hc⟩
  have HC := Go.Lib.hid hc
  clear hc
  go_wp2_with fail
  refine bodyPost_ret (v := .tuple #[.string A, .string B, .bool b]) (by simp [results, Tryd.results46, go_sem]) rfl ⟨_, rfl, HC.out⟩
end Go.Proofs.YtcceialiedaccaaDoor
