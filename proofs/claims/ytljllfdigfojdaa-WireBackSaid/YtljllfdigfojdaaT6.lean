/- Bytes of a row of one's own; a number's four bytes behind them. -/
import Derived.Test.YtljllfdigfojdaaT5
import Derived.Laws.MakeOwn
import Derived.Laws.AppendOwnNone
import Derived.Stop.BytesEq
import Derived.Lib.SlBytesConst
namespace Go.Proofs.Ytljllfdigfojdaa
open Go Go.RowKit
attribute [local go_sem high] b_add b_xor b_and b_or b_shr b_shl not32 wrap_un beq32 neg32 b_and1 b_andC b_xor8 lowB_wrap xor_u8

def fL (f : Nat → UInt8) (n : Nat) : List Value := (List.range n).map fun j => .int .u8 ((f j).toNat : Int)
theorem fL_len (f : Nat → UInt8) (n : Nat) : (fL f n).length = n := by simp [fL]
theorem fL_get (f : Nat → UInt8) (n j : Nat) (u : Value) (h : (fL f n)[j]? = some u) : j < n ∧ u = .int .u8 ((f j).toNat : Int) := by
  unfold fL at h
  by_cases hj : j < n
  · simp [hj] at h; exact ⟨hj, h.symm⟩
  · rw [List.getElem?_eq_none (by simp; omega)] at h; cases h
theorem fL_one (f : Nat → UInt8) (n : Nat) : ∀ u ∈ fL f n, u.oneCell' = true := by
  intro u hu
  unfold fL at hu
  obtain ⟨_, _, rfl⟩ := List.mem_map.1 hu
  rfl
theorem fL_succ (f : Nat → UInt8) (n : Nat) : fL f (n + 1) = fL f n ++ [.int .u8 ((f n).toNat : Int)] := by
  unfold fL
  rw [List.range_succ, List.map_append]; rfl
theorem fL_congr {f g : Nat → UInt8} (n : Nat) (h : ∀ j, j < n → f j = g j) : fL f n = fL g n := by
  unfold fL
  exact List.map_congr_left (fun j hj => by rw [h j (List.mem_range.1 hj)])
/-- What a row of bytes of one's own says as a string. -/
theorem conv_own {w : World} {base n : Nat} {v : Value} (l : List UInt8) (h : w.ownsRow base 5 1 v n (l.map fun b => .int .u8 (b.toNat : Int))) (hn : 0 < n) :
    (convert 27 9 v).run Try.prog w = .ok (.string ⟨l.toArray⟩) w := by
  obtain ⟨hl, h1 | ⟨g, cap, cur, rfl, h2, h3, h4, h5, h6, h7⟩⟩ := h
  · omega
  · have hn' : l.length = n := by simpa using hl
    subst hn'
    refine run_convert_bytes_back (P := Try.prog) w 27 9 5 ⟨g, 0, none⟩ cap l Try.underlying27 Try.underlying5 Try.underlying9 (fun j hj => ?_)
    rw [show (⟨g, 0, none⟩ : Addr).add j = ⟨g, j, none⟩ by simp [Addr.add]; omega]
    refine (cell_of_heap h3 j).trans ?_
    have e : cur.toList[j]? = some (.int .u8 (l[j].toNat : Int)) := by
      have : (cur.toList.take (l.length * 1))[j]? = some (.int .u8 (l[j].toNat : Int)) := by rw [h7]; simp [hj]
      rw [List.getElem?_take] at this
      split at this
      · exact this
      · exact absurd this (by simp)
    simpa using e
theorem one_at (wr : World) (v : Value) (t : TypeId) : ∀ j u, [v][j]? = some u → (wr.alloc (.cells #[v] t)).cell? ((⟨wr.heap.size, 0, none⟩ : Addr).add j) = some u := fun j u h => by
  match j, h with
  | 0, h =>
    have := cell_fresh wr #[v] t 0
    rw [show (⟨wr.heap.size, 0, none⟩ : Addr).add 0 = ⟨wr.heap.size, 0, none⟩ by simp [Addr.add], this]
    exact h

theorem info5 : (Try.prog.info? 5).map (fun i => (i.zero, i.size, i.bytes)) = some (some (.int .u8 0), 1, 1) := by kernel_rfl
theorem info_parts {t : TypeId} {z : Value} {s b : Nat} (h : (Try.prog.info? t).map (fun i => (i.zero, i.size, i.bytes)) = some (some z, s, b)) : ∃ i, Try.prog.info? t = some i ∧ i.zero = some z ∧ i.size = s ∧ i.bytes = b := by
  cases hi : Try.prog.info? t with
  | none => rw [hi] at h; cases h
  | some i => rw [hi] at h; simp at h; exact ⟨i, rfl, h.1, h.2.1, h.2.2⟩
/-- The byte of place j of a number. -/
def sumB (z : BitVec 32) (j : Nat) : UInt8 := lowB (z >>> (8 * j))

set_option maxRecDepth 100000 in
set_option maxHeartbeats 1000000 in
theorem laid_any (base n : Nat) (v : Value) (xs : List Value) (z : BitVec 32) (w : World) (hown : w.ownsRow base 5 1 v n xs) (hbase : base ≤ w.heap.size) (hn : n ≤ 2000000000000) :
    Calls Try.prog 88 #[v, .int .u32 (un z)] w fun e w' => ∃ v', e = .returned v' ∧ w'.ownsRow base 5 1 v' (n + 4) (xs ++ fL (sumB z) 4) ∧ Ch (fun k => base ≤ k) w w' := by
  obtain ⟨i0, hi, hz0, hz1, hz2⟩ := info_parts info5
  have HO := Go.Lib.hid hown
  clear hown
  go_enter Try.func88, Try.ntmps88
  go_wp2_with fail
  go_loopw [0, 1, 5] (fun v' zz i wr => ∃ k : Nat, k ≤ 4 ∧ i = .int .i64 k ∧ zz = .int .u32 (un (z >>> (8 * k))) ∧ wr.ownsRow base 5 1 v' (n + k) (xs ++ fL (sumB z) k) ∧ Ch (fun k => base ≤ k) w wr) (fun _ _ i _ => 4 - (intOf i).toNat)
  case atStart => exact ⟨0, by omega, rfl, by simp, by simpa [fL] using HO.out, Ch.refl _ _⟩
  case round =>
    obtain ⟨k, hk, rfl, rfl, hown, hC⟩ := hrel
    have HC := Go.Lib.hid hC; have HOW := Go.Lib.hid hown
    have HOB := Go.Lib.hid hown.lt
    clear hC hown
    by_cases hlt : k < 4
    · have hsz : base ≤ wr.heap.size := Nat.le_trans hbase HC.out.size
      have HS := Go.Lib.hid (show z >>> (8 * (k + 1)) = (z >>> (8 * k)) >>> 8 by rw [← BitVec.shiftRight_add]; rfl)
      have HB := Go.Lib.hid (show fL (sumB z) (k + 1) = fL (sumB z) k ++ [.int .u8 ((lowB (z >>> (8 * k))).toNat : Int)] from fL_succ _ _)
      generalize z >>> (8 * k) = y at *
      go_wp2_with (at_builtin; refine wpList_append_own _ rfl (.tmp 7) (.tmp 10) 27 rfl base 5 i0 (.int .u8 0) 1 1 Try.underlying27 hi hz0 hz1 hz2 rfl (by decide) _ _ _ rfl (HOW.out.alloc _) ⟨wr.heap.size, 0, none⟩ 1 1 [.int .u8 ((lowB y).toNat : Int)] rfl rfl (one_at wr _ _) (by simp [Value.oneCell']) (by simp [maxLen]; omega) (by omega) (by simp; omega) ?_; intro v' w1 hown' hgrow hx; clear hx; have HO1 := Go.Lib.hid hown'; have HG := Go.Lib.hid hgrow; clear hown' hgrow)
      go_roundw
      case rel =>
        refine ⟨k + 1, by omega, by go_num, by rw [HS.out], ?_, Ch.grown (HC.out.alloc _) HG.out (fun j hj hlt => (HOB.out j hj).1)⟩
        rw [HB.out, ← List.append_assoc]
        exact HO1.out
      case measure => simp [intOf]; omega
    · obtain rfl : k = 4 := by omega
      go_wp2
      go_ret
      exact ⟨_, rfl, HOW.out, HC.out⟩
end Go.Proofs.Ytljllfdigfojdaa
