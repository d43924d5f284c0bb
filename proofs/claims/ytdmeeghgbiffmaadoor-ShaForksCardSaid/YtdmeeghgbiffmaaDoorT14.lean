import Derived.Test.YtdmeeghgbiffmaaDoorT13
import Derived.Laws.AppendOwn
namespace Go.Proofs.YtdmeeghgbiffmaaDoor
open Go.RowKit

theorem num26 (x : Int) (w : World) : Calls Tryd.prog 26 #[.int .i64 x] w fun e w' => e = .returned (.int .i64 x) ∧ w' = w := by
  go_enter Tryd.func26, Tryd.ntmps26
  go_wp2
  go_ret
  exact ⟨rfl, rfl⟩
theorem digit_lo (k : Nat) (h : k < 10) : ((digit k).toNat : Int) = 48 + k := by
  revert k; decide
theorem digit_hi (k : Nat) (h : k < 16) (h2 : 10 ≤ k) : ((digit k).toNat : Int) = 97 + k - 10 := by
  revert k; decide
theorem sign_any (k : Nat) (hk : k < 16) (w : World) : Calls Tryd.prog 49 #[.int .u8 (k : Int)] w fun e w' => e = .returned (.int .u8 ((digit k).toNat : Int)) ∧ w' = w := by
  by_cases h : k < 10
  · rw [digit_lo k h]
    go_enter Tryd.func49, Tryd.ntmps49
    go_wp2
    go_ret
    exact ⟨rfl, rfl⟩
  · rw [digit_hi k hk (by omega)]
    go_enter Tryd.func49, Tryd.ntmps49
    go_wp2
    go_ret
    exact ⟨rfl, rfl⟩

theorem info5 : (Tryd.prog.info? 5).map (fun i => (i.zero, i.size, i.bytes)) = some (some (.int .u8 0), 1, 1) := by kernel_rfl
/-- What a row of bytes of one's own says as a string. -/
theorem conv_own {w : World} {base n : Nat} {v : Value} (l : List UInt8) (h : w.ownsRow base 5 1 v n (l.map fun b => .int .u8 (b.toNat : Int))) (hn : 0 < n) :
    (convert 34 9 v).run Tryd.prog w = .ok (.string ⟨l.toArray⟩) w := by
  obtain ⟨hl, h1 | ⟨g, cap, cur, rfl, h2, h3, h4, h5, h6, h7⟩⟩ := h
  · omega
  · have hn' : l.length = n := by simpa using hl
    subst hn'
    refine run_convert_bytes_back (P := Tryd.prog) w 34 9 5 ⟨g, 0, none⟩ cap l Tryd.underlying34 Tryd.underlying5 Tryd.underlying9 (fun j hj => ?_)
    rw [show (⟨g, 0, none⟩ : Addr).add j = ⟨g, j, none⟩ by simp [Addr.add]; omega]
    refine (cell_of_heap h3 j).trans ?_
    have e : cur.toList[j]? = some (.int .u8 (l[j].toNat : Int)) := by
      have : (cur.toList.take (l.length * 1))[j]? = some (.int .u8 (l[j].toNat : Int)) := by rw [h7]; simp [hj]
      rw [List.getElem?_take] at this
      split at this
      · exact this
      · exact absurd this (by simp)
    simpa using e
def zeroL (n : Nat) : List UInt8 := List.replicate n 48

theorem zeroL_succ (k : Nat) : ((zeroL (k + 1)).map fun b => (.int .u8 (b.toNat : Int) : Value)) = ((zeroL k).map fun b => .int .u8 (b.toNat : Int)) ++ [.int .u8 48] := by
  unfold zeroL
  rw [List.replicate_succ', List.map_append]; rfl
theorem one_at (wr : World) (v : Value) (t : TypeId) : ∀ j u, [v][j]? = some u → (wr.alloc (.cells #[v] t)).cell? ((⟨wr.heap.size, 0, none⟩ : Addr).add j) = some u := fun j u h => by
  match j, h with
  | 0, h =>
    have := cell_fresh wr #[v] t 0
    rw [show (⟨wr.heap.size, 0, none⟩ : Addr).add 0 = ⟨wr.heap.size, 0, none⟩ by simp [Addr.add], this]
    exact h
set_option maxRecDepth 100000 in
set_option maxHeartbeats 400000 in
theorem zeros_any (n : Nat) (hn : n ≤ 1000) (hn0 : 0 < n) (w : World) : Calls Tryd.prog 43 #[.int .i64 (n : Int)] w fun e w' => e = .returned (.string ⟨(zeroL n).toArray⟩) ∧ Ch (fun _ => False) w w' := by
  obtain ⟨i0, hi, hz0, hz1, hz2⟩ := info_parts info5
  go_enter Tryd.func43, Tryd.ntmps43
  go_wp2_with fail
  go_loopw [3, 4] (fun v i wr => ∃ k : Nat, k ≤ n ∧ i = .int .i64 k ∧ wr.ownsRow w.heap.size 5 1 v k ((zeroL k).map fun b => .int .u8 (b.toNat : Int)) ∧ Ch (fun _ => False) w wr) (fun _ i _ => n - (intOf i).toNat)
  case atStart => exact ⟨0, by omega, rfl, World.ownsRow_nil _ _ _ _, Ch.refl _ _⟩
  case round =>
    obtain ⟨k, hk, rfl, hown, hC⟩ := hrel
    have HC := Go.Lib.hid hC
    clear hC
    by_cases hkn : k < n
    · have hsz : w.heap.size ≤ wr.heap.size := HC.out.size
      have hob := hown.lt
      have HOB := Go.Lib.hid hob
      clear hob
      go_wp2_with (at_builtin; refine wpList_append_own _ rfl (.tmp 10) (.tmp 11) 34 rfl w.heap.size 5 i0 (.int .u8 0) 1 1 Tryd.underlying34 hi hz0 hz1 hz2 rfl (by decide) _ _ _ rfl (hown.alloc _) ⟨wr.heap.size, 0, none⟩ 1 1 [.int .u8 48] rfl rfl (one_at wr _ _) (by simp [Value.oneCell']) (by simp [maxLen]; omega) (by omega) (by simp; omega) ?_; intro v' w1 hown' hgrow _; have HO := Go.Lib.hid hown'; have HG := Go.Lib.hid hgrow; clear hown' hgrow)
      go_roundw
      case rel =>
        refine ⟨k + 1, by omega, by go_num, ?_, Ch.grown (HC.out.alloc _) HG.out (fun j hj hlt => absurd (HOB.out j hj).1 (by omega))⟩
        rw [zeroL_succ]; exact HO.out
      case measure => simp [intOf]; omega
    · obtain rfl : k = n := by omega
      have hconv := conv_own (zeroL k) hown hn0
      go_wp2
      go_ret
      exact ⟨rfl, HC.out⟩
end Go.Proofs.YtdmeeghgbiffmaaDoor
