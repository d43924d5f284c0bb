/- Sums under way: New, Copy, Write, Sum, Len. -/
import Derived.Test.YtikdpiedjkailaaDoorT9
import Derived.Test.YtikdpiedjkailaaDoorR6
namespace Go.Proofs.YtikdpiedjkailaaDoor
open Go.RowKit

theorem wpList_load_at {P : Program} {w : World} {ops : Array Oper} {rest : List Oper} {o : Oper} {a : Act} {Q : Exit → Act → World → Prop} (hgd : o.guard = none) (ty : TypeId) (x : Operand) (ho : o.op = .load ty x) (ad : Addr) (hx : a.eval x = .pointer (some ad)) (v : Value)
    (hl : (loadVar ty ad).run P w = .ok v w) (h : wpList P ops Q rest (a.put o.dst v) w) : wpList P ops Q (o :: rest) a w := by
  refine wpList_plain hgd fun K hK => ?_
  unfold Oper.wp execOp
  simp only [ho, hx, Instr.loadAt, Instr.sureAddr, Sem.run_bind, Sem.run_pure, Result.andThen_ok, hl]
  exact hK _ _ h
def runC (m : Nat → BitVec 32) (s : St) (n : Nat) : Array Value := arr 26 fun j => if j < 16 then wv (m j) else if j < 24 then wv (s.word (j - 16)) else if j = 24 then .int .i64 (n : Int) else .bool true
theorem runC_get (m : Nat → BitVec 32) (s : St) (n j : Nat) (hj : j < 26) : (runC m s n)[j]? = some (if j < 16 then wv (m j) else if j < 24 then wv (s.word (j - 16)) else if j = 24 then .int .i64 (n : Int) else .bool true) := arr_get 26 _ j hj
theorem runC_size (m : Nat → BitVec 32) (s : St) (n : Nat) : (runC m s n).size = 26 := arr_size _ _
theorem runC_info (m : Nat → BitVec 32) (s : St) (n : Nat) : (Tryd.prog.info? 94).map (·.size) = some (runC m s n).size := by rw [runC_size]; exact info65
theorem runC_all (m : Nat → BitVec 32) (s : St) (n : Nat) : (runC m s n).all (·.oneCell') = true := by
  rw [Array.all_eq_true]
  intro i hi
  have h := runC_get m s n i (by rw [runC_size] at hi; exact hi)
  rw [Array.getElem?_eq_getElem hi] at h
  rw [Option.some.inj h]
  split
  · rfl
  · split
    · rfl
    · split <;> rfl
theorem RunAt.cells {w : World} {b n : Nat} {f : Nat → UInt8} (h : RunAt w b f n) : ∃ m, Part f (n / 64 * 64) (n % 64) m ∧ ∀ j v, (runC m (stN f (n / 64)) n).toList[j]? = some v → w.cell? ((⟨b, 0, none⟩ : Addr).add j) = some v := by
  obtain ⟨⟨m, hr, hp⟩, hs, hc, _, hm⟩ := h
  refine ⟨m, hp, fun j v hv => ?_⟩
  have hj : j < 26 := by
    have := (List.getElem?_eq_some_iff.1 hv).1
    rw [Array.length_toList, runC_size] at this
    exact this
  have e : (runC m (stN f (n / 64)) n)[j]? = some v := by simpa using hv
  rw [runC_get _ _ _ _ hj] at e
  rw [← Option.some.inj e, show (⟨b, 0, none⟩ : Addr).add j = ⟨b, j, none⟩ by simp [Addr.add]; omega]
  by_cases h16 : j < 16
  · rw [if_pos h16]; exact (hr j h16).1
  · rw [if_neg h16]
    by_cases h24 : j < 24
    · rw [if_pos h24]
      have := (hs (j - 16) (by omega)).1
      rw [show 16 + (j - 16) = j by omega] at this
      exact this
    · rw [if_neg h24]
      by_cases h24' : j = 24
      · rw [if_pos h24', h24']; exact hc
      · rw [if_neg h24', show j = 25 by omega]; exact hm
theorem run_of_heap {w : World} {b n : Nat} {f : Nat → UInt8} {m : Nat → BitVec 32} (h : w.heap[b]? = some (.cells (runC m (stN f (n / 64)) n) 94)) (hp : Part f (n / 64 * 64) (n % 64) m) : RunAt w b f n := by
  have hc := cell_of_heap h
  have hf := frozen_of_heap h
  refine ⟨⟨m, fun j hj => ⟨(hc j).trans ?_, hf j⟩, hp⟩, fun j hj => ⟨(hc _).trans ?_, hf _⟩, (hc 24).trans ?_, hf 24, (hc 25).trans ?_⟩
  · rw [runC_get _ _ _ _ (by omega), if_pos hj]
  · rw [runC_get _ _ _ _ (by omega), if_neg (by omega), if_pos (by omega), Nat.add_sub_cancel_left]
  · rw [runC_get _ _ _ _ (by omega)]; rfl
  · rw [runC_get _ _ _ _ (by omega)]; rfl
set_option maxHeartbeats 400000 in
theorem there_any (b : Nat) (w : World) (x : Bool) (h : w.cell? ⟨b, 25, none⟩ = some (.bool x)) :
    Calls Tryd.prog 56 #[.pointer (some ⟨b, 0, none⟩)] w fun e w' => e = .returned (.bool x) ∧ w = w' := by
  go_enter Tryd.func56, Tryd.ntmps56
  go_wp2
  go_ret
  exact ⟨rfl, rfl⟩
theorem there_nil (w : World) : Calls Tryd.prog 56 #[.pointer none] w fun e w' => e = .returned (.bool false) ∧ w = w' := by
  go_enter Tryd.func56, Tryd.ntmps56
  go_wp2
  go_ret
  exact ⟨rfl, rfl⟩
end Go.Proofs.YtikdpiedjkailaaDoor
