/-
  Plain: rows of N cells by a function; what ends a sum behind its bytes.
-/
import Derived.Test.YtikdpiedjkailaaDoorBytes
namespace Go.Proofs.YtikdpiedjkailaaDoor

def arr (N : Nat) (g : Nat → Value) : Array Value := ((List.range N).map g).toArray
theorem arr_size (N : Nat) (g : Nat → Value) : (arr N g).size = N := by simp [arr]
theorem arr_get (N : Nat) (g : Nat → Value) (i : Nat) (h : i < N) : (arr N g)[i]? = some (g i) := by
  simp [arr, List.getElem?_range h]
theorem arr_congr {N : Nat} {g g' : Nat → Value} (h : ∀ i, i < N → g i = g' i) : arr N g = arr N g' := by
  unfold arr
  congr 1
  exact List.map_congr_left (fun i hi => h i (List.mem_range.1 hi))
theorem arr_set (N : Nat) (g : Nat → Value) (k : Nat) (v : Value) : (arr N g).setIfInBounds k v = arr N (fun i => if i = k then v else g i) := by
  refine Array.ext (by simp [arr]) fun i h1 h2 => ?_
  have hN : i < N := by simpa [arr] using h2
  rw [Array.getElem_setIfInBounds (by simpa [arr] using hN)]
  · simp only [arr, List.getElem_toArray, List.getElem_map, List.getElem_range]
    by_cases e : i = k
    · subst e; simp
    · simp [e, Ne.symm e]
theorem arr_all (N : Nat) (g : Nat → Value) (h : ∀ i, i < N → (g i).oneCell' = true) : (arr N g).all (·.oneCell') = true := by
  rw [Array.all_eq_true_iff_forall_mem]
  intro v hv
  simp only [arr, List.mem_toArray, List.mem_map, List.mem_range] at hv
  obtain ⟨i, hi, rfl⟩ := hv
  exact h i hi
theorem heap_set {w : World} {b : Nat} {t : TypeId} {fr : Nat × Nat} {N : Nat} {g : Nat → Value} (h : w.heap[b]? = some (.cells (arr N g) t fr)) (k : Nat) (v : Value) :
    (w.setCell ⟨b, k, none⟩ v).heap[b]? = some (.cells (arr N (fun i => if i = k then v else g i)) t fr) := by
  simp only [World.setCell, Array.getElem?_modify]
  rw [h]
  simp [arr_set]

/-- How many bytes stand between the n bytes and their length. -/
def gap (n : Nat) : Nat := 1 + (119 - n % 64) % 64
def lenByte (n i : Nat) : UInt8 := UInt8.ofNat (n * 8 / 2 ^ (56 - 8 * i))
/-- The bytes with what comes behind them. -/
def padF (f : Nat → UInt8) (n i : Nat) : UInt8 := if i < n then f i else if i = n then 128 else if i < n + gap n then 0 else lenByte n (i - n - gap n)
theorem gap_mod (n : Nat) : (n + gap n + 8) % 64 = 0 := by unfold gap; omega
theorem gap_le (n : Nat) : 1 ≤ gap n ∧ gap n ≤ 64 := by unfold gap; omega
theorem lenByte_zero (n : Nat) (h : n * 8 < 2 ^ 56) : lenByte n 0 = 0 := by
  unfold lenByte
  rw [Nat.div_eq_of_lt (by simpa using h)]; rfl
/-- The hash's i-th byte. -/
def outB (s : St) (i : Nat) : UInt8 := UInt8.ofNat ((s.word (i / 4)).toNat / 2 ^ (24 - 8 * (i % 4)))
def hashB (f : Nat → UInt8) (n : Nat) : Nat → UInt8 := outB (stN (padF f n) ((n + gap n + 8) / 64))
def bv (c : UInt8) : Value := .int .u8 (c.toNat : Int)
/-- A hash as a value. -/
def hv (h : Nat → UInt8) : Array Value := arr 32 fun i => .int .u8 ((h i).toNat : Int)

theorem beval_congr {g g' : Nat → UInt8} (p : Nat) (h : ∀ i, i < p → g i = g' i) : beval g p = beval g' p := by
  induction p with
  | zero => rfl
  | succ p ih => simp only [beval]; rw [ih (fun i hi => h i (by omega)), h p (by omega)]
theorem stN_congr {f g : Nat → UInt8} (q : Nat) (h : ∀ i, i < 64 * q → f i = g i) : stN f q = stN g q := by
  induction q with
  | zero => rfl
  | succ q ih =>
    show press1 (stN f q) (wordOf f (64 * q)) = press1 (stN g q) (wordOf g (64 * q))
    rw [ih (fun i hi => h i (by omega))]
    unfold press1
    rw [turns_congr (m := wordOf f (64 * q)) (m' := wordOf g (64 * q)) (fun j hj => ?_)]
    unfold wordOf
    rw [beval_congr 4 (fun i hi => h _ (by omega))]
theorem Part.congr {f g : Nat → UInt8} {base r : Nat} {m : Nat → BitVec 32} (hp : Part f base r m) (h : ∀ i, i < base + r → f i = g i) : Part g base r m := fun k hk => by
  rw [hp k hk]
  exact beval_congr _ (fun i hi => h _ (by omega))
theorem hashB_congr {f g : Nat → UInt8} (n : Nat) (h : ∀ i, i < n → f i = g i) : hashB f n = hashB g n := by
  unfold hashB
  rw [stN_congr _ (fun i _ => ?_)]
  unfold padF
  by_cases e : i < n
  · rw [if_pos e, if_pos e, h i e]
  · rw [if_neg e, if_neg e]
end Go.Proofs.YtikdpiedjkailaaDoor
