/- numberUpTo, text, sealed; what is tried, and what gives up in it. -/
import Derived.Test.YtljllfdigfojdaaV5
import Derived.Defers
import Derived.Recover
namespace Go.Proofs.Ytljllfdigfojdaa
open Go Go.RowKit

/-- What something is read as: bytes lack, it is none, or it is x, of k bytes. -/
inductive Out where
  | lack
  | wrong
  | got (x : Value) (k : Nat)
def outN (most : Int) (f : Nat → UInt8) (n : Nat) : Out := match rdN f n with
  | .lack => .lack
  | .wrong => .wrong
  | .got v k => if most < (v : Int) then .wrong else .got (.int .i64 (v : Int)) k
def TakeTold (out : Out) (f : Nat → UInt8) (n : Nat) (l x0 : Nat) (w : World) (e : Ending) (w' : World) : Prop :=
  Ch (fun q => q = l) w w' ∧ match out with
    | .lack => e = gaveUp 1
    | .wrong => e = gaveUp 2
    | .got x k => e = .returned x ∧ k ≤ n ∧ ∃ p' c', LeftAt w' l x0 p' (n - k) c' (fun j => f (k + j))
theorem upTo_any (l x0 : Nat) (p : Option Addr) (n c : Nat) (f : Nat → UInt8) (most : Int) (w : World) (hl : LeftAt w l x0 p n c f) :
    Calls Try.prog 58 #[.pointer (some ⟨l, 0, none⟩), .int .i64 most] w (TakeTold (outN most f n) f n l x0 w) := by
  have HN := Go.Lib.hid (number_any l x0 p n c f w hl)
  clear hl
  unfold outN
  unfold NumTold at HN
  cases hr : rdN f n with
  | lack =>
    rw [hr] at HN
    clear hr
    go_enter Try.func58, Try.ntmps58
    go_wp2_with fail
    refine HN.out.mono ?_
    rintro e w' ⟨hc, rfl⟩
    have HC := Go.Lib.hid hc
    clear hc
    go_wp2_with fail
    exact ⟨rfl, HC.out, rfl⟩
  | wrong =>
    rw [hr] at HN
    clear hr
    go_enter Try.func58, Try.ntmps58
    go_wp2_with fail
    refine HN.out.mono ?_
    rintro e w' ⟨hc, rfl⟩
    have HC := Go.Lib.hid hc
    clear hc
    go_wp2_with fail
    exact ⟨rfl, HC.out, rfl⟩
  | got v k =>
    rw [hr] at HN
    clear hr
    by_cases hm : most < (v : Int)
    · go_enter Try.func58, Try.ntmps58
      go_wp2_with fail
      refine HN.out.mono ?_
      rintro e w' ⟨hc, rfl, _⟩
      have HC := Go.Lib.hid hc
      clear hc
      go_wp2_with fail
      exact ⟨rfl, HC.out, rfl⟩
    · go_enter Try.func58, Try.ntmps58
      go_wp2_with fail
      refine HN.out.mono ?_
      rintro e w' ⟨hc, rfl, h2⟩
      have HC := Go.Lib.hid hc; have H2 := Go.Lib.hid h2
      clear hc h2
      go_wp2_with fail
      go_ret
      exact ⟨HC.out, rfl, H2.out⟩

theorem catch_idle (h : Nat) (w : World) :
    CallsD Try.prog 90 #[.pointer (some ⟨h, 0, none⟩)] .returning w fun e u' w' => e = .returned (.tuple #[]) ∧ u' = .returning ∧ w' = w := by
  refine callsD_of_wpS Try.func90 rfl fun c₀ cs hu => ?_
  apply wpS_seq
  apply wpS_region
  simp [wpOpsS, go_sem, recoverD, hu, Try.ntmps90, Exit.thenS]
  refine wpS_of_wp ?_
  go_wp2_with fail
  cases c₀
  simp_all [bodyPostS, results, Try.results90]
theorem assert127 (n : Int) (w : World) : (Instr.typeAssert (.iface 127 (.int .i64 n)) 20 127 true).run Try.prog w = .ok (.tuple #[.int .i64 n, .bool true]) w := by kernel_rfl
set_option maxRecDepth 100000 in
theorem catch_up (h : Nat) (n : Int) (w : World) (u0 : Value) (hr : w.heap[h]? = some (.cells #[u0] 127)) :
    CallsD Try.prog 90 #[.pointer (some ⟨h, 0, none⟩)] (.panicking [{ v := .iface 127 (.int .i64 n), recovered := false }]) w fun e u' w' => e = .returned (.tuple #[]) ∧ u' = .panicking [{ v := .iface 127 (.int .i64 n), recovered := true }] ∧ w' = w.setCell ⟨h, 0, none⟩ (.int .i64 n) := by
  have hc : w.cell? ⟨h, 0, none⟩ = some u0 := (cell_of_heap hr 0).trans rfl
  have hz : w.frozen? ⟨h, 0, none⟩ = false := frozen_of_heap hr 0
  have hta := assert127 n w
  refine callsD_of_wpS Try.func90 rfl fun c₀ cs hu => ?_
  apply wpS_seq
  apply wpS_region
  simp [wpOpsS, go_sem, recoverD, hu, Try.ntmps90, Exit.thenS]
  refine wpS_of_wp ?_
  rw [show (#[.pointer (some ⟨h, 0, none⟩)] ++ (Array.replicate 9 undef).setIfInBounds 3 (.iface 127 (.int .i64 n)) : Array Value) = #[.pointer (some ⟨h, 0, none⟩), undef, undef, undef, .iface 127 (.int .i64 n), undef, undef, undef, undef, undef] from rfl]
  go_wp2_with fail
  simp [bodyPostS, results, Try.results90]
/-- How what was tried told: nothing, or by what it gave up. -/
def toldBy (e1 : Ending) (v : Int) : Prop := (e1 = .returned (.tuple #[]) ∧ v = 0) ∨ (e1 = gaveUp 1 ∧ v = 1) ∨ (e1 = gaveUp 2 ∧ v = 2)
set_option maxRecDepth 100000 in
theorem tried82 (a0 a1 a2 : Value) (w : World) (R : Ending → World → Prop) (H : Calls Try.prog 82 #[a0, a1, a2] (w.alloc (.cells #[.int .i64 0] 127)) R)
    (hR : ∀ e w', R e w' → (e = .returned (.tuple #[]) ∨ e = gaveUp 1 ∨ e = gaveUp 2) ∧ w'.heap[w.heap.size]? = some (.cells #[.int .i64 0] 127)) :
    Calls Try.prog 69 #[.func (.func 82) #[] #[a0, a1, a2]] w fun e w' => ∃ e1 w1 v, R e1 w1 ∧ toldBy e1 v ∧ e = .returned (.int .i64 v) ∧ w' = w1.setCell ⟨w.heap.size, 0, none⟩ (.int .i64 v) := by
  have hmf : ∀ (fn : Fn) (first cap : Array Value) (w : World), (Instr.makeFunc fn first cap).run Try.prog w = .ok (.func fn first cap) w := fun _ _ _ _ => rfl
  have HH := Go.Lib.hid H; have HR := Go.Lib.hid hR
  clear H hR
  go_enter_defers Try.func69, Try.ntmps69
  go_wp2_with fail
  refine HH.out.mono ?_
  intro e w1 hr
  obtain ⟨h1, hrow⟩ := HR.out e w1 hr
  have HRR := Go.Lib.hid hr
  have hc : w1.cell? ⟨w.heap.size, 0, none⟩ = some (.int .i64 0) := (cell_of_heap hrow 0).trans rfl
  have hz : w1.frozen? ⟨w.heap.size, 0, none⟩ = false := frozen_of_heap hrow 0
  have HRW := Go.Lib.hid hrow
  have HCL := Go.Lib.hid (fun v => (show (w1.setCell ⟨w.heap.size, 0, none⟩ v).cell? ⟨w.heap.size, 0, none⟩ = some v from (cell_of_heap (row_setM hrow 0 v) 0).trans rfl))
  clear hr hrow
  rcases h1 with rfl | rfl | rfl
  · go_wp2_with fail
    refine leaves_cons (f := 90) (args := #[.pointer (some ⟨w.heap.size, 0, none⟩)]) (by simp) (by simp [go_sem]) ?_
    refine (catch_idle w.heap.size _).mono ?_
    rintro e u' w'' ⟨rfl, rfl, rfl⟩
    simp [Leaves, settle, results, Try.results69, go_sem]
    rw [HCL.out]
    exact ⟨_, rfl, _, w1, HRR.out, _, .inl ⟨rfl, rfl⟩, rfl, rfl⟩
  · go_wp2_with fail
    refine leaves_cons (f := 90) (args := #[.pointer (some ⟨w.heap.size, 0, none⟩)]) (by simp) (by simp [go_sem]) ?_
    refine (catch_up w.heap.size 1 _ _ HRW.out).mono ?_
    rintro e u' w'' ⟨rfl, rfl, rfl⟩
    simp [Leaves, settle, results, Try.results69, go_sem]
    rw [HCL.out]
    exact ⟨_, rfl, _, w1, HRR.out, _, .inr (.inl ⟨rfl, rfl⟩), rfl, rfl⟩
  · go_wp2_with fail
    refine leaves_cons (f := 90) (args := #[.pointer (some ⟨w.heap.size, 0, none⟩)]) (by simp) (by simp [go_sem]) ?_
    refine (catch_up w.heap.size 2 _ _ HRW.out).mono ?_
    rintro e u' w'' ⟨rfl, rfl, rfl⟩
    simp [Leaves, settle, results, Try.results69, go_sem]
    rw [HCL.out]
    exact ⟨_, rfl, _, w1, HRR.out, _, .inr (.inr ⟨rfl, rfl⟩), rfl, rfl⟩
set_option maxRecDepth 100000 in
theorem tried84 (a0 a1 a2 : Value) (w : World) (R : Ending → World → Prop) (H : Calls Try.prog 84 #[a0, a1, a2] (w.alloc (.cells #[.int .i64 0] 127)) R)
    (hR : ∀ e w', R e w' → (e = .returned (.tuple #[]) ∨ e = gaveUp 1 ∨ e = gaveUp 2) ∧ w'.heap[w.heap.size]? = some (.cells #[.int .i64 0] 127)) :
    Calls Try.prog 69 #[.func (.func 84) #[] #[a0, a1, a2]] w fun e w' => ∃ e1 w1 v, R e1 w1 ∧ toldBy e1 v ∧ e = .returned (.int .i64 v) ∧ w' = w1.setCell ⟨w.heap.size, 0, none⟩ (.int .i64 v) := by
  have hmf : ∀ (fn : Fn) (first cap : Array Value) (w : World), (Instr.makeFunc fn first cap).run Try.prog w = .ok (.func fn first cap) w := fun _ _ _ _ => rfl
  have HH := Go.Lib.hid H; have HR := Go.Lib.hid hR
  clear H hR
  go_enter_defers Try.func69, Try.ntmps69
  go_wp2_with fail
  refine HH.out.mono ?_
  intro e w1 hr
  obtain ⟨h1, hrow⟩ := HR.out e w1 hr
  have HRR := Go.Lib.hid hr
  have hc : w1.cell? ⟨w.heap.size, 0, none⟩ = some (.int .i64 0) := (cell_of_heap hrow 0).trans rfl
  have hz : w1.frozen? ⟨w.heap.size, 0, none⟩ = false := frozen_of_heap hrow 0
  have HRW := Go.Lib.hid hrow
  have HCL := Go.Lib.hid (fun v => (show (w1.setCell ⟨w.heap.size, 0, none⟩ v).cell? ⟨w.heap.size, 0, none⟩ = some v from (cell_of_heap (row_setM hrow 0 v) 0).trans rfl))
  clear hr hrow
  rcases h1 with rfl | rfl | rfl
  · go_wp2_with fail
    refine leaves_cons (f := 90) (args := #[.pointer (some ⟨w.heap.size, 0, none⟩)]) (by simp) (by simp [go_sem]) ?_
    refine (catch_idle w.heap.size _).mono ?_
    rintro e u' w'' ⟨rfl, rfl, rfl⟩
    simp [Leaves, settle, results, Try.results69, go_sem]
    rw [HCL.out]
    exact ⟨_, rfl, _, w1, HRR.out, _, .inl ⟨rfl, rfl⟩, rfl, rfl⟩
  · go_wp2_with fail
    refine leaves_cons (f := 90) (args := #[.pointer (some ⟨w.heap.size, 0, none⟩)]) (by simp) (by simp [go_sem]) ?_
    refine (catch_up w.heap.size 1 _ _ HRW.out).mono ?_
    rintro e u' w'' ⟨rfl, rfl, rfl⟩
    simp [Leaves, settle, results, Try.results69, go_sem]
    rw [HCL.out]
    exact ⟨_, rfl, _, w1, HRR.out, _, .inr (.inl ⟨rfl, rfl⟩), rfl, rfl⟩
  · go_wp2_with fail
    refine leaves_cons (f := 90) (args := #[.pointer (some ⟨w.heap.size, 0, none⟩)]) (by simp) (by simp [go_sem]) ?_
    refine (catch_up w.heap.size 2 _ _ HRW.out).mono ?_
    rintro e u' w'' ⟨rfl, rfl, rfl⟩
    simp [Leaves, settle, results, Try.results69, go_sem]
    rw [HCL.out]
    exact ⟨_, rfl, _, w1, HRR.out, _, .inr (.inr ⟨rfl, rfl⟩), rfl, rfl⟩
set_option maxRecDepth 100000 in
theorem tried86 (a0 a1 a2 : Value) (w : World) (R : Ending → World → Prop) (H : Calls Try.prog 86 #[a0, a1, a2] (w.alloc (.cells #[.int .i64 0] 127)) R)
    (hR : ∀ e w', R e w' → (e = .returned (.tuple #[]) ∨ e = gaveUp 1 ∨ e = gaveUp 2) ∧ w'.heap[w.heap.size]? = some (.cells #[.int .i64 0] 127)) :
    Calls Try.prog 69 #[.func (.func 86) #[] #[a0, a1, a2]] w fun e w' => ∃ e1 w1 v, R e1 w1 ∧ toldBy e1 v ∧ e = .returned (.int .i64 v) ∧ w' = w1.setCell ⟨w.heap.size, 0, none⟩ (.int .i64 v) := by
  have hmf : ∀ (fn : Fn) (first cap : Array Value) (w : World), (Instr.makeFunc fn first cap).run Try.prog w = .ok (.func fn first cap) w := fun _ _ _ _ => rfl
  have HH := Go.Lib.hid H; have HR := Go.Lib.hid hR
  clear H hR
  go_enter_defers Try.func69, Try.ntmps69
  go_wp2_with fail
  refine HH.out.mono ?_
  intro e w1 hr
  obtain ⟨h1, hrow⟩ := HR.out e w1 hr
  have HRR := Go.Lib.hid hr
  have hc : w1.cell? ⟨w.heap.size, 0, none⟩ = some (.int .i64 0) := (cell_of_heap hrow 0).trans rfl
  have hz : w1.frozen? ⟨w.heap.size, 0, none⟩ = false := frozen_of_heap hrow 0
  have HRW := Go.Lib.hid hrow
  have HCL := Go.Lib.hid (fun v => (show (w1.setCell ⟨w.heap.size, 0, none⟩ v).cell? ⟨w.heap.size, 0, none⟩ = some v from (cell_of_heap (row_setM hrow 0 v) 0).trans rfl))
  clear hr hrow
  rcases h1 with rfl | rfl | rfl
  · go_wp2_with fail
    refine leaves_cons (f := 90) (args := #[.pointer (some ⟨w.heap.size, 0, none⟩)]) (by simp) (by simp [go_sem]) ?_
    refine (catch_idle w.heap.size _).mono ?_
    rintro e u' w'' ⟨rfl, rfl, rfl⟩
    simp [Leaves, settle, results, Try.results69, go_sem]
    rw [HCL.out]
    exact ⟨_, rfl, _, w1, HRR.out, _, .inl ⟨rfl, rfl⟩, rfl, rfl⟩
  · go_wp2_with fail
    refine leaves_cons (f := 90) (args := #[.pointer (some ⟨w.heap.size, 0, none⟩)]) (by simp) (by simp [go_sem]) ?_
    refine (catch_up w.heap.size 1 _ _ HRW.out).mono ?_
    rintro e u' w'' ⟨rfl, rfl, rfl⟩
    simp [Leaves, settle, results, Try.results69, go_sem]
    rw [HCL.out]
    exact ⟨_, rfl, _, w1, HRR.out, _, .inr (.inl ⟨rfl, rfl⟩), rfl, rfl⟩
  · go_wp2_with fail
    refine leaves_cons (f := 90) (args := #[.pointer (some ⟨w.heap.size, 0, none⟩)]) (by simp) (by simp [go_sem]) ?_
    refine (catch_up w.heap.size 2 _ _ HRW.out).mono ?_
    rintro e u' w'' ⟨rfl, rfl, rfl⟩
    simp [Leaves, settle, results, Try.results69, go_sem]
    rw [HCL.out]
    exact ⟨_, rfl, _, w1, HRR.out, _, .inr (.inr ⟨rfl, rfl⟩), rfl, rfl⟩
set_option maxRecDepth 100000 in
theorem tried87 (a0 a1 a2 : Value) (w : World) (R : Ending → World → Prop) (H : Calls Try.prog 87 #[a0, a1, a2] (w.alloc (.cells #[.int .i64 0] 127)) R)
    (hR : ∀ e w', R e w' → (e = .returned (.tuple #[]) ∨ e = gaveUp 1 ∨ e = gaveUp 2) ∧ w'.heap[w.heap.size]? = some (.cells #[.int .i64 0] 127)) :
    Calls Try.prog 69 #[.func (.func 87) #[] #[a0, a1, a2]] w fun e w' => ∃ e1 w1 v, R e1 w1 ∧ toldBy e1 v ∧ e = .returned (.int .i64 v) ∧ w' = w1.setCell ⟨w.heap.size, 0, none⟩ (.int .i64 v) := by
  have hmf : ∀ (fn : Fn) (first cap : Array Value) (w : World), (Instr.makeFunc fn first cap).run Try.prog w = .ok (.func fn first cap) w := fun _ _ _ _ => rfl
  have HH := Go.Lib.hid H; have HR := Go.Lib.hid hR
  clear H hR
  go_enter_defers Try.func69, Try.ntmps69
  go_wp2_with fail
  refine HH.out.mono ?_
  intro e w1 hr
  obtain ⟨h1, hrow⟩ := HR.out e w1 hr
  have HRR := Go.Lib.hid hr
  have hc : w1.cell? ⟨w.heap.size, 0, none⟩ = some (.int .i64 0) := (cell_of_heap hrow 0).trans rfl
  have hz : w1.frozen? ⟨w.heap.size, 0, none⟩ = false := frozen_of_heap hrow 0
  have HRW := Go.Lib.hid hrow
  have HCL := Go.Lib.hid (fun v => (show (w1.setCell ⟨w.heap.size, 0, none⟩ v).cell? ⟨w.heap.size, 0, none⟩ = some v from (cell_of_heap (row_setM hrow 0 v) 0).trans rfl))
  clear hr hrow
  rcases h1 with rfl | rfl | rfl
  · go_wp2_with fail
    refine leaves_cons (f := 90) (args := #[.pointer (some ⟨w.heap.size, 0, none⟩)]) (by simp) (by simp [go_sem]) ?_
    refine (catch_idle w.heap.size _).mono ?_
    rintro e u' w'' ⟨rfl, rfl, rfl⟩
    simp [Leaves, settle, results, Try.results69, go_sem]
    rw [HCL.out]
    exact ⟨_, rfl, _, w1, HRR.out, _, .inl ⟨rfl, rfl⟩, rfl, rfl⟩
  · go_wp2_with fail
    refine leaves_cons (f := 90) (args := #[.pointer (some ⟨w.heap.size, 0, none⟩)]) (by simp) (by simp [go_sem]) ?_
    refine (catch_up w.heap.size 1 _ _ HRW.out).mono ?_
    rintro e u' w'' ⟨rfl, rfl, rfl⟩
    simp [Leaves, settle, results, Try.results69, go_sem]
    rw [HCL.out]
    exact ⟨_, rfl, _, w1, HRR.out, _, .inr (.inl ⟨rfl, rfl⟩), rfl, rfl⟩
  · go_wp2_with fail
    refine leaves_cons (f := 90) (args := #[.pointer (some ⟨w.heap.size, 0, none⟩)]) (by simp) (by simp [go_sem]) ?_
    refine (catch_up w.heap.size 2 _ _ HRW.out).mono ?_
    rintro e u' w'' ⟨rfl, rfl, rfl⟩
    simp [Leaves, settle, results, Try.results69, go_sem]
    rw [HCL.out]
    exact ⟨_, rfl, _, w1, HRR.out, _, .inr (.inr ⟨rfl, rfl⟩), rfl, rfl⟩
set_option maxRecDepth 100000 in
theorem tried70 (a0 a1 : Value) (w : World) (R : Ending → World → Prop) (H : Calls Try.prog 70 #[a0, a1] (w.alloc (.cells #[.int .i64 0] 127)) R)
    (hR : ∀ e w', R e w' → (e = .returned (.tuple #[]) ∨ e = gaveUp 1 ∨ e = gaveUp 2) ∧ w'.heap[w.heap.size]? = some (.cells #[.int .i64 0] 127)) :
    Calls Try.prog 69 #[.func (.func 70) #[] #[a0, a1]] w fun e w' => ∃ e1 w1 v, R e1 w1 ∧ toldBy e1 v ∧ e = .returned (.int .i64 v) ∧ w' = w1.setCell ⟨w.heap.size, 0, none⟩ (.int .i64 v) := by
  have hmf : ∀ (fn : Fn) (first cap : Array Value) (w : World), (Instr.makeFunc fn first cap).run Try.prog w = .ok (.func fn first cap) w := fun _ _ _ _ => rfl
  have HH := Go.Lib.hid H; have HR := Go.Lib.hid hR
  clear H hR
  go_enter_defers Try.func69, Try.ntmps69
  go_wp2_with fail
  refine HH.out.mono ?_
  intro e w1 hr
  obtain ⟨h1, hrow⟩ := HR.out e w1 hr
  have HRR := Go.Lib.hid hr
  have hc : w1.cell? ⟨w.heap.size, 0, none⟩ = some (.int .i64 0) := (cell_of_heap hrow 0).trans rfl
  have hz : w1.frozen? ⟨w.heap.size, 0, none⟩ = false := frozen_of_heap hrow 0
  have HRW := Go.Lib.hid hrow
  have HCL := Go.Lib.hid (fun v => (show (w1.setCell ⟨w.heap.size, 0, none⟩ v).cell? ⟨w.heap.size, 0, none⟩ = some v from (cell_of_heap (row_setM hrow 0 v) 0).trans rfl))
  clear hr hrow
  rcases h1 with rfl | rfl | rfl
  · go_wp2_with fail
    refine leaves_cons (f := 90) (args := #[.pointer (some ⟨w.heap.size, 0, none⟩)]) (by simp) (by simp [go_sem]) ?_
    refine (catch_idle w.heap.size _).mono ?_
    rintro e u' w'' ⟨rfl, rfl, rfl⟩
    simp [Leaves, settle, results, Try.results69, go_sem]
    rw [HCL.out]
    exact ⟨_, rfl, _, w1, HRR.out, _, .inl ⟨rfl, rfl⟩, rfl, rfl⟩
  · go_wp2_with fail
    refine leaves_cons (f := 90) (args := #[.pointer (some ⟨w.heap.size, 0, none⟩)]) (by simp) (by simp [go_sem]) ?_
    refine (catch_up w.heap.size 1 _ _ HRW.out).mono ?_
    rintro e u' w'' ⟨rfl, rfl, rfl⟩
    simp [Leaves, settle, results, Try.results69, go_sem]
    rw [HCL.out]
    exact ⟨_, rfl, _, w1, HRR.out, _, .inr (.inl ⟨rfl, rfl⟩), rfl, rfl⟩
  · go_wp2_with fail
    refine leaves_cons (f := 90) (args := #[.pointer (some ⟨w.heap.size, 0, none⟩)]) (by simp) (by simp [go_sem]) ?_
    refine (catch_up w.heap.size 2 _ _ HRW.out).mono ?_
    rintro e u' w'' ⟨rfl, rfl, rfl⟩
    simp [Leaves, settle, results, Try.results69, go_sem]
    rw [HCL.out]
    exact ⟨_, rfl, _, w1, HRR.out, _, .inr (.inr ⟨rfl, rfl⟩), rfl, rfl⟩
end Go.Proofs.Ytljllfdigfojdaa
