/- A reader's Number and Text; Read; Split where it tells nothing. -/
import Derived.Test.YtljllfdigfojdaaV9
namespace Go.Proofs.Ytljllfdigfojdaa
open Go Go.RowKit

theorem read_any (p : Option Addr) (n c : Nat) (f : Nat → UInt8) (w : World) (hb : BytesAt w p n c f) (hn : n ≤ 10000000000000) (h0 : 0 < w.heap.size) :
    Calls Try.prog 19 #[.slice p n c] w fun e w' => ∃ r x0 p' c', e = .returned (.pointer (some ⟨r, 0, none⟩)) ∧ RdAt w' r x0 p' n c' f false ∧ w.heap.size ≤ r ∧ (w.heap.size ≤ x0 ∨ x0 = 0) ∧ Ch (fun _ => False) w w' := by
  have HC := Go.Lib.hid (clone_any p n c f w hb hn)
  clear hb
  go_enter Try.func19, Try.ntmps19
  go_wp2_with fail
  refine HC.out.mono ?_
  rintro e w1 ⟨v, rfl, ho, hc⟩
  have HO := Go.Lib.hid ho; have HC1 := Go.Lib.hid hc
  obtain ⟨p1, c1, rfl, hb1⟩ := own_bytes ho
  have HB1 := Go.Lib.hid hb1
  have hz := hc.size
  have HX := Go.Lib.hid (show ∃ x0, (∀ ad, p1 = some ad → ad.block = x0) ∧ x0 < w1.heap.size ∧ (w.heap.size ≤ x0 ∨ x0 = 0) by
    cases p1 with
    | none => exact ⟨0, (fun ad e => nomatch e), by omega, .inr rfl⟩
    | some ad =>
      rcases ho.2 with ⟨h, _⟩ | ⟨g, cap, cur, h, hbg, hg, _⟩
      · cases h
      · cases h
        exact ⟨g, fun ad e => by cases e; rfl, row_lt hg, .inl hbg⟩)
  clear ho hc hb1 HC
  go_wp2_with fail
  go_ret
  obtain ⟨x0, h1, h2, h3⟩ := HX.out
  exact ⟨w1.heap.size, x0, p1, c1, rfl, ⟨World.alloc_heap_new w1 _, HB1.out.but ((Ch.refl (fun _ => False) w1).alloc _) h1 id, by omega, h1, by simp; omega⟩, hz, h3, HC1.out.alloc _⟩
theorem outN_form {most : Int} {f : Nat → UInt8} {n : Nat} : ∀ x k, outN most f n = .got x k → ∃ v, x = .int .i64 v := fun x k h => by
  obtain ⟨v, rfl, _⟩ := outN_got h
  exact ⟨_, rfl⟩
theorem outT_form {most : Int} {f : Nat → UInt8} {n : Nat} : ∀ x k, outT most f n = .got x k → ∃ v, x = .string v := fun x k h => by
  unfold outT at h
  cases ho : outN most f n with
  | lack => rw [ho] at h; cases h
  | wrong => rw [ho] at h; cases h
  | got y j =>
    obtain ⟨v, rfl, _⟩ := outN_got ho
    rw [ho] at h
    simp only at h
    split at h
    · cases h
    · cases h; exact ⟨_, rfl⟩
set_option maxRecDepth 100000 in
theorem rNumber_ok (r x0 : Nat) (p : Option Addr) (n c : Nat) (f : Nat → UInt8) (most : Int) (w : World) (hr : RdAt w r x0 p n c f false) (hm : 0 ≤ most) :
    Calls Try.prog 22 #[.pointer (some ⟨r, 0, none⟩), .int .i64 most] w (PartTold (outN most f n) f p n c r x0 (.int .i64 0) w) := by
  have HR := Go.Lib.hid hr
  have hal : Ch (fun _ => False) w (w.alloc (.cells #[.int .i64 most] 2)) := (Ch.refl _ w).alloc _
  have HST := Go.Lib.hid (state_any _ (hr.ch hal id id))
  have hcb : (w.alloc (.cells #[.int .i64 most] 2)).cell? ⟨w.heap.size, 0, none⟩ = some (.int .i64 most) := cell_new w _ 2
  have HP := Go.Lib.hid (part64 r w.heap.size x0 p n c f (outN most f n) _ (hr.ch hal id id) outN_form (fun W l hc hl => num1_any l x0 w.heap.size p n c f most W hl (hc.get hcb id)))
  have hm' : ¬ most < 0 := by omega
  have HRR := Go.Lib.hid (fun e w' (h : PartTold (outN most f n) f p n c r x0 (.int .i64 0) (w.alloc (.cells #[.int .i64 most] 2)) e w') => (show PartTold (outN most f n) f p n c r x0 (.int .i64 0) w e w' from ⟨(hal.mono (fun _ _ e => e.elim)).trans h.1, h.2⟩))
  clear hr hal
  unfold PartTold at HRR HP ⊢
  cases ho : outN most f n with
  | lack =>
    rw [ho] at HRR HP
    clear ho
    go_enter Try.func22, Try.ntmps22
    go_wp2_with (first
      | (go_at_call 55; refine HST.out.mono ?_; rintro e w' ⟨rfl, rfl⟩)
      | (go_at_call 56; refine HP.out.mono ?_; rintro e w' ⟨h1, rfl, h2⟩; have H1 := Go.Lib.hid (HRR.out _ w' ⟨h1, rfl, h2⟩); clear h1 h2))
    refine bodyPost_ret (v := .tuple #[.int .i64 0, .int .i64 140]) (by simp [results, Try.results22, go_sem]) rfl ⟨H1.out.1, rfl, H1.out.2.2⟩
  | wrong =>
    rw [ho] at HRR HP
    clear ho
    go_enter Try.func22, Try.ntmps22
    go_wp2_with (first
      | (go_at_call 55; refine HST.out.mono ?_; rintro e w' ⟨rfl, rfl⟩)
      | (go_at_call 56; refine HP.out.mono ?_; rintro e w' ⟨h1, rfl, h2⟩; have H1 := Go.Lib.hid (HRR.out _ w' ⟨h1, rfl, h2⟩); clear h1 h2))
    refine bodyPost_ret (v := .tuple #[.int .i64 0, .int .i64 140]) (by simp [results, Try.results22, go_sem]) rfl ⟨H1.out.1, rfl, H1.out.2.2⟩
  | got x k =>
    rw [ho] at HRR HP
    clear ho
    go_enter Try.func22, Try.ntmps22
    go_wp2_with (first
      | (go_at_call 55; refine HST.out.mono ?_; rintro e w' ⟨rfl, rfl⟩)
      | (go_at_call 56; refine HP.out.mono ?_; rintro e w' ⟨h1, rfl, h2⟩; have H1 := Go.Lib.hid (HRR.out _ w' ⟨h1, rfl, h2⟩); clear h1 h2))
    refine bodyPost_ret (v := .tuple #[x, .int .i64 0]) (by simp [results, Try.results22, go_sem]) rfl ⟨H1.out.1, rfl, H1.out.2.2⟩
set_option maxRecDepth 100000 in
theorem rNumber_neg (r x0 : Nat) (p : Option Addr) (n c : Nat) (f : Nat → UInt8) (most : Int) (w : World) (hr : RdAt w r x0 p n c f false) (hm : most < 0) :
    Calls Try.prog 22 #[.pointer (some ⟨r, 0, none⟩), .int .i64 most] w fun e w' => e = .returned (.tuple #[.int .i64 0, .int .i64 2]) ∧ Ch (fun _ => False) w w' := by
  have hal : Ch (fun _ => False) w (w.alloc (.cells #[.int .i64 most] 2)) := (Ch.refl _ w).alloc _
  have HST := Go.Lib.hid (state_any _ (hr.ch hal id id))
  have hcb : (w.alloc (.cells #[.int .i64 most] 2)).cell? ⟨w.heap.size, 0, none⟩ = some (.int .i64 most) := cell_new w _ 2
  have HAL := Go.Lib.hid hal
  clear hr hal
  go_enter Try.func22, Try.ntmps22
  go_wp2_with (go_at_call 55; refine HST.out.mono ?_; rintro e w' ⟨rfl, rfl⟩)
  refine bodyPost_ret (v := .tuple #[.int .i64 0, .int .i64 2]) (by simp [results, Try.results22, go_sem]) rfl ⟨rfl, HAL.out⟩
set_option maxRecDepth 100000 in
theorem rNumber_bad (r x0 : Nat) (p : Option Addr) (n c : Nat) (f : Nat → UInt8) (most : Int) (w : World) (hr : RdAt w r x0 p n c f true) :
    Calls Try.prog 22 #[.pointer (some ⟨r, 0, none⟩), .int .i64 most] w fun e w' => e = .returned (.tuple #[.int .i64 0, .int .i64 140]) ∧ Ch (fun _ => False) w w' := by
  have hal : Ch (fun _ => False) w (w.alloc (.cells #[.int .i64 most] 2)) := (Ch.refl _ w).alloc _
  have HST := Go.Lib.hid (state_any _ (hr.ch hal id id))
  have HP := Go.Lib.hid (partbad64 r w.heap.size x0 p n c f _ (hr.ch hal id id))
  have HAL := Go.Lib.hid hal
  clear hr hal
  go_enter Try.func22, Try.ntmps22
  go_wp2_with (first
    | (go_at_call 55; refine HST.out.mono ?_; rintro e w' ⟨rfl, rfl⟩)
    | (go_at_call 56; refine HP.out.mono ?_; rintro e w' ⟨rfl, h2⟩; have H2 := Go.Lib.hid (HAL.out.trans h2); clear h2))
  refine bodyPost_ret (v := .tuple #[.int .i64 0, .int .i64 140]) (by simp [results, Try.results22, go_sem]) rfl ⟨rfl, H2.out⟩
set_option maxRecDepth 100000 in
theorem rText_ok (r x0 : Nat) (p : Option Addr) (n c : Nat) (f : Nat → UInt8) (most : Int) (w : World) (hr : RdAt w r x0 p n c f false) (hm : 0 ≤ most) (hb : most ≤ 1152921504606846976) :
    Calls Try.prog 25 #[.pointer (some ⟨r, 0, none⟩), .int .i64 most] w (PartTold (outT most f n) f p n c r x0 (.string { data := #[] }) w) := by
  have HR := Go.Lib.hid hr
  have hal : Ch (fun _ => False) w (w.alloc (.cells #[.int .i64 most] 3)) := (Ch.refl _ w).alloc _
  have HST := Go.Lib.hid (state_any _ (hr.ch hal id id))
  have hcb : (w.alloc (.cells #[.int .i64 most] 3)).cell? ⟨w.heap.size, 0, none⟩ = some (.int .i64 most) := cell_new w _ 3
  have HP := Go.Lib.hid (partS r w.heap.size x0 p n c f (outT most f n) _ (hr.ch hal id id) outT_form (fun W l hc hl => text1_any l x0 w.heap.size p n c f most W hl (hc.get hcb id)))
  have hm' : ¬ most < 0 := by omega
  have HRR := Go.Lib.hid (fun e w' (h : PartTold (outT most f n) f p n c r x0 (.string { data := #[] }) (w.alloc (.cells #[.int .i64 most] 3)) e w') => (show PartTold (outT most f n) f p n c r x0 (.string { data := #[] }) w e w' from ⟨(hal.mono (fun _ _ e => e.elim)).trans h.1, h.2⟩))
  clear hr hal
  unfold PartTold at HRR HP ⊢
  cases ho : outT most f n with
  | lack =>
    rw [ho] at HRR HP
    clear ho
    go_enter Try.func25, Try.ntmps25
    go_wp2_with (first
      | (go_at_call 55; refine HST.out.mono ?_; rintro e w' ⟨rfl, rfl⟩)
      | (go_at_call 63; refine HP.out.mono ?_; rintro e w' ⟨h1, rfl, h2⟩; have H1 := Go.Lib.hid (HRR.out _ w' ⟨h1, rfl, h2⟩); clear h1 h2))
    refine bodyPost_ret (v := .tuple #[.string { data := #[] }, .int .i64 140]) (by simp [results, Try.results25, go_sem]) rfl ⟨H1.out.1, rfl, H1.out.2.2⟩
  | wrong =>
    rw [ho] at HRR HP
    clear ho
    go_enter Try.func25, Try.ntmps25
    go_wp2_with (first
      | (go_at_call 55; refine HST.out.mono ?_; rintro e w' ⟨rfl, rfl⟩)
      | (go_at_call 63; refine HP.out.mono ?_; rintro e w' ⟨h1, rfl, h2⟩; have H1 := Go.Lib.hid (HRR.out _ w' ⟨h1, rfl, h2⟩); clear h1 h2))
    refine bodyPost_ret (v := .tuple #[.string { data := #[] }, .int .i64 140]) (by simp [results, Try.results25, go_sem]) rfl ⟨H1.out.1, rfl, H1.out.2.2⟩
  | got x k =>
    rw [ho] at HRR HP
    clear ho
    go_enter Try.func25, Try.ntmps25
    go_wp2_with (first
      | (go_at_call 55; refine HST.out.mono ?_; rintro e w' ⟨rfl, rfl⟩)
      | (go_at_call 63; refine HP.out.mono ?_; rintro e w' ⟨h1, rfl, h2⟩; have H1 := Go.Lib.hid (HRR.out _ w' ⟨h1, rfl, h2⟩); clear h1 h2))
    refine bodyPost_ret (v := .tuple #[x, .int .i64 0]) (by simp [results, Try.results25, go_sem]) rfl ⟨H1.out.1, rfl, H1.out.2.2⟩
set_option maxRecDepth 100000 in
theorem rText_neg (r x0 : Nat) (p : Option Addr) (n c : Nat) (f : Nat → UInt8) (most : Int) (w : World) (hr : RdAt w r x0 p n c f false) (hm : most < 0) :
    Calls Try.prog 25 #[.pointer (some ⟨r, 0, none⟩), .int .i64 most] w fun e w' => e = .returned (.tuple #[.string { data := #[] }, .int .i64 2]) ∧ Ch (fun _ => False) w w' := by
  have hal : Ch (fun _ => False) w (w.alloc (.cells #[.int .i64 most] 3)) := (Ch.refl _ w).alloc _
  have HST := Go.Lib.hid (state_any _ (hr.ch hal id id))
  have hcb : (w.alloc (.cells #[.int .i64 most] 3)).cell? ⟨w.heap.size, 0, none⟩ = some (.int .i64 most) := cell_new w _ 3
  have HAL := Go.Lib.hid hal
  clear hr hal
  go_enter Try.func25, Try.ntmps25
  go_wp2_with (go_at_call 55; refine HST.out.mono ?_; rintro e w' ⟨rfl, rfl⟩)
  refine bodyPost_ret (v := .tuple #[.string { data := #[] }, .int .i64 2]) (by simp [results, Try.results25, go_sem]) rfl ⟨rfl, HAL.out⟩
set_option maxRecDepth 100000 in
theorem rText_bad (r x0 : Nat) (p : Option Addr) (n c : Nat) (f : Nat → UInt8) (most : Int) (w : World) (hr : RdAt w r x0 p n c f true) :
    Calls Try.prog 25 #[.pointer (some ⟨r, 0, none⟩), .int .i64 most] w fun e w' => e = .returned (.tuple #[.string { data := #[] }, .int .i64 140]) ∧ Ch (fun _ => False) w w' := by
  have hal : Ch (fun _ => False) w (w.alloc (.cells #[.int .i64 most] 3)) := (Ch.refl _ w).alloc _
  have HST := Go.Lib.hid (state_any _ (hr.ch hal id id))
  have HP := Go.Lib.hid (partbadS r w.heap.size x0 p n c f _ (hr.ch hal id id))
  have HAL := Go.Lib.hid hal
  clear hr hal
  go_enter Try.func25, Try.ntmps25
  go_wp2_with (first
    | (go_at_call 55; refine HST.out.mono ?_; rintro e w' ⟨rfl, rfl⟩)
    | (go_at_call 63; refine HP.out.mono ?_; rintro e w' ⟨rfl, h2⟩; have H2 := Go.Lib.hid (HAL.out.trans h2); clear h2))
  refine bodyPost_ret (v := .tuple #[.string { data := #[] }, .int .i64 140]) (by simp [results, Try.results25, go_sem]) rfl ⟨rfl, H2.out⟩
end Go.Proofs.Ytljllfdigfojdaa
