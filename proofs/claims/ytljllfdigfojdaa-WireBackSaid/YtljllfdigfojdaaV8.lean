/- A reader: there, state; a part of each type. -/
import Derived.Test.YtljllfdigfojdaaV7
namespace Go.Proofs.Ytljllfdigfojdaa
open Go Go.RowKit

/-- A reader at r: what is left of its bytes, which lie in block x0; whether it refused something. -/
structure RdAt (w : World) (r x0 : Nat) (p : Option Addr) (n c : Nat) (f : Nat → UInt8) (bad : Bool) : Prop where
  row : w.heap[r]? = some (.cells #[.slice p n c, .bool true, .bool bad] 59)
  bytes : BytesAt w p n c f
  ne : x0 ≠ r
  blk : ∀ ad, p = some ad → ad.block = x0
  old : x0 < w.heap.size
theorem BytesAt.but {w w' : World} {p : Option Addr} {n c : Nat} {f : Nat → UInt8} {S : Nat → Prop} (h : BytesAt w p n c f) (hc : Ch S w w') {x0 : Nat} (hb : ∀ ad, p = some ad → ad.block = x0) (hs : ¬ S x0) : BytesAt w' p n c f := by
  rcases h with ⟨x, y, rfl, h2, h4, h3⟩ | h
  · obtain rfl : x = x0 := hb _ rfl
    exact .inl ⟨x, y, rfl, h2, Nat.lt_of_lt_of_le h4 hc.size, fun j hj => hc.get (h3 j hj) hs⟩
  · exact .inr h
theorem RdAt.ch {w w' : World} {r x0 : Nat} {p : Option Addr} {n c : Nat} {f : Nat → UInt8} {bad : Bool} {S : Nat → Prop} (h : RdAt w r x0 p n c f bad) (hc : Ch S w w') (h1 : ¬ S r) (h2 : ¬ S x0) : RdAt w' r x0 p n c f bad :=
  ⟨hc.heap h.row h1, h.bytes.but hc h.blk h2, h.ne, h.blk, Nat.lt_of_lt_of_le h.old hc.size⟩
theorem LeftAt.ch {w w' : World} {l x0 : Nat} {p : Option Addr} {n c : Nat} {f : Nat → UInt8} {S : Nat → Prop} (h : LeftAt w l x0 p n c f) (hc : Ch S w w') (h1 : ¬ S l) (h2 : ¬ S x0) : LeftAt w' l x0 p n c f :=
  ⟨hc.heap h.row h1, h.bytes.but hc h.blk h2, h.ne, h.blk⟩
theorem rthere_any {r x0 : Nat} {p : Option Addr} {n c : Nat} {f : Nat → UInt8} {bad : Bool} (w : World) (h : RdAt w r x0 p n c f bad) : Calls Try.prog 54 #[.pointer (some ⟨r, 0, none⟩)] w fun e w' => e = .returned (.bool true) ∧ w = w' := by
  have h1 : w.cell? ⟨r, 1, none⟩ = some (.bool true) := (cell_of_heap h.row 1).trans rfl
  clear h
  go_enter Try.func54, Try.ntmps54
  go_wp2
  go_ret
  exact ⟨rfl, rfl⟩
theorem state_any {r x0 : Nat} {p : Option Addr} {n c : Nat} {f : Nat → UInt8} {bad : Bool} (w : World) (h : RdAt w r x0 p n c f bad) : Calls Try.prog 55 #[.pointer (some ⟨r, 0, none⟩)] w fun e w' => e = .returned (.int .i64 (if bad then 140 else 0)) ∧ w = w' := by
  have HT := Go.Lib.hid (rthere_any w h)
  have h2 : w.cell? ⟨r, 2, none⟩ = some (.bool bad) := (cell_of_heap h.row 2).trans rfl
  clear h
  cases bad with
  | true =>
    go_enter Try.func55, Try.ntmps55
    go_wp2_with (go_at_call 54; refine HT.out.mono ?_; rintro e w' ⟨rfl, rfl⟩)
    go_ret
    exact ⟨rfl, rfl⟩
  | false =>
    go_enter Try.func55, Try.ntmps55
    go_wp2_with (go_at_call 54; refine HT.out.mono ?_; rintro e w' ⟨rfl, rfl⟩)
    go_ret
    exact ⟨rfl, rfl⟩
def PcTold (out : Out) (f : Nat → UInt8) (n l x0 xb : Nat) (z : Value) (t : TypeId) (w : World) (e : Ending) (w' : World) : Prop :=
  Ch (fun q => q = l ∨ q = xb) w w' ∧ match out with
    | .lack => e = gaveUp 1 ∧ w'.heap[xb]? = some (.cells #[z] t)
    | .wrong => e = gaveUp 2 ∧ w'.heap[xb]? = some (.cells #[z] t)
    | .got x k => e = .returned (.tuple #[]) ∧ k ≤ n ∧ (∃ p' c', LeftAt w' l x0 p' (n - k) c' (fun j => f (k + j))) ∧ w'.heap[xb]? = some (.cells #[x] t)
/-- What a part of a reader tells and leaves. -/
def PartTold (out : Out) (f : Nat → UInt8) (p : Option Addr) (n c r x0 : Nat) (z : Value) (w : World) (e : Ending) (w' : World) : Prop :=
  Ch (fun q => q = r) w w' ∧ match out with
    | .got x k => e = .returned (.tuple #[x, .int .i64 0]) ∧ k ≤ n ∧ ∃ p' c', RdAt w' r x0 p' (n - k) c' (fun j => f (k + j)) false
    | _ => e = .returned (.tuple #[z, .int .i64 140]) ∧ RdAt w' r x0 p n c f true
set_option maxRecDepth 100000 in
theorem pc64 (tb l xb mb x0 : Nat) (n : Nat) (f : Nat → UInt8) (out : Out) (w : World) (htb : w.cell? ⟨tb, 0, none⟩ = some (.func (.func 57) #[] #[.pointer (some ⟨mb, 0, none⟩)])) (hxr : w.heap[xb]? = some (.cells #[.int .i64 0] 2)) (hne : xb ≠ l ∧ xb ≠ x0)
    (hxv : ∀ x k, out = .got x k → ∃ v, x = .int .i64 v) (H : Calls Try.prog 57 #[.pointer (some ⟨l, 0, none⟩), .pointer (some ⟨mb, 0, none⟩)] w (TakeTold out f n l x0 w)) :
    Calls Try.prog 82 #[.pointer (some ⟨tb, 0, none⟩), .pointer (some ⟨l, 0, none⟩), .pointer (some ⟨xb, 0, none⟩)] w (PcTold out f n l x0 xb (.int .i64 0) 2 w) := by
  have HH := Go.Lib.hid H; have HX := Go.Lib.hid hxr; have HNE := Go.Lib.hid hne
  clear H hxr hne
  unfold TakeTold at HH
  unfold PcTold
  cases out with
  | lack =>
    clear hxv
    go_enter Try.func82, Try.ntmps82
    go_wp2_with fail
    refine HH.out.mono ?_
    rintro e w' ⟨hc, rfl⟩
    have HC := Go.Lib.hid hc
    clear hc
    go_wp2_with fail
    exact ⟨rfl, HC.out.mono (fun _ _ e => .inl e), rfl, HC.out.heap HX.out HNE.out.1⟩
  | wrong =>
    clear hxv
    go_enter Try.func82, Try.ntmps82
    go_wp2_with fail
    refine HH.out.mono ?_
    rintro e w' ⟨hc, rfl⟩
    have HC := Go.Lib.hid hc
    clear hc
    go_wp2_with fail
    exact ⟨rfl, HC.out.mono (fun _ _ e => .inl e), rfl, HC.out.heap HX.out HNE.out.1⟩
  | got x k =>
    obtain ⟨v, rfl⟩ := hxv x k rfl
    clear hxv
    go_enter Try.func82, Try.ntmps82
    go_wp2_with fail
    refine HH.out.mono ?_
    rintro e w1 ⟨hc, rfl, hk, p1, c1, h1⟩
    have hx1 := hc.heap HX.out HNE.out.1
    have hcl : w1.cell? ⟨xb, 0, none⟩ = some (.int .i64 0) := (cell_of_heap hx1 0).trans rfl
    have hfz : w1.frozen? ⟨xb, 0, none⟩ = false := frozen_of_heap hx1 0
    have HX2 := Go.Lib.hid (show (w1.setCell ⟨xb, 0, none⟩ (.int .i64 v)).heap[xb]? = some (.cells #[.int .i64 v] 2) from (row_setM hx1 0 _).trans rfl)
    have hs : Ch (fun q => q = xb) w1 (w1.setCell ⟨xb, 0, none⟩ (.int .i64 v)) := Ch.setCell (S := fun q => q = xb) (Ch.refl _ w1) (p := ⟨xb, 0, none⟩) (fun _ => rfl) _
    have HC := Go.Lib.hid ((hc.mono (T := fun q => q = l ∨ q = xb) (fun _ _ e => .inl e)).trans (hs.mono (fun _ _ e => .inr e)))
    have HL := Go.Lib.hid (h1.ch hs (show ¬ l = xb from fun e => HNE.out.1 e.symm) (show ¬ x0 = xb from fun e => HNE.out.2 e.symm))
    have HK := Go.Lib.hid hk
    clear hc hx1 hs h1 hk
    go_wp2_with fail
    first | go_end0 | refine bodyPost_ret (results_none rfl _ _ _) rfl ?_
    exact ⟨HC.out, rfl, HK.out, ⟨p1, c1, HL.out⟩, HX2.out⟩
set_option maxRecDepth 100000 in
theorem pcS (tb l xb mb x0 : Nat) (n : Nat) (f : Nat → UInt8) (out : Out) (w : World) (htb : w.cell? ⟨tb, 0, none⟩ = some (.func (.func 64) #[] #[.pointer (some ⟨mb, 0, none⟩)])) (hxr : w.heap[xb]? = some (.cells #[.string { data := #[] }] 9)) (hne : xb ≠ l ∧ xb ≠ x0)
    (hxv : ∀ x k, out = .got x k → ∃ v, x = .string v) (H : Calls Try.prog 64 #[.pointer (some ⟨l, 0, none⟩), .pointer (some ⟨mb, 0, none⟩)] w (TakeTold out f n l x0 w)) :
    Calls Try.prog 87 #[.pointer (some ⟨tb, 0, none⟩), .pointer (some ⟨l, 0, none⟩), .pointer (some ⟨xb, 0, none⟩)] w (PcTold out f n l x0 xb (.string { data := #[] }) 9 w) := by
  have HH := Go.Lib.hid H; have HX := Go.Lib.hid hxr; have HNE := Go.Lib.hid hne
  clear H hxr hne
  unfold TakeTold at HH
  unfold PcTold
  cases out with
  | lack =>
    clear hxv
    go_enter Try.func87, Try.ntmps87
    go_wp2_with fail
    refine HH.out.mono ?_
    rintro e w' ⟨hc, rfl⟩
    have HC := Go.Lib.hid hc
    clear hc
    go_wp2_with fail
    exact ⟨rfl, HC.out.mono (fun _ _ e => .inl e), rfl, HC.out.heap HX.out HNE.out.1⟩
  | wrong =>
    clear hxv
    go_enter Try.func87, Try.ntmps87
    go_wp2_with fail
    refine HH.out.mono ?_
    rintro e w' ⟨hc, rfl⟩
    have HC := Go.Lib.hid hc
    clear hc
    go_wp2_with fail
    exact ⟨rfl, HC.out.mono (fun _ _ e => .inl e), rfl, HC.out.heap HX.out HNE.out.1⟩
  | got x k =>
    obtain ⟨v, rfl⟩ := hxv x k rfl
    clear hxv
    go_enter Try.func87, Try.ntmps87
    go_wp2_with fail
    refine HH.out.mono ?_
    rintro e w1 ⟨hc, rfl, hk, p1, c1, h1⟩
    have hx1 := hc.heap HX.out HNE.out.1
    have hcl : w1.cell? ⟨xb, 0, none⟩ = some (.string { data := #[] }) := (cell_of_heap hx1 0).trans rfl
    have hfz : w1.frozen? ⟨xb, 0, none⟩ = false := frozen_of_heap hx1 0
    have HX2 := Go.Lib.hid (show (w1.setCell ⟨xb, 0, none⟩ (.string v)).heap[xb]? = some (.cells #[.string v] 9) from (row_setM hx1 0 _).trans rfl)
    have hs : Ch (fun q => q = xb) w1 (w1.setCell ⟨xb, 0, none⟩ (.string v)) := Ch.setCell (S := fun q => q = xb) (Ch.refl _ w1) (p := ⟨xb, 0, none⟩) (fun _ => rfl) _
    have HC := Go.Lib.hid ((hc.mono (T := fun q => q = l ∨ q = xb) (fun _ _ e => .inl e)).trans (hs.mono (fun _ _ e => .inr e)))
    have HL := Go.Lib.hid (h1.ch hs (show ¬ l = xb from fun e => HNE.out.1 e.symm) (show ¬ x0 = xb from fun e => HNE.out.2 e.symm))
    have HK := Go.Lib.hid hk
    clear hc hx1 hs h1 hk
    go_wp2_with fail
    first | go_end0 | refine bodyPost_ret (results_none rfl _ _ _) rfl ?_
    exact ⟨HC.out, rfl, HK.out, ⟨p1, c1, HL.out⟩, HX2.out⟩
end Go.Proofs.Ytljllfdigfojdaa
