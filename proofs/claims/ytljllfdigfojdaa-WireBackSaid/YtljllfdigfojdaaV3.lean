/- A writer: New, there, lay of numbers. -/
import Derived.Test.YtljllfdigfojdaaV2
namespace Go.Proofs.Ytljllfdigfojdaa
open Go Go.RowKit

theorem row_setM {w : World} {b : Nat} {c : Array Value} {t : TypeId} {fz : Nat × Nat} (h : w.heap[b]? = some (.cells c t fz)) (k : Nat) (v : Value) : (w.setCell ⟨b, k, none⟩ v).heap[b]? = some (.cells (c.setIfInBounds k v) t fz) := by
  simp only [World.setCell, Array.getElem?_modify]
  rw [h]
  simp
theorem own_ch1 {e : TypeId} {w w' : World} {Z k : Nat} {v : Value} {xs : List Value} {S : Nat → Prop} (h : w.ownsRow Z e 1 v k xs) (hc : Ch S w w') (hs : ∀ q, v.ownBlock = some q → ¬ S q) : w'.ownsRow Z e 1 v k xs := by
  refine ⟨h.1, ?_⟩
  rcases h.2 with hn | ⟨g, cap, cur, rfl, h1, h2, h3⟩
  · exact .inl hn
  · exact .inr ⟨g, cap, cur, rfl, h1, hc.heap h2 (hs g rfl), h3⟩
theorem row_lt {w : World} {b : Nat} {o : Obj} (h : w.heap[b]? = some o) : b < w.heap.size := (Array.getElem?_eq_some_iff.1 h).1
/-- A writer at b: its row of bytes is v, k bytes of F. -/
structure WrAt (w : World) (b : Nat) (v : Value) (k : Nat) (F : Nat → UInt8) : Prop where
  row : w.heap[b]? = some (.cells #[v, .bool true] 39)
  own : w.ownsRow (b + 1) 5 1 v k (fL F k)
theorem WrAt.ne {w : World} {b k : Nat} {v : Value} {F : Nat → UInt8} (h : WrAt w b v k F) : ∀ q, v.ownBlock = some q → ¬ q = b := fun q e => by
  have := (h.own.lt q e).1; omega
theorem WrAt.ch {S : Nat → Prop} {w w' : World} {b k : Nat} {v : Value} {F : Nat → UInt8} (h : WrAt w b v k F) (hc : Ch S w w') (hb : ¬ S b) (hs : ∀ q, v.ownBlock = some q → ¬ S q) : WrAt w' b v k F := ⟨hc.heap h.row hb, own_ch1 h.own hc hs⟩
/-- What a call of the writer at b, whose row was v and becomes v', leaves. -/
structure Gb (b : Nat) (w w' : World) (v v' : Value) : Prop where
  ch : Ch (fun q => q = b ∨ v.ownBlock = some q) w w'
  own : ∀ g, v'.ownBlock = some g → v.ownBlock = some g ∨ w.heap.size ≤ g
theorem Gb.refl (b : Nat) (w : World) (v : Value) : Gb b w w v v := ⟨Ch.refl _ w, fun _ h => .inl h⟩
theorem Gb.trans {b : Nat} {w w1 w2 : World} {v v1 v2 : Value} (h : Gb b w w1 v v1) (k : Gb b w1 w2 v1 v2) : Gb b w w2 v v2 := by
  refine ⟨h.ch.then k.ch (fun i hi e => ?_), fun g e => ?_⟩
  · rcases e with e | e
    · exact .inl e
    · rcases h.own i e with e1 | e1
      · exact .inr e1
      · omega
  · rcases k.own g e with e1 | e1
    · exact h.own g e1
    · exact .inr (Nat.le_trans h.ch.size e1)
theorem Gw.set {b : Nat} {w w' : World} {v v' : Value} (h : Gw w w' v v') (u : Value) : Gb b w (w'.setCell ⟨b, 0, none⟩ u) v v' :=
  ⟨Ch.setCell (h.ch.mono (fun _ _ e => .inr e)) (p := ⟨b, 0, none⟩) (fun _ => .inl rfl) u, h.own⟩

theorem new_any (F : Nat → UInt8) (w : World) : Calls Try.prog 11 #[] w fun e w' => ∃ b, e = .returned (.pointer (some ⟨b, 0, none⟩)) ∧ w.heap.size ≤ b ∧ WrAt w' b (.slice none 0 0) 0 F ∧ Ch (fun _ => False) w w' := by
  go_enter Try.func11, Try.ntmps11
  go_wp2
  go_ret
  refine ⟨w.heap.size, rfl, Nat.le_refl _, ⟨World.alloc_heap_new w _, ⟨rfl, .inl ⟨rfl, rfl⟩⟩⟩, (Ch.refl _ w).alloc _⟩
theorem there_any {b k : Nat} {v : Value} {F : Nat → UInt8} (w : World) (h : WrAt w b v k F) : Calls Try.prog 38 #[.pointer (some ⟨b, 0, none⟩)] w fun e w' => e = .returned (.bool true) ∧ w = w' := by
  have h1 : w.cell? ⟨b, 1, none⟩ = some (.bool true) := (cell_of_heap h.row 1).trans rfl
  clear h
  go_enter Try.func38, Try.ntmps38
  go_wp2
  go_ret
  exact ⟨rfl, rfl⟩
def lenOf (nums : Nat → Nat) (i : Nat) : Nat := numL (nums i)
theorem numL_le (n : Nat) : numL n ≤ 9 := by unfold numL wdN; split <;> (try split) <;> (try split) <;> omega

set_option maxRecDepth 100000 in
set_option maxHeartbeats 1000000 in
theorem lay64_any (b a off N cap k : Nat) (sp : Option Addr) (v : Value) (F : Nat → UInt8) (nums : Nat → Nat) (w : World) (hsp : sp = some ⟨a, off, none⟩ ∨ N = 0) (hw : WrAt w b v k F)
    (hnum : ∀ i, i < N → w.cell? ⟨a, off + i, none⟩ = some (.int .i64 (nums i : Int))) (ha : a ≠ b ∧ v.ownBlock ≠ some a) (hbig : ∀ i, i < N → nums i ≤ 4611686018427387904) (hk : k + 9 * N ≤ 1000000000000)
    (hF : ∀ i, i < N → ∀ j, j < numL (nums i) → F (k + upto (lenOf nums) i + j) = numB (nums i) j) :
    Calls Try.prog 42 #[.pointer (some ⟨b, 0, none⟩), .func (.func 43) #[] #[], .slice sp N cap] w fun e w' => e = .returned (.int .i64 0) ∧ ∃ v', WrAt w' b v' (k + upto (lenOf nums) N) F ∧ Gb b w w' v v' := by
  have HSP := Go.Lib.hid hsp; have HW := Go.Lib.hid hw; have HNUM := Go.Lib.hid hnum; have HA := Go.Lib.hid ha; have HBIG := Go.Lib.hid hbig; have HF := Go.Lib.hid hF
  have HBL := Go.Lib.hid (row_lt hw.row)
  have HUP := Go.Lib.hid (fun i => (show upto (lenOf nums) i ≤ 9 * i from by
    induction i with
    | zero => exact Nat.le_refl _
    | succ i ih => show upto (lenOf nums) i + numL (nums i) ≤ _; have := numL_le (nums i); omega))
  clear hsp hw hnum ha hbig hF
  go_enter Try.func42, Try.ntmps42
  go_wp2_with (go_at_call 38; refine (there_any _ HW.out).mono ?_; rintro e w' ⟨rfl, rfl⟩)
  go_loopw [14] (fun ix wr => ∃ i : Nat, i ≤ N ∧ ix = .int .i64 i ∧ ∃ v', WrAt wr b v' (k + upto (lenOf nums) i) F ∧ Gb b w wr v v') (fun ix _ => N - (intOf ix).toNat)
  case atStart => exact ⟨0, by omega, rfl, v, HW.out, Gb.refl _ _ _⟩
  case round =>
    obtain ⟨i, hi, rfl, v1, hw1, hg1⟩ := hrel
    have HW1 := Go.Lib.hid hw1; have HG1 := Go.Lib.hid hg1
    clear hw1 hg1
    by_cases hlt : i < N
    · obtain rfl := HSP.out.resolve_right (by omega)
      have hai := HA.out
      have hcell : wr.cell? ⟨a, off + i, none⟩ = some (.int .i64 (nums i : Int)) := HG1.out.ch.get (HNUM.out i hlt) (by
        rintro (e | e)
        · exact hai.1 e
        · exact hai.2 e)
      have hv : wr.cell? ⟨b, 0, none⟩ = some v1 := (cell_of_heap HW1.out.row 0).trans rfl
      have hfz : wr.frozen? ⟨b, 0, none⟩ = false := frozen_of_heap HW1.out.row 0
      have HU := Go.Lib.hid (show upto (lenOf nums) (i + 1) = upto (lenOf nums) i + numL (nums i) from rfl)
      have hu := HUP.out i
      have HFI := Go.Lib.hid (HF.out i hlt)
      have hbi := HBIG.out i hlt
      have hbl := HBL.out
      have hsz := HG1.out.ch.size
      have HWN := Go.Lib.hid (withNumber_any (b + 1) (k + upto (lenOf nums) i) (nums i) v1 F wr HW1.out.own (by omega) (by omega) hbi HFI.out)
      have HNL := Go.Lib.hid (numL_le (nums i))
      clear hai hbl hbi hu hsz
      generalize upto (lenOf nums) i = u at *
      generalize numL (nums i) = l at *
      generalize nums i = n at *
      go_wp2_with fail
      refine HWN.out.mono ?_
      rintro e w2 ⟨v2, rfl, ho2, hg2⟩
      obtain ⟨p2, c2, rfl, -⟩ := own_bytes ho2
      have hr2 : w2.heap[b]? = some (.cells #[v1, .bool true] 39) := hg2.ch.heap HW1.out.row (fun e => (HW1.out.ne b e) rfl)
      have hcb : w2.cell? ⟨b, 0, none⟩ = some v1 := (cell_of_heap hr2 0).trans rfl
      have hfb : w2.frozen? ⟨b, 0, none⟩ = false := frozen_of_heap hr2 0
      have HW2 := Go.Lib.hid (show WrAt (w2.setCell ⟨b, 0, none⟩ (.slice p2 (k + u + l) c2)) b (.slice p2 (k + u + l) c2) (k + u + l) F from ⟨(row_setM hr2 0 _).trans rfl, own_ch1 ho2 (Ch.setCell (S := fun q => q = b) (Ch.refl _ w2) (p := ⟨b, 0, none⟩) (fun _ => rfl) _) (fun q e e2 => by have := (ho2.lt q e).1; omega)⟩)
      have HG2 := Go.Lib.hid (HG1.out.trans (hg2.set (b := b) (.slice p2 (k + u + l) c2)))
      clear ho2 hg2 hr2 hv hfz HWN
      go_wp2_with fail
      go_roundw
      case rel => exact ⟨i + 1, by omega, by go_num, _, by rw [HU.out, ← Nat.add_assoc]; exact HW2.out, HG2.out⟩
      case measure => simp [intOf]; omega
    · obtain rfl : i = N := by omega
      go_wp2_with fail
      go_ret
      exact ⟨rfl, v1, HW1.out, HG1.out⟩
end Go.Proofs.Ytljllfdigfojdaa
