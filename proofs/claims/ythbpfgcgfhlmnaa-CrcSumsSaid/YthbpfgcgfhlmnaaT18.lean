/- few: all parts, one behind the other, unless they are too many or too long. -/
import Derived.Test.YthbpfgcgfhlmnaaT17
namespace Go.Proofs.Ythbpfgcgfhlmnaa
open Go Go.RowKit
attribute [local go_sem high] b_add b_xor b_and b_or b_shr b_shl not32 wrap_un beq32 neg32 b_turn lowB_wrap

def fits (N : Nat) (L : Nat → Nat) : Prop := N ≤ 20 ∧ ∀ i, i < N → L i ≤ 200
theorem upto_bound (L : Nat → Nat) (n : Nat) (h : ∀ i, i < n → L i ≤ 200) : upto L n ≤ 200 * n := by
  induction n with
  | zero => simp [upto]
  | succ n ih =>
    have := ih (fun i hi => h i (by omega))
    have := h n (by omega)
    show upto L n + L n ≤ _
    omega
theorem PartsAt.part {w : World} {a off N : Nat} {P : Nat → Option Addr} {L C : Nat → Nat} {f : Nat → UInt8} (h : PartsAt w a off N P L C f) (i : Nat) (hi : i < N) (hc : L i ≤ C i) : BytesAt w (P i) (L i) (C i) (fun j => f (upto L i + j)) := by
  obtain ⟨x, y, hx, hl, hb⟩ := h.bytes i hi
  rcases hx with hx | hx
  · exact .inl ⟨x, y, hx, hc, hl, hb⟩
  · exact .inr hx
set_option maxRecDepth 100000 in
set_option maxHeartbeats 1000000 in
theorem few_any (a off N cap : Nat) (sp : Option Addr) (P : Nat → Option Addr) (L C : Nat → Nat) (f : Nat → UInt8) (w : World) (hsp : sp = some ⟨a, off, none⟩ ∨ N = 0)
    (hP : PartsAt w a off N P L C f) (hLC : ∀ i, i < N → L i ≤ C i) :
    Calls Try.prog 10 #[.slice sp N cap, .int .i64 20] w fun e w' => Ch (fun _ => False) w w' ∧ ∃ v, (e = .returned (.tuple #[v, .bool false]) ∧ ¬ fits N L) ∨ (e = .returned (.tuple #[v, .bool true]) ∧ fits N L ∧ w'.ownsRow w.heap.size 5 1 v (upto L N) (fL f (upto L N))) := by
  have HP := Go.Lib.hid hP; have HSP := Go.Lib.hid hsp; have HLC := Go.Lib.hid hLC
  clear hP hsp hLC
  by_cases hN : N ≤ 20
  · have hN' : (N : Int) ≤ 20 := by omega
    go_enter Try.func10, Try.ntmps10
    go_wp2_with fail
    go_loopw [6, 7] (fun v i wr => ∃ k : Nat, k ≤ N ∧ i = .int .i64 k ∧ (∀ i, i < k → L i ≤ 200) ∧ wr.ownsRow w.heap.size 5 1 v (upto L k) (fL f (upto L k)) ∧ Ch (fun _ => False) w wr) (fun _ i _ => N - (intOf i).toNat)
    case atStart => exact ⟨0, by omega, rfl, fun i hi => by omega, World.ownsRow_nil _ _ _ _, Ch.refl _ _⟩
    case round =>
      obtain ⟨k, hk, rfl, hle, hown, hC⟩ := hrel
      have HC := Go.Lib.hid hC; have HOW := Go.Lib.hid hown; have HLE := Go.Lib.hid hle
      have HOB := Go.Lib.hid hown.lt
      clear hC hown hle
      by_cases hkN : k < N
      · obtain rfl : sp = some ⟨a, off, none⟩ := HSP.out.resolve_right (by omega)
        have hcell : wr.cell? ⟨a, off + k, none⟩ = some (.slice (P k) (L k) (C k)) := HC.out.get (HP.out.row k hkN) id
        by_cases hL : L k ≤ 200
        · have HB := Go.Lib.hid ((HP.out.part k hkN (HLC.out k hkN)).ch HC.out (fun _ _ h => h))
          have hsz : w.heap.size ≤ wr.heap.size := HC.out.size
          have HUB := Go.Lib.hid (upto_bound L k HLE.out)
          have HFP := Go.Lib.hid (show fL f (upto L k) ++ fL (fun j => f (upto L k + j)) (L k) = fL f (upto L (k + 1)) from fL_part f _ _)
          have HU := Go.Lib.hid (show upto L (k + 1) = upto L k + L k from rfl)
          have HL2 := Go.Lib.hid (show ∀ i, i < k + 1 → L i ≤ 200 from fun i hi => by
            by_cases e : i = k
            · subst e; exact hL
            · exact HLE.out i (by omega))
          have hLi : (L k : Int) ≤ 200 := by omega
          generalize upto L k = u at *
          generalize hl : L k = l at *
          generalize P k = pk at *
          generalize C k = ck at *
          clear hl
          go_wp2_with (at_builtin; refine wpList_append_bytes rfl (.tmp 24) (.tmp 28) rfl w.heap.size _ _ _ rfl HOW.out pk l ck _ rfl HB.out (by have := HUB.out; omega) (by omega) ?_; intro v1 w1 hown1 hgrow1; have HO1 := Go.Lib.hid hown1; have HW1 := Go.Lib.hid hgrow1; clear hown1 hgrow1)
          go_roundw
          case rel =>
            refine ⟨k + 1, by omega, by go_num, HL2.out, ?_, Ch.grown HC.out HW1.out (fun j hj hlt => absurd (HOB.out j hj).1 (by omega))⟩
            rw [← HFP.out, HU.out]
            exact HO1.out
          case measure => simp [intOf]; omega
        · have hLi : 200 < (L k : Int) := by omega
          have HNF := Go.Lib.hid (show ¬ fits N L from fun h => hL (h.2 k hkN))
          clear hL
          generalize L k = l at *
          generalize P k = pk at *
          generalize C k = ck at *
          go_wp2_with fail
          refine bodyPost_ret (v := .tuple #[.slice none 0 0, .bool false]) (by simp [results, Try.results10, go_sem]) rfl ⟨HC.out, _, .inl ⟨rfl, HNF.out⟩⟩
      · obtain rfl : k = N := by omega
        have HF := Go.Lib.hid (show fits k L from ⟨by omega, HLE.out⟩)
        go_wp2_with fail
        refine bodyPost_ret (by simp [results, Try.results10, go_sem]) rfl ⟨HC.out, _, .inr ⟨rfl, HF.out, HOW.out⟩⟩
  · have hN' : 20 < (N : Int) := by omega
    have HNF := Go.Lib.hid (show ¬ fits N L from fun h => hN h.1)
    clear hN
    go_enter Try.func10, Try.ntmps10
    go_wp2_with fail
    refine bodyPost_ret (v := .tuple #[.slice none 0 0, .bool false]) (by simp [results, Try.results10, go_sem]) rfl ⟨Ch.refl _ _, _, .inl ⟨rfl, HNF.out⟩⟩
end Go.Proofs.Ythbpfgcgfhlmnaa
