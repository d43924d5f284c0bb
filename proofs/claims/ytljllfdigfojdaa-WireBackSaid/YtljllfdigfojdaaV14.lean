/- The reference's numbers: right, high, Number, first. -/
import Derived.Test.YtljllfdigfojdaaV13
namespace Go.Proofs.Ytljllfdigfojdaa
open Go Go.RowKit

set_option maxRecDepth 100000 in
theorem right_any (a off N cap : Nat) (sp : Option Addr) (z : Nat → Int) (w : World) (hsp : sp = some ⟨a, off, none⟩ ∨ N = 0) (hz : ∀ i, i < N → w.cell? ⟨a, off + i, none⟩ = some (.int .i64 (z i))) (hN : N ≤ 1000000000000) :
    Calls Try.prog 27 #[.slice sp N cap] w fun e w' => w = w' ∧ ((e = .returned (.bool true) ∧ ∀ i, i < N → goodN (z i)) ∨ (e = .returned (.bool false) ∧ ∃ i, i < N ∧ ¬ goodN (z i))) := by
  have HSP := Go.Lib.hid hsp; have HZ := Go.Lib.hid hz
  clear hsp hz
  go_enter Try.func27, Try.ntmps27
  go_wp2_with fail
  go_loop [3] (fun ix => ∃ i : Nat, i ≤ N ∧ ix = .int .i64 i ∧ ∀ j, j < i → goodN (z j)) (fun ix => N - (intOf ix).toNat)
  case atStart => exact ⟨0, by omega, rfl, fun j hj => by omega⟩
  case round =>
    obtain ⟨i, hi, rfl, hg⟩ := hrel
    have HG := Go.Lib.hid hg
    clear hg
    by_cases hlt : i < N
    · obtain rfl := HSP.out.resolve_right (by omega)
      have hcell := HZ.out i hlt
      have HGZ := Go.Lib.hid (show goodN (z i) → ∀ j, j < i + 1 → goodN (z j) from fun h j hj => by
        by_cases e : j = i
        · subst e; exact h
        · exact HG.out j (by omega))
      have HBZ := Go.Lib.hid (show ¬ goodN (z i) → ∃ i, i < N ∧ ¬ goodN (z i) from fun h => ⟨i, hlt, h⟩)
      by_cases h1 : z i < 0
      · have HX := Go.Lib.hid (HBZ.out (fun h => by have := h.1; omega))
        clear HGZ HBZ
        generalize z i = zi at *
        go_wp2_with fail
        go_ret
        exact ⟨rfl, .inr ⟨rfl, HX.out⟩⟩
      · by_cases h2 : 4611686018427387904 < z i
        · have HX := Go.Lib.hid (HBZ.out (fun h => by have := h.2; omega))
          clear HGZ HBZ
          generalize z i = zi at *
          go_wp2_with fail
          go_ret
          exact ⟨rfl, .inr ⟨rfl, HX.out⟩⟩
        · have HX := Go.Lib.hid (HGZ.out ⟨by omega, by omega⟩)
          clear HGZ HBZ
          generalize z i = zi at *
          go_wp2_with fail
          go_round
          case rel => exact ⟨i + 1, by omega, by go_num, HX.out⟩
          case measure => simp [intOf]; omega
    · obtain rfl : i = N := by omega
      go_wp2_with fail
      go_ret
      exact ⟨rfl, .inl ⟨rfl, HG.out⟩⟩
def hiB (n many j : Nat) : UInt8 := UInt8.ofNat (n / 2 ^ (8 * (many - 1 - j)))
set_option maxRecDepth 100000 in
set_option maxHeartbeats 1000000 in
theorem high_any (n many : Nat) (w : World) (hm : many ≤ 8) (hn : n ≤ 4611686018427387904) :
    Calls Try.prog 67 #[.int .i64 (n : Int), .int .i64 (many : Int)] w fun e w' => ∃ v', e = .returned v' ∧ w'.ownsRow w.heap.size 5 1 v' many (fL (hiB n many) many) ∧ Ch (fun _ => False) w w' := by
  have HFN := Go.Lib.hid (show ∀ i p, many = i + 1 + p → IntKind.u8.wrap (((n : Int) / 2 ^ (8 * p)).tmod 256) = ((hiB n many i).toNat : Int) from fun i p e => by
    rw [show (n : Int) / 2 ^ (8 * p) = ((n / 2 ^ (8 * p) : Nat) : Int) by push_cast; rfl, Int.tmod_eq_emod_of_nonneg (Int.natCast_nonneg _), show ((n / 2 ^ (8 * p) : Nat) : Int) % 256 = ((n / 2 ^ (8 * p) % 256 : Nat) : Int) by push_cast; rfl, u8_wrap]
    unfold hiB
    rw [show many - 1 - i = p by omega, UInt8.toNat_ofNat', UInt8.toNat_ofNat', Nat.mod_mod])
  go_enter Try.func67, Try.ntmps67
  go_wp2_with fail
  go_loopw [5, 6] (fun v' pl wr => ∃ i : Nat, i ≤ many ∧ pl = .int .i64 ((many : Int) - 1 - i) ∧ wr.ownsRow w.heap.size 5 1 v' i (fL (hiB n many) i) ∧ Ch (fun _ => False) w wr) (fun _ pl _ => (intOf pl + 1).toNat)
  case atStart => exact ⟨0, by omega, by go_num, ⟨rfl, .inl ⟨rfl, rfl⟩⟩, Ch.refl _ _⟩
  case round =>
    obtain ⟨i, hi, rfl, ho, hc⟩ := hrel
    have HOI := Go.Lib.hid ho; have HCI := Go.Lib.hid hc
    clear ho hc
    by_cases hlt : i < many
    · obtain ⟨p, hp⟩ : ∃ p, many = i + 1 + p := ⟨many - (i + 1), by omega⟩
      have HFP := Go.Lib.hid (HFN.out i p hp)
      have hpe : (many : Int) - 1 - i = (p : Int) := by omega
      have hp8 : p ≤ 7 := by omega
      rw [hpe]
      have HP := Go.Lib.hid hpe
      clear hpe hp
      have hsz := HCI.out.size
      go_wp2_with (at_builtin; refine wpList_append_byte rfl (.tmp 13) (.tmp 21) rfl w.heap.size _ i (hiB n many) rfl (HOI.out.alloc _) wr.heap.size _ rfl (cell_new wr _ 5) HFP.out (by omega) (by simp; omega) ?_; intro v2 w2 ho2 hg2; have HO2 := Go.Lib.hid ho2; have HC2 := Go.Lib.hid ((HCI.out.alloc _).then hg2.ch (fun j hj e => absurd (HOI.out.lt j e).1 (by omega))); clear ho2 hg2)
      go_roundw
      case rel => exact ⟨i + 1, by omega, by have := HP.out; go_num, HO2.out, HC2.out⟩
      case measure => simp [intOf]
    · obtain rfl : many = i := by omega
      have he : (many : Int) - 1 - many = -1 := by omega
      rw [he]
      go_wp2_with fail
      go_ret
      exact ⟨_, rfl, HOI.out, HCI.out⟩
theorem own_new (w : World) (c : UInt8) (F : Nat → UInt8) (h : F 0 = c) : (w.alloc (.cells #[.int .u8 (c.toNat : Int)] 5)).ownsRow w.heap.size 5 1 (.slice (some ⟨w.heap.size, 0, none⟩) 1 1) 1 (fL F 1) := by
  subst h
  exact ⟨rfl, .inr ⟨w.heap.size, 1, _, rfl, Nat.le_refl _, World.alloc_heap_new w _, by omega, by simp [maxLen], rfl, rfl⟩⟩
end Go.Proofs.Ytljllfdigfojdaa
