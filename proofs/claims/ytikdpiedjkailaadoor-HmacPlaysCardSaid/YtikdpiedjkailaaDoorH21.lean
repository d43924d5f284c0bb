/- few. -/
import Derived.Test.YtikdpiedjkailaaDoorH19
namespace Go.Proofs.YtikdpiedjkailaaDoor
open Go Go.RowKit

/-- Parts as they are read off an argument. -/
structure PartsV (w : World) (a off N : Nat) (P : Nat → Option Addr) (L C : Nat → Nat) (f : Nat → UInt8) : Prop where
  row : ∀ i, i < N → w.cell? ⟨a, off + i, none⟩ = some (.slice (P i) (L i) (C i))
  bytes : ∀ i, i < N → (∃ x y, P i = some ⟨x, y, none⟩ ∧ ∀ j, j < L i → w.cell? ⟨x, y + j, none⟩ = some (.int .u8 ((f (upto L i + j)).toNat : Int))) ∨ (L i = 0 ∧ (P i = none → C i = 0))
theorem PartsV.ch {w w' : World} {a off N : Nat} {P : Nat → Option Addr} {L C : Nat → Nat} {f : Nat → UInt8} (h : PartsV w a off N P L C f) (hc : Ch (fun _ => False) w w') : PartsV w' a off N P L C f :=
  ⟨fun i hi => hc.get (h.row i hi) id, fun i hi => by
    rcases h.bytes i hi with ⟨x, y, h1, h2⟩ | h
    · exact .inl ⟨x, y, h1, fun j hj => hc.get (h2 j hj) id⟩
    · exact .inr h⟩
theorem PartsV.parts {w : World} {a off N : Nat} {P : Nat → Option Addr} {L C : Nat → Nat} {f : Nat → UInt8} (h : PartsV w a off N P L C f) : PartsAt w a off N P L C f := by
  refine ⟨h.row, fun i hi => ?_⟩
  have ha := cell_lt (h.row i hi)
  by_cases h0 : L i = 0
  · exact ⟨a, 0, .inr h0, ha, fun j hj => by omega⟩
  · rcases h.bytes i hi with ⟨x, y, h1, h2⟩ | h3
    · exact ⟨x, y, .inl h1, cell_lt (h2 0 (by omega)), h2⟩
    · exact absurd h3.1 h0
def FewPost (most N : Nat) (L : Nat → Nat) (f : Nat → UInt8) (w : World) (e : Ending) (w' : World) : Prop :=
  Ch (fun _ => False) w w' ∧ ((e = .returned (.tuple #[.slice none 0 0, .bool false]) ∧ (most < N ∨ ∃ i, i < N ∧ 200 < L i)) ∨
    (∃ v, e = .returned (.tuple #[v, .bool true]) ∧ N ≤ most ∧ (∀ i, i < N → L i ≤ 200) ∧ w'.ownsRow w.heap.size 5 1 v (upto L N) (fL f (upto L N))))
theorem fL_part (f : Nat → UInt8) (u l : Nat) : fL f u ++ fL (fun j => f (u + j)) l = fL f (u + l) := fL_append f f _ u l (fun _ _ => rfl) (fun _ _ => rfl)

set_option maxRecDepth 100000 in
set_option maxHeartbeats 2000000 in
theorem few_any (a off N cap most : Nat) (sp : Option Addr) (P : Nat → Option Addr) (L C : Nat → Nat) (f : Nat → UInt8) (w : World) (hmost : most ≤ 1000) (hsp : sp = some ⟨a, off, none⟩ ∨ N = 0) (hP : PartsV w a off N P L C f) :
    Calls Tryd.prog 9 #[.slice sp N cap, .int .i64 (most : Int)] w (FewPost most N L f w) := by
  obtain ⟨i0, hi, hz0, hz1, hz2⟩ := info_parts info5
  have HP := Go.Lib.hid hP; have HSP := Go.Lib.hid hsp
  clear hP hsp
  by_cases hNm : most < N
  · have h1 : (most : Int) < (N : Int) := by omega
    go_enter Tryd.func9, Tryd.ntmps9
    go_wp2
    go_ret2
    exact ⟨Ch.refl _ _, .inl ⟨rfl, .inl hNm⟩⟩
  · have h1 : ¬ (most : Int) < (N : Int) := by omega
    go_enter Tryd.func9, Tryd.ntmps9
    go_wp2_with fail
    go_loopw [6, 7] (fun v0 ix wr => ∃ (k : Nat) (v : Value), k ≤ N ∧ ix = .int .i64 k ∧ v = v0 ∧ wr.ownsRow w.heap.size 5 1 v (upto L k) (fL f (upto L k)) ∧ Ch (fun _ => False) w wr ∧ (∀ i, i < k → L i ≤ 200) ∧ upto L k ≤ 200 * k) (fun _ ix _ => N - (intOf ix).toNat)
    case atStart => exact ⟨0, _, by omega, rfl, rfl, World.ownsRow_nil _ _ _ _, Ch.refl _ _, fun i hi => by omega, by simp [upto]⟩
    case round =>
      obtain ⟨k, v, hk, rfl, rfl, hown, hC, hall, hup⟩ := hrel
      have HO := Go.Lib.hid hown; have HC := Go.Lib.hid hC; have HALL := Go.Lib.hid hall
      clear hown hC hall
      by_cases hkN : k < N
      · obtain rfl : sp = some ⟨a, off, none⟩ := HSP.out.resolve_right (by omega)
        have hcell : wr.cell? ⟨a, off + k, none⟩ = some (.slice (P k) (L k) (C k)) := HC.out.get (HP.out.row k hkN) id
        have HBY := Go.Lib.hid ((HP.out.ch HC.out).bytes k hkN)
        have HU := Go.Lib.hid (show upto L (k + 1) = upto L k + L k from rfl)
        have HFP := Go.Lib.hid (fL_part f (upto L k) (L k))
        have HLL := Go.Lib.hid (fun (h : L k ≤ 200) i (hi : i < k + 1) => (show L i ≤ 200 by
          by_cases e : i = k
          · subst e; exact h
          · exact HALL.out i (by omega)))
        have HBAD := Go.Lib.hid (fun (h : 200 < L k) => (show ∃ i, i < N ∧ 200 < L i from ⟨k, hkN, h⟩))
        generalize hu1 : upto L (k + 1) = u1 at *
        have HU1 := Go.Lib.hid hu1
        clear hu1
        generalize upto L k = u at *
        generalize L k = l at *
        generalize P k = pk at *
        generalize C k = ck at *
        by_cases hl : l ≤ 200
        · have hl' : ¬ (200 : Int) < (l : Int) := by omega
          have hsw := HC.out.size
          cases pk with
          | some ad =>
            have HNEW := Go.Lib.hid (show ∀ j u', (fL (fun j => f (u + j)) l)[j]? = some u' → wr.cell? (ad.add j) = some u' from fun j u' h => by
              obtain ⟨h1, rfl⟩ := fL_get _ _ j u' h
              rcases HBY.out with ⟨x, y, hx, h2⟩ | ⟨h0, _⟩
              · cases hx
                rw [show (⟨x, y, none⟩ : Addr).add j = ⟨x, y + j, none⟩ by simp [Addr.add]]
                exact h2 j h1
              · omega)
            go_wp2_with (at_builtin; (refine wpList_append_own _ rfl (.tmp 24) (.tmp 28) 22 rfl w.heap.size 5 i0 (.int .u8 0) 1 1 Tryd.underlying22 hi hz0 hz1 hz2 rfl (by decide) _ _ _ rfl HO.out ad l ck (fL (fun j => f (u + j)) l) rfl (by rw [fL_len]; omega) HNEW.out (fL_one _ _) (by simp [maxLen]; omega) (by omega) hsw ?_
                                      intro v1 w1 hown1 hgrow1 _
                                      rw [HFP.out, ← HU.out] at hown1
                                      have hc1 : Ch (fun _ => False) w w1 := Ch.grown HC.out hgrow1 (fun q hq hlt => by have := (World.ownsRow.lt HO.out) q hq; omega)
                                      have HO1 := Go.Lib.hid hown1; have HC1 := Go.Lib.hid hc1; clear hown1 hgrow1 hc1))
            go_roundw
            case rel => exact ⟨k + 1, v1, by omega, by go_num, rfl, by rw [HU1.out]; exact HO1.out, HC1.out, HLL.out hl, by have := HU.out; have := HU1.out; omega⟩
            case measure => simp [intOf]; omega
          | none =>
            obtain ⟨h0, hcc⟩ := HBY.out.resolve_left (by rintro ⟨x, y, h, _⟩; cases h)
            have hc0 := hcc rfl
            subst h0 hc0
            clear hcc
            go_wp2_with (at_builtin; refine wpList_append_own_none rfl (.tmp 24) (.tmp 28) 22 rfl w.heap.size 5 i0 1 Tryd.underlying22 hi _ _ _ rfl HO.out rfl ?_)
            go_roundw
            case rel => exact ⟨k + 1, v, by omega, by go_num, rfl, by rw [HU1.out, HU.out]; exact HO.out, HC.out, HLL.out hl, by have := HU.out; have := HU1.out; omega⟩
            case measure => simp [intOf]; omega
        · have hl' : (200 : Int) < (l : Int) := by omega
          have HB := Go.Lib.hid (HBAD.out (by omega))
          go_wp2_with fail
          go_ret2
          exact ⟨HC.out, .inl ⟨rfl, .inr HB.out⟩⟩
      · obtain rfl : k = N := by omega
        go_wp2_with fail
        go_ret2
        exact ⟨HC.out, .inr ⟨_, rfl, by omega, HALL.out, HO.out⟩⟩
end Go.Proofs.YtikdpiedjkailaaDoor
