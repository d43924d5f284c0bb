/- What was laid as a number is read as it; sealed bytes are opened; a frame is split off. -/
import Derived.Test.YtljllfdigfojdaaU4
namespace Go.Proofs.Ytljllfdigfojdaa
open Go Go.RowKit

theorem beN_div (F : Nat → UInt8) (N W : Nat) (hN : N < 2 ^ (8 * W)) (h : ∀ j, j < W → F (1 + j) = UInt8.ofNat (N / 2 ^ (8 * (W - 1 - j)))) : ∀ k, k ≤ W → beN F 1 k = N / 2 ^ (8 * (W - k)) := by
  intro k
  induction k with
  | zero => intro _; rw [Nat.sub_zero, Nat.div_eq_of_lt hN]; rfl
  | succ k ih =>
    intro hk
    show 256 * beN F 1 k + (F (1 + k)).toNat = _
    rw [ih (by omega), h k (by omega), UInt8.toNat_ofNat', show W - 1 - k = W - (k + 1) by omega]
    have e : N / 2 ^ (8 * (W - k)) = N / 2 ^ (8 * (W - (k + 1))) / 256 := by
      rw [Nat.div_div_eq_div_mul, show (256 : Nat) = 2 ^ 8 from rfl, ← Nat.pow_add, show 8 * (W - (k + 1)) + 8 = 8 * (W - k) by omega]
    rw [e]
    have := Nat.div_add_mod (N / 2 ^ (8 * (W - (k + 1)))) 256
    omega
theorem rd_num {F : Nat → UInt8} {N L : Nat} (hN : N ≤ 4611686018427387904) (hL : numL N ≤ L) (hF : ∀ j, j < numL N → F j = numB N j) : rdN F L = .got N (numL N) := by
  have h0 : 0 < numL N := by unfold numL; split <;> omega
  have hF0 : (F 0).toNat = mkN N := by
    rw [hF 0 h0]
    show ((if 0 = 0 then UInt8.ofNat (mkN N) else _ : UInt8)).toNat = _
    rw [if_pos rfl, UInt8.toNat_ofNat', Nat.mod_eq_of_lt (mkN_lt N)]
  unfold rdN
  rw [if_neg (by omega), hF0]
  by_cases h1 : N < 253
  · have hm : mkN N = N := by unfold mkN; rw [if_pos h1]
    have hl : numL N = 1 := by unfold numL; rw [if_pos h1]
    rw [hm, if_pos h1, hl]
  · have hl : numL N = 1 + wdN (mkN N) := by unfold numL; rw [if_neg h1]
    have hm : mkN N = 253 ∧ N ≤ 65535 ∨ mkN N = 254 ∧ N ≤ 4294967295 ∨ mkN N = 255 := by
      unfold mkN; rw [if_neg h1]; split
      · exact .inl ⟨rfl, by omega⟩
      · split
        · exact .inr (.inl ⟨rfl, by omega⟩)
        · exact .inr (.inr rfl)
    have hlt : N < 2 ^ (8 * wdN (mkN N)) := by
      rcases hm with ⟨e, h⟩ | ⟨e, h⟩ | e <;> rw [e]
      · show N < 65536; omega
      · show N < 4294967296; omega
      · show N < 18446744073709551616; omega
    have hbe : beN F 1 (wdN (mkN N)) = N := by
      have := beN_div F N (wdN (mkN N)) hlt (fun j hj => by
        rw [hF (1 + j) (by omega)]
        unfold numB
        rw [if_neg (by omega), hl, show 1 + wdN (mkN N) - 1 - (1 + j) = wdN (mkN N) - 1 - j by omega]) (wdN (mkN N)) (Nat.le_refl _)
      rw [this, Nat.sub_self]; simp
    rw [if_neg (by omega), if_neg (by omega), hbe, if_neg (fun h => h.elim (by omega) (fun h => h rfl)), hl]
theorem cw_congr (x : BitVec 32) {f g : Nat → UInt8} (n : Nat) (h : ∀ j, j < n → f j = g j) : cw x f n = cw x g n := by
  induction n with
  | zero => rfl
  | succ n ih => show behind (cw x f n) (f n) = behind (cw x g n) (g n); rw [ih (fun j hj => h j (by omega)), h n (by omega)]
theorem seal_idem (f : Nat → UInt8) (n j : Nat) : sealF (sealF f n) n j = sealF f n j := by
  have hs : sumF (sealF f n) n = sumF f n := by
    unfold sumF
    rw [cw_congr _ n (fun j hj => show sealF f n j = f j from if_pos hj)]
  show (if j < n then sealF f n j else sumB (sumF (sealF f n) n) (j - n)) = sealF f n j
  rw [hs]
  by_cases h : j < n
  · rw [if_pos h]
  · rw [if_neg h]; show _ = (if j < n then f j else sumB (sumF f n) (j - n)); rw [if_neg h]
theorem fr_out (f : Nat → UInt8) (n : Nat) (hn : n ≤ 8192) : outS (frB f n) (frL n) = .got (n + 4) (numL (n + 4)) := by
  unfold outS
  rw [rd_num (by omega) (by unfold frL; omega) (fun j hj => frB_num f n j hj)]
  simp only
  rw [if_neg (by omega), if_neg (by unfold frL; omega)]
/-- A frame is split off as its bytes. -/
theorem split_frame (p : Option Addr) (n c x0 : Nat) (f : Nat → UInt8) (w : World) (hb : BytesAt w p (frL n) c (frB f n)) (hx0 : x0 < w.heap.size) (hblk : ∀ ad, p = some ad → ad.block = x0) (hn : n ≤ 8192) :
    Calls Try.prog 30 #[.slice p (frL n) c] w fun e w' => Ch (fun _ => False) w w' ∧ ∃ h cur, e = .returned (.tuple #[.slice (some ⟨h, 0, none⟩) n n, .int .i64 ((frL n : Nat) : Int), .int .i64 0]) ∧ w.heap.size ≤ h ∧ w'.heap[h]? = some (.cells cur 5) ∧ ∀ j, j < n → cur[j]? = some (.int .u8 ((f j).toNat : Int)) := by
  have hnl := numL_le (n + 4)
  refine (split_got p (frL n) c x0 (frB f n) w hb hx0 hblk n (numL (n + 4)) (fr_out f n hn) (by unfold frL; omega)).mono ?_
  rintro e w' ⟨hc, _, ⟨hf, _⟩ | ⟨_, h, cur, rfl, hh, hrow, hcur⟩⟩
  · exfalso
    rw [show (fun j => frB f n (numL (n + 4) + j)) = sealF f n from funext (frB_seal f n)] at hf
    have he : bL (sealF (sealF f n) n) (n + 4) = bL (sealF f n) (n + 4) := by unfold bL; exact List.map_congr_left (fun j _ => seal_idem f n j)
    rw [he] at hf
    simp at hf
  · exact ⟨hc, h, cur, rfl, hh, hrow, fun j hj => by
      rw [hcur j hj, frB_seal]
      show some (Value.int .u8 (((if j < n then f j else _ : UInt8)).toNat : Int)) = _
      rw [if_pos hj]⟩
end Go.Proofs.Ytljllfdigfojdaa
