/- Plain: what turned bits make of a sum. -/
import Derived.Test.YthbpfgcgfhlmnaaT20
namespace Go.Proofs.Ythbpfgcgfhlmnaa
open Go

theorem stp_inj0 (x : BitVec 32) (h : stp x = 0#32) : x = 0#32 := by
  rw [stp_if] at h
  have hl := x.isLt
  rcases one_cases x with h1 | h1
  · rw [h1, if_neg (by decide)] at h
    have e1 := and1_nat x
    rw [h1] at e1
    have e2 := congrArg BitVec.toNat h
    rw [BitVec.toNat_ushiftRight, Nat.shiftRight_eq_div_pow] at e2
    apply BitVec.eq_of_toNat_eq
    simp at e1 e2 ⊢
    omega
  · exfalso
    rw [h1, if_pos rfl] at h
    have e : (x >>> 1 ^^^ CC).getLsbD 31 = (0#32).getLsbD 31 := by rw [h]
    rw [BitVec.getLsbD_xor, BitVec.getLsbD_ushiftRight] at e
    rw [show CC.getLsbD 31 = true by decide, show x.getLsbD (1 + 31) = false from BitVec.getLsbD_of_ge _ _ (by omega)] at e
    simp at e
theorem sN_inj0 (n : Nat) (x : BitVec 32) (h : sN n x = 0#32) : x = 0#32 := by
  induction n with
  | zero => exact h
  | succ n ih => exact ih (stp_inj0 _ h)
theorem sN_e (t : Nat) (ht : t < 32) : sN t (e t) = e 0 := by
  induction t with
  | zero => rfl
  | succ t ih =>
    rw [show sN (t + 1) (e (t + 1)) = sN t (stp (e (t + 1))) from sN_add t 1 _, show stp (e (t + 1)) = e t from stp_e ⟨t, by omega⟩]
    exact ih (by omega)
/-- A bit of a byte. -/
def bitB (t : Nat) : UInt8 := UInt8.ofNat (2 ^ t)
theorem bitB_e : ∀ t : Fin 8, BitVec.ofNat 32 (bitB t.val).toNat = e t.val := by decide +kernel
def flip (f : Nat → UInt8) (b t : Nat) : Nat → UInt8 := fun j => if j = b then f b ^^^ bitB t else f j
theorem behind_bit (x : BitVec 32) (c : UInt8) (t : Nat) (ht : t < 8) : behind x (c ^^^ bitB t) = behind x c ^^^ sN 8 (e t) := by
  unfold behind
  rw [← sN_xor]
  congr 1
  rw [← bitB_e ⟨t, ht⟩, UInt8.toNat_xor]
  have e1 : BitVec.ofNat 32 (c.toNat ^^^ (bitB t).toNat) = BitVec.ofNat 32 c.toNat ^^^ BitVec.ofNat 32 (bitB t).toNat := by
    apply BitVec.eq_of_toNat_eq; simp
  rw [e1, BitVec.xor_assoc]
theorem cw_flip (x : BitVec 32) (f : Nat → UInt8) (b t N : Nat) (hb : b < N) (ht : t < 8) : cw x (flip f b t) N = cw x f N ^^^ sN (8 * (N - b)) (e t) := by
  obtain ⟨r, rfl⟩ : ∃ r, N = b + 1 + r := ⟨N - b - 1, by omega⟩
  rw [cw_app, cw_app x f (b + 1) r]
  have h1 : cw x (flip f b t) (b + 1) = cw x f (b + 1) ^^^ sN 8 (e t) := by
    show behind (cw x (flip f b t) b) (flip f b t b) = behind (cw x f b) (f b) ^^^ _
    rw [cw_congr (g := f) x b (fun j hj => by unfold flip; rw [if_neg (by omega)])]
    rw [show flip f b t b = f b ^^^ bitB t by unfold flip; rw [if_pos rfl]]
    exact behind_bit _ _ _ ht
  rw [h1, cw_congr (g := fun j => f (b + 1 + j)) _ r (fun j hj => by unfold flip; rw [if_neg (by omega)])]
  rw [cw_xor, show 8 * (b + 1 + r - b) = 8 * r + 8 by omega, sN_add]
theorem flip_word (N p k first : Nat) (hp : p = first + k) (hk : k < 32) (h : p < 8 * N) : sN (8 * (N - p / 8)) (e (p % 8)) = sN (8 * N - first) (e k) := by
  have e1 : 8 * (N - p / 8) = (8 * N - p) + p % 8 := by omega
  have e2 : 8 * N - first = (8 * N - p) + k := by omega
  rw [e1, e2, sN_add, sN_add, sN_e _ (by omega), sN_e _ hk]
/-- Which bits are turned. -/
def cnd (bits : BitVec 32) (first N k : Nat) : Bool := bits.getLsbD k && decide (first + k < 8 * N)
/-- The bytes when k places have been gone over. -/
def mF (s : Nat → UInt8) (bits : BitVec 32) (first N : Nat) : Nat → Nat → UInt8
  | 0 => s
  | k + 1 => if cnd bits first N k then flip (mF s bits first N k) ((first + k) / 8) ((first + k) % 8) else mF s bits first N k
def trn (bits : BitVec 32) (first N : Nat) : Nat → Bool
  | 0 => false
  | k + 1 => trn bits first N k || cnd bits first N k
/-- The turned bits that lie ahead of place 8 M, as a word. -/
def dW (bits : BitVec 32) (first N M : Nat) : Nat → BitVec 32
  | 0 => 0#32
  | k + 1 => dW bits first N M k ^^^ (if cnd bits first N k && decide (first + k < 8 * M) then e k else 0#32)
theorem cw_mF (x : BitVec 32) (s : Nat → UInt8) (bits : BitVec 32) (first N M : Nat) (k : Nat) (hk : k ≤ 32) : cw x (mF s bits first N k) M = cw x s M ^^^ sN (8 * M - first) (dW bits first N M k) := by
  induction k with
  | zero => show _ = cw x s M ^^^ sN _ 0#32; rw [sN_zero, BitVec.xor_zero]; rfl
  | succ k ih =>
    have ih := ih (by omega)
    show cw x (if cnd bits first N k then _ else _) M = _ ^^^ sN _ (dW bits first N M k ^^^ _)
    rw [sN_xor, ← BitVec.xor_assoc, ← ih]
    cases hc : cnd bits first N k with
    | false => simp [sN_zero]
    | true =>
      rw [if_pos rfl]
      by_cases hp : first + k < 8 * M
      · rw [if_pos (by simp [hp]), cw_flip _ _ _ _ _ (by omega) (by omega), flip_word M (first + k) k first rfl (by omega) hp]
      · rw [if_neg (by simp [hp]), sN_zero, BitVec.xor_zero]
        exact cw_congr _ _ (fun j hj => by unfold flip; rw [if_neg (by omega)])
theorem dW_bit (bits : BitVec 32) (first N M k j : Nat) (hk : k ≤ 32) (hj : j < 32) : (dW bits first N M k).getLsbD j = (decide (j < k) && (cnd bits first N j && decide (first + j < 8 * M))) := by
  induction k with
  | zero => simp [dW]
  | succ k ih =>
    simp only [dW, BitVec.getLsbD_xor, ih (by omega)]
    by_cases e1 : k = j
    · subst e1
      cases hc : (cnd bits first N k && decide (first + k < 8 * M)) with
      | false => simp
      | true => rw [if_pos rfl, e_bit _ _ hj]; simp
    · have hb : (if (cnd bits first N k && decide (first + k < 8 * M)) = true then e k else 0#32).getLsbD j = false := by
        split
        · rw [e_bit _ _ hj]; simpa using e1
        · simp
      rw [hb, Bool.xor_false]
      by_cases h3 : j < k
      · simp [h3, show j < k + 1 by omega]
      · simp [h3, show ¬ j < k + 1 by omega]
theorem dW_zero (bits : BitVec 32) (first N M : Nat) (h : dW bits first N M 32 = 0#32) (j : Nat) (hj : j < 32) : (cnd bits first N j && decide (first + j < 8 * M)) = false := by
  have := dW_bit bits first N M 32 j (Nat.le_refl _) hj
  rw [h] at this
  simpa [hj] using this.symm
theorem trn_false (bits : BitVec 32) (first N k : Nat) (h : ∀ j, j < k → cnd bits first N j = false) : trn bits first N k = false := by
  induction k with
  | zero => rfl
  | succ k ih => show (trn _ _ _ k || _) = false; rw [ih (fun j hj => h j (by omega)), h k (by omega)]; rfl
theorem trn_dW (bits : BitVec 32) (first N : Nat) : trn bits first N 32 = !(dW bits first N N 32 == 0#32) := by
  cases hd : (dW bits first N N 32 == 0#32) with
  | true =>
    have h0 := eq_of_beq hd
    rw [trn_false _ _ _ _ (fun j hj => by
      have := dW_zero bits first N N h0 j hj
      cases hc : cnd bits first N j with
      | false => rfl
      | true =>
        rw [hc] at this
        unfold cnd at hc
        simp at this hc
        omega)]
    rfl
  | false =>
    cases ht : trn bits first N 32 with
    | true => rfl
    | false =>
      exfalso
      have hall : ∀ k, k ≤ 32 → trn bits first N k = false → dW bits first N N k = 0#32 := fun k => by
        induction k with
        | zero => intro _ _; rfl
        | succ k ih =>
          intro hk h
          have h' : (trn bits first N k || cnd bits first N k) = false := h
          rw [Bool.or_eq_false_iff] at h'
          show dW bits first N N k ^^^ _ = _
          rw [ih (by omega) h'.1, h'.2]; simp
      rw [hall 32 (Nat.le_refl _) ht] at hd
      simp at hd
theorem mF_same (s : Nat → UInt8) (bits : BitVec 32) (first N M k : Nat) (hk : k ≤ 32) (h : dW bits first N M 32 = 0#32) (j : Nat) (hj : j < M) : mF s bits first N k j = s j := by
  induction k with
  | zero => rfl
  | succ k ih =>
    have h0 := dW_zero bits first N M h k (by omega)
    show (if cnd bits first N k then _ else _ : Nat → UInt8) j = _
    cases hc : cnd bits first N k with
    | false => exact ih (by omega)
    | true =>
      rw [if_pos rfl]
      rw [hc] at h0
      simp at h0
      unfold flip
      rw [if_neg (by omega)]
      exact ih (by omega)
/-- What sealed bytes leave. -/
def resid : BitVec 32 := sN 32 (~~~0#32)
theorem behind_low (v y : BitVec 32) : behind (v ^^^ y) (lowB y) = sN 8 v ^^^ y >>> 8 := by
  unfold behind
  rw [BitVec.xor_assoc, split8 y (lowB y), sN_xor]
  congr 1
  rw [UInt8.xor_self, show BitVec.ofNat 32 (0 : UInt8).toNat = 0#32 by decide, BitVec.xor_zero]
  refine sN_shl _ _ ?_
  have := y.isLt
  rw [BitVec.toNat_ushiftRight, Nat.shiftRight_eq_div_pow]
  omega
theorem cw_word (w z : BitVec 32) : cw w (sumB z) 4 = sN 32 (w ^^^ z) := by
  have key : ∀ j, cw w (sumB z) j = sN (8 * j) (w ^^^ z) ^^^ z >>> (8 * j) := fun j => by
    induction j with
    | zero => show w = (w ^^^ z) ^^^ z >>> 0; rw [BitVec.ushiftRight_zero, BitVec.xor_assoc, BitVec.xor_self, BitVec.xor_zero]
    | succ j ih =>
      show behind (cw w (sumB z) j) (lowB (z >>> (8 * j))) = _
      rw [ih, behind_low, show z >>> (8 * (j + 1)) = (z >>> (8 * j)) >>> 8 by rw [← BitVec.shiftRight_add]; rfl, show 8 * (j + 1) = 8 + 8 * j by omega, sN_add]
  rw [key 4]
  have : z >>> (8 * 4) = 0#32 := by
    have := z.isLt
    apply BitVec.eq_of_toNat_eq
    rw [BitVec.toNat_ushiftRight, Nat.shiftRight_eq_div_pow]
    simp; omega
  rw [this, BitVec.xor_zero]
theorem sumB_nat (z : BitVec 32) (j : Nat) : (sumB z j).toNat = z.toNat / 2 ^ (8 * j) % 256 := by
  unfold sumB lowB
  rw [UInt8.toNat_ofNat', BitVec.toNat_ushiftRight, Nat.shiftRight_eq_div_pow]
theorem sumB_inj (a b : BitVec 32) (h : ∀ j, j < 4 → sumB a j = sumB b j) : a = b := by
  have h' : ∀ j, j < 4 → a.toNat / 2 ^ (8 * j) % 256 = b.toNat / 2 ^ (8 * j) % 256 := fun j hj => by rw [← sumB_nat, ← sumB_nat, h j hj]
  have ha := a.isLt; have hb := b.isLt
  have h0 := h' 0 (by omega); have h1 := h' 1 (by omega); have h2 := h' 2 (by omega); have h3 := h' 3 (by omega)
  apply BitVec.eq_of_toNat_eq
  simp at h0 h1 h2 h3
  omega
theorem word_of (g : Nat → UInt8) : ∃ z : BitVec 32, ∀ j, j < 4 → sumB z j = g j := by
  have a0 := (g 0).toNat_lt; have a1 := (g 1).toNat_lt; have a2 := (g 2).toNat_lt; have a3 := (g 3).toNat_lt
  obtain ⟨X, hX⟩ : ∃ X, X = (g 0).toNat + 256 * (g 1).toNat + 65536 * (g 2).toNat + 16777216 * (g 3).toNat := ⟨_, rfl⟩
  have hz : (BitVec.ofNat 32 X).toNat = X := by rw [BitVec.toNat_ofNat]; exact Nat.mod_eq_of_lt (by omega)
  refine ⟨BitVec.ofNat 32 X, fun j hj => ?_⟩
  apply UInt8.toNat_inj.1
  rw [sumB_nat, hz]
  match j, hj with
  | 0, _ => simp; omega
  | 1, _ => simp; omega
  | 2, _ => simp; omega
  | 3, _ => simp; omega
theorem sN_inj (n : Nat) (a b : BitVec 32) (h : sN n a = sN n b) : a = b := by
  have h0 : sN n (a ^^^ b) = 0#32 := by rw [sN_xor, h, BitVec.xor_self]
  have h1 := sN_inj0 n _ h0
  have h2 : a = (a ^^^ b) ^^^ b := by rw [BitVec.xor_assoc, BitVec.xor_self, BitVec.xor_zero]
  rw [h1, BitVec.zero_xor] at h2
  exact h2
theorem sealed_iff (g : Nat → UInt8) (n : Nat) : (bL (sealF g n) (n + 4) == bL g (n + 4)) = (cw (~~~0#32) g (n + 4) == resid) := by
  obtain ⟨z, hz⟩ := word_of (fun j => g (n + j))
  have h1 : cw (~~~0#32) g (n + 4) = sN 32 (cw (~~~0#32) g n ^^^ z) := by
    rw [cw_app, cw_congr (g := sumB z) _ 4 (fun j hj => (hz j hj).symm), cw_word]
  have h2 : (bL (sealF g n) (n + 4) == bL g (n + 4)) = true ↔ sumF g n = z := by
    constructor
    · intro h
      have hl : bL (sealF g n) (n + 4) = bL g (n + 4) := by simpa using h
      refine sumB_inj _ _ (fun j hj => ?_)
      have := congrArg (fun l => l[n + j]?) hl
      simp [bL, hj] at this
      unfold sealF at this
      rw [if_neg (by omega), show n + j - n = j by omega] at this
      rw [this, hz j hj]
    · intro h
      refine beq_iff_eq.2 (List.map_congr_left (fun j hj => ?_))
      have hj' := List.mem_range.1 hj
      unfold sealF
      by_cases e1 : j < n
      · rw [if_pos e1]
      · rw [if_neg e1, h, hz (j - n) (by omega), show n + (j - n) = j by omega]
  have h3 : (cw (~~~0#32) g (n + 4) == resid) = true ↔ sumF g n = z := by
    rw [beq_iff_eq, h1]
    unfold resid sumF
    generalize cw (~~~0#32) g n = w
    constructor
    · intro h
      have h4 := sN_inj _ _ _ h
      have h5 : z = w ^^^ (w ^^^ z) := by rw [← BitVec.xor_assoc, BitVec.xor_self, BitVec.zero_xor]
      rw [h5, h4, show ~~~0#32 = BitVec.allOnes 32 by decide, BitVec.xor_allOnes]
    · rintro rfl
      rw [show ~~~w = w ^^^ BitVec.allOnes 32 from BitVec.xor_allOnes.symm, ← BitVec.xor_assoc, BitVec.xor_self, BitVec.zero_xor]; rfl
  rw [Bool.eq_iff_iff, h2, h3]
theorem seal_resid (f : Nat → UInt8) (n : Nat) : cw (~~~0#32) (sealF f n) (n + 4) = resid := by
  have h := sealed_iff (sealF f n) n
  have h2 : (bL (sealF (sealF f n) n) (n + 4) == bL (sealF f n) (n + 4)) = true := by
    refine beq_iff_eq.2 (List.map_congr_left (fun j hj => ?_))
    have e0 : cw (~~~0#32) (sealF f n) n = cw (~~~0#32) f n := cw_congr _ _ (fun j hj => by unfold sealF; rw [if_pos hj])
    have e1 : sumF (sealF f n) n = sumF f n := by unfold sumF; rw [e0]
    show (if j < n then sealF f n j else sumB (sumF (sealF f n) n) (j - n)) = sealF f n j
    rw [e1]
    by_cases e2 : j < n
    · rw [if_pos e2]
    · rw [if_neg e2]; unfold sealF; rw [if_neg e2]
  rw [h2] at h
  exact eq_of_beq h.symm
/-- What is sealed, and turned, is not opened; what is not turned is. -/
theorem burst_open (f : Nat → UInt8) (n first : Nat) (bits : BitVec 32) : (bL (sealF (mF (sealF f n) bits first (n + 4) 32) n) (n + 4) == bL (mF (sealF f n) bits first (n + 4) 32) (n + 4)) = !trn bits first (n + 4) 32 := by
  rw [sealed_iff, cw_mF _ _ _ _ _ _ _ (Nat.le_refl _), seal_resid, trn_dW, Bool.not_not, Bool.eq_iff_iff, beq_iff_eq, beq_iff_eq]
  constructor
  · intro h
    have h1 : sN (8 * (n + 4) - first) (dW bits first (n + 4) (n + 4) 32) = 0#32 := by
      have h2 : sN (8 * (n + 4) - first) (dW bits first (n + 4) (n + 4) 32) = resid ^^^ (resid ^^^ sN (8 * (n + 4) - first) (dW bits first (n + 4) (n + 4) 32)) := by rw [← BitVec.xor_assoc, BitVec.xor_self, BitVec.zero_xor]
      rw [h2, h, BitVec.xor_self]
    exact sN_inj0 _ _ h1
  · intro h
    rw [h, sN_zero, BitVec.xor_zero]
theorem burst_same (f : Nat → UInt8) (n first : Nat) (bits : BitVec 32) (h : trn bits first (n + 4) 32 = false) (l : Nat) (hl : l < n) : mF (sealF f n) bits first (n + 4) 32 l = f l := by
  rw [trn_dW] at h
  have h0 : dW bits first (n + 4) (n + 4) 32 = 0#32 := eq_of_beq (by simpa using h)
  rw [mF_same _ _ _ _ _ _ (Nat.le_refl _) h0 l (by omega)]
  unfold sealF; rw [if_pos hl]
/-- Bytes that are unlike ahead have unlike sums. -/
theorem burst_sum (f : Nat → UInt8) (n first : Nat) (bits : BitVec 32) (h : (bL (mF (sealF f n) bits first (n + 4) 32) n == bL f n) = false) : (un (~~~(cw1 (mF (sealF f n) bits first (n + 4) 32) n)) == un (~~~(cw1 f n))) = false := by
  rw [beq32, beq_eq_false_iff_ne]
  intro h1
  have hn : ∀ x y : BitVec 32, ~~~x = ~~~y → x = y := fun x y h => by
    have := congrArg (~~~ ·) h; simpa using this
  have h2 := hn _ _ h1
  unfold cw1 at h2
  rw [cw_mF _ _ _ _ _ _ _ (Nat.le_refl _), cw_congr (f := sealF f n) (g := f) _ n (fun j hj => by unfold sealF; rw [if_pos hj])] at h2
  have h3 : sN (8 * n - first) (dW bits first (n + 4) n 32) = 0#32 := by
    have e : sN (8 * n - first) (dW bits first (n + 4) n 32) = cw (~~~0#32) f n ^^^ (cw (~~~0#32) f n ^^^ sN (8 * n - first) (dW bits first (n + 4) n 32)) := by rw [← BitVec.xor_assoc, BitVec.xor_self, BitVec.zero_xor]
    rw [e, h2, BitVec.xor_self]
  have h4 := sN_inj0 _ _ h3
  rw [beq_eq_false_iff_ne] at h
  refine h (List.map_congr_left (fun j hj => ?_))
  have hj' := List.mem_range.1 hj
  rw [mF_same _ _ _ _ _ _ (Nat.le_refl _) h4 j hj']
  unfold sealF; rw [if_pos hj']
end Go.Proofs.Ythbpfgcgfhlmnaa
