/-
  Plain: bytes in words; the states that blocks of bytes make.
-/
import Derived.Test.YtikdpiedjkailaaDoorSpec
namespace Go.Proofs.YtikdpiedjkailaaDoor

def kts : List Nat := [1116352408, 1899447441, 3049323471, 3921009573, 961987163, 1508970993, 2453635748, 2870763221, 3624381080, 310598401, 607225278, 1426881987, 1925078388, 2162078206, 2614888103, 3248222580, 3835390401, 4022224774, 264347078, 604807628, 770255983, 1249150122, 1555081692, 1996064986, 2554220882, 2821834349, 2952996808, 3210313671, 3336571891, 3584528711, 113926993, 338241895, 666307205, 773529912, 1294757372, 1396182291, 1695183700, 1986661051, 2177026350, 2456956037, 2730485921, 2820302411, 3259730800, 3345764771, 3516065817, 3600352804, 4094571909, 275423344, 430227734, 506948616, 659060556, 883997877, 958139571, 1322822218, 1537002063, 1747873779, 1955562222, 2024104815, 2227730452, 2361852424, 2428436474, 2756734187, 3204031479, 3329325298]
def kt (t : Nat) : BitVec 32 := BitVec.ofNat 32 (kts.getD t 0)

/-- The number of p bytes, the highest first. -/
def beval (g : Nat → UInt8) : Nat → Nat
  | 0 => 0
  | p + 1 => beval g p * 256 + (g p).toNat
theorem beval_lt (g : Nat → UInt8) (p : Nat) : beval g p < 256 ^ p := by
  induction p with
  | zero => simp [beval]
  | succ p ih =>
    have h := (g p).toNat_lt
    simp only [beval, Nat.pow_succ]
    omega
def wordOf (f : Nat → UInt8) (base k : Nat) : BitVec 32 := BitVec.ofNat 32 (beval (fun i => f (base + 4 * k + i)) 4)
/-- Of a block that begins at base, r bytes have been laid into the ring m. -/
def Part (f : Nat → UInt8) (base r : Nat) (m : Nat → BitVec 32) : Prop :=
  ∀ k, k < 16 → (m k).toNat % 256 ^ (min 4 (r - 4 * k)) = beval (fun i => f (base + 4 * k + i)) (min 4 (r - 4 * k))
theorem Part.zero (f : Nat → UInt8) (base : Nat) (m : Nat → BitVec 32) : Part f base 0 m := fun k _ => by
  have : min 4 (0 - 4 * k) = 0 := by omega
  rw [this]; simp [beval, Nat.mod_one]

theorem shl_or (x : BitVec 32) (c : UInt8) (p : Nat) (hp : p ≤ 3) : (x <<< 8 ||| BitVec.ofNat 32 c.toNat).toNat % 256 ^ (p + 1) = (x.toNat % 256 ^ p) * 256 + c.toNat := by
  have hc := c.toNat_lt
  have h1 : (x <<< 8 ||| BitVec.ofNat 32 c.toNat).toNat = (x.toNat * 256 + c.toNat) % 4294967296 := by
    rw [BitVec.toNat_or, BitVec.toNat_shiftLeft, BitVec.toNat_ofNat, Nat.shiftLeft_eq]
    have e : x.toNat * 2 ^ 8 % 2 ^ 32 = (x.toNat % 16777216) * 256 := by omega
    rw [e, Nat.mod_eq_of_lt (by omega : c.toNat < 2 ^ 32)]
    rw [show x.toNat % 16777216 * 256 = 2 ^ 8 * (x.toNat % 16777216) by omega]
    rw [← Nat.two_pow_add_eq_or_of_lt (by omega : c.toNat < 2 ^ 8)]
    omega
  rw [h1]
  match p, hp with
  | 0, _ => simp; omega
  | 1, _ => simp; omega
  | 2, _ => simp; omega
  | 3, _ => simp; omega

def laid (m : Nat → BitVec 32) (i : Nat) (c : UInt8) : Nat → BitVec 32 := fun j => if j = i / 4 % 16 then m j <<< 8 ||| BitVec.ofNat 32 c.toNat else m j

theorem Part.step {f : Nat → UInt8} {base r : Nat} {m : Nat → BitVec 32} (h : Part f base r m) (hr : r < 64) : Part f base (r + 1) (laid m r (f (base + r))) := by
  intro k hk
  have h0 := h k hk
  unfold laid
  by_cases e : k = r / 4 % 16
  · rw [if_pos e]
    have hmin : min 4 (r + 1 - 4 * k) = min 4 (r - 4 * k) + 1 := by omega
    have hp : min 4 (r - 4 * k) ≤ 3 := by omega
    rw [hmin, shl_or _ _ _ hp, h0]
    show _ = beval _ _ * 256 + (f (base + 4 * k + min 4 (r - 4 * k))).toNat
    rw [show base + 4 * k + min 4 (r - 4 * k) = base + r by omega]
  · rw [if_neg e]
    have hmin : min 4 (r + 1 - 4 * k) = min 4 (r - 4 * k) := by omega
    rw [hmin]; exact h0
theorem Part.full {f : Nat → UInt8} {base : Nat} {m : Nat → BitVec 32} (h : Part f base 64 m) (k : Nat) (hk : k < 16) : m k = wordOf f base k := by
  have h0 := h k hk
  have hmin : min 4 (64 - 4 * k) = 4 := by omega
  rw [hmin] at h0
  have h1 := (m k).isLt
  rw [Nat.mod_eq_of_lt (by simpa using h1)] at h0
  unfold wordOf
  rw [← h0]; simp

theorem ringAt_congr {m m' : Nat → BitVec 32} (h : ∀ j, j < 16 → m j = m' j) (t : Nat) : ∀ j, j < 16 → ringAt m t j = ringAt m' t j := by
  induction t with
  | zero => exact h
  | succ t ih =>
    intro j hj
    unfold ringAt
    by_cases h16 : t < 16
    · rw [if_pos h16, if_pos h16]; exact ih j hj
    · rw [if_neg h16, if_neg h16]
      have e : made (ringAt m t) t = made (ringAt m' t) t := by
        unfold made
        rw [ih _ (by omega), ih _ (by omega), ih _ (by omega), ih _ (by omega)]
      rw [e, ih j hj]
theorem turns_congr {m m' : Nat → BitVec 32} (h : ∀ j, j < 16 → m j = m' j) (k : Nat → BitVec 32) (s : St) (t : Nat) : turns k m s t = turns k m' s t := by
  induction t with
  | zero => rfl
  | succ t ih =>
    show turn (turns k m s t) (k t) (word m t) = turn (turns k m' s t) (k t) (word m' t)
    rw [ih]
    unfold word
    rw [ringAt_congr h _ _ (by omega)]

def press1 (s : St) (m : Nat → BitVec 32) : St := s.plus (turns kt m s 64)
def st0 : St := ⟨0x6a09e667, 0xbb67ae85, 0x3c6ef372, 0xa54ff53a, 0x510e527f, 0x9b05688c, 0x1f83d9ab, 0x5be0cd19⟩
/-- The state behind n blocks of f. -/
def stN (f : Nat → UInt8) : Nat → St
  | 0 => st0
  | n + 1 => press1 (stN f n) (wordOf f (64 * n))
end Go.Proofs.YtikdpiedjkailaaDoor
