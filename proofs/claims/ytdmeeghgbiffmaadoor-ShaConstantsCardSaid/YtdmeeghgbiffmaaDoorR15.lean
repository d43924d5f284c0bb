/- Rooted's closed facts: the constants are the bits of roots of the first primes. -/
import Derived.Test.YtdmeeghgbiffmaaDoorR14
namespace Go.Proofs.YtdmeeghgbiffmaaDoor

/-- No e from 2 on and below d divides p. -/
def tr (p : Nat) : Nat → Bool
  | 0 => true
  | d + 1 => tr p d && (d < 2 || p % d != 0)
/-- The first d from 2 on whose square is above p (p below 400). -/
def sq (p : Nat) : Nat := ((List.range 20).find? fun d => decide (2 ≤ d) && decide (p < d * d)).getD 20
def isP (p : Nat) : Bool := tr p (sq p)
/-- How many primes lie from 2 on and below p. -/
def cnt : Nat → Nat
  | 0 => 0
  | p + 1 => if 2 ≤ p && isP p then cnt p + 1 else cnt p
def st0w : List Nat := [0x6a09e667, 0xbb67ae85, 0x3c6ef372, 0xa54ff53a, 0x510e527f, 0x9b05688c, 0x1f83d9ab, 0x5be0cd19]
def closedAt (p : Nat) : Bool := !(2 ≤ p && isP p) || (decide (cnt p < 64) && ex (hitF (limF p 3) (kts.getD (cnt p) 0) 3) 17 && (decide (8 ≤ cnt p) || ex (hitF (limF p 2) (st0w.getD (cnt p) 0) 2) 17))
set_option maxRecDepth 100000 in
theorem cnt_end : cnt 312 = 64 := by decide +kernel
set_option maxRecDepth 100000 in
theorem closed_all : ((List.range 312).all closedAt) = true := by decide +kernel
end Go.Proofs.YtdmeeghgbiffmaaDoor
