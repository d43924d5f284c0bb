/- A call of the law's lay, whatever it is; what is laid one behind the other. -/
import Derived.Test.YtljllfdigfojdaaL5
import Derived.Laws.AppendOwnNone
namespace Go.Proofs.Ytljllfdigfojdaa
open Go Go.RowKit

set_option maxRecDepth 100000 in
/-- 'append(s, b...)', b of any length. -/
theorem wpList_append_more {w : World} {ops : Array Oper} {rest : List Oper} {o : Oper} {a : Act} {Q : Exit → Act → World → Prop} (hgd : o.guard = none) (s x : Operand)
    (ho : o.op = .call { callee := .builtin .append, args := #[s, x], argTypes := #[27, 27] }) (base k n : Nat) (v : Value) (F f : Nat → UInt8) (hs : a.eval s = v) (hown : w.ownsRow base 5 1 v k (fL F k))
    (p : Option Addr) (c : Nat) (hx : a.eval x = .slice p n c) (hb : BytesAt w p n c f) (hF : ∀ j, j < n → F (k + j) = f j) (hk : k + n ≤ 10000000000000) (hbase : base ≤ w.heap.size)
    (h : ∀ v' w', w'.ownsRow base 5 1 v' (k + n) (fL F (k + n)) → Gw w w' v v' → wpList Try.prog ops Q rest (a.put o.dst v') w') : wpList Try.prog ops Q (o :: rest) a w := by
  by_cases hn : 0 < n
  · exact wpList_append_row hgd s x ho base k n v F f hs hown p c hx hb hn hF hk hbase h
  · obtain rfl : n = 0 := by omega
    obtain ⟨i0, hi, hz0, hz1, hz2⟩ := info_parts info5
    cases p with
    | none =>
      obtain rfl : c = 0 := by
        rcases hb with ⟨x, y, e, _⟩ | ⟨_, e⟩
        · cases e
        · exact e rfl
      exact wpList_append_own_none hgd s x 27 ho base 5 i0 1 Try.underlying27 hi v k (fL F k) hs hown hx (h v w hown (Gw.refl w v))
    | some ad =>
      refine wpList_plain hgd fun K hK => ?_
      obtain ⟨v', w', hr, h2, h3, h4⟩ := run_append_own (P := Try.prog) w base 27 o.type 5 i0 (.int .u8 0) 1 1 Try.underlying27 hi hz0 hz1 hz2 rfl (by decide) v k (fL F k) hown ad 0 c [] (by simp) (fun j u h => by simp at h) (fun u h => by simp at h) (by simp [maxLen]; omega) (by omega) hbase
      have h5 : ∀ g, v'.ownBlock = some g → v.ownBlock = some g ∨ w.heap.size ≤ g := by
        rcases hown.2 with ⟨rfl, _⟩ | ⟨g, cap, cur, rfl, hbg, hg, hnc, hcm, hcs, htake⟩
        · rw [h4.2 ⟨rfl, rfl⟩]
          intro g e
          cases e
        · obtain ⟨w2, hr2, _⟩ := run_append_fits (P := Try.prog) w base 27 o.type 5 i0 1 Try.underlying27 hi hz1 g k cap (fL F k) hown ad 0 c [] (by simp) (fun j u h => by simp at h) (fun u h => by simp at h) hnc
          rw [hr2] at hr
          cases hr
          exact fun _ h => .inl h
      unfold Oper.wp
      simp [execOp, ho, resolve, invoke, builtin, hs, hx, hr, Result.andThen]
      exact hK _ _ (h v' w' (by simpa using h2) ⟨Ch.grown (Ch.refl _ w) h3 (fun k e _ => e), h5⟩)
/-- Rows of bytes, one behind the other. -/
def catF (len : Nat → Nat) (g : Nat → Nat → UInt8) : Nat → Nat → UInt8
  | 0 => fun _ => 0
  | n + 1 => fun m => if m < upto len n then catF len g n m else g n (m - upto len n)
theorem catF_get (len : Nat → Nat) (g : Nat → Nat → UInt8) : ∀ n i j, i < n → j < len i → catF len g n (upto len i + j) = g i j
  | 0, i, j, hi, _ => by omega
  | n + 1, i, j, hi, hj => by
    unfold catF
    by_cases e : i = n
    · subst e
      rw [if_neg (by omega), Nat.add_sub_cancel_left]
    · have h1 := upto_le len (show i + 1 ≤ n by omega)
      rw [upto_at] at h1
      rw [if_pos (by omega)]
      exact catF_get len g n i j (by omega) hj
/-- What the document says that a call lays: how many bytes, the error, the bytes. -/
def ActIs (x : ActV) (L : Nat) (no : Int) (G : Nat → UInt8) : Prop :=
  (x.what = 0 ∧ (∀ i, i < x.zN → goodN (x.z i)) ∧ no = 0 ∧ L = upto (lenOf fun i => (x.z i).toNat) x.zN ∧ ∀ i, i < x.zN → ∀ j, j < numL (x.z i).toNat → G (upto (lenOf fun i => (x.z i).toNat) i + j) = numB (x.z i).toNat j) ∨
  (x.what = 0 ∧ (∃ i, i < x.zN ∧ ¬ goodN (x.z i)) ∧ no = 2 ∧ L = 0) ∨
  (x.what = 1 ∧ no = 0 ∧ L = x.bN ∧ ∀ i, i < x.bN → G i = if x.t i then 1 else 0) ∨
  (x.what = 2 ∧ no = 0 ∧ L = 32 * x.hN ∧ ∀ i, i < x.hN → ∀ j, j < 32 → G (32 * i + j) = x.h i j) ∨
  (x.what ≠ 0 ∧ x.what ≠ 1 ∧ x.what ≠ 2 ∧ no = 0 ∧ L = textL x.s ∧ ∀ j, j < textL x.s → G j = textB x.s j)
theorem ActIs.some (x : ActV) : ∃ q : Nat × Int × (Nat → UInt8), ActIs x q.1 q.2.1 q.2.2 := by
  by_cases h0 : x.what = 0
  · by_cases hg : ∀ i, i < x.zN → goodN (x.z i)
    · exact ⟨⟨_, 0, catF (lenOf fun i => (x.z i).toNat) (fun i => numB (x.z i).toNat) x.zN⟩, .inl ⟨h0, hg, rfl, rfl, fun i hi j hj => catF_get _ _ _ i j hi hj⟩⟩
    · have : ∃ i, i < x.zN ∧ ¬ goodN (x.z i) := Classical.byContradiction fun h => hg fun i hi => Classical.byContradiction fun h2 => h ⟨i, hi, h2⟩
      exact ⟨⟨0, 2, fun _ => 0⟩, .inr (.inl ⟨h0, this, rfl, rfl⟩)⟩
  · by_cases h1 : x.what = 1
    · exact ⟨⟨_, 0, fun i => if x.t i then 1 else 0⟩, .inr (.inr (.inl ⟨h1, rfl, rfl, fun _ _ => rfl⟩))⟩
    · by_cases h2 : x.what = 2
      · exact ⟨⟨_, 0, fun m => x.h (m / 32) (m % 32)⟩, .inr (.inr (.inr (.inl ⟨h2, rfl, rfl, fun i hi j hj => by
          show x.h ((32 * i + j) / 32) ((32 * i + j) % 32) = _
          rw [show (32 * i + j) / 32 = i by omega, show (32 * i + j) % 32 = j by omega]⟩)))⟩
      · exact ⟨⟨_, 0, textB x.s⟩, .inr (.inr (.inr (.inr ⟨h0, h1, h2, rfl, rfl, fun _ _ => rfl⟩)))⟩
theorem ActIs.le {x : ActV} {L : Nat} {no : Int} {G : Nat → UInt8} (h : ActIs x L no G) (hs : x.small) : L ≤ 400 := by
  obtain ⟨a1, a2, a3, a4⟩ := hs
  rcases h with ⟨_, _, _, rfl, _⟩ | ⟨_, _, _, rfl⟩ | ⟨_, _, rfl, _⟩ | ⟨_, _, rfl, _⟩ | ⟨_, _, _, _, rfl, _⟩
  · have := upto9 (fun i => (x.z i).toNat) x.zN; omega
  · omega
  · omega
  · omega
  · have := numL_le x.s.size; unfold textL; omega
theorem ActAt.ch {B : Nat} {S : Nat → Prop} {w w' : World} {x : ActV} (h : ActAt B w x) (hc : Ch S w w') (hs : ∀ q, q < B → ¬ S q) : ActAt B w' x :=
  ⟨h.z.imp (fun ⟨a, o, e, ha, h⟩ => ⟨a, o, e, ha, fun i hi => hc.get (h i hi) (hs a ha)⟩) id, h.b.imp (fun ⟨a, o, e, ha, h⟩ => ⟨a, o, e, ha, fun i hi => hc.get (h i hi) (hs a ha)⟩) id,
    h.h.imp (fun ⟨a, o, e, ha, h⟩ => ⟨a, o, e, ha, fun i hi j hj => hc.get (h i hi j hj) (hs a ha)⟩) id⟩
theorem lay_any (b k B L : Nat) (no : Int) (v : Value) (F G : Nat → UInt8) (x : ActV) (w : World) (hx : ActAt B w x) (hs : x.small) (hi : ActIs x L no G) (hw : WrAt w b v k F) (hB : B ≤ b) (hk : k ≤ 100000000) (hFG : ∀ j, j < L → F (k + j) = G j) :
    Calls Try.prog 12 #[.pointer (some ⟨b, 0, none⟩), .agg x.cells] w fun e w' => ∃ v' q c, e = .returned (.tuple #[.int .i64 no, .slice q L c, .int .i64 no]) ∧ WrAt w' b v' (k + L) F ∧ Gb b w w' v v' ∧ BytesAt w' q L c G := by
  obtain ⟨a1, a2, a3, a4⟩ := hs
  obtain ⟨h1, h2, h3⟩ := hx
  obtain ⟨what, zp, zN, zC, bp, bN, bC, hp, hN, hC, s, z, t, hh⟩ := x
  rcases hi with ⟨e0, hg, rfl, rfl, hG⟩ | ⟨e0, hg, rfl, rfl⟩ | ⟨e0, rfl, rfl, hG⟩ | ⟨e0, rfl, rfl, hG⟩ | ⟨e0, e1, e2, rfl, rfl, hG⟩
  · obtain rfl : what = 0 := e0
    exact lay_nums b k B v F G zp zN zC bp bN bC hp hN hC s w hw hB hk z h1 a1 (fun i => (z i).toNat) (fun i hi => by
      obtain ⟨g1, g2⟩ := hg i hi
      replace g1 : 0 ≤ z i := g1
      replace g2 : z i ≤ 4611686018427387904 := g2
      exact ⟨by omega, by omega⟩) hG hFG
  · obtain rfl : what = 0 := e0
    exact lay_bad b k B v F G zp zN zC bp bN bC hp hN hC s w hw hB z h1 a1 hg
  · obtain rfl : what = 1 := e0
    exact lay_truths b k B v F G zp zN zC bp _ bC hp hN hC s w hw hB hk t h2 a2 hG hFG
  · obtain rfl : what = 2 := e0
    exact lay_hashes b k B v F G zp zN zC bp bN bC hp hN hC s w hw hB hk hh h3 a3 hG hFG
  · refine (lay_text b k B v F what zp zN zC bp bN bC hp hN hC s w hw hk a4 e0 e1 e2 (fun j hj => (hFG j hj).trans (hG j hj))).mono ?_
    rintro e w' ⟨v', q, c, he, k1, k2, k3⟩
    exact ⟨v', q, c, he, k1, k2, k3.congr fun j hj => (hG j hj).symm⟩
end Go.Proofs.Ytljllfdigfojdaa
