/- Hashes' texts: which is the lesser one, and that they are read again. -/
import Derived.Test.YtdmeeghgbiffmaaDoorT13
namespace Go.Proofs.YtdmeeghgbiffmaaDoor
open Go Go.RowKit

theorem digit_lt (p q : Nat) (hp : p < 16) (hq : q < 16) : (digit p < digit q ↔ p < q) ∧ (digit p = digit q ↔ p = q) := by
  revert q; revert p; decide
theorem nib_shift (g : Nat → UInt8) (i : Nat) : nib g (i + 1 + 1) = nib (fun j => g (j + 1)) i := by
  unfold nib
  rw [show (i + 1 + 1) % 2 = i % 2 by omega, show (i + 1 + 1) / 2 = i / 2 + 1 by omega]
theorem two_digits (a b : Nat) (r : Bool) : (decide (a / 16 < b / 16) || decide (a / 16 = b / 16) && (decide (a % 16 < b % 16) || decide (a % 16 = b % 16) && r)) = (decide (a < b) || decide (a = b) && r) := by
  cases r <;> simp <;> rw [Bool.eq_iff_iff] <;> simp <;> omega
theorem hex_less (n : Nat) : ∀ g h : Nat → UInt8, Op.bytesLess ((List.range (2 * n)).map fun i => digit (nib g i)) ((List.range (2 * n)).map fun i => digit (nib h i)) = Op.bytesLess ((List.range n).map g) ((List.range n).map h) := by
  induction n with
  | zero => intro g h; rfl
  | succ n ih =>
    intro g h
    have hr (g : Nat → UInt8) : ((List.range (2 * (n + 1))).map fun i => digit (nib g i)) = digit ((g 0).toNat / 16) :: digit ((g 0).toNat % 16) :: ((List.range (2 * n)).map fun i => digit (nib (fun j => g (j + 1)) i)) := by
      rw [show 2 * (n + 1) = 2 * n + 1 + 1 by omega, List.range_succ_eq_map, List.range_succ_eq_map]
      simp only [List.map_cons, List.map_map]
      refine congr (congrArg List.cons ?_) (congr (congrArg List.cons ?_) ?_)
      · rfl
      · rfl
      · refine List.map_congr_left (fun i _ => ?_)
        show digit (nib g (i + 1 + 1)) = _
        rw [nib_shift]
    have hl (g : Nat → UInt8) : (List.range (n + 1)).map g = g 0 :: (List.range n).map (fun j => g (j + 1)) := by
      rw [List.range_succ_eq_map]; simp only [List.map_cons, List.map_map]; rfl
    rw [hr g, hr h, hl g, hl h]
    have hg := (g 0).toNat_lt
    have hh := (h 0).toNat_lt
    have hd1 := digit_lt ((g 0).toNat / 16) ((h 0).toNat / 16) (by omega) (by omega)
    have hd2 := digit_lt ((g 0).toNat % 16) ((h 0).toNat % 16) (by omega) (by omega)
    simp only [Op.bytesLess]
    rw [ih]
    have e1 : decide (g 0 < h 0) = decide ((g 0).toNat < (h 0).toNat) := rfl
    have e2 : (g 0 == h 0) = decide ((g 0).toNat = (h 0).toNat) := by
      by_cases e : g 0 = h 0
      · rw [e]; simp
      · have : (g 0).toNat ≠ (h 0).toNat := fun k => e (UInt8.toNat_inj.1 k)
        simp [e, this]
    rw [e1, e2, decide_eq_decide.2 hd1.1, decide_eq_decide.2 hd2.1]
    rw [show (digit ((g 0).toNat / 16) == digit ((h 0).toNat / 16)) = decide ((g 0).toNat / 16 = (h 0).toNat / 16) by rw [← decide_eq_decide.2 hd1.2]; exact (Bool.beq_eq_decide_eq _ _)]
    rw [show (digit ((g 0).toNat % 16) == digit ((h 0).toNat % 16)) = decide ((g 0).toNat % 16 = (h 0).toNat % 16) by rw [← decide_eq_decide.2 hd2.2]; exact (Bool.beq_eq_decide_eq _ _)]
    exact two_digits _ _ _
theorem hex_inj (n : Nat) : ∀ g h : Nat → UInt8, ((List.range (2 * n)).map fun i => digit (nib g i)) = ((List.range (2 * n)).map fun i => digit (nib h i)) → ∀ i, i < n → g i = h i := by
  intro g h he i hi
  have hk (k : Nat) (hk : k < 2 * n) : nib g k = nib h k := by
    have e := congrArg (fun l => l[k]?) he
    simp [hk] at e
    have l1 : ∀ g k, nib g k < 16 := fun g k => by have := (g (k / 2)).toNat_lt; unfold nib; split <;> omega
    exact (digit_lt _ _ (l1 _ _) (l1 _ _)).2.1 e
  have h1 := hk (2 * i) (by omega)
  have h2 := hk (2 * i + 1) (by omega)
  unfold nib at h1 h2
  rw [if_pos (by omega), if_pos (by omega), show 2 * i / 2 = i by omega] at h1
  rw [if_neg (by omega), if_neg (by omega), show (2 * i + 1) / 2 = i by omega] at h2
  exact UInt8.toNat_inj.1 (by omega)

theorem toList_mk (l : List UInt8) : (⟨l.toArray⟩ : ByteArray).toList = l := by
  rw [ByteArray.toList_eq]
def byL (g : Nat → UInt8) : List UInt8 := (List.range 32).map g
def byB (g : Nat → UInt8) : ByteArray := ⟨(byL g).toArray⟩
theorem text_less (g h : Nat → UInt8) : Op.bytesLess (hexB g).toList (hexB h).toList = Op.bytesLess (byB g).toList (byB h).toList := by
  unfold hexB byB
  rw [toList_mk, toList_mk, toList_mk, toList_mk]
  exact hex_less 32 g h
theorem text_same (g h : Nat → UInt8) : ((hexB g).toList == (hexB h).toList) = ((List.range 32).map g == (List.range 32).map h) := by
  unfold hexB
  rw [toList_mk, toList_mk, Bool.eq_iff_iff, beq_iff_eq, beq_iff_eq]
  refine ⟨fun e => List.map_congr_left (fun i hi => hex_inj 32 g h e i (List.mem_range.1 hi)), fun e => List.map_congr_left (fun i hi => ?_)⟩
  have hi' : i < 64 := List.mem_range.1 hi
  have := congrArg (fun l => l[i / 2]?) e
  have hq : i / 2 < 32 := by omega
  have hh : g (i / 2) = h (i / 2) := by simpa [hq] using this
  unfold nib; rw [hh]
theorem indexByte_at (l : List UInt8) (c : UInt8) (v : Nat) (h : Lib.indexByte l c = (v : Int)) : l[v]? = some c := by
  induction l generalizing v with
  | nil => exact absurd h (by unfold Lib.indexByte; omega)
  | cons b l ih =>
    unfold Lib.indexByte at h
    split at h
    · rename_i e
      obtain rfl : v = 0 := by omega
      simp at e; simp [e]
    · split at h
      · omega
      · rename_i e
        have hg := Lib.indexByte_ge l c
        obtain ⟨u, rfl⟩ : ∃ u, v = u + 1 := ⟨v - 1, by simp at e; omega⟩
        rw [List.getElem?_cons_succ]
        exact ih u (by omega)
theorem digit_hx (c : UInt8) (h : 0 ≤ hx c) : digit (hx c).toNat = c := by
  have h1 := hx_bounds c
  obtain ⟨v, hv, e⟩ : ∃ v : Nat, v < 16 ∧ hx c = (v : Int) := h1.resolve_left (by omega)
  have k := indexByte_at hexes c v e
  rw [e, Int.toNat_natCast]
  have k2 := digit_at v hv
  have k3 : (#[48, 49, 50, 51, 52, 53, 54, 55, 56, 57, 97, 98, 99, 100, 101, 102] : Array UInt8)[v]? = hexes[v]? := by unfold hexes; simp
  rw [k3, k] at k2
  exact (Option.some.inj k2).symm
theorem hx_digit (v : Nat) (h : v < 16) : hx (digit v) = (v : Int) := by
  revert v; decide
theorem parse_text (s : ByteArray) (h : perr s = 0) : hexB (parsed s) = s := by
  have ha : allHex s = true := by
    unfold perr at h
    split at h
    · assumption
    · omega
  have hb := ha
  unfold allHex at hb
  rw [Bool.and_eq_true, List.all_eq_true] at hb
  have hsz : s.size = 64 := by simpa using hb.1
  have hh : ∀ i, i < 64 → 0 ≤ hx (byteAt s i) := fun i hi => by simpa using hb.2 i (List.mem_range.2 hi)
  have hn : ∀ i, i < 64 → digit (nib (parsed s) i) = byteAt s i := by
    intro i hi
    have h1 := vn_lt s (2 * (i / 2))
    have h2 := vn_lt s (2 * (i / 2) + 1)
    have e : (parsed s (i / 2)).toNat = 16 * vn s (2 * (i / 2)) + vn s (2 * (i / 2) + 1) := by
      unfold parsed pv
      rw [ha, if_pos rfl, if_pos (by omega), UInt8.toNat_ofNat']
      exact Nat.mod_eq_of_lt (by omega)
    unfold nib
    rw [e]
    rcases Nat.mod_two_eq_zero_or_one i with hi2 | hi2
    · rw [if_pos hi2, show (16 * vn s (2 * (i / 2)) + vn s (2 * (i / 2) + 1)) / 16 = vn s (2 * (i / 2)) by omega, show 2 * (i / 2) = i by omega]
      exact digit_hx _ (hh i hi)
    · rw [if_neg (by omega), show (16 * vn s (2 * (i / 2)) + vn s (2 * (i / 2) + 1)) % 16 = vn s (2 * (i / 2) + 1) by omega, show 2 * (i / 2) + 1 = i by omega]
      exact digit_hx _ (hh i hi)
  have e : hexL (parsed s) = s.data.toList := by
    refine List.ext_getElem (by rw [hexL_length]; simpa using hsz.symm) (fun i h1 h2 => ?_)
    have hi : i < 64 := by rw [hexL_length] at h1; exact h1
    rw [hexL_get, hn i hi]
    unfold byteAt
    have h3 : i < s.data.size := by simpa using h2
    rw [Array.getD_eq_getD_getElem?, Array.getElem?_eq_getElem h3]
    simp
  unfold hexB
  rw [e]
theorem text_parse (g : Nat → UInt8) : perr (hexB g) = 0 ∧ ∀ i, i < 32 → parsed (hexB g) i = g i := by
  have hsz : (hexB g).size = 64 := by show (hexL g).toArray.size = 64; simp [hexL_length]
  have hb : ∀ i, i < 64 → byteAt (hexB g) i = digit (nib g i) := by
    intro i hi
    unfold byteAt hexB
    rw [Array.getD_eq_getD_getElem?]
    have h3 : i < (hexL g).toArray.size := by simp [hexL_length]; exact hi
    rw [Array.getElem?_eq_getElem h3]
    simp [hexL_get]
  have ha : allHex (hexB g) = true := is_hex hsz (fun i hi => by rw [hb i hi, hx_digit _ (nib_lt g i)]; omega)
  refine ⟨by unfold perr; rw [ha]; rfl, fun i hi => ?_⟩
  have hv : ∀ k, k < 64 → vn (hexB g) k = nib g k := fun k hk => by
    unfold vn; rw [hb k hk, hx_digit _ (nib_lt g k), Int.toNat_natCast]
  unfold parsed pv
  rw [ha, if_pos rfl, if_pos (by omega), hv _ (by omega), hv _ (by omega)]
  unfold nib
  rw [if_pos (by omega), if_neg (by omega), show 2 * i / 2 = i by omega, show (2 * i + 1) / 2 = i by omega]
  have hg := (g i).toNat_lt
  rw [show 16 * ((g i).toNat / 16) + (g i).toNat % 16 = (g i).toNat by omega]
  exact UInt8.ofNat_toNat
end Go.Proofs.YtdmeeghgbiffmaaDoor
