/- What a frame frames, still sealed. -/
import Derived.Test.YtljllfdigfojdaaV10
namespace Go.Proofs.Ytljllfdigfojdaa
open Go Go.RowKit

def outS (f : Nat → UInt8) (n : Nat) : Res := match rdN f n with
  | .lack => .lack
  | .wrong => .wrong
  | .got v k => if 8196 < v ∨ v < 4 then .wrong else if n < k + v then .lack else .got v k
def SealTold (res : Res) (f : Nat → UInt8) (n l x0 : Nat) (w : World) (e : Ending) (w' : World) : Prop :=
  Ch (fun q => q = l) w w' ∧ match res with
    | .lack => e = gaveUp 1
    | .wrong => e = gaveUp 2
    | .got v k => k + v ≤ n ∧ (∃ p' c', e = .returned (.slice p' v c') ∧ BytesAt w' p' v c' (fun j => f (k + j)) ∧ ∀ ad, p' = some ad → ad.block = x0) ∧ ∃ p' c', LeftAt w' l x0 p' (n - (k + v)) c' (fun j => f (k + v + j))
set_option maxRecDepth 100000 in
theorem sealed_any (l x0 : Nat) (p : Option Addr) (n c : Nat) (f : Nat → UInt8) (w : World) (hl : LeftAt w l x0 p n c f) :
    Calls Try.prog 71 #[.pointer (some ⟨l, 0, none⟩)] w (SealTold (outS f n) f n l x0 w) := by
  have HU := Go.Lib.hid (upTo_any l x0 p n c f 8196 w hl)
  clear hl
  unfold TakeTold outN at HU
  unfold SealTold outS
  cases hr : rdN f n with
  | lack =>
    rw [hr] at HU
    clear hr
    go_enter Try.func71, Try.ntmps71
    go_wp2_with fail
    refine HU.out.mono ?_
    rintro e w' ⟨hc, rfl⟩
    have HC := Go.Lib.hid hc
    clear hc
    go_wp2_with fail
    exact ⟨rfl, HC.out, rfl⟩
  | wrong =>
    rw [hr] at HU
    clear hr
    go_enter Try.func71, Try.ntmps71
    go_wp2_with fail
    refine HU.out.mono ?_
    rintro e w' ⟨hc, rfl⟩
    have HC := Go.Lib.hid hc
    clear hc
    go_wp2_with fail
    exact ⟨rfl, HC.out, rfl⟩
  | got v k =>
    rw [hr] at HU
    clear hr
    by_cases hbig : 8196 < v
    · have hbig' : (8196 : Int) < (v : Int) := by omega
      simp only [if_pos hbig'] at HU
      simp only [hbig, true_or, if_true]
      clear hbig
      go_enter Try.func71, Try.ntmps71
      go_wp2_with fail
      refine HU.out.mono ?_
      rintro e w' ⟨hc, rfl⟩
      have HC := Go.Lib.hid hc
      clear hc
      go_wp2_with fail
      exact ⟨rfl, HC.out, rfl⟩
    · have hbig' : ¬ (8196 : Int) < (v : Int) := by omega
      simp only [if_neg hbig'] at HU
      by_cases h4 : v < 4
      · have h4' : (v : Int) < 4 := by omega
        simp only [h4, or_true, if_true]
        clear hbig h4
        go_enter Try.func71, Try.ntmps71
        go_wp2_with fail
        refine HU.out.mono ?_
        rintro e w' ⟨hc, rfl, h2⟩
        have HC := Go.Lib.hid hc
        clear hc h2
        go_wp2_with fail
        exact ⟨rfl, HC.out, rfl⟩
      · have h4' : ¬ (v : Int) < 4 := by omega
        simp only [hbig, h4, or_self, if_false]
        clear hbig h4
        by_cases hlt : n < k + v
        · simp only [if_pos hlt]
          go_enter Try.func71, Try.ntmps71
          go_wp2_with fail
          refine HU.out.mono ?_
          rintro e w1 ⟨hc, rfl, hk, p1, c1, h1⟩
          have HC := Go.Lib.hid hc; have HT := Go.Lib.hid (take_lack l x0 p1 (n - k) c1 _ v w1 h1 (by omega))
          clear hc h1 hlt
          go_wp2_with fail
          refine HT.out.mono ?_
          rintro e w2 ⟨rfl, rfl⟩
          go_wp2_with fail
          exact ⟨rfl, HC.out, rfl⟩
        · simp only [if_neg hlt]
          go_enter Try.func71, Try.ntmps71
          go_wp2_with fail
          refine HU.out.mono ?_
          rintro e w1 ⟨hc, rfl, hk, p1, c1, h1⟩
          have HC := Go.Lib.hid hc; have HT := Go.Lib.hid (takeL_any l x0 p1 (n - k) c1 _ v w1 h1 (by omega))
          have HK := Go.Lib.hid (show k + v ≤ n by omega); have HBL := Go.Lib.hid h1.blk
          clear hc h1 hlt hk
          go_wp2_with fail
          refine HT.out.mono ?_
          rintro e w2 ⟨hc2, rfl, hb, p2, c2, h2⟩
          have HC2 := Go.Lib.hid (HC.out.trans hc2); have H2 := Go.Lib.hid h2; have HB := Go.Lib.hid hb
          clear hc2 h2 hb
          go_wp2_with fail
          go_ret
          have h3 := H2.out
          rw [show n - k - v = n - (k + v) by omega, show (fun j => f (k + (v + j))) = (fun j => f (k + v + j)) from funext fun j => by rw [Nat.add_assoc]] at h3
          exact ⟨HC2.out, HK.out, ⟨p1, c1, rfl, HB.out, HBL.out⟩, p2, c2, h3⟩
def Pc1Told (res : Res) (f : Nat → UInt8) (n l x0 xb : Nat) (w : World) (e : Ending) (w' : World) : Prop :=
  Ch (fun q => q = l ∨ q = xb) w w' ∧ match res with
    | .lack => e = gaveUp 1
    | .wrong => e = gaveUp 2
    | .got v k => e = .returned (.tuple #[]) ∧ k + v ≤ n ∧ (∃ p' c', w'.heap[xb]? = some (.cells #[.slice p' v c'] 27) ∧ BytesAt w' p' v c' (fun j => f (k + j)) ∧ ∀ ad, p' = some ad → ad.block = x0) ∧ ∃ p' c', LeftAt w' l x0 p' (n - (k + v)) c' (fun j => f (k + v + j))
set_option maxRecDepth 100000 in
theorem split1_any (l x0 xb : Nat) (p : Option Addr) (n c : Nat) (f : Nat → UInt8) (w : World) (hl : LeftAt w l x0 p n c f) (hxr : w.heap[xb]? = some (.cells #[.slice none 0 0] 27)) (hne : xb ≠ l ∧ xb ≠ x0) :
    Calls Try.prog 70 #[.pointer (some ⟨l, 0, none⟩), .pointer (some ⟨xb, 0, none⟩)] w (Pc1Told (outS f n) f n l x0 xb w) := by
  have HU := Go.Lib.hid (sealed_any l x0 p n c f w hl)
  have HX := Go.Lib.hid hxr; have HNE := Go.Lib.hid hne
  clear hl hxr hne
  unfold SealTold at HU
  unfold Pc1Told
  generalize outS f n = out at *
  cases out with
  | lack =>
    go_enter Try.func70, Try.ntmps70
    go_wp2_with fail
    refine HU.out.mono ?_
    rintro e w' ⟨hc, rfl⟩
    have HC := Go.Lib.hid hc
    clear hc
    go_wp2_with fail
    exact ⟨rfl, HC.out.mono (fun _ _ e => .inl e), rfl⟩
  | wrong =>
    go_enter Try.func70, Try.ntmps70
    go_wp2_with fail
    refine HU.out.mono ?_
    rintro e w' ⟨hc, rfl⟩
    have HC := Go.Lib.hid hc
    clear hc
    go_wp2_with fail
    exact ⟨rfl, HC.out.mono (fun _ _ e => .inl e), rfl⟩
  | got v k =>
    go_enter Try.func70, Try.ntmps70
    go_wp2_with fail
    refine HU.out.mono ?_
    rintro e w1 ⟨hc, hkv, ⟨p1, c1, rfl, hb, hblk⟩, p2, c2, h2⟩
    have hx1 := hc.heap HX.out HNE.out.1
    have hcl : w1.cell? ⟨xb, 0, none⟩ = some (.slice none 0 0) := (cell_of_heap hx1 0).trans rfl
    have hfz : w1.frozen? ⟨xb, 0, none⟩ = false := frozen_of_heap hx1 0
    have hs : Ch (fun q => q = xb) w1 (w1.setCell ⟨xb, 0, none⟩ (.slice p1 v c1)) := Ch.setCell (S := fun q => q = xb) (Ch.refl _ w1) (p := ⟨xb, 0, none⟩) (fun _ => rfl) _
    have HX2 := Go.Lib.hid (show (w1.setCell ⟨xb, 0, none⟩ (.slice p1 v c1)).heap[xb]? = some (.cells #[.slice p1 v c1] 27) from (row_setM hx1 0 _).trans rfl)
    have HC := Go.Lib.hid ((hc.mono (T := fun q => q = l ∨ q = xb) (fun _ _ e => .inl e)).trans (hs.mono (fun _ _ e => .inr e)))
    have hx0 : ¬ x0 = xb := fun e => HNE.out.2 e.symm
    have HL := Go.Lib.hid (h2.ch hs (show ¬ l = xb from fun e => HNE.out.1 e.symm) hx0)
    have HB := Go.Lib.hid (hb.but hs hblk hx0); have HBL := Go.Lib.hid hblk; have HK := Go.Lib.hid hkv
    clear hc hx1 hs h2 hb hblk hkv hx0
    go_wp2_with fail
    first | go_end0 | refine bodyPost_ret (results_none rfl _ _ _) rfl ?_
    exact ⟨HC.out, rfl, HK.out, ⟨p1, c1, HX2.out, HB.out, HBL.out⟩, p2, c2, HL.out⟩
end Go.Proofs.Ytljllfdigfojdaa
