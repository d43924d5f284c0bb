/- HmacChildren: the function. -/
import Derived.Test.YtikdpiedjkailaaDoorH25
namespace Go.Proofs.YtikdpiedjkailaaDoor
open Go Go.RowKit

theorem StepsAt.ch {w w' : World} {a off N : Nat} {nm : Nat → ByteArray} {nu : Nat → Nat} (h : StepsAt w a off N nm nu) (hc : Ch (fun _ => False) w w') : StepsAt w' a off N nm nu :=
  fun i hi => ⟨hc.get (h i hi).1 id, hc.get (h i hi).2 id⟩
theorem child_any (p : Option Addr) (n c : Nat) (key : Nat → UInt8) (sp : Option Addr) (a off N cap : Nat) (nm : Nat → ByteArray) (nu : Nat → Nat) (w : World) (hn : n ≤ 1000000000) (hkey : BytesAt w p n c key) (hsp : sp = some ⟨a, off, none⟩ ∨ N = 0) (hN : N ≤ 1000000)
    (hst : StepsAt w a off N nm nu) (hnm : ∀ i, i < N → (nm i).size ≤ 100000000) (hK : KAt w) :
    Calls Tryd.prog 18 #[.slice p n c, .slice sp N cap] w fun e w' => e = .returned (.agg (hv (childB key n N nm nu))) ∧ Ch (fun _ => False) w w' := by
  by_cases h0 : N = 0
  · subst h0
    exact child_none p n c cap key sp w hn hkey hK
  · obtain rfl := hsp.resolve_right h0
    exact child_some p n c key a off N cap nm nu w hn hkey (by omega) hN hst hnm hK
theorem rchild_any (p : Option Addr) (n c : Nat) (key : Nat → UInt8) (sp : Option Addr) (a off N cap : Nat) (nm : Nat → ByteArray) (nu : Nat → Nat) (w : World) (hn : n ≤ 1000000000) (hkey : BytesAt w p n c key) (hsp : sp = some ⟨a, off, none⟩ ∨ N = 0) (hN : N ≤ 1000000)
    (hst : StepsAt w a off N nm nu) (hnm : ∀ i, i < N → (nm i).size ≤ 100000000) :
    Calls Tryd.prog 19 #[.slice p n c, .slice sp N cap] w fun e w' => e = .returned (.agg (hv (childB key n N nm nu))) ∧ Ch (fun _ => False) w w' := by
  by_cases h0 : N = 0
  · subst h0
    exact rchild_none p n c cap key sp w hn hkey
  · obtain rfl := hsp.resolve_right h0
    exact rchild_some p n c key a off N cap nm nu w hn hkey (by omega) hN hst hnm

set_option maxRecDepth 100000 in
set_option maxHeartbeats 4000000 in
theorem children_law (p : Option Addr) (nk ck : Nat) (key : Nat → UInt8) (sp : Option Addr) (a off N cap : Nat) (nm : Nat → ByteArray) (nu : Nat → Nat) (w : World) (hkey : BytesAt w p nk ck key) (hsp : sp = some ⟨a, off, none⟩ ∨ N = 0) (hst : StepsAt w a off N nm nu) (hK : KAt w) :
    Calls Tryd.prog 6 #[.slice p nk ck, .slice sp N cap] w fun e w' => e = .returned (.bool true) ∧ Ch (fun _ => False) w w' := by
  have HW := Go.Lib.hid (fun W (hc : Ch (fun _ => False) w W) => works_any W (hK.ch hc id))
  have HSP := Go.Lib.hid hsp; have HST := Go.Lib.hid hst
  by_cases h1 : 200 < nk
  · have h1' : (200 : Int) < (nk : Int) := by omega
    clear hkey hsp hst hK
    go_enter Tryd.func6, Tryd.ntmps6
    go_wp2_with fail
    refine (HW.out _ (Ch.refl _ _)).mono ?_
    rintro e w2 ⟨rfl, hc2⟩
    go_wp2_with fail
    go_ret
    exact ⟨rfl, hc2⟩
  · have h1' : ¬ (200 : Int) < (nk : Int) := by omega
    by_cases h2 : 8 < N
    · have h2' : (8 : Int) < (N : Int) := by omega
      clear hkey hsp hst hK
      go_enter Tryd.func6, Tryd.ntmps6
      go_wp2_with fail
      refine (HW.out _ (Ch.refl _ _)).mono ?_
      rintro e w2 ⟨rfl, hc2⟩
      go_wp2_with fail
      go_ret
      exact ⟨rfl, hc2⟩
    · have h2' : ¬ (8 : Int) < (N : Int) := by omega
      have HC18 := Go.Lib.hid (fun W (hc : Ch (fun _ => False) w W) (hnm : ∀ i, i < N → (nm i).size ≤ 100) => child_any p nk ck key sp a off N cap nm nu W (by omega) (hkey.ch hc (fun _ _ h => h)) hsp (by omega) (hst.ch hc) (fun i hi => by have := hnm i hi; omega) (hK.ch hc id))
      have HC19 := Go.Lib.hid (fun W (hc : Ch (fun _ => False) w W) (hnm : ∀ i, i < N → (nm i).size ≤ 100) => rchild_any p nk ck key sp a off N cap nm nu W (by omega) (hkey.ch hc (fun _ _ h => h)) hsp (by omega) (hst.ch hc) (fun i hi => by have := hnm i hi; omega))
      have HEQ := Go.Lib.hid (fun W => eqH_self (childB key nk N nm nu) ▸ eq_hv (childB key nk N nm nu) (childB key nk N nm nu) W)
      generalize hv (childB key nk N nm nu) = RC at *
      clear hkey hsp hst hK
      go_enter Tryd.func6, Tryd.ntmps6
      go_wp2_with fail
      go_loopw [5] (fun ix wr => ∃ i : Nat, i ≤ N ∧ ix = .int .i64 i ∧ (∀ j, j < i → (nm j).size ≤ 100) ∧ wr = w) (fun ix _ => N - (intOf ix).toNat)
      case atStart => exact ⟨0, by omega, rfl, fun j hj => by omega, rfl⟩
      case round =>
        obtain ⟨i, hi, rfl, hnm, rfl⟩ := hrel
        have HNM := Go.Lib.hid hnm
        clear hnm
        by_cases hiN : i < N
        · obtain rfl := HSP.out.resolve_right (by omega)
          have hcs0 := (HST.out i hiN).1
          have HNS := Go.Lib.hid (fun (h : (nm i).size ≤ 100) j (hj : j < i + 1) => (show (nm j).size ≤ 100 by
            by_cases e : j = i
            · subst e; exact h
            · exact HNM.out j (by omega)))
          generalize nm i = sx at *
          by_cases hs : 100 < sx.size
          · have hs' : (100 : Int) < (sx.size : Int) := by omega
            go_wp2_with fail
            refine (HW.out _ (Ch.refl _ _)).mono ?_
            rintro e w2 ⟨rfl, hc2⟩
            go_wp2_with fail
            go_ret
            exact ⟨rfl, hc2⟩
          · have hs' : ¬ (100 : Int) < (sx.size : Int) := by omega
            go_wp2_with fail
            go_roundw
            case rel => exact ⟨i + 1, by omega, by go_num, HNS.out (by omega), trivial⟩
            case measure => simp [intOf]; omega
        · obtain rfl : i = N := by omega
          go_wp2_with fail
          refine (HC18.out _ (Ch.refl _ _) HNM.out).mono ?_
          rintro e w2 ⟨rfl, hc2⟩
          have HC2 := Go.Lib.hid hc2
          clear hc2
          go_wp2_with fail
          refine (HC19.out _ HC2.out HNM.out).mono ?_
          rintro e w3 ⟨rfl, hc3⟩
          have HC3 := Go.Lib.hid (HC2.out.trans hc3)
          clear hc3
          go_wp2_with (refine wpList_eql_wanted (by simp [Region.wanted, yielded]) (.tmp 31) (.tmp 34) 28 28 rfl RC RC rfl rfl eqg28 (HEQ.out _) ?_)
          refine (HW.out _ HC3.out).mono ?_
          rintro e w4 ⟨rfl, hc4⟩
          have HC4 := Go.Lib.hid (HC3.out.trans hc4)
          clear hc4
          go_wp2_with fail
          go_ret
          exact ⟨rfl, HC4.out⟩
end Go.Proofs.YtikdpiedjkailaaDoor
