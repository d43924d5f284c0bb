/- What each is sent: the program's Route. -/
import Derived.Test.YtcceialiedaccaaDoorA9
import Derived.Deep.OwnRows
namespace Go.Proofs.YtcceialiedaccaaDoor
open Go Go.RowKit

/-- A slice of n fees that came from somewhere. -/
def FeesAt (w : World) (p : Option Addr) (n : Nat) (b r : Nat → Int) : Prop :=
  (∃ x y, p = some ⟨x, y, none⟩ ∧ x < w.heap.size ∧ ∀ j, j < n → w.cell? ⟨x, y + j * 2, none⟩ = some (.int .i64 (b j)) ∧ w.cell? ⟨x, y + j * 2 + 1, none⟩ = some (.int .i64 (r j))) ∨ n = 0
theorem FeesAt.ch {w w' : World} {p : Option Addr} {n : Nat} {b r : Nat → Int} (h : FeesAt w p n b r) (hc : Ch (fun _ => False) w w') : FeesAt w' p n b r := by
  rcases h with ⟨x, y, h1, h4, h3⟩ | h
  · exact .inl ⟨x, y, h1, Nat.lt_of_lt_of_le h4 hc.size, fun j hj => ⟨hc.get (h3 j hj).1 id, hc.get (h3 j hj).2 id⟩⟩
  · exact .inr h
theorem FeesAt.at {w : World} {p : Option Addr} {n : Nat} {b r : Nat → Int} (h : FeesAt w p n b r) {k : Nat} (hk : k < n) : ∃ x y, p = some ⟨x, y, none⟩ ∧ x < w.heap.size ∧ w.cell? ⟨x, y + k * 2, none⟩ = some (.int .i64 (b k)) ∧ w.cell? ⟨x, y + k * 2 + 1, none⟩ = some (.int .i64 (r k)) := by
  rcases h with ⟨x, y, h1, h4, h3⟩ | h
  · exact ⟨x, y, h1, h4, h3 k hk⟩
  · omega
def feesOk (b r : Nat → Int) : Nat → Bool
  | 0 => true
  | n + 1 => feesOk b r n && (rightB (b n) && rateB (r n))
theorem feesOk_iff (b r : Nat → Int) (n : Nat) : feesOk b r n = true ↔ ∀ j, j < n → (rightB (b j) && rateB (r j)) = true := by
  induction n with
  | zero => simp [feesOk]
  | succ n ih =>
    rw [feesOk, Bool.and_eq_true, ih]
    constructor
    · intro ⟨h1, h2⟩ j hj
      by_cases e : j = n
      · rw [e]; exact h2
      · exact h1 j (by omega)
    · intro h; exact ⟨fun j hj => h j (by omega), h n (by omega)⟩
/-- What is sent k steps ahead of the end, and the first error on the way. -/
def rtV (b r : Nat → Int) (am : Int) (N : Nat) : Nat → Int
  | 0 => am
  | k + 1 => sendV (b (N - 1 - k)) (r (N - 1 - k)) (rtV b r am N k)
def rtE (b r : Nat → Int) (am : Int) (N : Nat) : Nat → Int
  | 0 => 0
  | k + 1 => if rtE b r am N k = 0 then sendE (b (N - 1 - k)) (r (N - 1 - k)) (rtV b r am N k) else rtE b r am N k
theorem rtE_stays {b r : Nat → Int} {am : Int} {N k : Nat} (h : rtE b r am N k ≠ 0) : ∀ d, rtE b r am N (k + d) = rtE b r am N k
  | 0 => rfl
  | d + 1 => by rw [← Nat.add_assoc, rtE, if_neg (by rw [rtE_stays h d]; exact h), rtE_stays h d]
def routeE (b r : Nat → Int) (am : Int) (N : Nat) : Int := if rightB am then (if feesOk b r N then rtE b r am N N else 2) else 2
/-- What Route's answer is. -/
def RouteIs (b r : Nat → Int) (am : Int) (N : Nat) (e : Ending) (w : World) : Prop :=
  ∃ p n c, e = .returned (.tuple #[.slice p n c, .int .i64 (routeE b r am N)]) ∧ n = (if routeE b r am N = 0 then N + 1 else 0) ∧ IntsAt w p n (fun j => rtV b r am N (N - j))
def rowK (b r : Nat → Int) (am : Int) (N k : Nat) : Array Value := arr (N + 1) fun j => .int .i64 (if N - k ≤ j then rtV b r am N (N - j) else 0)
theorem made_arr (n : Nat) : madeCells #[.int .i64 0] n = arr n (fun _ => .int .i64 0) := by
  apply Array.ext'
  rw [toList_madeCells_one]
  simp [arr, List.map_const']
/-- A row of which one operation of a region stores a cell. -/
structure IRow (s M : Nat) (wx : World) (T : Nat) (A B : Array Value) (L : Array Bool) (w : World) : Prop where
  ch : Ch (fun j => j = T) wx w
  row : lg L s = false → w.heap[T]? = some (.cells A 2)
  done : lg L s = true → w.heap[T]? = some (.cells B 2)
theorem IRow.keep {s M : Nat} {wx w w' : World} {T : Nat} {A B : Array Value} {L : Array Bool} (h : IRow s M wx T A B L w) (hs : L.size = M) (j : Nat) (hj : j < M) (hj2 : j ≠ s) (hc : Ch (fun _ => False) w w') : IRow s M wx T A B (L.setIfInBounds j true) w' := by
  have l := lg_set L j s (by omega)
  rw [if_neg (Ne.symm hj2)] at l
  exact ⟨h.ch.trans (hc.mono (fun _ _ h => h.elim)), fun e => hc.heap (h.row (by rw [← l]; exact e)) id, fun e => hc.heap (h.done (by rw [← l]; exact e)) id⟩
theorem IRow.store {s M n : Nat} {wx w : World} {T k : Nat} {F : Nat → Value} {B : Array Value} {L : Array Bool} {v : Value} (h : IRow s M wx T (arr n F) B L w) (hs : L.size = M) (hsM : s < M) (hr : w.heap[T]? = some (.cells (arr n F) 2)) (hB : (arr n fun j => if j = k then v else F j) = B) : IRow s M wx T (arr n F) B (L.setIfInBounds s true) (w.setCell ⟨T, k, none⟩ v) := by
  have l := lg_set L s s (by omega)
  rw [if_pos rfl] at l
  exact ⟨Ch.setCell (S := fun j => j = T) h.ch (p := ⟨T, k, none⟩) (fun _ => rfl) _, fun e => (by rw [l] at e; cases e), fun _ => (heap_set hr k _).trans (by rw [← hB])⟩

theorem route_refused {b r : Nat → Int} {am x : Int} {N : Nat} (w : World) (h : routeE b r am N = x) (hx : x ≠ 0) : RouteIs b r am N (.returned (.tuple #[.slice none 0 0, .int .i64 x])) w :=
  ⟨none, 0, 0, by rw [h], by rw [h, if_neg hx], .inr rfl⟩
theorem route_ok {b r : Nat → Int} {am : Int} {N R c : Nat} {w : World} (h : routeE b r am N = 0) (hr : w.heap[R]? = some (.cells (rowK b r am N N) 2)) : RouteIs b r am N (.returned (.tuple #[.slice (some ⟨R, 0, none⟩) (N + 1) c, .int .i64 0])) w :=
  ⟨some ⟨R, 0, none⟩, N + 1, c, by rw [h], by rw [h, if_pos rfl], .inl ⟨R, 0, rfl, (Array.getElem?_eq_some_iff.1 hr).1, fun j hj => by
    rw [Nat.zero_add]
    refine (cell_of_heap hr j).trans ((arr_get _ _ j hj).trans ?_)
    rw [if_pos (by omega)]⟩⟩
theorem feesOk_bad {b r : Nat → Int} {n k : Nat} (hk : k < n) (h : (rightB (b k) && rateB (r k)) = false) : feesOk b r n = false := by
  cases e : feesOk b r n with
  | false => rfl
  | true => have := (feesOk_iff b r n).1 e k hk; rw [h] at this; cases this

set_option maxRecDepth 100000 in
set_option maxHeartbeats 4000000 in
theorem route_any (am : Int) (p : Option Addr) (N c : Nat) (b r : Nat → Int) (w : World) (h : FeesAt w p N b r) (hN : N ≤ 1000) :
    Calls Tryd.prog 28 #[.int .i64 am, .slice p N c] w fun e w' => RouteIs b r am N e w' ∧ Ch (fun _ => False) w w' := by
  have HF := Go.Lib.hid h
  have hmk : ∀ w : World, (Instr.makeSlice 22 (.int .i64 ((N : Int) + 1)) (.int .i64 ((N : Int) + 1))).run Tryd.prog w = .ok (.slice (some ⟨w.heap.size, 0, none⟩) (N + 1) (N + 1)) (w.alloc (.cells (arr (N + 1) fun _ => .int .i64 0) 2)) := fun w => by
    have h := run_make_row' (P := Tryd.prog) 22 2 (.int .i64 0) 8 Tryd.underlying22 (by kernel_rfl) rfl .i64 .i64 (N + 1) (by omega) (by omega) w
    rw [made_arr] at h
    rwa [show ((N + 1 : Nat) : Int) = (N : Int) + 1 by omega] at h
  have HRI := Go.Lib.hid (fun e w' => show RouteIs b r am N e w' ↔ ∃ p n c, e = .returned (.tuple #[.slice p n c, .int .i64 (routeE b r am N)]) ∧ n = (if routeE b r am N = 0 then N + 1 else 0) ∧ IntsAt w' p n (fun j => rtV b r am N (N - j)) from Iff.rfl)
  have hw1 : wrap64 ((N : Int) + 1) = (N : Int) + 1 := by unfold wrap64; omega
  clear h
  go_enter Tryd.func28, Tryd.ntmps28
  go_wp2_with fail
  refine wp_scope_fwd 0 rfl ?_
  go_upto_region 3 with (fail)
  generalize hW0 : World.alloc w _ = W0
  have hrow0 : W0.heap[w.heap.size]? = some (.cells (arr (N + 1) fun _ => .int .i64 0) 2) := by rw [← hW0]; exact World.alloc_heap_new w _
  have hc0 : Ch (fun _ => False) w W0 := by rw [← hW0]; exact (Ch.refl _ w).alloc _
  have HF0 := Go.Lib.hid (HF.out.ch hc0)
  have HCK := Go.Lib.hid (check_any (some ⟨W0.heap.size, 0, none⟩) 1 1 (fun _ => am) _ (ints_new1 W0 am) (by omega))
  rw [bad_one] at HCK
  have HAL := Go.Lib.hid (show Ch (fun _ => False) W0 (W0.alloc (.cells #[.int .i64 am] 2)) from (Ch.refl _ W0).alloc _)
  have HR := Go.Lib.hid (show w.heap.size < W0.heap.size from (Array.getElem?_eq_some_iff.1 hrow0).1)
  have HROW := Go.Lib.hid hrow0; have HC0 := Go.Lib.hid hc0
  have HRE := Go.Lib.hid (show routeE b r am N = if rightB am then (if feesOk b r N then rtE b r am N N else 2) else 2 from rfl)
  clear hW0 hrow0 hc0 hmk
  cases hr : rightB am <;> rw [hr] at HCK HRE
  case false =>
    clear hr
    go_wp2_with (go_at_call 18; refine HCK.out.mono ?_; rintro e w' ⟨rfl, rfl⟩)
    go_step3
    refine ⟨rfl, ?_⟩
    go_wp2_with fail
    rw [Exit.noGoto_ret]
    refine bodyPost_ret (v := .tuple #[.slice none 0 0, .int .i64 2]) (by simp [results, Tryd.results28, go_sem]) rfl ⟨route_refused _ (by rw [HRE.out]; rfl) (by decide), HC0.out.trans HAL.out⟩
  case true =>
    have HAM := Go.Lib.hid hr
    clear hr
    go_wp2_with (go_at_call 18; refine HCK.out.mono ?_; rintro e w' ⟨rfl, rfl⟩)
    generalize hW1 : World.alloc W0 _ = W1 at *
    have HC1 := Go.Lib.hid (HC0.out.trans HAL.out)
    have HF1 := Go.Lib.hid (HF0.out.ch HAL.out)
    have HROW1 := Go.Lib.hid (HAL.out.heap HROW.out id)
    clear hW1 HCK HF0 HROW HC0
    go_loopw [8, 9, 10, 24] (fun e _ _ i wr => ∃ k : Nat, k ≤ N ∧ i = .int .i64 k ∧ e = .int .i64 0 ∧ feesOk b r k = true ∧ Ch (fun _ => False) W1 wr) (fun _ _ _ i _ => N - (intOf i).toNat)
    case atStart => exact ⟨0, by omega, rfl, rfl, rfl, Ch.refl _ _⟩
    case round =>
      obtain ⟨k, hk, rfl, rfl, ho, hC⟩ := hrel
      have HO := Go.Lib.hid ho; have HC := Go.Lib.hid hC
      clear ho hC
      by_cases hkn : k < N
      · obtain ⟨x, y, rfl, hxs, hcb, hcr⟩ := (HF1.out.ch HC.out).at hkn
        have HFB := Go.Lib.hid (show feesOk b r (k + 1) = (feesOk b r k && (rightB (b k) && rateB (r k))) from rfl)
        have HTB := Go.Lib.hid (fun W => tollBad_any (b k) (r k) am W)
        have HTO := Go.Lib.hid (show tollOk (b k) (r k) am = (rightB (b k) && rateB (r k)) by unfold tollOk; rw [HAM.out]; simp)
        cases hfo : rightB (b k) && rateB (r k) <;> rw [hfo] at HTO HFB <;> rw [HTO.out] at HTB
        · have HBD := Go.Lib.hid (feesOk_bad hkn hfo)
          clear hfo
          generalize b k = bk at *
          generalize r k = rk at *
          go_wp2_with fail
          refine (HTB.out _).mono ?_
          rintro e w2 ⟨rfl, hc2⟩
          have HC2 := Go.Lib.hid (HC.out.trans (((Ch.refl (fun _ => False) wr).alloc _).trans hc2))
          clear hc2
          go_wp2_with fail
          go_step3
          refine ⟨rfl, ?_⟩
          go_wp2_with fail
          rw [Exit.noGoto_ret]
          refine bodyPost_ret (v := .tuple #[.slice none 0 0, .int .i64 2]) (by simp [results, Tryd.results28, go_sem]) rfl ⟨route_refused _ (by rw [HRE.out, HBD.out]; rfl) (by decide), HC1.out.trans HC2.out⟩
        · have HFB2 := Go.Lib.hid (show feesOk b r (k + 1) = true by rw [HFB.out, HO.out]; rfl)
          clear hfo
          generalize b k = bk at *
          generalize r k = rk at *
          go_wp2_with fail
          refine (HTB.out _).mono ?_
          rintro e w2 ⟨rfl, hc2⟩
          have HC2 := Go.Lib.hid (HC.out.trans (((Ch.refl (fun _ => False) wr).alloc _).trans hc2))
          clear hc2
          go_wp2_with fail
          go_roundw
          case rel => exact ⟨k + 1, by omega, by go_num, rfl, HFB2.out, HC2.out⟩
          case measure => simp [intOf]; omega
      · obtain rfl : k = N := by omega
        have HROW2 := Go.Lib.hid (HC.out.heap HROW1.out id)
        have HF2 := Go.Lib.hid (HF1.out.ch HC.out)
        have HC2 := Go.Lib.hid (HC1.out.trans HC.out)
        have hcell : wr.cell? ⟨w.heap.size, k, none⟩ = some (.int .i64 0) := (cell_of_heap HROW2.out k).trans (arr_get _ _ k (by omega))
        have hfz : wr.frozen? ⟨w.heap.size, k, none⟩ = false := frozen_of_heap HROW2.out k
        have HRX := Go.Lib.hid (show (arr (k + 1) fun j => if j = k then Value.int .i64 am else .int .i64 0) = rowK b r am k 0 by
          unfold rowK
          refine arr_congr fun j hj => ?_
          by_cases e : j = k
          · rw [if_pos e, if_pos (by omega), e, Nat.sub_self]; rfl
          · rw [if_neg e, if_neg (by omega)])
        clear HROW1 HF1 HC1 HRE
        go_wp2_with fail
        generalize hW3 : World.setCell wr _ _ = W3
        have HROW3 := Go.Lib.hid (show W3.heap[w.heap.size]? = some (.cells (rowK b r am k 0) 2) by rw [← hW3, ← HRX.out]; exact heap_set HROW2.out k _)
        have HC3 := Go.Lib.hid (show Ch (fun _ => False) w W3 by rw [← hW3]; exact Ch.setCell (S := fun _ => False) HC2.out (p := ⟨w.heap.size, k, none⟩) (fun h => absurd h (Nat.lt_irrefl _)) _)
        clear hW3 hcell hfz HROW2 HC2 HF2 HRX
        go_loopw [8, 11, 12, 41] (fun e _ _ i wz => ∃ t : Nat, t ≤ k ∧ i = .int .i64 t ∧ e = .int .i64 0 ∧ rtE b r am k t = 0 ∧ wz.heap[w.heap.size]? = some (.cells (rowK b r am k t) 2) ∧ Ch (fun _ => False) w wz) (fun _ _ _ i _ => k - (intOf i).toNat)
        case atStart => exact ⟨0, by omega, rfl, rfl, rfl, HROW3.out, HC3.out⟩
        case round =>
          obtain ⟨t, ht, rfl, rfl, ho, hrow, hC⟩ := hrel
          have HO2 := Go.Lib.hid ho; have HC4 := Go.Lib.hid hC; have HROW4 := Go.Lib.hid hrow
          clear ho hC hrow HROW3 HC3
          by_cases htk : t < k
          · obtain ⟨pl, hpl⟩ : ∃ pl, pl + t + 1 = k := ⟨k - 1 - t, by omega⟩
            obtain ⟨x, y, rfl, hxs, hcb, hcr⟩ := HF.out.at (show pl < k by omega)
            have HCB := Go.Lib.hid hcb; have HCR0 := Go.Lib.hid hcr
            have HV1 := Go.Lib.hid (show rtV b r am k (t + 1) = sendV (b pl) (r pl) (rtV b r am k t) by rw [rtV, show k - 1 - t = pl by omega])
            have HE1 := Go.Lib.hid (show rtE b r am k (t + 1) = sendE (b pl) (r pl) (rtV b r am k t) by rw [rtE, if_pos HO2.out, show k - 1 - t = pl by omega])
            have HCELL := Go.Lib.hid (show (rowK b r am k t)[pl + 1]? = some (.int .i64 (rtV b r am k t)) by
              unfold rowK; rw [arr_get _ _ _ (by omega), if_pos (by omega), show k - (pl + 1) = t by omega])
            have HCELL0 := Go.Lib.hid (show (rowK b r am k t)[pl]? = some (.int .i64 0) by
              unfold rowK; rw [arr_get _ _ _ (by omega), if_neg (by omega)])
            have HNEW := Go.Lib.hid (show (arr (k + 1) fun j => if j = pl then Value.int .i64 (rtV b r am k (t + 1)) else .int .i64 (if k - t ≤ j then rtV b r am k (k - j) else 0)) = rowK b r am k (t + 1) by
              unfold rowK
              refine arr_congr fun j hj => ?_
              by_cases e : j = pl
              · rw [if_pos e, if_pos (by omega), e, show k - pl = t + 1 by omega]
              · rw [if_neg e]
                by_cases e2 : k - t ≤ j
                · rw [if_pos e2, if_pos (by omega)]
                · rw [if_neg e2, if_neg (by omega)])
            have HCELL1 := Go.Lib.hid (show (rowK b r am k (t + 1))[pl + 1]? = some (.int .i64 (rtV b r am k t)) by
              unfold rowK; rw [arr_get _ _ _ (by omega), if_pos (by omega), show k - (pl + 1) = t by omega])
            have HSD := Go.Lib.hid (fun W => send_any (b pl) (r pl) (rtV b r am k t) W)
            have HSTAY := Go.Lib.hid (fun (h : rtE b r am k (t + 1) ≠ 0) => show rtE b r am k k = rtE b r am k (t + 1) by
              have := rtE_stays h (k - (t + 1)); rwa [show t + 1 + (k - (t + 1)) = k by omega] at this)
            obtain ⟨G, hG1, hG2⟩ : ∃ G : Nat → Value, rowK b r am k t = arr (k + 1) G ∧ (arr (k + 1) fun j => if j = pl then Value.int .i64 (rtV b r am k (t + 1)) else G j) = rowK b r am k (t + 1) := ⟨_, rfl, HNEW.out⟩
            rw [hG1] at HROW4 HCELL HCELL0
            have HG2 := Go.Lib.hid hG2
            clear HNEW hG1 hG2
            have HRE := Go.Lib.hid (show routeE b r am k = rtE b r am k k by unfold routeE; rw [HAM.out, HO.out]; rfl)
            have HROK := Go.Lib.hid (fun (W : World) => route_refused (b := b) (r := r) (am := am) (N := k) (x := rtE b r am k (t + 1)) W)
            rw [← HV1.out, ← HE1.out] at HSD
            have hw2 : wrap64 ((k : Int) - 1) = (k : Int) - 1 := by unfold wrap64; omega
            have hw3 : wrap64 ((k : Int) - 1 - (t : Int)) = (pl : Int) := by unfold wrap64; omega
            have hw4 : wrap64 ((pl : Int) + 1) = ((pl + 1 : Nat) : Int) := by unfold wrap64; omega
            have hplk : pl < k := by omega
            have HPL := Go.Lib.hid hpl
            have HWA := Go.Lib.hid (show IntKind.i64.wrap ((pl : Int) + 1) = ((pl + 1 : Nat) : Int) by rw [IntKind.wrap_i64]; omega)
            clear hcb hcr hpl HV1 HE1
            go_upto_region 17 with (fail)
            clear hw2 hw3
            generalize hBR : rowK b r am k (t + 1) = BR at *
            have HBR := Go.Lib.hid hBR
            clear hBR
            generalize rtV b r am k (t + 1) = V1 at *
            obtain ⟨E1, hE1⟩ : ∃ E1, rtE b r am k (t + 1) = E1 := ⟨_, rfl⟩
            rw [hE1] at HSD HSTAY HROK
            have HE1Z := Go.Lib.hid hE1
            clear hE1
            generalize rtV b r am k t = V0 at *
            generalize b pl = bk at *
            generalize r pl = rk at *
            refine wp_region_any (by kernel_rfl) ?_
            generalize hwx : ({ wr with drawn := wr.drawn + 1 } : World) = wx
            have hcx : Ch (fun _ => False) wr wx := by rw [← hwx]; exact (Ch.refl _ wr).drew
            have HCX := Go.Lib.hid (HC4.out.trans hcx)
            have HRX := Go.Lib.hid (hcx.heap HROW4.out id)
            have HRL := Go.Lib.hid (show w.heap.size < wx.heap.size from (Array.getElem?_eq_some_iff.1 (hcx.heap HROW4.out id)).1)
            have HB0 := Go.Lib.hid (HCX.out.get HCB.out id)
            have HB1 := Go.Lib.hid (HCX.out.get HCR0.out id)
            have HXN := Go.Lib.hid (show x ≠ w.heap.size from fun h => absurd hxs (by omega))
            clear hwx hcx HROW4 HC4
            generalize hax : Act.mk _ _ = ax
            have HSZ := Go.Lib.hid (show ax.tmps.size = 69 by rw [← hax]; rfl)
            have F1 := Go.Lib.hid (show gt ax 1 = .slice (some ⟨x, y, none⟩) k c by rw [← hax]; rfl)
            have F7 := Go.Lib.hid (show gt ax 7 = .slice (some ⟨w.heap.size, 0, none⟩) (k + 1) (k + 1) by rw [← hax]; rfl)
            have F12 := Go.Lib.hid (show gt ax 12 = .int .i64 (pl : Int) by rw [← hax]; show Value.int .i64 ((k : Int) - 1 - (t : Int)) = _; congr 1; have := HPL.out; omega)
            have HAXE := Go.Lib.hid hax
            clear hax
            have HND := Go.Lib.hid (show ([49, 50, 51, 52, 53, 54, 55, 56, 57, 58, 59, 60, 48, 61, 62, 63, 69, 8] : List Nat).Nodup by decide)
            refine wpAny_inv (InvD 69 [(49, .slice (some ⟨w.heap.size, 0, none⟩) (k + 1) (k + 1)), (50, .int .i64 (pl : Int)), (51, .slice (some ⟨x, y, none⟩) k c), (52, .int .i64 (pl : Int)), (53, .pointer (some ⟨x, y + pl * 2, none⟩)), (54, .agg #[.int .i64 bk, .int .i64 rk]), (55, .slice (some ⟨w.heap.size, 0, none⟩) (k + 1) (k + 1)), (56, .int .i64 (pl : Int)), (57, .int .i64 ((pl + 1 : Nat) : Int)), (58, .pointer (some ⟨w.heap.size, pl + 1, none⟩)), (59, .int .i64 V0), (60, .tuple #[.int .i64 V1, .int .i64 E1]), (48, .tuple #[.int .i64 V1, .int .i64 E1]), (61, .int .i64 V1), (62, .int .i64 E1), (63, .pointer (some ⟨w.heap.size, pl, none⟩)), (69, undef), (8, .int .i64 E1)] (IRow 16 18 wx w.heap.size (arr (k + 1) G) BR) ax) ?_ ?_ _ _ _ _ rfl (by decide) (InvD.start rfl HSZ.out ⟨Ch.refl _ _, fun _ => HRX.out, fun h => (lg_none' _ _ h).elim⟩)
            · intro L a w' i hI hr
              obtain ⟨h1, o, ho, hall⟩ := mem_ready.1 hr
              have hun0 : lg L i = false := by
                have h2 : i < L.size := by have := (Array.getElem?_eq_some_iff.1 ho).1; rw [hI.lsize]; exact this
                unfold lg; simp [h2] at h1 ⊢; exact h1
              have hlt : i < 18 := (Array.getElem?_eq_some_iff.1 ho).1
              have hsplit : i = 0 ∨ i = 1 ∨ i = 2 ∨ i = 3 ∨ i = 4 ∨ i = 5 ∨ i = 6 ∨ i = 7 ∨ i = 8 ∨ i = 9 ∨ i = 10 ∨ i = 11 ∨ i = 12 ∨ i = 13 ∨ i = 14 ∨ i = 15 ∨ i = 16 ∨ i = 17 := by omega
              clear hlt h1 hr
              rcases hsplit with rfl | rfl | rfl | rfl | rfl | rfl | rfl | rfl | rfl | rfl | rfl | rfl | rfl | rfl | rfl | rfl | rfl | rfl
              · have q7 := (hI.fixed 7 (by simp)).trans F7.out
                unfold gt at q7
                clear hall
                refine wpOp_step (o := _) rfl (fun K' hK' => ?_)
                go_simp
                exact hK' _ _ (hI.put 0 rfl (by decide) HND.out (hI.wld.keep hI.lsize 0 (by decide) (by decide) (Ch.refl _ _)))
              · have q12 := (hI.fixed 12 (by simp)).trans F12.out
                unfold gt at q12
                clear hall
                refine wpOp_step (o := _) rfl (fun K' hK' => ?_)
                go_simp
                exact hK' _ _ (hI.put 1 rfl (by decide) HND.out (hI.wld.keep hI.lsize 1 (by decide) (by decide) (Ch.refl _ _)))
              · have q1 := (hI.fixed 1 (by simp)).trans F1.out
                unfold gt at q1
                clear hall
                refine wpOp_step (o := _) rfl (fun K' hK' => ?_)
                go_simp
                exact hK' _ _ (hI.put 2 rfl (by decide) HND.out (hI.wld.keep hI.lsize 2 (by decide) (by decide) (Ch.refl _ _)))
              · have q12 := (hI.fixed 12 (by simp)).trans F12.out
                unfold gt at q12
                clear hall
                refine wpOp_step (o := _) rfl (fun K' hK' => ?_)
                go_simp
                exact hK' _ _ (hI.put 3 rfl (by decide) HND.out (hI.wld.keep hI.lsize 3 (by decide) (by decide) (Ch.refl _ _)))
              · simp at ho
                have e2 : lg L 2 = true := by unfold lg; simpa using hall ⟨2, .data⟩ (by rw [← ho]; simp) rfl
                have f2 : gt a 51 = .slice (some ⟨x, y, none⟩) k c := hI.val 2 (51, .slice (some ⟨x, y, none⟩) k c) rfl e2
                have e3 : lg L 3 = true := by unfold lg; simpa using hall ⟨3, .data⟩ (by rw [← ho]; simp) rfl
                have f3 : gt a 52 = .int .i64 (pl : Int) := hI.val 3 (52, .int .i64 (pl : Int)) rfl e3
                unfold gt at f2 f3
                clear hall
                clear ho
                refine wpOp_step (o := _) rfl (fun K' hK' => ?_)
                go_simp
                exact hK' _ _ (hI.put 4 rfl (by decide) HND.out (hI.wld.keep hI.lsize 4 (by decide) (by decide) (Ch.refl _ _)))
              · simp at ho
                have e4 : lg L 4 = true := by unfold lg; simpa using hall ⟨4, .data⟩ (by rw [← ho]; simp) rfl
                have f4 : gt a 53 = .pointer (some ⟨x, y + pl * 2, none⟩) := hI.val 4 (53, .pointer (some ⟨x, y + pl * 2, none⟩)) rfl e4
                have hc0 := hI.wld.ch.get HB0.out HXN.out
                have hc1 := hI.wld.ch.get HB1.out HXN.out
                unfold gt at f4
                clear hall
                clear ho
                refine wpOp_step (o := _) rfl (fun K' hK' => ?_)
                go_simp
                exact hK' _ _ (hI.put 5 rfl (by decide) HND.out (hI.wld.keep hI.lsize 5 (by decide) (by decide) (Ch.refl _ _)))
              · have q7 := (hI.fixed 7 (by simp)).trans F7.out
                unfold gt at q7
                clear hall
                refine wpOp_step (o := _) rfl (fun K' hK' => ?_)
                go_simp
                exact hK' _ _ (hI.put 6 rfl (by decide) HND.out (hI.wld.keep hI.lsize 6 (by decide) (by decide) (Ch.refl _ _)))
              · have q12 := (hI.fixed 12 (by simp)).trans F12.out
                unfold gt at q12
                clear hall
                refine wpOp_step (o := _) rfl (fun K' hK' => ?_)
                go_simp
                exact hK' _ _ (hI.put 7 rfl (by decide) HND.out (hI.wld.keep hI.lsize 7 (by decide) (by decide) (Ch.refl _ _)))
              · simp at ho
                have e7 : lg L 7 = true := by unfold lg; simpa using hall ⟨7, .data⟩ (by rw [← ho]; simp) rfl
                have f7 : gt a 56 = .int .i64 (pl : Int) := hI.val 7 (56, .int .i64 (pl : Int)) rfl e7
                have hwa := HWA.out
                unfold gt at f7
                clear hall
                clear ho
                refine wpOp_step (o := _) rfl (fun K' hK' => ?_)
                go_simp
                exact hK' _ _ (hI.put 8 rfl (by decide) HND.out (hI.wld.keep hI.lsize 8 (by decide) (by decide) (Ch.refl _ _)))
              · simp at ho
                have e6 : lg L 6 = true := by unfold lg; simpa using hall ⟨6, .data⟩ (by rw [← ho]; simp) rfl
                have f6 : gt a 55 = .slice (some ⟨w.heap.size, 0, none⟩) (k + 1) (k + 1) := hI.val 6 (55, .slice (some ⟨w.heap.size, 0, none⟩) (k + 1) (k + 1)) rfl e6
                have e8 : lg L 8 = true := by unfold lg; simpa using hall ⟨8, .data⟩ (by rw [← ho]; simp) rfl
                have f8 : gt a 57 = .int .i64 ((pl + 1 : Nat) : Int) := hI.val 8 (57, .int .i64 ((pl + 1 : Nat) : Int)) rfl e8
                unfold gt at f6 f8
                clear hall
                clear ho
                refine wpOp_step (o := _) rfl (fun K' hK' => ?_)
                go_simp
                exact hK' _ _ (hI.put 9 rfl (by decide) HND.out (hI.wld.keep hI.lsize 9 (by decide) (by decide) (Ch.refl _ _)))
              · simp at ho
                have e9 : lg L 9 = true := by unfold lg; simpa using hall ⟨9, .data⟩ (by rw [← ho]; simp) rfl
                have f9 : gt a 58 = .pointer (some ⟨w.heap.size, pl + 1, none⟩) := hI.val 9 (58, .pointer (some ⟨w.heap.size, pl + 1, none⟩)) rfl e9
                have hc0 : w'.cell? ⟨w.heap.size, pl + 1, none⟩ = some (.int .i64 V0) := by
                  cases hl : lg L 16 with
                  | false => exact (cell_of_heap (hI.wld.row hl) _).trans HCELL.out
                  | true => exact (cell_of_heap (hI.wld.done hl) _).trans HCELL1.out
                unfold gt at f9
                clear hall
                clear ho
                refine wpOp_step (o := _) rfl (fun K' hK' => ?_)
                go_simp
                exact hK' _ _ (hI.put 10 rfl (by decide) HND.out (hI.wld.keep hI.lsize 10 (by decide) (by decide) (Ch.refl _ _)))
              · simp at ho
                have e5 : lg L 5 = true := by unfold lg; simpa using hall ⟨5, .data⟩ (by rw [← ho]; simp) rfl
                have f5 : gt a 54 = .agg #[.int .i64 bk, .int .i64 rk] := hI.val 5 (54, .agg #[.int .i64 bk, .int .i64 rk]) rfl e5
                have e10 : lg L 10 = true := by unfold lg; simpa using hall ⟨10, .data⟩ (by rw [← ho]; simp) rfl
                have f10 : gt a 59 = .int .i64 V0 := hI.val 10 (59, .int .i64 V0) rfl e10
                unfold gt at f5 f10
                clear hall
                clear ho
                have HCT := Go.Lib.hid (HSD.out w')
                refine wpOp_step (o := _) rfl (fun K' hK' => ?_)
                go_simp
                refine HCT.out.mono ?_
                rintro e w3 ⟨rfl, hc⟩
                exact hK' _ _ (hI.put 11 rfl (by decide) HND.out (hI.wld.keep hI.lsize 11 (by decide) (by decide) hc))
              · simp at ho
                have e11 : lg L 11 = true := by unfold lg; simpa using hall ⟨11, .data⟩ (by rw [← ho]; simp) rfl
                have f11 : gt a 60 = .tuple #[.int .i64 V1, .int .i64 E1] := hI.val 11 (60, .tuple #[.int .i64 V1, .int .i64 E1]) rfl e11
                unfold gt at f11
                clear hall
                clear ho
                refine wpOp_step (o := _) rfl (fun K' hK' => ?_)
                go_simp
                exact hK' _ _ (hI.put 12 rfl (by decide) HND.out (hI.wld.keep hI.lsize 12 (by decide) (by decide) (Ch.refl _ _)))
              · simp at ho
                have e12 : lg L 12 = true := by unfold lg; simpa using hall ⟨12, .data⟩ (by rw [← ho]; simp) rfl
                have f12 : gt a 48 = .tuple #[.int .i64 V1, .int .i64 E1] := hI.val 12 (48, .tuple #[.int .i64 V1, .int .i64 E1]) rfl e12
                unfold gt at f12
                clear hall
                clear ho
                refine wpOp_step (o := _) rfl (fun K' hK' => ?_)
                go_simp
                exact hK' _ _ (hI.put 13 rfl (by decide) HND.out (hI.wld.keep hI.lsize 13 (by decide) (by decide) (Ch.refl _ _)))
              · simp at ho
                have e12 : lg L 12 = true := by unfold lg; simpa using hall ⟨12, .data⟩ (by rw [← ho]; simp) rfl
                have f12 : gt a 48 = .tuple #[.int .i64 V1, .int .i64 E1] := hI.val 12 (48, .tuple #[.int .i64 V1, .int .i64 E1]) rfl e12
                unfold gt at f12
                clear hall
                clear ho
                refine wpOp_step (o := _) rfl (fun K' hK' => ?_)
                go_simp
                exact hK' _ _ (hI.put 14 rfl (by decide) HND.out (hI.wld.keep hI.lsize 14 (by decide) (by decide) (Ch.refl _ _)))
              · simp at ho
                have e0 : lg L 0 = true := by unfold lg; simpa using hall ⟨0, .data⟩ (by rw [← ho]; simp) rfl
                have f0 : gt a 49 = .slice (some ⟨w.heap.size, 0, none⟩) (k + 1) (k + 1) := hI.val 0 (49, .slice (some ⟨w.heap.size, 0, none⟩) (k + 1) (k + 1)) rfl e0
                have e1 : lg L 1 = true := by unfold lg; simpa using hall ⟨1, .data⟩ (by rw [← ho]; simp) rfl
                have f1 : gt a 50 = .int .i64 (pl : Int) := hI.val 1 (50, .int .i64 (pl : Int)) rfl e1
                have hpl1 : (pl : Int) < (k : Int) + 1 := by omega
                unfold gt at f0 f1
                clear hall
                clear ho
                refine wpOp_step (o := _) rfl (fun K' hK' => ?_)
                go_simp
                exact hK' _ _ (hI.put 15 rfl (by decide) HND.out (hI.wld.keep hI.lsize 15 (by decide) (by decide) (Ch.refl _ _)))
              · simp at ho
                have e15 : lg L 15 = true := by unfold lg; simpa using hall ⟨15, .data⟩ (by rw [← ho]; simp) rfl
                have f15 : gt a 63 = .pointer (some ⟨w.heap.size, pl, none⟩) := hI.val 15 (63, .pointer (some ⟨w.heap.size, pl, none⟩)) rfl e15
                have e13 : lg L 13 = true := by unfold lg; simpa using hall ⟨13, .data⟩ (by rw [← ho]; simp) rfl
                have f13 : gt a 61 = .int .i64 V1 := hI.val 13 (61, .int .i64 V1) rfl e13
                have hrow := hI.wld.row hun0
                have hcA : w'.cell? ⟨w.heap.size, pl, none⟩ = some (.int .i64 0) := (cell_of_heap hrow _).trans HCELL0.out
                have hfA : w'.frozen? ⟨w.heap.size, pl, none⟩ = false := frozen_of_heap hrow _
                unfold gt at f15 f13
                clear hall
                clear ho
                refine wpOp_step (o := _) rfl (fun K' hK' => ?_)
                go_simp
                exact hK' _ _ (hI.skip 16 rfl (by decide) (hI.wld.store hI.lsize (by decide) hrow HG2.out))
              · simp at ho
                have e14 : lg L 14 = true := by unfold lg; simpa using hall ⟨14, .data⟩ (by rw [← ho]; simp) rfl
                have f14 : gt a 62 = .int .i64 E1 := hI.val 14 (62, .int .i64 E1) rfl e14
                unfold gt at f14
                clear hall
                clear ho
                refine wpOp_step (o := _) rfl (fun K' hK' => ?_)
                go_simp
                exact hK' _ _ (hI.put 17 rfl (by decide) HND.out (hI.wld.keep hI.lsize 17 (by decide) (by decide) (Ch.refl _ _)))
            · intro L a w' hI hr
              have hal := all_listed' (md := .any) (by kernel_rfl) hI.lsize hr
              have hfr := hI.frame HSZ.out (by simp) (fun i hi => hal i hi)
              rw [hfr, ← HAXE.out]
              have HRW := Go.Lib.hid (hI.wld.done (hal 16 (by decide)))
              have HCZ := Go.Lib.hid (show Ch (fun _ => False) w w' from HCX.out.then hI.wld.ch (fun i hi h => absurd h (by omega)))
              clear hfr hI hr hal
              simp only [List.foldl_cons, List.foldl_nil, List.setIfInBounds_toArray, List.set_cons_succ, List.set_cons_zero]
              by_cases hE : E1 = 0
              · subst hE
                go_wp2_with fail
                go_roundw
                case rel => exact ⟨t + 1, by omega, by go_num, rfl, HE1Z.out, by rw [HBR.out]; exact HRW.out, HCZ.out⟩
                case measure => simp [intOf]; omega
              · have hne : (E1 != 0) = true := by rw [bne_iff_ne]; exact hE
                go_wp2_with fail
                go_step3
                refine ⟨rfl, ?_⟩
                go_wp2_with fail
                rw [Exit.noGoto_ret]
                refine bodyPost_ret (v := .tuple #[.slice none 0 0, .int .i64 E1]) (by simp [results, Tryd.results28, go_sem]) rfl ⟨HROK.out _ (by rw [HRE.out]; exact HSTAY.out hE) hE, HCZ.out⟩
          · obtain rfl : t = k := by omega
            have HRE := Go.Lib.hid (show routeE b r am t = 0 by unfold routeE; rw [HAM.out, HO.out]; exact HO2.out)
            go_wp2_with fail
            rw [Exit.jump_ret]
            refine bodyPost_ret (v := .tuple #[.slice (some ⟨w.heap.size, 0, none⟩) (t + 1) (t + 1), .int .i64 0]) (by simp [results, Tryd.results28, go_sem]) rfl ⟨route_ok HRE.out HROW4.out, HC4.out⟩
end Go.Proofs.YtcceialiedaccaaDoor
