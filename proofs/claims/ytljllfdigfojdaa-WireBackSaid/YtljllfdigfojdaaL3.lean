/- The reference's Truth, Text; what is told of no writer; few. -/
import Derived.Test.YtljllfdigfojdaaL2
namespace Go.Proofs.Ytljllfdigfojdaa
open Go Go.RowKit

theorem rtruth_any (x : Bool) (w : World) :
    Calls Try.prog 36 #[.bool x] w fun e w' => ∃ v', e = .returned v' ∧ w'.ownsRow w.heap.size 5 1 v' 1 (fL (fun _ => if x then 1 else 0) 1) ∧ Ch (fun _ => False) w w' := by
  cases x with
  | true =>
    have HO := Go.Lib.hid (own_new w 1 (fun _ => 1) rfl)
    go_enter Try.func36, Try.ntmps36
    go_wp2_with fail
    go_ret
    exact ⟨_, rfl, HO.out, (Ch.refl _ w).alloc _⟩
  | false =>
    have HO := Go.Lib.hid (own_new w 0 (fun _ => 0) rfl)
    go_enter Try.func36, Try.ntmps36
    go_wp2_with fail
    go_ret
    exact ⟨_, rfl, HO.out, (Ch.refl _ w).alloc _⟩
theorem textB_num (s : ByteArray) (j : Nat) (h : j < numL s.size) : textB s j = numB s.size j := if_pos h
theorem textB_s (s : ByteArray) (j : Nat) : textB s (numL s.size + j) = sByte s j := by unfold textB; rw [if_neg (by omega), Nat.add_sub_cancel_left]
theorem rtext_any (s : ByteArray) (w : World) (hs : s.size ≤ 1000000000) :
    Calls Try.prog 37 #[.string s] w fun e w' => ∃ v', e = .returned v' ∧ w'.ownsRow w.heap.size 5 1 v' (textL s) (fL (textB s) (textL s)) ∧ Ch (fun _ => False) w w' := by
  have HN := Go.Lib.hid (rnum_any s.size w (by omega))
  have HL := Go.Lib.hid (show textL s = numL s.size + s.size from rfl)
  have HE := Go.Lib.hid (fL_congr (numL s.size) (fun j hj => (textB_num s j hj).symm))
  have HS := Go.Lib.hid (fun j (_ : j < s.size) => textB_s s j)
  have hnl := numL_le s.size
  rw [HL.out]
  go_enter Try.func37, Try.ntmps37
  go_wp2_with fail
  refine HN.out.mono ?_
  rintro e w1 ⟨v1, rfl, ho1, hc1⟩
  rw [HE.out] at ho1
  obtain ⟨p1, c1, rfl, -⟩ := own_bytes ho1
  have HO1 := Go.Lib.hid ho1; have HC1 := Go.Lib.hid hc1
  have hsz := hc1.size
  clear ho1 hc1
  go_wp2_with (at_builtin; refine wpList_append_text rfl (.tmp 5) (.tmp 6) rfl w.heap.size (numL s.size) (.slice p1 (numL s.size) c1) (textB s) s rfl HO1.out rfl HS.out (by omega) hsz ?_; intro v3 w3 ho3 hg3; have HO3 := Go.Lib.hid ho3; have HC3 := Go.Lib.hid (HC1.out.then hg3.ch (fun i hi e => by have := (HO1.out.lt i e).1; omega)); clear ho3 hg3)
  go_ret
  exact ⟨_, rfl, HO3.out, HC3.out⟩
/-- No writer. -/
def NoneAt (w : World) (v : Value) : Prop := v = .pointer none ∨ ∃ b, v = .pointer (some ⟨b, 0, none⟩) ∧ w.heap[b]? = some (.cells #[.slice none 0 0, .bool false] 39)
theorem NoneAt.ch {w w' : World} {v : Value} (h : NoneAt w v) (hc : Ch (fun _ => False) w w') : NoneAt w' v := h.imp id fun ⟨b, e, h⟩ => ⟨b, e, hc.heap h id⟩
theorem nthere_any (v : Value) (w : World) (h : NoneAt w v) : Calls Try.prog 38 #[v] w fun e w' => e = .returned (.bool false) ∧ w = w' := by
  rcases h with rfl | ⟨b, rfl, h⟩
  · go_enter Try.func38, Try.ntmps38
    go_wp2
    go_ret
    exact ⟨rfl, rfl⟩
  · have h1 : w.cell? ⟨b, 1, none⟩ = some (.bool false) := (cell_of_heap h 1).trans rfl
    clear h
    go_enter Try.func38, Try.ntmps38
    go_wp2
    go_ret
    exact ⟨rfl, rfl⟩
theorem nlay42 (v f x : Value) (w : World) (h : NoneAt w v) : Calls Try.prog 42 #[v, f, x] w fun e w' => e = .returned (.int .i64 1) ∧ w = w' := by
  have HT := Go.Lib.hid (nthere_any v w h)
  clear h
  go_enter Try.func42, Try.ntmps42
  go_wp2_with (go_at_call 38; refine HT.out.mono ?_; rintro e w' ⟨rfl, rfl⟩)
  go_ret
  exact ⟨rfl, rfl⟩
theorem nlay44 (v f x : Value) (w : World) (h : NoneAt w v) : Calls Try.prog 44 #[v, f, x] w fun e w' => e = .returned (.int .i64 1) ∧ w = w' := by
  have HT := Go.Lib.hid (nthere_any v w h)
  clear h
  go_enter Try.func44, Try.ntmps44
  go_wp2_with (go_at_call 38; refine HT.out.mono ?_; rintro e w' ⟨rfl, rfl⟩)
  go_ret
  exact ⟨rfl, rfl⟩
theorem nlay46 (v f x : Value) (w : World) (h : NoneAt w v) : Calls Try.prog 46 #[v, f, x] w fun e w' => e = .returned (.int .i64 1) ∧ w = w' := by
  have HT := Go.Lib.hid (nthere_any v w h)
  clear h
  go_enter Try.func46, Try.ntmps46
  go_wp2_with (go_at_call 38; refine HT.out.mono ?_; rintro e w' ⟨rfl, rfl⟩)
  go_ret
  exact ⟨rfl, rfl⟩
theorem nlay48 (v f x : Value) (w : World) (h : NoneAt w v) : Calls Try.prog 48 #[v, f, x] w fun e w' => e = .returned (.int .i64 1) ∧ w = w' := by
  have HT := Go.Lib.hid (nthere_any v w h)
  clear h
  go_enter Try.func48, Try.ntmps48
  go_wp2_with (go_at_call 38; refine HT.out.mono ?_; rintro e w' ⟨rfl, rfl⟩)
  go_ret
  exact ⟨rfl, rfl⟩
theorem n15 (v x : Value) (w : World) (h : NoneAt w v) : Calls Try.prog 15 #[v, x] w fun e w' => e = .returned (.int .i64 1) ∧ w = w' := by
  have HT := Go.Lib.hid (nthere_any v w h); have HL := Go.Lib.hid (nlay42 v (.func (.func 43) #[] #[]) x w h)
  clear h
  go_enter Try.func15, Try.ntmps15
  go_wp2_with (first | (go_at_call 38; refine HT.out.mono ?_; rintro e w' ⟨rfl, rfl⟩) | (go_at_call 42; refine HL.out.mono ?_; rintro e w' ⟨rfl, rfl⟩))
  go_ret
  exact ⟨rfl, rfl⟩
theorem n16 (v x : Value) (w : World) (h : NoneAt w v) : Calls Try.prog 16 #[v, x] w fun e w' => e = .returned (.int .i64 1) ∧ w = w' := by
  have HL := Go.Lib.hid (nlay44 v (.func (.func 45) #[] #[]) x w h)
  clear h
  go_enter Try.func16, Try.ntmps16
  go_wp2_with (go_at_call 44; refine HL.out.mono ?_; rintro e w' ⟨rfl, rfl⟩)
  go_ret
  exact ⟨rfl, rfl⟩
theorem n17 (v x : Value) (w : World) (h : NoneAt w v) : Calls Try.prog 17 #[v, x] w fun e w' => e = .returned (.int .i64 1) ∧ w = w' := by
  have HL := Go.Lib.hid (nlay46 v (.func (.func 47) #[] #[]) x w h)
  clear h
  go_enter Try.func17, Try.ntmps17
  go_wp2_with (go_at_call 46; refine HL.out.mono ?_; rintro e w' ⟨rfl, rfl⟩)
  go_ret
  exact ⟨rfl, rfl⟩
theorem n18 (v : Value) (s : ByteArray) (w : World) (h : NoneAt w v) (hs : s.size ≤ 1000) : Calls Try.prog 18 #[v, .string s] w fun e w' => e = .returned (.int .i64 1) ∧ Ch (fun _ => False) w w' := by
  have HT := Go.Lib.hid (nthere_any v w h); have HL := Go.Lib.hid (fun x W (hc : Ch (fun _ => False) w W) => nlay48 v (.func (.func 49) #[] #[]) x W (h.ch hc))
  have hs' : ¬ (1048576 : Int) < (s.size : Int) := by omega
  clear h hs
  go_enter Try.func18, Try.ntmps18
  go_wp2_with (first | (go_at_call 38; refine HT.out.mono ?_; rintro e w' ⟨rfl, rfl⟩) | (go_at_call 48; refine (HL.out _ _ ((Ch.refl _ w).alloc _)).mono ?_; rintro e w' ⟨rfl, rfl⟩))
  go_ret
  exact ⟨rfl, (Ch.refl _ w).alloc _⟩
theorem n13 (v : Value) (w : World) (h : NoneAt w v) : Calls Try.prog 13 #[v] w fun e w' => e = .returned (.slice none 0 0) ∧ w = w' := by
  have HT := Go.Lib.hid (nthere_any v w h)
  clear h
  go_enter Try.func13, Try.ntmps13
  go_wp2_with (go_at_call 38; refine HT.out.mono ?_; rintro e w' ⟨rfl, rfl⟩)
  go_ret
  exact ⟨rfl, rfl⟩
/-- A call of a writer: its five cells, and what lies in its slices. -/
structure ActV where
  what : Int
  zp : Option Addr
  zN : Nat
  zC : Nat
  bp : Option Addr
  bN : Nat
  bC : Nat
  hp : Option Addr
  hN : Nat
  hC : Nat
  s : ByteArray
  z : Nat → Int
  t : Nat → Bool
  h : Nat → Nat → UInt8
def ActV.cells (x : ActV) : Array Value := #[.int .i64 x.what, .slice x.zp x.zN x.zC, .slice x.bp x.bN x.bC, .slice x.hp x.hN x.hC, .string x.s]
structure ActAt (B : Nat) (W : World) (x : ActV) : Prop where
  z : (∃ a o, x.zp = some ⟨a, o, none⟩ ∧ a < B ∧ ∀ i, i < x.zN → W.cell? ⟨a, o + i, none⟩ = some (.int .i64 (x.z i))) ∨ x.zN = 0
  b : (∃ a o, x.bp = some ⟨a, o, none⟩ ∧ a < B ∧ ∀ i, i < x.bN → W.cell? ⟨a, o + i, none⟩ = some (.bool (x.t i))) ∨ x.bN = 0
  h : (∃ a o, x.hp = some ⟨a, o, none⟩ ∧ a < B ∧ ∀ i, i < x.hN → ∀ j, j < 32 → W.cell? ⟨a, o + i * 32 + j, none⟩ = some (.int .u8 ((x.h i j).toNat : Int))) ∨ x.hN = 0
structure ActsAt (B : Nat) (W : World) (sp : Option Addr) (N : Nat) (X : Nat → ActV) : Prop where
  rows : (∃ a o, sp = some ⟨a, o, none⟩ ∧ a < B ∧ ∀ i, i < N → ∀ j u, (X i).cells[j]? = some u → W.cell? ⟨a, o + i * 5 + j, none⟩ = some u) ∨ N = 0
  act : ∀ i, i < N → ActAt B W (X i)
def ActV.small (x : ActV) : Prop := x.zN ≤ 10 ∧ x.bN ≤ 10 ∧ x.hN ≤ 10 ∧ x.s.size ≤ 200
set_option maxRecDepth 100000 in
set_option maxHeartbeats 1000000 in
theorem few_any (B : Nat) (sp : Option Addr) (N cap : Nat) (X : Nat → ActV) (w : World) (most : Int) (h : ActsAt B w sp N X) (hN : N ≤ 9223372036854775807) :
    Calls Try.prog 9 #[.slice sp N cap, .int .i64 most] w fun e w' => w = w' ∧ (((∀ i, i < N → (X i).small) ∧ (N : Int) ≤ most) ∧ e = .returned (.bool true) ∨ ¬ ((∀ i, i < N → (X i).small) ∧ (N : Int) ≤ most) ∧ e = .returned (.bool false)) := by
  have HR := Go.Lib.hid h.rows
  clear h
  obtain ⟨P, hP⟩ : ∃ P, ((∀ i, i < N → (X i).small) ∧ (N : Int) ≤ most) = P := ⟨_, rfl⟩
  rw [hP]
  have HP := Go.Lib.hid hP
  clear hP
  go_enter Try.func9, Try.ntmps9
  go_wp2
  go_loopw [5] (fun ix wr => ∃ i : Nat, i ≤ N ∧ ix = .int .i64 i ∧ wr = w ∧ ∀ k, k < i → (X k).small) (fun ix _ => N - (intOf ix).toNat)
  case atStart => exact ⟨0, by omega, rfl, rfl, fun k hk => by omega⟩
  case round =>
    obtain ⟨i, hi, rfl, rfl, hall⟩ := hrel
    have HALL := Go.Lib.hid hall
    clear hall
    by_cases hlt : i < N
    · obtain ⟨a, o, rfl, ha, hc⟩ := HR.out.resolve_right (by omega)
      have c1 := hc i hlt 1 (.slice (X i).zp (X i).zN (X i).zC) rfl
      have c2 := hc i hlt 2 (.slice (X i).bp (X i).bN (X i).bC) rfl
      have c3 := hc i hlt 3 (.slice (X i).hp (X i).hN (X i).hC) rfl
      have c4 := hc i hlt 4 (.string (X i).s) rfl
      have HSM := Go.Lib.hid (fun (h : ¬ (X i).small) => (show ¬ P from fun k => h ((HP.out.symm ▸ k).1 i hlt)))
      have HSY := Go.Lib.hid (fun (h : (X i).small) => (show ∀ k, k < i + 1 → (X k).small from fun k hk => if e : k = i then e ▸ h else HALL.out k (by omega)))
      clear hc
      generalize X i = x at *
      obtain ⟨what, zp, zN, zC, bp, bN, bC, hp, hN', hC, s, z, t, hh⟩ := x
      try simp only at c1 c2 c3 c4
      by_cases d1 : zN ≤ 10
      · have d1' : ¬ (10 : Int) < (zN : Int) := by omega
        by_cases d2 : bN ≤ 10
        · have d2' : ¬ (10 : Int) < (bN : Int) := by omega
          by_cases d3 : hN' ≤ 10
          · have d3' : ¬ (10 : Int) < (hN' : Int) := by omega
            by_cases d4 : s.size ≤ 200
            · have d4' : ¬ (200 : Int) < (s.size : Int) := by omega
              have HS2 := Go.Lib.hid (HSY.out ⟨d1, d2, d3, d4⟩)
              clear d1 d2 d3 d4
              go_wp2
              go_roundw
              case rel => exact ⟨i + 1, by omega, by go_num, trivial, HS2.out⟩
              case measure => simp [intOf]; omega
            · have d4' : (200 : Int) < (s.size : Int) := by omega
              have HS2 := Go.Lib.hid (HSM.out fun k => d4 k.2.2.2)
              clear d1 d2 d3 d4
              go_wp2
              go_ret
              exact ⟨rfl, .inr ⟨HS2.out, rfl⟩⟩
          · have d3' : (10 : Int) < (hN' : Int) := by omega
            have HS2 := Go.Lib.hid (HSM.out fun k => d3 k.2.2.1)
            clear d1 d2 d3
            go_wp2
            go_ret
            exact ⟨rfl, .inr ⟨HS2.out, rfl⟩⟩
        · have d2' : (10 : Int) < (bN : Int) := by omega
          have HS2 := Go.Lib.hid (HSM.out fun k => d2 k.2.1)
          clear d1 d2
          go_wp2
          go_ret
          exact ⟨rfl, .inr ⟨HS2.out, rfl⟩⟩
      · have d1' : (10 : Int) < (zN : Int) := by omega
        have HS2 := Go.Lib.hid (HSM.out fun k => d1 k.1)
        clear d1
        go_wp2
        go_ret
        exact ⟨rfl, .inr ⟨HS2.out, rfl⟩⟩
    · obtain rfl : i = N := by omega
      by_cases hm : (i : Int) ≤ most
      · have HM := Go.Lib.hid (show P from HP.out ▸ ⟨HALL.out, hm⟩)
        go_wp2
        go_ret
        exact ⟨rfl, .inl ⟨HM.out, rfl⟩⟩
      · have HM := Go.Lib.hid (show ¬ P from fun k => hm (HP.out.symm ▸ k).2)
        go_wp2
        go_ret
        exact ⟨rfl, .inr ⟨HM.out, rfl⟩⟩
end Go.Proofs.Ytljllfdigfojdaa
