/- WireLays. -/
import Derived.Test.YtljllfdigfojdaaL6
import Derived.Test.YtljllfdigfojdaaV13
namespace Go.Proofs.Ytljllfdigfojdaa
open Go Go.RowKit

def AnyW (_ : World) : Prop := True
theorem AnyW.ch {T : Nat → Prop} {u u2 : World} (_ : AnyW u) (_ : Ch T u u2) (_ : ∀ q : Nat, True → T q → False) : AnyW u2 := trivial
/-- A row of bytes of one's own, whatever it holds. -/
def RowU (w : World) (g n : Nat) : Prop := ∃ cur, w.heap[g]? = some (.cells cur 5) ∧ ∀ j, j < n → ∃ z : UInt8, cur[j]? = some (.int .u8 (z.toNat : Int))
theorem RowU.set {w : World} {g n k : Nat} (h : RowU w g n) (z : UInt8) (hk : k < n) : RowU (w.setCell ⟨g, k, none⟩ (.int .u8 (z.toNat : Int))) g n := by
  obtain ⟨cur, h1, h2⟩ := h
  refine ⟨_, row_setM h1 k _, fun j hj => ?_⟩
  rw [Array.getElem?_setIfInBounds]
  by_cases e : k = j
  · subst e
    obtain ⟨z', hz⟩ := h2 k hj
    rw [if_pos rfl, if_pos (Array.getElem?_eq_some_iff.1 hz).1]
    exact ⟨z, rfl⟩
  · rw [if_neg e]; exact h2 j hj
theorem own_rowU {w : World} {base n : Nat} {v : Value} {f : Nat → UInt8} (h : w.ownsRow base 5 1 v n (fL f n)) : (∃ g c, v = .slice (some ⟨g, 0, none⟩) n c ∧ RowU w g n ∧ base ≤ g) ∨ (v = .slice none 0 0 ∧ n = 0) := by
  rcases h.2 with ⟨rfl, rfl⟩ | ⟨g, cap, cur, rfl, hb, hg, hnc, _, _, htake⟩
  · exact .inr ⟨rfl, rfl⟩
  · exact .inl ⟨g, cap, rfl, ⟨cur, hg, fun j hj => ⟨f j, fL_cur htake j hj⟩⟩, hb⟩
set_option maxRecDepth 100000 in
set_option maxHeartbeats 4000000 in
theorem lays_law (sp : Option Addr) (N cap : Nat) (X : Nat → ActV) (w : World) (h : ActsAt w.heap.size w sp N X) (hN : N ≤ 9223372036854775807) :
    Calls Try.prog 3 #[.slice sp N cap] w fun e w' => e = .returned (.bool true) ∧ Ch (fun _ => False) w w' := by
  have HH := Go.Lib.hid h
  obtain ⟨LA, NO, GA, hA⟩ : ∃ (LA : Nat → Nat) (NO : Nat → Int) (GA : Nat → Nat → UInt8), ∀ i, ActIs (X i) (LA i) (NO i) (GA i) := by
    obtain ⟨Q, hQ⟩ := Classical.axiomOfChoice (fun i => ActIs.some (X i))
    exact ⟨fun i => (Q i).1, fun i => (Q i).2.1, fun i => (Q i).2.2, hQ⟩
  have HQ := Go.Lib.hid hA
  have HF := Go.Lib.hid (fun i j (hi : i < N) (hj : j < LA i) => catF_get LA GA N i j hi hj)
  generalize catF LA GA N = F at HF
  clear h hA
  go_enter Try.func3, Try.ntmps3
  go_wp2_with fail
  refine (few_any w.heap.size sp N cap X w 30 HH.out hN).mono ?_
  rintro e w1 ⟨rfl, ⟨⟨hs, h30⟩, rfl⟩ | ⟨-, rfl⟩⟩
  · have HS := Go.Lib.hid hs
    have hN30 : N ≤ 30 := by omega
    have HUP := Go.Lib.hid (fun i (hi : i ≤ N) => (show upto LA i ≤ 400 * i from by
      induction i with
      | zero => exact Nat.le_refl _
      | succ i ih => rw [upto_at]; have := ih (by omega); have := (HQ.out i).le (HS.out i (by omega)); omega))
    clear hs h30 hN
    go_wp2_with fail
    refine (new_any F w).mono ?_
    rintro e w1 ⟨b, rfl, hb, hw1, hc1⟩
    have HW1 := Go.Lib.hid hw1; have HC1 := Go.Lib.hid hc1; have HB := Go.Lib.hid hb
    clear hw1 hc1 hb
    go_wp2_with fail
    go_loopw [4, 5] (fun want ix wr => ∃ i : Nat, i ≤ N ∧ ix = .int .i64 i ∧ ∃ v p c, want = .slice p (upto LA i) c ∧ WrAt wr b v (upto LA i) F ∧ wr.ownsRow (b + 1) 5 1 want (upto LA i) (fL F (upto LA i)) ∧ (∀ g, v.ownBlock = some g → want.ownBlock ≠ some g) ∧ Ch (fun _ => False) w wr) (fun _ ix _ => N - (intOf ix).toNat)
    case atStart => exact ⟨0, by omega, rfl, .slice none 0 0, none, 0, rfl, HW1.out, own_none _ _ _, (fun g e => by cases e), HC1.out⟩
    case round =>
      obtain ⟨w5, hw5'⟩ : ∃ x, x = wr := ⟨_, rfl⟩
      subst hw5'
      obtain ⟨i, hi, rfl, v, p, c, rfl, hw5, ho5, hd5, hc5⟩ := hrel
      have HW5 := Go.Lib.hid hw5; have HO5 := Go.Lib.hid ho5; have HD5 := Go.Lib.hid hd5; have HC5 := Go.Lib.hid hc5
      have hui := HUP.out i hi
      clear hw5 ho5 hd5 hc5
      by_cases hlt : i < N
      · obtain ⟨a, o, rfl, ha, hrow⟩ := HH.out.rows.resolve_right (by omega)
        have HLD := Go.Lib.hid (run_loadVar_part (P := Try.prog) w5 ⟨a, o + i * 5, none⟩ 35 (X i).cells _ (fun j u hj => by rw [add_at]; exact HC5.out.get (hrow i hlt j u (by rw [← Array.getElem?_toList]; exact hj)) id) Try.underlying35 rfl (by kernel_rfl))
        have HACT := Go.Lib.hid (lay_any b (upto LA i) w.heap.size (LA i) (NO i) v F (GA i) (X i) w5 ((HH.out.act i hlt).ch HC5.out (fun _ _ => id)) (HS.out i hlt) (HQ.out i) HW5.out HB.out (by omega) (fun j hj => HF.out i j hlt hj))
        have HFI := Go.Lib.hid (fun j (hj : j < LA i) => HF.out i j hlt hj)
        have hui2 := HUP.out (i + 1) hlt
        rw [upto_at] at hui2
        have HUA := Go.Lib.hid (upto_at LA i)
        clear hrow ha
        generalize (X i).cells = cells at *
        generalize LA i = l at *
        generalize GA i = G at *
        generalize NO i = no at *
        generalize upto LA i = k at *
        go_wp2_with (refine wpList_load_at rfl 35 (.tmp 27) rfl ⟨a, o + i * 5, none⟩ rfl _ HLD.out ?_)
        refine HACT.out.mono ?_
        rintro e w6 ⟨v2, q, d, rfl, hw6, hg6, hb6⟩
        have HB6 := Go.Lib.hid hb6
        have HO6 := Go.Lib.hid (own_ch1 HO5.out hg6.ch (fun g e => by
          rintro (e1 | e1)
          · have := (HO5.out.lt g e).1; omega
          · exact HD5.out g e1 e))
        have HD6 := Go.Lib.hid (fun g (e : v2.ownBlock = some g) (e2 : (Value.slice p k c).ownBlock = some g) => (show False from by
          rcases hg6.own g e with e1 | e1
          · exact HD5.out g e1 e2
          · have := (HO5.out.lt g e2).2; omega))
        have HC6 := Go.Lib.hid (HC5.out.then hg6.ch (fun g hg e => by
          have hb := HB.out
          rcases e with e | e
          · omega
          · have := (HW5.out.own.lt g e).1; omega))
        have HW6 := Go.Lib.hid hw6
        have hbs := Nat.succ_le_of_lt (row_lt hw6.row)
        clear hw6 hg6 hb6 HACT HLD HO5 HD5 HC5 HW5
        go_wp2_with (at_builtin; refine wpList_append_more rfl (.tmp 33) (.tmp 34) rfl (b + 1) k l (.slice p k c) F G rfl HO6.out q d rfl HB6.out HFI.out (by omega) hbs ?_; intro v7 w7 ho7 hg7; obtain ⟨p7, c7, rfl, -⟩ := own_bytes ho7; have HO7 := Go.Lib.hid ho7; have HG7 := Go.Lib.hid hg7; clear ho7 hg7)
        have HW7 := Go.Lib.hid (HW6.out.ch HG7.out.ch (fun e => by have := (HO6.out.lt b e).1; omega) (fun g e e2 => HD6.out g e e2))
        have HD7 := Go.Lib.hid (fun g (e : v2.ownBlock = some g) (e2 : (Value.slice p7 (k + l) c7).ownBlock = some g) => (show False from by
          rcases HG7.out.own g e2 with e1 | e1
          · exact HD6.out g e e1
          · have := (HW6.out.own.lt g e).2; omega))
        have HC7 := Go.Lib.hid (HC6.out.then HG7.out.ch (fun g hg e => by
          have hb := HB.out
          have := (HO6.out.lt g e).1; omega))
        have hk10 : k + l ≤ 10000000000000 := by omega
        clear HW6 HD6 HC6 HO6 HG7 HB6 hbs
        refine (all_any b (k + l) v2 F w7 HW7.out hk10).mono ?_
        rintro e w8 ⟨v8, rfl, ho8, hc8⟩
        obtain ⟨pm, cm, rfl, hbm⟩ := own_bytes ho8
        have HO8 := Go.Lib.hid (own_ch1 HO7.out hc8 (fun _ _ => id))
        obtain ⟨p2, c2, e2, hb2⟩ := own_bytes HO8.out
        cases e2
        have hcv1 := conv_bytes hbm
        have hcv2 := conv_bytes hb2
        have HW8 := Go.Lib.hid (HW7.out.ch hc8 id (fun _ _ => id))
        have HC8 := Go.Lib.hid (HC7.out.trans hc8)
        have hb8 := HB.out
        have HP8 := Go.Lib.hid (show ∀ g, v2.ownBlock = some g ∨ (Value.slice p7 (k + l) c7).ownBlock = some g ∨ g = b ∨ g < w.heap.size → g < w7.heap.size from by
          rintro g (e | e | e | e)
          · exact (HW7.out.own.lt g e).2
          · exact (HO7.out.lt g e).2
          · have := row_lt HW7.out.row; omega
          · have := HC7.out.size; omega)
        obtain ⟨gm, hpm, hru, hgm⟩ : ∃ gm, (pm = some ⟨gm, 0, none⟩ ∨ k + l = 0) ∧ (k + l = 0 ∨ RowU w8 gm (k + l)) ∧ w7.heap.size ≤ gm := by
          rcases own_rowU ho8 with ⟨g, c, e, h1, h2⟩ | ⟨e, h0⟩
          · cases e
            exact ⟨g, .inl rfl, .inr h1, h2⟩
          · exact ⟨w7.heap.size, .inr h0, .inl h0, Nat.le_refl _⟩
        have HPM := Go.Lib.hid hpm; have HRU8 := Go.Lib.hid hru; have HGM := Go.Lib.hid hgm
        clear hpm hru hgm hbm hb2 ho8 hc8 HW7 HC7 HO7 hb8
        generalize bS F (k + l) = sg at *
        have hss : (sg.toList != sg.toList) = false := by simp
        generalize k + l = m at *
        go_wp2_with (go_at_call 14; refine (num_any _ _).mono ?_; rintro e w' ⟨rfl, rfl⟩)
        clear hcv1 hcv2 hss
        go_loopw [10] (fun ix wr => ∃ j : Nat, j ≤ m ∧ ix = .int .i64 j ∧ (m = 0 ∨ RowU wr gm m) ∧ Ch (fun t => t = gm) w8 wr) (fun ix _ => m - (intOf ix).toNat)
        case atStart => exact ⟨0, by omega, rfl, HRU8.out, Ch.refl _ _⟩
        case round =>
          obtain ⟨j, hj, rfl, hru, hC⟩ := hrel
          have HC := Go.Lib.hid hC; have HRW := Go.Lib.hid hru
          clear hC hru
          by_cases hin : j < m
          · obtain rfl := HPM.out.resolve_right (by omega)
            obtain ⟨cur, hcur, hby⟩ := HRW.out.resolve_left (by omega)
            obtain ⟨z, hz⟩ := hby j hin
            have hcell : wr.cell? ⟨gm, j, none⟩ = some (.int .u8 (z.toNat : Int)) := (cell_of_heap hcur j).trans hz
            have hfr : wr.frozen? ⟨gm, j, none⟩ = false := frozen_of_heap hcur j
            have HZ := Go.Lib.hid (show ((z.toNat : Int) + 1) % 256 = ((z + 1).toNat : Int) by
              rw [UInt8.toNat_add, show (1 : UInt8).toNat = 1 from rfl]; have := z.toNat_lt; omega)
            have HST := Go.Lib.hid ((show RowU wr gm m from ⟨cur, hcur, hby⟩).set (z + 1) hin)
            rw [← HZ.out] at HST
            clear hcur hby hz HZ
            go_wp2_with fail
            go_roundw
            case rel => exact ⟨j + 1, by omega, by go_num, .inr HST.out, Ch.setCell (S := fun t => t = gm) HC.out (p := ⟨gm, j, none⟩) (fun _ => rfl) _⟩
            case measure => simp [intOf]; omega
          · obtain rfl : j = m := by omega
            have HW9 := Go.Lib.hid (HW8.out.ch HC.out (fun e => by have := HP8.out b (.inr (.inr (.inl rfl))); have := HGM.out; omega) (fun g e e2 => by have := HP8.out g (.inl e); have := HGM.out; omega))
            have HO9 := Go.Lib.hid (own_ch1 HO8.out HC.out (fun g e e2 => by have := HP8.out g (.inr (.inl e)); have := HGM.out; omega))
            have HC9 := Go.Lib.hid (HC8.out.then HC.out (fun g hg e => by have := HP8.out g (.inr (.inr (.inr hg))); have := HGM.out; omega))
            go_wp2_with fail
            go_roundw
            case rel => exact ⟨i + 1, by omega, by go_num, v2, p7, c7, by rw [HUA.out], by rw [HUA.out]; exact HW9.out, by rw [HUA.out]; exact HO9.out, HD7.out, HC9.out⟩
            case measure => simp [intOf]; omega
      · obtain rfl : N = i := by omega
        obtain ⟨p2, c2, e2, hb2⟩ := own_bytes HO5.out
        cases e2
        have HBWN := Go.Lib.hid hb2
        have HCV := Go.Lib.hid (fun W q d (h : BytesAt W q (upto LA N) d F) => conv_bytes h)
        have hK10 : upto LA N ≤ 10000000000000 := by omega
        clear hb2 HUP HS HQ HF HH hui
        generalize bS F (upto LA N) = sg at *
        have hss : (sg.toList == sg.toList) = true := by simp
        generalize upto LA N = K at *
        by_cases hodd : N % 2 = 1
        · have hr2 : Int.tmod (N : Int) 2 = 1 := by rw [Int.tmod_eq_emod_of_nonneg (by omega)]; omega
          clear hodd
          go_upto_region 20 with fail
          have hx9 : NoneAt (w5.alloc (.cells #[.slice none 0 0, .bool false] 39)) (.pointer (some ⟨w5.heap.size, 0, none⟩)) := .inr ⟨_, rfl, World.alloc_heap_new _ _⟩
          have HC9 := Go.Lib.hid ((Ch.refl (fun _ => False) w5).alloc (.cells #[.slice none 0 0, .bool false] 39))
          generalize w5.alloc (.cells #[.slice none 0 0, .bool false] 39) = w9 at *
          generalize Value.pointer (some ⟨w5.heap.size, 0, none⟩) = xg at *
          have HX := Go.Lib.hid hx9; have HBW := Go.Lib.hid (HBWN.out.ch HC9.out (fun _ _ => id)); have HAL := Go.Lib.hid (fun W (hc : Ch (fun _ => False) w9 W) => all_any b K v F W ((HW5.out.ch HC9.out id (fun _ _ => id)).ch hc id (fun _ _ => id)) hK10)
          have HCW := Go.Lib.hid (HC5.out.trans HC9.out)
          clear hx9 HC9
          generalize hax : Act.mk _ _ = ax
          have HSZ := Go.Lib.hid (show ax.tmps.size = 110 by rw [← hax]; rfl)
          have F3 := Go.Lib.hid (show gt ax 3 = .pointer (some ⟨b, 0, none⟩) by rw [← hax]; rfl)
          have F4 := Go.Lib.hid (show gt ax 4 = .slice p K c by rw [← hax]; rfl)
          have F11 := Go.Lib.hid (show gt ax 11 = xg by rw [← hax]; rfl)
          have HAX := Go.Lib.hid hax
          clear hax
          have HND := Go.Lib.hid (show ([67, 68, 69, 70, 71, 72, 73, 74, 75, 76, 77, 78, 79, 80, 81, 82, 83, 84, 85, 86, 87, 88, 89, 90, 91, 92, 93, 94, 95, 96, 97, 98, 99, 100, 101, 102, 103, 104, 105, 106, 107, 108, 109] : List Nat).Nodup by decide)
          have HLS : Hid (Lasts [(67, fun x _ => x = .pointer (some ⟨b, 0, none⟩)), (68, fun x v => ∃ (g : Option Addr) (c : Nat), x = .slice g K c ∧ BytesAt v g K c F), (69, fun x _ => x = .string sg), (70, fun x _ => x = .slice p K c), (71, fun x _ => x = .string sg), (72, fun x _ => x = .bool true), (73, fun x _ => x = .bool true), (74, fun x _ => x = xg), (75, fun x u => ∃ (g : Nat) (c : Nat), x = .slice (some ⟨g, 0, none⟩) 1 1 ∧ AnyW u), (76, fun x _ => x = .int .i64 1), (77, fun x _ => x = .int .i64 1), (78, fun x _ => x = .bool true), (79, fun x _ => x = .bool true), (80, fun x _ => x = .bool true), (81, fun x _ => x = xg), (82, fun x u => ∃ (g : Nat) (c : Nat), x = .slice (some ⟨g, 0, none⟩) 1 1 ∧ AnyW u), (83, fun x _ => x = .int .i64 1), (84, fun x _ => x = .int .i64 1), (85, fun x _ => x = .bool true), (86, fun x _ => x = .bool true), (87, fun x _ => x = .bool true), (88, fun x _ => x = xg), (89, fun x _ => x = .agg (hv fun _ => 0)), (90, fun x u => ∃ (g : Nat) (c : Nat), x = .slice (some ⟨g, 0, none⟩) 1 1 ∧ AnyW u), (91, fun x _ => x = .int .i64 1), (92, fun x _ => x = .int .i64 1), (93, fun x _ => x = .bool true), (94, fun x _ => x = .bool true), (95, fun x _ => x = .bool true), (96, fun x _ => x = xg), (97, fun x _ => x = .int .i64 1), (98, fun x _ => x = .int .i64 1), (99, fun x _ => x = .bool true), (100, fun x _ => x = .bool true), (101, fun x _ => x = .bool true), (102, fun x _ => x = xg), (103, fun x _ => x = .slice none 0 0), (104, fun x _ => x = .int .i64 0), (105, fun x _ => x = .bool true), (106, fun x _ => x = .bool true), (107, fun x _ => x = .bool true), (108, fun x _ => x = .bool true), (109, fun x _ => x = .bool true)]) := Go.Lib.hid (by
            intro p hp v w1 w2 hc h
            simp only [List.mem_cons, List.not_mem_nil, or_false] at hp
            rcases hp with rfl | rfl | rfl | rfl | rfl | rfl | rfl | rfl | rfl | rfl | rfl | rfl | rfl | rfl | rfl | rfl | rfl | rfl | rfl | rfl | rfl | rfl | rfl | rfl | rfl | rfl | rfl | rfl | rfl | rfl | rfl | rfl | rfl | rfl | rfl | rfl | rfl | rfl | rfl | rfl | rfl | rfl | rfl
            all_goals first | exact h | (obtain ⟨g, h1, h2⟩ := h; exact ⟨g, h1, hc.heap h2 id⟩) | (obtain ⟨g, c, h1, h2⟩ := h; exact ⟨g, c, h1, h2.ch hc (fun _ _ h => h)⟩))
          refine wp_region_open_tail 43 (InvQ 110 [(67, fun x _ => x = .pointer (some ⟨b, 0, none⟩)), (68, fun x v => ∃ (g : Option Addr) (c : Nat), x = .slice g K c ∧ BytesAt v g K c F), (69, fun x _ => x = .string sg), (70, fun x _ => x = .slice p K c), (71, fun x _ => x = .string sg), (72, fun x _ => x = .bool true), (73, fun x _ => x = .bool true), (74, fun x _ => x = xg), (75, fun x u => ∃ (g : Nat) (c : Nat), x = .slice (some ⟨g, 0, none⟩) 1 1 ∧ AnyW u), (76, fun x _ => x = .int .i64 1), (77, fun x _ => x = .int .i64 1), (78, fun x _ => x = .bool true), (79, fun x _ => x = .bool true), (80, fun x _ => x = .bool true), (81, fun x _ => x = xg), (82, fun x u => ∃ (g : Nat) (c : Nat), x = .slice (some ⟨g, 0, none⟩) 1 1 ∧ AnyW u), (83, fun x _ => x = .int .i64 1), (84, fun x _ => x = .int .i64 1), (85, fun x _ => x = .bool true), (86, fun x _ => x = .bool true), (87, fun x _ => x = .bool true), (88, fun x _ => x = xg), (89, fun x _ => x = .agg (hv fun _ => 0)), (90, fun x u => ∃ (g : Nat) (c : Nat), x = .slice (some ⟨g, 0, none⟩) 1 1 ∧ AnyW u), (91, fun x _ => x = .int .i64 1), (92, fun x _ => x = .int .i64 1), (93, fun x _ => x = .bool true), (94, fun x _ => x = .bool true), (95, fun x _ => x = .bool true), (96, fun x _ => x = xg), (97, fun x _ => x = .int .i64 1), (98, fun x _ => x = .int .i64 1), (99, fun x _ => x = .bool true), (100, fun x _ => x = .bool true), (101, fun x _ => x = .bool true), (102, fun x _ => x = xg), (103, fun x _ => x = .slice none 0 0), (104, fun x _ => x = .int .i64 0), (105, fun x _ => x = .bool true), (106, fun x _ => x = .bool true), (107, fun x _ => x = .bool true), (108, fun x _ => x = .bool true), (109, fun x _ => x = .bool true)] (fun _ w' => Ch (fun _ => False) w9 w') ax) (by kernel_rfl) (by kernel_rfl) (InvQ.start (by simp) HSZ.out (Ch.refl _ _).drew) ?_ ?_
          · intro L a w' i hI hr hlt
            obtain ⟨h1, o, ho, hall⟩ := mem_ready.1 hr
            have hsplit : i = 0 ∨ i = 1 ∨ i = 2 ∨ i = 3 ∨ i = 4 ∨ i = 5 ∨ i = 6 ∨ i = 7 ∨ i = 8 ∨ i = 9 ∨ i = 10 ∨ i = 11 ∨ i = 12 ∨ i = 13 ∨ i = 14 ∨ i = 15 ∨ i = 16 ∨ i = 17 ∨ i = 18 ∨ i = 19 ∨ i = 20 ∨ i = 21 ∨ i = 22 ∨ i = 23 ∨ i = 24 ∨ i = 25 ∨ i = 26 ∨ i = 27 ∨ i = 28 ∨ i = 29 ∨ i = 30 ∨ i = 31 ∨ i = 32 ∨ i = 33 ∨ i = 34 ∨ i = 35 ∨ i = 36 ∨ i = 37 ∨ i = 38 ∨ i = 39 ∨ i = 40 ∨ i = 41 ∨ i = 42 := by omega
            clear hlt h1 hr
            rcases hsplit with rfl | rfl | rfl | rfl | rfl | rfl | rfl | rfl | rfl | rfl | rfl | rfl | rfl | rfl | rfl | rfl | rfl | rfl | rfl | rfl | rfl | rfl | rfl | rfl | rfl | rfl | rfl | rfl | rfl | rfl | rfl | rfl | rfl | rfl | rfl | rfl | rfl | rfl | rfl | rfl | rfl | rfl | rfl
            · have q3 := (hI.fixed 3 (by simp)).trans F3.out
              unfold gt at q3
              clear hall
              refine wpOp_step (o := _) rfl (fun K' hK' => ?_)
              go_simp
              exact hK' _ _ (hI.put 0 rfl (by decide) HND.out HLS.out  (Ch.refl _ _) rfl hI.wld)
            · simp at ho
              have e0 : lg L 0 = true := by unfold lg; simpa using hall ⟨0, .data⟩ (by rw [← ho]; simp) rfl
              have f0 : gt a 67 = .pointer (some ⟨b, 0, none⟩) := hI.val 0 _ rfl e0
              unfold gt at f0
              clear hall
              clear ho
              have HCT := Go.Lib.hid (HAL.out w' hI.wld)
              refine wpOp_step (o := _) rfl (fun K' hK' => ?_)
              go_simp
              refine HCT.out.mono ?_
              rintro e w3 ⟨v', rfl, ho, hc⟩
              obtain ⟨q, d, rfl, hq⟩ := own_bytes ho
              exact hK' _ _ (hI.put 1 rfl (by decide) HND.out HLS.out hc ⟨q, d, rfl, hq⟩ (hI.wld.trans hc))
            · simp at ho
              have e1 : lg L 1 = true := by unfold lg; simpa using hall ⟨1, .data⟩ (by rw [← ho]; simp) rfl
              obtain ⟨g1, c1, f1, hh1⟩ : (fun x v => ∃ (g : Option Addr) (c : Nat), x = .slice g K c ∧ BytesAt v g K c F) (gt a 68) w' := hI.val 1 _ rfl e1
              have hcv := HCV.out w' g1 c1 hh1
              unfold gt at f1
              clear hall
              clear ho
              refine wpOp_step (o := _) rfl (fun K' hK' => ?_)
              go_simp
              exact hK' _ _ (hI.put 2 rfl (by decide) HND.out HLS.out  (Ch.refl _ _) rfl hI.wld)
            · have q4 := (hI.fixed 4 (by simp)).trans F4.out
              unfold gt at q4
              clear hall
              refine wpOp_step (o := _) rfl (fun K' hK' => ?_)
              go_simp
              exact hK' _ _ (hI.put 3 rfl (by decide) HND.out HLS.out  (Ch.refl _ _) rfl hI.wld)
            · simp at ho
              have e3 : lg L 3 = true := by unfold lg; simpa using hall ⟨3, .data⟩ (by rw [← ho]; simp) rfl
              have f3 : gt a 70 = .slice p K c := hI.val 3 _ rfl e3
              have hcv := HCV.out w' p c (HBW.out.ch hI.wld (fun _ _ => id))
              unfold gt at f3
              clear hall
              clear ho
              refine wpOp_step (o := _) rfl (fun K' hK' => ?_)
              go_simp
              exact hK' _ _ (hI.put 4 rfl (by decide) HND.out HLS.out  (Ch.refl _ _) rfl hI.wld)
            · simp at ho
              have e2 : lg L 2 = true := by unfold lg; simpa using hall ⟨2, .data⟩ (by rw [← ho]; simp) rfl
              have f2 : gt a 69 = .string sg := hI.val 2 _ rfl e2
              have e4 : lg L 4 = true := by unfold lg; simpa using hall ⟨4, .data⟩ (by rw [← ho]; simp) rfl
              have f4 : gt a 71 = .string sg := hI.val 4 _ rfl e4
              unfold gt at f2 f4
              clear hall
              clear ho
              refine wpOp_step (o := _) rfl (fun K' hK' => ?_)
              go_simp
              exact hK' _ _ (hI.put 5 rfl (by decide) HND.out HLS.out  (Ch.refl _ _) rfl hI.wld)
            · simp at ho
              have e5 : lg L 5 = true := by unfold lg; simpa using hall ⟨5, .data⟩ (by rw [← ho]; simp) rfl
              have f5 : gt a 72 = .bool true := hI.val 5 _ rfl e5
              unfold gt at f5
              clear hall
              clear ho
              refine wpOp_step (o := _) rfl (fun K' hK' => ?_)
              go_simp
              exact hK' _ _ (hI.put 6 rfl (by decide) HND.out HLS.out  (Ch.refl _ _) rfl hI.wld)
            · simp at ho
              have q11 := (hI.fixed 11 (by simp)).trans F11.out
              have eg : lg L 6 = true := by unfold lg; simpa using hall ⟨6, .guard⟩ (by rw [← ho]; simp) rfl
              have fg0 : gt a 73 = .bool true := hI.val 6 _ rfl eg
              have fg := guard_of fg0 (by rw [hI.size]; decide)
              clear eg fg0
              unfold gt at q11
              clear hall
              clear ho
              refine wpOp_step (o := _) rfl (fun K' hK' => ?_)
              go_simp
              exact hK' _ _ (hI.put 7 rfl (by decide) HND.out HLS.out  (Ch.refl _ _) rfl hI.wld)
            · simp at ho
              have eg : lg L 6 = true := by unfold lg; simpa using hall ⟨6, .guard⟩ (by rw [← ho]; simp) rfl
              have fg0 : gt a 73 = .bool true := hI.val 6 _ rfl eg
              have fg := guard_of fg0 (by rw [hI.size]; decide)
              clear eg fg0
              clear hall
              clear ho
              refine wpOp_step (o := _) rfl (fun K' hK' => ?_)
              go_simp
              exact hK' _ _ (hI.put 8 rfl (by decide) HND.out HLS.out  ((Ch.refl _ _).alloc _) ⟨_, 0, rfl, trivial⟩ (hI.wld.alloc _))
            · simp at ho
              have e7 : lg L 7 = true := by unfold lg; simpa using hall ⟨7, .data⟩ (by rw [← ho]; simp) rfl
              have f7 : gt a 74 = xg := hI.val 7 _ rfl e7
              have e8 : lg L 8 = true := by unfold lg; simpa using hall ⟨8, .data⟩ (by rw [← ho]; simp) rfl
              obtain ⟨g8, c8, f8, hh8⟩ : (fun x u => ∃ (g : Nat) (c : Nat), x = .slice (some ⟨g, 0, none⟩) 1 1 ∧ AnyW u) (gt a 75) w' := hI.val 8 _ rfl e8
              have eg : lg L 6 = true := by unfold lg; simpa using hall ⟨6, .guard⟩ (by rw [← ho]; simp) rfl
              have fg0 : gt a 73 = .bool true := hI.val 6 _ rfl eg
              have fg := guard_of fg0 (by rw [hI.size]; decide)
              clear eg fg0
              unfold gt at f7 f8
              clear hall
              clear ho
              have HCT := Go.Lib.hid (n15 xg (.slice (some ⟨g8, 0, none⟩) 1 1) w' (HX.out.ch hI.wld))
              refine wpOp_step (o := _) rfl (fun K' hK' => ?_)
              go_simp
              refine HCT.out.mono ?_
              rintro e w3 ⟨rfl, rfl⟩
              exact hK' _ _ (hI.put 9 rfl (by decide) HND.out HLS.out (Ch.refl _ _) rfl hI.wld)
            · simp at ho
              have e9 : lg L 9 = true := by unfold lg; simpa using hall ⟨9, .data⟩ (by rw [← ho]; simp) rfl
              have f9 : gt a 76 = .int .i64 1 := hI.val 9 _ rfl e9
              have eg : lg L 6 = true := by unfold lg; simpa using hall ⟨6, .guard⟩ (by rw [← ho]; simp) rfl
              have fg0 : gt a 73 = .bool true := hI.val 6 _ rfl eg
              have fg := guard_of fg0 (by rw [hI.size]; decide)
              clear eg fg0
              unfold gt at f9
              clear hall
              clear ho
              have HCT := Go.Lib.hid (num_any 1 w')
              refine wpOp_step (o := _) rfl (fun K' hK' => ?_)
              go_simp
              refine HCT.out.mono ?_
              rintro e w3 ⟨rfl, rfl⟩
              exact hK' _ _ (hI.put 10 rfl (by decide) HND.out HLS.out (Ch.refl _ _) rfl hI.wld)
            · simp at ho
              have e10 : lg L 10 = true := by unfold lg; simpa using hall ⟨10, .data⟩ (by rw [← ho]; simp) rfl
              have f10 : gt a 77 = .int .i64 1 := hI.val 10 _ rfl e10
              have eg : lg L 6 = true := by unfold lg; simpa using hall ⟨6, .guard⟩ (by rw [← ho]; simp) rfl
              have fg0 : gt a 73 = .bool true := hI.val 6 _ rfl eg
              have fg := guard_of fg0 (by rw [hI.size]; decide)
              clear eg fg0
              unfold gt at f10
              clear hall
              clear ho
              refine wpOp_step (o := _) rfl (fun K' hK' => ?_)
              go_simp
              exact hK' _ _ (hI.put 11 rfl (by decide) HND.out HLS.out  (Ch.refl _ _) rfl hI.wld)
            · simp at ho
              have e6 : lg L 6 = true := by unfold lg; simpa using hall ⟨6, .data⟩ (by rw [← ho]; simp) rfl
              have f6 : gt a 73 = .bool true := hI.val 6 _ rfl e6
              have e11 : lg L 11 = true := by unfold lg; simpa using hall ⟨11, .data⟩ (by rw [← ho]; simp) rfl
              have f11 : gt a 78 = .bool true := hI.val 11 _ rfl e11
              unfold gt at f6 f11
              clear hall
              clear ho
              refine wpOp_step (o := _) rfl (fun K' hK' => ?_)
              go_simp
              exact hK' _ _ (hI.put 12 rfl (by decide) HND.out HLS.out  (Ch.refl _ _) rfl hI.wld)
            · simp at ho
              have e12 : lg L 12 = true := by unfold lg; simpa using hall ⟨12, .data⟩ (by rw [← ho]; simp) rfl
              have f12 : gt a 79 = .bool true := hI.val 12 _ rfl e12
              unfold gt at f12
              clear hall
              clear ho
              refine wpOp_step (o := _) rfl (fun K' hK' => ?_)
              go_simp
              exact hK' _ _ (hI.put 13 rfl (by decide) HND.out HLS.out  (Ch.refl _ _) rfl hI.wld)
            · simp at ho
              have q11 := (hI.fixed 11 (by simp)).trans F11.out
              have eg : lg L 13 = true := by unfold lg; simpa using hall ⟨13, .guard⟩ (by rw [← ho]; simp) rfl
              have fg0 : gt a 80 = .bool true := hI.val 13 _ rfl eg
              have fg := guard_of fg0 (by rw [hI.size]; decide)
              clear eg fg0
              unfold gt at q11
              clear hall
              clear ho
              refine wpOp_step (o := _) rfl (fun K' hK' => ?_)
              go_simp
              exact hK' _ _ (hI.put 14 rfl (by decide) HND.out HLS.out  (Ch.refl _ _) rfl hI.wld)
            · simp at ho
              have eg : lg L 13 = true := by unfold lg; simpa using hall ⟨13, .guard⟩ (by rw [← ho]; simp) rfl
              have fg0 : gt a 80 = .bool true := hI.val 13 _ rfl eg
              have fg := guard_of fg0 (by rw [hI.size]; decide)
              clear eg fg0
              clear hall
              clear ho
              refine wpOp_step (o := _) rfl (fun K' hK' => ?_)
              go_simp
              exact hK' _ _ (hI.put 15 rfl (by decide) HND.out HLS.out  ((Ch.refl _ _).alloc _) ⟨_, 0, rfl, trivial⟩ (hI.wld.alloc _))
            · simp at ho
              have e14 : lg L 14 = true := by unfold lg; simpa using hall ⟨14, .data⟩ (by rw [← ho]; simp) rfl
              have f14 : gt a 81 = xg := hI.val 14 _ rfl e14
              have e15 : lg L 15 = true := by unfold lg; simpa using hall ⟨15, .data⟩ (by rw [← ho]; simp) rfl
              obtain ⟨g15, c15, f15, hh15⟩ : (fun x u => ∃ (g : Nat) (c : Nat), x = .slice (some ⟨g, 0, none⟩) 1 1 ∧ AnyW u) (gt a 82) w' := hI.val 15 _ rfl e15
              have eg : lg L 13 = true := by unfold lg; simpa using hall ⟨13, .guard⟩ (by rw [← ho]; simp) rfl
              have fg0 : gt a 80 = .bool true := hI.val 13 _ rfl eg
              have fg := guard_of fg0 (by rw [hI.size]; decide)
              clear eg fg0
              unfold gt at f14 f15
              clear hall
              clear ho
              have HCT := Go.Lib.hid (n16 xg (.slice (some ⟨g15, 0, none⟩) 1 1) w' (HX.out.ch hI.wld))
              refine wpOp_step (o := _) rfl (fun K' hK' => ?_)
              go_simp
              refine HCT.out.mono ?_
              rintro e w3 ⟨rfl, rfl⟩
              exact hK' _ _ (hI.put 16 rfl (by decide) HND.out HLS.out (Ch.refl _ _) rfl hI.wld)
            · simp at ho
              have e16 : lg L 16 = true := by unfold lg; simpa using hall ⟨16, .data⟩ (by rw [← ho]; simp) rfl
              have f16 : gt a 83 = .int .i64 1 := hI.val 16 _ rfl e16
              have eg : lg L 13 = true := by unfold lg; simpa using hall ⟨13, .guard⟩ (by rw [← ho]; simp) rfl
              have fg0 : gt a 80 = .bool true := hI.val 13 _ rfl eg
              have fg := guard_of fg0 (by rw [hI.size]; decide)
              clear eg fg0
              unfold gt at f16
              clear hall
              clear ho
              have HCT := Go.Lib.hid (num_any 1 w')
              refine wpOp_step (o := _) rfl (fun K' hK' => ?_)
              go_simp
              refine HCT.out.mono ?_
              rintro e w3 ⟨rfl, rfl⟩
              exact hK' _ _ (hI.put 17 rfl (by decide) HND.out HLS.out (Ch.refl _ _) rfl hI.wld)
            · simp at ho
              have e17 : lg L 17 = true := by unfold lg; simpa using hall ⟨17, .data⟩ (by rw [← ho]; simp) rfl
              have f17 : gt a 84 = .int .i64 1 := hI.val 17 _ rfl e17
              have eg : lg L 13 = true := by unfold lg; simpa using hall ⟨13, .guard⟩ (by rw [← ho]; simp) rfl
              have fg0 : gt a 80 = .bool true := hI.val 13 _ rfl eg
              have fg := guard_of fg0 (by rw [hI.size]; decide)
              clear eg fg0
              unfold gt at f17
              clear hall
              clear ho
              refine wpOp_step (o := _) rfl (fun K' hK' => ?_)
              go_simp
              exact hK' _ _ (hI.put 18 rfl (by decide) HND.out HLS.out  (Ch.refl _ _) rfl hI.wld)
            · simp at ho
              have e13 : lg L 13 = true := by unfold lg; simpa using hall ⟨13, .data⟩ (by rw [← ho]; simp) rfl
              have f13 : gt a 80 = .bool true := hI.val 13 _ rfl e13
              have e18 : lg L 18 = true := by unfold lg; simpa using hall ⟨18, .data⟩ (by rw [← ho]; simp) rfl
              have f18 : gt a 85 = .bool true := hI.val 18 _ rfl e18
              unfold gt at f13 f18
              clear hall
              clear ho
              refine wpOp_step (o := _) rfl (fun K' hK' => ?_)
              go_simp
              exact hK' _ _ (hI.put 19 rfl (by decide) HND.out HLS.out  (Ch.refl _ _) rfl hI.wld)
            · simp at ho
              have e19 : lg L 19 = true := by unfold lg; simpa using hall ⟨19, .data⟩ (by rw [← ho]; simp) rfl
              have f19 : gt a 86 = .bool true := hI.val 19 _ rfl e19
              unfold gt at f19
              clear hall
              clear ho
              refine wpOp_step (o := _) rfl (fun K' hK' => ?_)
              go_simp
              exact hK' _ _ (hI.put 20 rfl (by decide) HND.out HLS.out  (Ch.refl _ _) rfl hI.wld)
            · simp at ho
              have q11 := (hI.fixed 11 (by simp)).trans F11.out
              have eg : lg L 20 = true := by unfold lg; simpa using hall ⟨20, .guard⟩ (by rw [← ho]; simp) rfl
              have fg0 : gt a 87 = .bool true := hI.val 20 _ rfl eg
              have fg := guard_of fg0 (by rw [hI.size]; decide)
              clear eg fg0
              unfold gt at q11
              clear hall
              clear ho
              refine wpOp_step (o := _) rfl (fun K' hK' => ?_)
              go_simp
              exact hK' _ _ (hI.put 21 rfl (by decide) HND.out HLS.out  (Ch.refl _ _) rfl hI.wld)
            · simp at ho
              have eg : lg L 20 = true := by unfold lg; simpa using hall ⟨20, .guard⟩ (by rw [← ho]; simp) rfl
              have fg0 : gt a 87 = .bool true := hI.val 20 _ rfl eg
              have fg := guard_of fg0 (by rw [hI.size]; decide)
              clear eg fg0
              clear hall
              clear ho
              refine wpOp_step (o := _) rfl (fun K' hK' => ?_)
              go_simp
              exact hK' _ _ (hI.put 22 rfl (by decide) HND.out HLS.out  (Ch.refl _ _) rfl hI.wld)
            · simp at ho
              have e22 : lg L 22 = true := by unfold lg; simpa using hall ⟨22, .data⟩ (by rw [← ho]; simp) rfl
              have f22 : gt a 89 = .agg (hv fun _ => 0) := hI.val 22 _ rfl e22
              have eg : lg L 20 = true := by unfold lg; simpa using hall ⟨20, .guard⟩ (by rw [← ho]; simp) rfl
              have fg0 : gt a 87 = .bool true := hI.val 20 _ rfl eg
              have fg := guard_of fg0 (by rw [hI.size]; decide)
              clear eg fg0
              unfold gt at f22
              clear hall
              clear ho
              refine wpOp_step (o := _) rfl (fun K' hK' => ?_)
              go_simp
              exact hK' _ _ (hI.put 23 rfl (by decide) HND.out HLS.out  ((Ch.refl _ _).alloc _) ⟨_, 0, rfl, trivial⟩ (hI.wld.alloc _))
            · simp at ho
              have e21 : lg L 21 = true := by unfold lg; simpa using hall ⟨21, .data⟩ (by rw [← ho]; simp) rfl
              have f21 : gt a 88 = xg := hI.val 21 _ rfl e21
              have e23 : lg L 23 = true := by unfold lg; simpa using hall ⟨23, .data⟩ (by rw [← ho]; simp) rfl
              obtain ⟨g23, c23, f23, hh23⟩ : (fun x u => ∃ (g : Nat) (c : Nat), x = .slice (some ⟨g, 0, none⟩) 1 1 ∧ AnyW u) (gt a 90) w' := hI.val 23 _ rfl e23
              have eg : lg L 20 = true := by unfold lg; simpa using hall ⟨20, .guard⟩ (by rw [← ho]; simp) rfl
              have fg0 : gt a 87 = .bool true := hI.val 20 _ rfl eg
              have fg := guard_of fg0 (by rw [hI.size]; decide)
              clear eg fg0
              unfold gt at f21 f23
              clear hall
              clear ho
              have HCT := Go.Lib.hid (n17 xg (.slice (some ⟨g23, 0, none⟩) 1 1) w' (HX.out.ch hI.wld))
              refine wpOp_step (o := _) rfl (fun K' hK' => ?_)
              go_simp
              refine HCT.out.mono ?_
              rintro e w3 ⟨rfl, rfl⟩
              exact hK' _ _ (hI.put 24 rfl (by decide) HND.out HLS.out (Ch.refl _ _) rfl hI.wld)
            · simp at ho
              have e24 : lg L 24 = true := by unfold lg; simpa using hall ⟨24, .data⟩ (by rw [← ho]; simp) rfl
              have f24 : gt a 91 = .int .i64 1 := hI.val 24 _ rfl e24
              have eg : lg L 20 = true := by unfold lg; simpa using hall ⟨20, .guard⟩ (by rw [← ho]; simp) rfl
              have fg0 : gt a 87 = .bool true := hI.val 20 _ rfl eg
              have fg := guard_of fg0 (by rw [hI.size]; decide)
              clear eg fg0
              unfold gt at f24
              clear hall
              clear ho
              have HCT := Go.Lib.hid (num_any 1 w')
              refine wpOp_step (o := _) rfl (fun K' hK' => ?_)
              go_simp
              refine HCT.out.mono ?_
              rintro e w3 ⟨rfl, rfl⟩
              exact hK' _ _ (hI.put 25 rfl (by decide) HND.out HLS.out (Ch.refl _ _) rfl hI.wld)
            · simp at ho
              have e25 : lg L 25 = true := by unfold lg; simpa using hall ⟨25, .data⟩ (by rw [← ho]; simp) rfl
              have f25 : gt a 92 = .int .i64 1 := hI.val 25 _ rfl e25
              have eg : lg L 20 = true := by unfold lg; simpa using hall ⟨20, .guard⟩ (by rw [← ho]; simp) rfl
              have fg0 : gt a 87 = .bool true := hI.val 20 _ rfl eg
              have fg := guard_of fg0 (by rw [hI.size]; decide)
              clear eg fg0
              unfold gt at f25
              clear hall
              clear ho
              refine wpOp_step (o := _) rfl (fun K' hK' => ?_)
              go_simp
              exact hK' _ _ (hI.put 26 rfl (by decide) HND.out HLS.out  (Ch.refl _ _) rfl hI.wld)
            · simp at ho
              have e20 : lg L 20 = true := by unfold lg; simpa using hall ⟨20, .data⟩ (by rw [← ho]; simp) rfl
              have f20 : gt a 87 = .bool true := hI.val 20 _ rfl e20
              have e26 : lg L 26 = true := by unfold lg; simpa using hall ⟨26, .data⟩ (by rw [← ho]; simp) rfl
              have f26 : gt a 93 = .bool true := hI.val 26 _ rfl e26
              unfold gt at f20 f26
              clear hall
              clear ho
              refine wpOp_step (o := _) rfl (fun K' hK' => ?_)
              go_simp
              exact hK' _ _ (hI.put 27 rfl (by decide) HND.out HLS.out  (Ch.refl _ _) rfl hI.wld)
            · simp at ho
              have e27 : lg L 27 = true := by unfold lg; simpa using hall ⟨27, .data⟩ (by rw [← ho]; simp) rfl
              have f27 : gt a 94 = .bool true := hI.val 27 _ rfl e27
              unfold gt at f27
              clear hall
              clear ho
              refine wpOp_step (o := _) rfl (fun K' hK' => ?_)
              go_simp
              exact hK' _ _ (hI.put 28 rfl (by decide) HND.out HLS.out  (Ch.refl _ _) rfl hI.wld)
            · simp at ho
              have q11 := (hI.fixed 11 (by simp)).trans F11.out
              have eg : lg L 28 = true := by unfold lg; simpa using hall ⟨28, .guard⟩ (by rw [← ho]; simp) rfl
              have fg0 : gt a 95 = .bool true := hI.val 28 _ rfl eg
              have fg := guard_of fg0 (by rw [hI.size]; decide)
              clear eg fg0
              unfold gt at q11
              clear hall
              clear ho
              refine wpOp_step (o := _) rfl (fun K' hK' => ?_)
              go_simp
              exact hK' _ _ (hI.put 29 rfl (by decide) HND.out HLS.out  (Ch.refl _ _) rfl hI.wld)
            · simp at ho
              have e29 : lg L 29 = true := by unfold lg; simpa using hall ⟨29, .data⟩ (by rw [← ho]; simp) rfl
              have f29 : gt a 96 = xg := hI.val 29 _ rfl e29
              have eg : lg L 28 = true := by unfold lg; simpa using hall ⟨28, .guard⟩ (by rw [← ho]; simp) rfl
              have fg0 : gt a 95 = .bool true := hI.val 28 _ rfl eg
              have fg := guard_of fg0 (by rw [hI.size]; decide)
              clear eg fg0
              unfold gt at f29
              clear hall
              clear ho
              have HCT := Go.Lib.hid (n18 xg { data := #[] } w' (HX.out.ch hI.wld) (by decide))
              refine wpOp_step (o := _) rfl (fun K' hK' => ?_)
              go_simp
              refine HCT.out.mono ?_
              rintro e w3 ⟨rfl, hc⟩
              exact hK' _ _ (hI.put 30 rfl (by decide) HND.out HLS.out  hc rfl (hI.wld.trans hc))
            · simp at ho
              have e30 : lg L 30 = true := by unfold lg; simpa using hall ⟨30, .data⟩ (by rw [← ho]; simp) rfl
              have f30 : gt a 97 = .int .i64 1 := hI.val 30 _ rfl e30
              have eg : lg L 28 = true := by unfold lg; simpa using hall ⟨28, .guard⟩ (by rw [← ho]; simp) rfl
              have fg0 : gt a 95 = .bool true := hI.val 28 _ rfl eg
              have fg := guard_of fg0 (by rw [hI.size]; decide)
              clear eg fg0
              unfold gt at f30
              clear hall
              clear ho
              have HCT := Go.Lib.hid (num_any 1 w')
              refine wpOp_step (o := _) rfl (fun K' hK' => ?_)
              go_simp
              refine HCT.out.mono ?_
              rintro e w3 ⟨rfl, rfl⟩
              exact hK' _ _ (hI.put 31 rfl (by decide) HND.out HLS.out (Ch.refl _ _) rfl hI.wld)
            · simp at ho
              have e31 : lg L 31 = true := by unfold lg; simpa using hall ⟨31, .data⟩ (by rw [← ho]; simp) rfl
              have f31 : gt a 98 = .int .i64 1 := hI.val 31 _ rfl e31
              have eg : lg L 28 = true := by unfold lg; simpa using hall ⟨28, .guard⟩ (by rw [← ho]; simp) rfl
              have fg0 : gt a 95 = .bool true := hI.val 28 _ rfl eg
              have fg := guard_of fg0 (by rw [hI.size]; decide)
              clear eg fg0
              unfold gt at f31
              clear hall
              clear ho
              refine wpOp_step (o := _) rfl (fun K' hK' => ?_)
              go_simp
              exact hK' _ _ (hI.put 32 rfl (by decide) HND.out HLS.out  (Ch.refl _ _) rfl hI.wld)
            · simp at ho
              have e28 : lg L 28 = true := by unfold lg; simpa using hall ⟨28, .data⟩ (by rw [← ho]; simp) rfl
              have f28 : gt a 95 = .bool true := hI.val 28 _ rfl e28
              have e32 : lg L 32 = true := by unfold lg; simpa using hall ⟨32, .data⟩ (by rw [← ho]; simp) rfl
              have f32 : gt a 99 = .bool true := hI.val 32 _ rfl e32
              unfold gt at f28 f32
              clear hall
              clear ho
              refine wpOp_step (o := _) rfl (fun K' hK' => ?_)
              go_simp
              exact hK' _ _ (hI.put 33 rfl (by decide) HND.out HLS.out  (Ch.refl _ _) rfl hI.wld)
            · simp at ho
              have e33 : lg L 33 = true := by unfold lg; simpa using hall ⟨33, .data⟩ (by rw [← ho]; simp) rfl
              have f33 : gt a 100 = .bool true := hI.val 33 _ rfl e33
              unfold gt at f33
              clear hall
              clear ho
              refine wpOp_step (o := _) rfl (fun K' hK' => ?_)
              go_simp
              exact hK' _ _ (hI.put 34 rfl (by decide) HND.out HLS.out  (Ch.refl _ _) rfl hI.wld)
            · simp at ho
              have q11 := (hI.fixed 11 (by simp)).trans F11.out
              have eg : lg L 34 = true := by unfold lg; simpa using hall ⟨34, .guard⟩ (by rw [← ho]; simp) rfl
              have fg0 : gt a 101 = .bool true := hI.val 34 _ rfl eg
              have fg := guard_of fg0 (by rw [hI.size]; decide)
              clear eg fg0
              unfold gt at q11
              clear hall
              clear ho
              refine wpOp_step (o := _) rfl (fun K' hK' => ?_)
              go_simp
              exact hK' _ _ (hI.put 35 rfl (by decide) HND.out HLS.out  (Ch.refl _ _) rfl hI.wld)
            · simp at ho
              have e35 : lg L 35 = true := by unfold lg; simpa using hall ⟨35, .data⟩ (by rw [← ho]; simp) rfl
              have f35 : gt a 102 = xg := hI.val 35 _ rfl e35
              have eg : lg L 34 = true := by unfold lg; simpa using hall ⟨34, .guard⟩ (by rw [← ho]; simp) rfl
              have fg0 : gt a 101 = .bool true := hI.val 34 _ rfl eg
              have fg := guard_of fg0 (by rw [hI.size]; decide)
              clear eg fg0
              unfold gt at f35
              clear hall
              clear ho
              have HCT := Go.Lib.hid (n13 xg w' (HX.out.ch hI.wld))
              refine wpOp_step (o := _) rfl (fun K' hK' => ?_)
              go_simp
              refine HCT.out.mono ?_
              rintro e w3 ⟨rfl, rfl⟩
              exact hK' _ _ (hI.put 36 rfl (by decide) HND.out HLS.out (Ch.refl _ _) rfl hI.wld)
            · simp at ho
              have e36 : lg L 36 = true := by unfold lg; simpa using hall ⟨36, .data⟩ (by rw [← ho]; simp) rfl
              have f36 : gt a 103 = .slice none 0 0 := hI.val 36 _ rfl e36
              have eg : lg L 34 = true := by unfold lg; simpa using hall ⟨34, .guard⟩ (by rw [← ho]; simp) rfl
              have fg0 : gt a 101 = .bool true := hI.val 34 _ rfl eg
              have fg := guard_of fg0 (by rw [hI.size]; decide)
              clear eg fg0
              unfold gt at f36
              clear hall
              clear ho
              refine wpOp_step (o := _) rfl (fun K' hK' => ?_)
              go_simp
              exact hK' _ _ (hI.put 37 rfl (by decide) HND.out HLS.out  (Ch.refl _ _) rfl hI.wld)
            · simp at ho
              have e37 : lg L 37 = true := by unfold lg; simpa using hall ⟨37, .data⟩ (by rw [← ho]; simp) rfl
              have f37 : gt a 104 = .int .i64 0 := hI.val 37 _ rfl e37
              have eg : lg L 34 = true := by unfold lg; simpa using hall ⟨34, .guard⟩ (by rw [← ho]; simp) rfl
              have fg0 : gt a 101 = .bool true := hI.val 34 _ rfl eg
              have fg := guard_of fg0 (by rw [hI.size]; decide)
              clear eg fg0
              unfold gt at f37
              clear hall
              clear ho
              refine wpOp_step (o := _) rfl (fun K' hK' => ?_)
              go_simp
              exact hK' _ _ (hI.put 38 rfl (by decide) HND.out HLS.out  (Ch.refl _ _) rfl hI.wld)
            · simp at ho
              have e34 : lg L 34 = true := by unfold lg; simpa using hall ⟨34, .data⟩ (by rw [← ho]; simp) rfl
              have f34 : gt a 101 = .bool true := hI.val 34 _ rfl e34
              have e38 : lg L 38 = true := by unfold lg; simpa using hall ⟨38, .data⟩ (by rw [← ho]; simp) rfl
              have f38 : gt a 105 = .bool true := hI.val 38 _ rfl e38
              unfold gt at f34 f38
              clear hall
              clear ho
              refine wpOp_step (o := _) rfl (fun K' hK' => ?_)
              go_simp
              exact hK' _ _ (hI.put 39 rfl (by decide) HND.out HLS.out  (Ch.refl _ _) rfl hI.wld)
            · simp at ho
              have e39 : lg L 39 = true := by unfold lg; simpa using hall ⟨39, .data⟩ (by rw [← ho]; simp) rfl
              have f39 : gt a 106 = .bool true := hI.val 39 _ rfl e39
              unfold gt at f39
              clear hall
              clear ho
              refine wpOp_step (o := _) rfl (fun K' hK' => ?_)
              go_simp
              exact hK' _ _ (hI.put 40 rfl (by decide) HND.out HLS.out  (Ch.refl _ _) rfl hI.wld)
            · simp at ho
              have eg : lg L 40 = true := by unfold lg; simpa using hall ⟨40, .guard⟩ (by rw [← ho]; simp) rfl
              have fg0 : gt a 107 = .bool true := hI.val 40 _ rfl eg
              have fg := guard_of fg0 (by rw [hI.size]; decide)
              clear eg fg0
              clear hall
              clear ho
              have HCT := Go.Lib.hid (wworks_any w')
              refine wpOp_step (o := _) rfl (fun K' hK' => ?_)
              go_simp
              refine HCT.out.mono ?_
              rintro e w3 ⟨rfl, hc⟩
              exact hK' _ _ (hI.put 41 rfl (by decide) HND.out HLS.out  hc rfl (hI.wld.trans hc))
            · simp at ho
              have e40 : lg L 40 = true := by unfold lg; simpa using hall ⟨40, .data⟩ (by rw [← ho]; simp) rfl
              have f40 : gt a 107 = .bool true := hI.val 40 _ rfl e40
              have e41 : lg L 41 = true := by unfold lg; simpa using hall ⟨41, .data⟩ (by rw [← ho]; simp) rfl
              have f41 : gt a 108 = .bool true := hI.val 41 _ rfl e41
              unfold gt at f40 f41
              clear hall
              clear ho
              refine wpOp_step (o := _) rfl (fun K' hK' => ?_)
              go_simp
              exact hK' _ _ (hI.put 42 rfl (by decide) HND.out HLS.out  (Ch.refl _ _) rfl hI.wld)
          · intro L a w' hI hal
            have hfr := hI.frame HSZ.out (by simp) (fun i hi => hal i hi)
            have k0 : gt a 67 = .pointer (some ⟨b, 0, none⟩) := hI.val 0 _ rfl (hal 0 (by decide))
            obtain ⟨g1, c1, k1, hh1⟩ : (fun x v => ∃ (g : Option Addr) (c : Nat), x = .slice g K c ∧ BytesAt v g K c F) (gt a 68) w' := hI.val 1 _ rfl (hal 1 (by decide))
            have H1 := Go.Lib.hid hh1
            have k2 : gt a 69 = .string sg := hI.val 2 _ rfl (hal 2 (by decide))
            have k3 : gt a 70 = .slice p K c := hI.val 3 _ rfl (hal 3 (by decide))
            have k4 : gt a 71 = .string sg := hI.val 4 _ rfl (hal 4 (by decide))
            have k5 : gt a 72 = .bool true := hI.val 5 _ rfl (hal 5 (by decide))
            have k6 : gt a 73 = .bool true := hI.val 6 _ rfl (hal 6 (by decide))
            have k7 : gt a 74 = xg := hI.val 7 _ rfl (hal 7 (by decide))
            obtain ⟨g8, c8, k8, hh8⟩ : (fun x u => ∃ (g : Nat) (c : Nat), x = .slice (some ⟨g, 0, none⟩) 1 1 ∧ AnyW u) (gt a 75) w' := hI.val 8 _ rfl (hal 8 (by decide))
            have H8 := Go.Lib.hid hh8
            have k9 : gt a 76 = .int .i64 1 := hI.val 9 _ rfl (hal 9 (by decide))
            have k10 : gt a 77 = .int .i64 1 := hI.val 10 _ rfl (hal 10 (by decide))
            have k11 : gt a 78 = .bool true := hI.val 11 _ rfl (hal 11 (by decide))
            have k12 : gt a 79 = .bool true := hI.val 12 _ rfl (hal 12 (by decide))
            have k13 : gt a 80 = .bool true := hI.val 13 _ rfl (hal 13 (by decide))
            have k14 : gt a 81 = xg := hI.val 14 _ rfl (hal 14 (by decide))
            obtain ⟨g15, c15, k15, hh15⟩ : (fun x u => ∃ (g : Nat) (c : Nat), x = .slice (some ⟨g, 0, none⟩) 1 1 ∧ AnyW u) (gt a 82) w' := hI.val 15 _ rfl (hal 15 (by decide))
            have H15 := Go.Lib.hid hh15
            have k16 : gt a 83 = .int .i64 1 := hI.val 16 _ rfl (hal 16 (by decide))
            have k17 : gt a 84 = .int .i64 1 := hI.val 17 _ rfl (hal 17 (by decide))
            have k18 : gt a 85 = .bool true := hI.val 18 _ rfl (hal 18 (by decide))
            have k19 : gt a 86 = .bool true := hI.val 19 _ rfl (hal 19 (by decide))
            have k20 : gt a 87 = .bool true := hI.val 20 _ rfl (hal 20 (by decide))
            have k21 : gt a 88 = xg := hI.val 21 _ rfl (hal 21 (by decide))
            have k22 : gt a 89 = .agg (hv fun _ => 0) := hI.val 22 _ rfl (hal 22 (by decide))
            obtain ⟨g23, c23, k23, hh23⟩ : (fun x u => ∃ (g : Nat) (c : Nat), x = .slice (some ⟨g, 0, none⟩) 1 1 ∧ AnyW u) (gt a 90) w' := hI.val 23 _ rfl (hal 23 (by decide))
            have H23 := Go.Lib.hid hh23
            have k24 : gt a 91 = .int .i64 1 := hI.val 24 _ rfl (hal 24 (by decide))
            have k25 : gt a 92 = .int .i64 1 := hI.val 25 _ rfl (hal 25 (by decide))
            have k26 : gt a 93 = .bool true := hI.val 26 _ rfl (hal 26 (by decide))
            have k27 : gt a 94 = .bool true := hI.val 27 _ rfl (hal 27 (by decide))
            have k28 : gt a 95 = .bool true := hI.val 28 _ rfl (hal 28 (by decide))
            have k29 : gt a 96 = xg := hI.val 29 _ rfl (hal 29 (by decide))
            have k30 : gt a 97 = .int .i64 1 := hI.val 30 _ rfl (hal 30 (by decide))
            have k31 : gt a 98 = .int .i64 1 := hI.val 31 _ rfl (hal 31 (by decide))
            have k32 : gt a 99 = .bool true := hI.val 32 _ rfl (hal 32 (by decide))
            have k33 : gt a 100 = .bool true := hI.val 33 _ rfl (hal 33 (by decide))
            have k34 : gt a 101 = .bool true := hI.val 34 _ rfl (hal 34 (by decide))
            have k35 : gt a 102 = xg := hI.val 35 _ rfl (hal 35 (by decide))
            have k36 : gt a 103 = .slice none 0 0 := hI.val 36 _ rfl (hal 36 (by decide))
            have k37 : gt a 104 = .int .i64 0 := hI.val 37 _ rfl (hal 37 (by decide))
            have k38 : gt a 105 = .bool true := hI.val 38 _ rfl (hal 38 (by decide))
            have k39 : gt a 106 = .bool true := hI.val 39 _ rfl (hal 39 (by decide))
            have k40 : gt a 107 = .bool true := hI.val 40 _ rfl (hal 40 (by decide))
            have k41 : gt a 108 = .bool true := hI.val 41 _ rfl (hal 41 (by decide))
            have k42 : gt a 109 = .bool true := hI.val 42 _ rfl (hal 42 (by decide))
            rw [hfr, ← HAX.out]
            have HCR := Go.Lib.hid hI.wld
            simp only [List.map_cons, List.map_nil, List.foldl_cons, List.foldl_nil, k0, k1, k2, k3, k4, k5, k6, k7, k8, k9, k10, k11, k12, k13, k14, k15, k16, k17, k18, k19, k20, k21, k22, k23, k24, k25, k26, k27, k28, k29, k30, k31, k32, k33, k34, k35, k36, k37, k38, k39, k40, k41, k42, List.setIfInBounds_toArray, List.set_cons_succ, List.set_cons_zero]
            clear hfr hI hal k0 k1 k2 k3 k4 k5 k6 k7 k8 k9 k10 k11 k12 k13 k14 k15 k16 k17 k18 k19 k20 k21 k22 k23 k24 k25 k26 k27 k28 k29 k30 k31 k32 k33 k34 k35 k36 k37 k38 k39 k40 k41 k42 hh1 hh8 hh15 hh23 HSZ HND HLS HAX F3 F4 F11
            simp only [List.drop_succ_cons, List.drop_zero]
            have HCZ := Go.Lib.hid (HCW.out.trans HCR.out)
            clear HCR
            go_wp2_with fail
            go_ret
            exact ⟨rfl, HCZ.out⟩
        · have hr2 : Int.tmod (N : Int) 2 = 0 := by rw [Int.tmod_eq_emod_of_nonneg (by omega)]; omega
          clear hodd
          go_upto_region 20 with fail
          have hx9 : NoneAt w5 (.pointer none) := .inl rfl
          have HC9 := Go.Lib.hid (Ch.refl (fun _ => False) w5)
          generalize Value.pointer none = xg at *
          have HX := Go.Lib.hid hx9; have HBW := Go.Lib.hid (HBWN.out.ch HC9.out (fun _ _ => id)); have HAL := Go.Lib.hid (fun W (hc : Ch (fun _ => False) w5 W) => all_any b K v F W ((HW5.out.ch HC9.out id (fun _ _ => id)).ch hc id (fun _ _ => id)) hK10)
          have HCW := Go.Lib.hid (HC5.out.trans HC9.out)
          clear hx9 HC9
          generalize hax : Act.mk _ _ = ax
          have HSZ := Go.Lib.hid (show ax.tmps.size = 110 by rw [← hax]; rfl)
          have F3 := Go.Lib.hid (show gt ax 3 = .pointer (some ⟨b, 0, none⟩) by rw [← hax]; rfl)
          have F4 := Go.Lib.hid (show gt ax 4 = .slice p K c by rw [← hax]; rfl)
          have F11 := Go.Lib.hid (show gt ax 11 = xg by rw [← hax]; rfl)
          have HAX := Go.Lib.hid hax
          clear hax
          have HND := Go.Lib.hid (show ([67, 68, 69, 70, 71, 72, 73, 74, 75, 76, 77, 78, 79, 80, 81, 82, 83, 84, 85, 86, 87, 88, 89, 90, 91, 92, 93, 94, 95, 96, 97, 98, 99, 100, 101, 102, 103, 104, 105, 106, 107, 108, 109] : List Nat).Nodup by decide)
          have HLS : Hid (Lasts [(67, fun x _ => x = .pointer (some ⟨b, 0, none⟩)), (68, fun x v => ∃ (g : Option Addr) (c : Nat), x = .slice g K c ∧ BytesAt v g K c F), (69, fun x _ => x = .string sg), (70, fun x _ => x = .slice p K c), (71, fun x _ => x = .string sg), (72, fun x _ => x = .bool true), (73, fun x _ => x = .bool true), (74, fun x _ => x = xg), (75, fun x u => ∃ (g : Nat) (c : Nat), x = .slice (some ⟨g, 0, none⟩) 1 1 ∧ AnyW u), (76, fun x _ => x = .int .i64 1), (77, fun x _ => x = .int .i64 1), (78, fun x _ => x = .bool true), (79, fun x _ => x = .bool true), (80, fun x _ => x = .bool true), (81, fun x _ => x = xg), (82, fun x u => ∃ (g : Nat) (c : Nat), x = .slice (some ⟨g, 0, none⟩) 1 1 ∧ AnyW u), (83, fun x _ => x = .int .i64 1), (84, fun x _ => x = .int .i64 1), (85, fun x _ => x = .bool true), (86, fun x _ => x = .bool true), (87, fun x _ => x = .bool true), (88, fun x _ => x = xg), (89, fun x _ => x = .agg (hv fun _ => 0)), (90, fun x u => ∃ (g : Nat) (c : Nat), x = .slice (some ⟨g, 0, none⟩) 1 1 ∧ AnyW u), (91, fun x _ => x = .int .i64 1), (92, fun x _ => x = .int .i64 1), (93, fun x _ => x = .bool true), (94, fun x _ => x = .bool true), (95, fun x _ => x = .bool true), (96, fun x _ => x = xg), (97, fun x _ => x = .int .i64 1), (98, fun x _ => x = .int .i64 1), (99, fun x _ => x = .bool true), (100, fun x _ => x = .bool true), (101, fun x _ => x = .bool true), (102, fun x _ => x = xg), (103, fun x _ => x = .slice none 0 0), (104, fun x _ => x = .int .i64 0), (105, fun x _ => x = .bool true), (106, fun x _ => x = .bool true), (107, fun x _ => x = .bool true), (108, fun x _ => x = .bool true), (109, fun x _ => x = .bool true)]) := Go.Lib.hid (by
            intro p hp v w1 w2 hc h
            simp only [List.mem_cons, List.not_mem_nil, or_false] at hp
            rcases hp with rfl | rfl | rfl | rfl | rfl | rfl | rfl | rfl | rfl | rfl | rfl | rfl | rfl | rfl | rfl | rfl | rfl | rfl | rfl | rfl | rfl | rfl | rfl | rfl | rfl | rfl | rfl | rfl | rfl | rfl | rfl | rfl | rfl | rfl | rfl | rfl | rfl | rfl | rfl | rfl | rfl | rfl | rfl
            all_goals first | exact h | (obtain ⟨g, h1, h2⟩ := h; exact ⟨g, h1, hc.heap h2 id⟩) | (obtain ⟨g, c, h1, h2⟩ := h; exact ⟨g, c, h1, h2.ch hc (fun _ _ h => h)⟩))
          refine wp_region_open_tail 43 (InvQ 110 [(67, fun x _ => x = .pointer (some ⟨b, 0, none⟩)), (68, fun x v => ∃ (g : Option Addr) (c : Nat), x = .slice g K c ∧ BytesAt v g K c F), (69, fun x _ => x = .string sg), (70, fun x _ => x = .slice p K c), (71, fun x _ => x = .string sg), (72, fun x _ => x = .bool true), (73, fun x _ => x = .bool true), (74, fun x _ => x = xg), (75, fun x u => ∃ (g : Nat) (c : Nat), x = .slice (some ⟨g, 0, none⟩) 1 1 ∧ AnyW u), (76, fun x _ => x = .int .i64 1), (77, fun x _ => x = .int .i64 1), (78, fun x _ => x = .bool true), (79, fun x _ => x = .bool true), (80, fun x _ => x = .bool true), (81, fun x _ => x = xg), (82, fun x u => ∃ (g : Nat) (c : Nat), x = .slice (some ⟨g, 0, none⟩) 1 1 ∧ AnyW u), (83, fun x _ => x = .int .i64 1), (84, fun x _ => x = .int .i64 1), (85, fun x _ => x = .bool true), (86, fun x _ => x = .bool true), (87, fun x _ => x = .bool true), (88, fun x _ => x = xg), (89, fun x _ => x = .agg (hv fun _ => 0)), (90, fun x u => ∃ (g : Nat) (c : Nat), x = .slice (some ⟨g, 0, none⟩) 1 1 ∧ AnyW u), (91, fun x _ => x = .int .i64 1), (92, fun x _ => x = .int .i64 1), (93, fun x _ => x = .bool true), (94, fun x _ => x = .bool true), (95, fun x _ => x = .bool true), (96, fun x _ => x = xg), (97, fun x _ => x = .int .i64 1), (98, fun x _ => x = .int .i64 1), (99, fun x _ => x = .bool true), (100, fun x _ => x = .bool true), (101, fun x _ => x = .bool true), (102, fun x _ => x = xg), (103, fun x _ => x = .slice none 0 0), (104, fun x _ => x = .int .i64 0), (105, fun x _ => x = .bool true), (106, fun x _ => x = .bool true), (107, fun x _ => x = .bool true), (108, fun x _ => x = .bool true), (109, fun x _ => x = .bool true)] (fun _ w' => Ch (fun _ => False) w5 w') ax) (by kernel_rfl) (by kernel_rfl) (InvQ.start (by simp) HSZ.out (Ch.refl _ _).drew) ?_ ?_
          · intro L a w' i hI hr hlt
            obtain ⟨h1, o, ho, hall⟩ := mem_ready.1 hr
            have hsplit : i = 0 ∨ i = 1 ∨ i = 2 ∨ i = 3 ∨ i = 4 ∨ i = 5 ∨ i = 6 ∨ i = 7 ∨ i = 8 ∨ i = 9 ∨ i = 10 ∨ i = 11 ∨ i = 12 ∨ i = 13 ∨ i = 14 ∨ i = 15 ∨ i = 16 ∨ i = 17 ∨ i = 18 ∨ i = 19 ∨ i = 20 ∨ i = 21 ∨ i = 22 ∨ i = 23 ∨ i = 24 ∨ i = 25 ∨ i = 26 ∨ i = 27 ∨ i = 28 ∨ i = 29 ∨ i = 30 ∨ i = 31 ∨ i = 32 ∨ i = 33 ∨ i = 34 ∨ i = 35 ∨ i = 36 ∨ i = 37 ∨ i = 38 ∨ i = 39 ∨ i = 40 ∨ i = 41 ∨ i = 42 := by omega
            clear hlt h1 hr
            rcases hsplit with rfl | rfl | rfl | rfl | rfl | rfl | rfl | rfl | rfl | rfl | rfl | rfl | rfl | rfl | rfl | rfl | rfl | rfl | rfl | rfl | rfl | rfl | rfl | rfl | rfl | rfl | rfl | rfl | rfl | rfl | rfl | rfl | rfl | rfl | rfl | rfl | rfl | rfl | rfl | rfl | rfl | rfl | rfl
            · have q3 := (hI.fixed 3 (by simp)).trans F3.out
              unfold gt at q3
              clear hall
              refine wpOp_step (o := _) rfl (fun K' hK' => ?_)
              go_simp
              exact hK' _ _ (hI.put 0 rfl (by decide) HND.out HLS.out  (Ch.refl _ _) rfl hI.wld)
            · simp at ho
              have e0 : lg L 0 = true := by unfold lg; simpa using hall ⟨0, .data⟩ (by rw [← ho]; simp) rfl
              have f0 : gt a 67 = .pointer (some ⟨b, 0, none⟩) := hI.val 0 _ rfl e0
              unfold gt at f0
              clear hall
              clear ho
              have HCT := Go.Lib.hid (HAL.out w' hI.wld)
              refine wpOp_step (o := _) rfl (fun K' hK' => ?_)
              go_simp
              refine HCT.out.mono ?_
              rintro e w3 ⟨v', rfl, ho, hc⟩
              obtain ⟨q, d, rfl, hq⟩ := own_bytes ho
              exact hK' _ _ (hI.put 1 rfl (by decide) HND.out HLS.out hc ⟨q, d, rfl, hq⟩ (hI.wld.trans hc))
            · simp at ho
              have e1 : lg L 1 = true := by unfold lg; simpa using hall ⟨1, .data⟩ (by rw [← ho]; simp) rfl
              obtain ⟨g1, c1, f1, hh1⟩ : (fun x v => ∃ (g : Option Addr) (c : Nat), x = .slice g K c ∧ BytesAt v g K c F) (gt a 68) w' := hI.val 1 _ rfl e1
              have hcv := HCV.out w' g1 c1 hh1
              unfold gt at f1
              clear hall
              clear ho
              refine wpOp_step (o := _) rfl (fun K' hK' => ?_)
              go_simp
              exact hK' _ _ (hI.put 2 rfl (by decide) HND.out HLS.out  (Ch.refl _ _) rfl hI.wld)
            · have q4 := (hI.fixed 4 (by simp)).trans F4.out
              unfold gt at q4
              clear hall
              refine wpOp_step (o := _) rfl (fun K' hK' => ?_)
              go_simp
              exact hK' _ _ (hI.put 3 rfl (by decide) HND.out HLS.out  (Ch.refl _ _) rfl hI.wld)
            · simp at ho
              have e3 : lg L 3 = true := by unfold lg; simpa using hall ⟨3, .data⟩ (by rw [← ho]; simp) rfl
              have f3 : gt a 70 = .slice p K c := hI.val 3 _ rfl e3
              have hcv := HCV.out w' p c (HBW.out.ch hI.wld (fun _ _ => id))
              unfold gt at f3
              clear hall
              clear ho
              refine wpOp_step (o := _) rfl (fun K' hK' => ?_)
              go_simp
              exact hK' _ _ (hI.put 4 rfl (by decide) HND.out HLS.out  (Ch.refl _ _) rfl hI.wld)
            · simp at ho
              have e2 : lg L 2 = true := by unfold lg; simpa using hall ⟨2, .data⟩ (by rw [← ho]; simp) rfl
              have f2 : gt a 69 = .string sg := hI.val 2 _ rfl e2
              have e4 : lg L 4 = true := by unfold lg; simpa using hall ⟨4, .data⟩ (by rw [← ho]; simp) rfl
              have f4 : gt a 71 = .string sg := hI.val 4 _ rfl e4
              unfold gt at f2 f4
              clear hall
              clear ho
              refine wpOp_step (o := _) rfl (fun K' hK' => ?_)
              go_simp
              exact hK' _ _ (hI.put 5 rfl (by decide) HND.out HLS.out  (Ch.refl _ _) rfl hI.wld)
            · simp at ho
              have e5 : lg L 5 = true := by unfold lg; simpa using hall ⟨5, .data⟩ (by rw [← ho]; simp) rfl
              have f5 : gt a 72 = .bool true := hI.val 5 _ rfl e5
              unfold gt at f5
              clear hall
              clear ho
              refine wpOp_step (o := _) rfl (fun K' hK' => ?_)
              go_simp
              exact hK' _ _ (hI.put 6 rfl (by decide) HND.out HLS.out  (Ch.refl _ _) rfl hI.wld)
            · simp at ho
              have q11 := (hI.fixed 11 (by simp)).trans F11.out
              have eg : lg L 6 = true := by unfold lg; simpa using hall ⟨6, .guard⟩ (by rw [← ho]; simp) rfl
              have fg0 : gt a 73 = .bool true := hI.val 6 _ rfl eg
              have fg := guard_of fg0 (by rw [hI.size]; decide)
              clear eg fg0
              unfold gt at q11
              clear hall
              clear ho
              refine wpOp_step (o := _) rfl (fun K' hK' => ?_)
              go_simp
              exact hK' _ _ (hI.put 7 rfl (by decide) HND.out HLS.out  (Ch.refl _ _) rfl hI.wld)
            · simp at ho
              have eg : lg L 6 = true := by unfold lg; simpa using hall ⟨6, .guard⟩ (by rw [← ho]; simp) rfl
              have fg0 : gt a 73 = .bool true := hI.val 6 _ rfl eg
              have fg := guard_of fg0 (by rw [hI.size]; decide)
              clear eg fg0
              clear hall
              clear ho
              refine wpOp_step (o := _) rfl (fun K' hK' => ?_)
              go_simp
              exact hK' _ _ (hI.put 8 rfl (by decide) HND.out HLS.out  ((Ch.refl _ _).alloc _) ⟨_, 0, rfl, trivial⟩ (hI.wld.alloc _))
            · simp at ho
              have e7 : lg L 7 = true := by unfold lg; simpa using hall ⟨7, .data⟩ (by rw [← ho]; simp) rfl
              have f7 : gt a 74 = xg := hI.val 7 _ rfl e7
              have e8 : lg L 8 = true := by unfold lg; simpa using hall ⟨8, .data⟩ (by rw [← ho]; simp) rfl
              obtain ⟨g8, c8, f8, hh8⟩ : (fun x u => ∃ (g : Nat) (c : Nat), x = .slice (some ⟨g, 0, none⟩) 1 1 ∧ AnyW u) (gt a 75) w' := hI.val 8 _ rfl e8
              have eg : lg L 6 = true := by unfold lg; simpa using hall ⟨6, .guard⟩ (by rw [← ho]; simp) rfl
              have fg0 : gt a 73 = .bool true := hI.val 6 _ rfl eg
              have fg := guard_of fg0 (by rw [hI.size]; decide)
              clear eg fg0
              unfold gt at f7 f8
              clear hall
              clear ho
              have HCT := Go.Lib.hid (n15 xg (.slice (some ⟨g8, 0, none⟩) 1 1) w' (HX.out.ch hI.wld))
              refine wpOp_step (o := _) rfl (fun K' hK' => ?_)
              go_simp
              refine HCT.out.mono ?_
              rintro e w3 ⟨rfl, rfl⟩
              exact hK' _ _ (hI.put 9 rfl (by decide) HND.out HLS.out (Ch.refl _ _) rfl hI.wld)
            · simp at ho
              have e9 : lg L 9 = true := by unfold lg; simpa using hall ⟨9, .data⟩ (by rw [← ho]; simp) rfl
              have f9 : gt a 76 = .int .i64 1 := hI.val 9 _ rfl e9
              have eg : lg L 6 = true := by unfold lg; simpa using hall ⟨6, .guard⟩ (by rw [← ho]; simp) rfl
              have fg0 : gt a 73 = .bool true := hI.val 6 _ rfl eg
              have fg := guard_of fg0 (by rw [hI.size]; decide)
              clear eg fg0
              unfold gt at f9
              clear hall
              clear ho
              have HCT := Go.Lib.hid (num_any 1 w')
              refine wpOp_step (o := _) rfl (fun K' hK' => ?_)
              go_simp
              refine HCT.out.mono ?_
              rintro e w3 ⟨rfl, rfl⟩
              exact hK' _ _ (hI.put 10 rfl (by decide) HND.out HLS.out (Ch.refl _ _) rfl hI.wld)
            · simp at ho
              have e10 : lg L 10 = true := by unfold lg; simpa using hall ⟨10, .data⟩ (by rw [← ho]; simp) rfl
              have f10 : gt a 77 = .int .i64 1 := hI.val 10 _ rfl e10
              have eg : lg L 6 = true := by unfold lg; simpa using hall ⟨6, .guard⟩ (by rw [← ho]; simp) rfl
              have fg0 : gt a 73 = .bool true := hI.val 6 _ rfl eg
              have fg := guard_of fg0 (by rw [hI.size]; decide)
              clear eg fg0
              unfold gt at f10
              clear hall
              clear ho
              refine wpOp_step (o := _) rfl (fun K' hK' => ?_)
              go_simp
              exact hK' _ _ (hI.put 11 rfl (by decide) HND.out HLS.out  (Ch.refl _ _) rfl hI.wld)
            · simp at ho
              have e6 : lg L 6 = true := by unfold lg; simpa using hall ⟨6, .data⟩ (by rw [← ho]; simp) rfl
              have f6 : gt a 73 = .bool true := hI.val 6 _ rfl e6
              have e11 : lg L 11 = true := by unfold lg; simpa using hall ⟨11, .data⟩ (by rw [← ho]; simp) rfl
              have f11 : gt a 78 = .bool true := hI.val 11 _ rfl e11
              unfold gt at f6 f11
              clear hall
              clear ho
              refine wpOp_step (o := _) rfl (fun K' hK' => ?_)
              go_simp
              exact hK' _ _ (hI.put 12 rfl (by decide) HND.out HLS.out  (Ch.refl _ _) rfl hI.wld)
            · simp at ho
              have e12 : lg L 12 = true := by unfold lg; simpa using hall ⟨12, .data⟩ (by rw [← ho]; simp) rfl
              have f12 : gt a 79 = .bool true := hI.val 12 _ rfl e12
              unfold gt at f12
              clear hall
              clear ho
              refine wpOp_step (o := _) rfl (fun K' hK' => ?_)
              go_simp
              exact hK' _ _ (hI.put 13 rfl (by decide) HND.out HLS.out  (Ch.refl _ _) rfl hI.wld)
            · simp at ho
              have q11 := (hI.fixed 11 (by simp)).trans F11.out
              have eg : lg L 13 = true := by unfold lg; simpa using hall ⟨13, .guard⟩ (by rw [← ho]; simp) rfl
              have fg0 : gt a 80 = .bool true := hI.val 13 _ rfl eg
              have fg := guard_of fg0 (by rw [hI.size]; decide)
              clear eg fg0
              unfold gt at q11
              clear hall
              clear ho
              refine wpOp_step (o := _) rfl (fun K' hK' => ?_)
              go_simp
              exact hK' _ _ (hI.put 14 rfl (by decide) HND.out HLS.out  (Ch.refl _ _) rfl hI.wld)
            · simp at ho
              have eg : lg L 13 = true := by unfold lg; simpa using hall ⟨13, .guard⟩ (by rw [← ho]; simp) rfl
              have fg0 : gt a 80 = .bool true := hI.val 13 _ rfl eg
              have fg := guard_of fg0 (by rw [hI.size]; decide)
              clear eg fg0
              clear hall
              clear ho
              refine wpOp_step (o := _) rfl (fun K' hK' => ?_)
              go_simp
              exact hK' _ _ (hI.put 15 rfl (by decide) HND.out HLS.out  ((Ch.refl _ _).alloc _) ⟨_, 0, rfl, trivial⟩ (hI.wld.alloc _))
            · simp at ho
              have e14 : lg L 14 = true := by unfold lg; simpa using hall ⟨14, .data⟩ (by rw [← ho]; simp) rfl
              have f14 : gt a 81 = xg := hI.val 14 _ rfl e14
              have e15 : lg L 15 = true := by unfold lg; simpa using hall ⟨15, .data⟩ (by rw [← ho]; simp) rfl
              obtain ⟨g15, c15, f15, hh15⟩ : (fun x u => ∃ (g : Nat) (c : Nat), x = .slice (some ⟨g, 0, none⟩) 1 1 ∧ AnyW u) (gt a 82) w' := hI.val 15 _ rfl e15
              have eg : lg L 13 = true := by unfold lg; simpa using hall ⟨13, .guard⟩ (by rw [← ho]; simp) rfl
              have fg0 : gt a 80 = .bool true := hI.val 13 _ rfl eg
              have fg := guard_of fg0 (by rw [hI.size]; decide)
              clear eg fg0
              unfold gt at f14 f15
              clear hall
              clear ho
              have HCT := Go.Lib.hid (n16 xg (.slice (some ⟨g15, 0, none⟩) 1 1) w' (HX.out.ch hI.wld))
              refine wpOp_step (o := _) rfl (fun K' hK' => ?_)
              go_simp
              refine HCT.out.mono ?_
              rintro e w3 ⟨rfl, rfl⟩
              exact hK' _ _ (hI.put 16 rfl (by decide) HND.out HLS.out (Ch.refl _ _) rfl hI.wld)
            · simp at ho
              have e16 : lg L 16 = true := by unfold lg; simpa using hall ⟨16, .data⟩ (by rw [← ho]; simp) rfl
              have f16 : gt a 83 = .int .i64 1 := hI.val 16 _ rfl e16
              have eg : lg L 13 = true := by unfold lg; simpa using hall ⟨13, .guard⟩ (by rw [← ho]; simp) rfl
              have fg0 : gt a 80 = .bool true := hI.val 13 _ rfl eg
              have fg := guard_of fg0 (by rw [hI.size]; decide)
              clear eg fg0
              unfold gt at f16
              clear hall
              clear ho
              have HCT := Go.Lib.hid (num_any 1 w')
              refine wpOp_step (o := _) rfl (fun K' hK' => ?_)
              go_simp
              refine HCT.out.mono ?_
              rintro e w3 ⟨rfl, rfl⟩
              exact hK' _ _ (hI.put 17 rfl (by decide) HND.out HLS.out (Ch.refl _ _) rfl hI.wld)
            · simp at ho
              have e17 : lg L 17 = true := by unfold lg; simpa using hall ⟨17, .data⟩ (by rw [← ho]; simp) rfl
              have f17 : gt a 84 = .int .i64 1 := hI.val 17 _ rfl e17
              have eg : lg L 13 = true := by unfold lg; simpa using hall ⟨13, .guard⟩ (by rw [← ho]; simp) rfl
              have fg0 : gt a 80 = .bool true := hI.val 13 _ rfl eg
              have fg := guard_of fg0 (by rw [hI.size]; decide)
              clear eg fg0
              unfold gt at f17
              clear hall
              clear ho
              refine wpOp_step (o := _) rfl (fun K' hK' => ?_)
              go_simp
              exact hK' _ _ (hI.put 18 rfl (by decide) HND.out HLS.out  (Ch.refl _ _) rfl hI.wld)
            · simp at ho
              have e13 : lg L 13 = true := by unfold lg; simpa using hall ⟨13, .data⟩ (by rw [← ho]; simp) rfl
              have f13 : gt a 80 = .bool true := hI.val 13 _ rfl e13
              have e18 : lg L 18 = true := by unfold lg; simpa using hall ⟨18, .data⟩ (by rw [← ho]; simp) rfl
              have f18 : gt a 85 = .bool true := hI.val 18 _ rfl e18
              unfold gt at f13 f18
              clear hall
              clear ho
              refine wpOp_step (o := _) rfl (fun K' hK' => ?_)
              go_simp
              exact hK' _ _ (hI.put 19 rfl (by decide) HND.out HLS.out  (Ch.refl _ _) rfl hI.wld)
            · simp at ho
              have e19 : lg L 19 = true := by unfold lg; simpa using hall ⟨19, .data⟩ (by rw [← ho]; simp) rfl
              have f19 : gt a 86 = .bool true := hI.val 19 _ rfl e19
              unfold gt at f19
              clear hall
              clear ho
              refine wpOp_step (o := _) rfl (fun K' hK' => ?_)
              go_simp
              exact hK' _ _ (hI.put 20 rfl (by decide) HND.out HLS.out  (Ch.refl _ _) rfl hI.wld)
            · simp at ho
              have q11 := (hI.fixed 11 (by simp)).trans F11.out
              have eg : lg L 20 = true := by unfold lg; simpa using hall ⟨20, .guard⟩ (by rw [← ho]; simp) rfl
              have fg0 : gt a 87 = .bool true := hI.val 20 _ rfl eg
              have fg := guard_of fg0 (by rw [hI.size]; decide)
              clear eg fg0
              unfold gt at q11
              clear hall
              clear ho
              refine wpOp_step (o := _) rfl (fun K' hK' => ?_)
              go_simp
              exact hK' _ _ (hI.put 21 rfl (by decide) HND.out HLS.out  (Ch.refl _ _) rfl hI.wld)
            · simp at ho
              have eg : lg L 20 = true := by unfold lg; simpa using hall ⟨20, .guard⟩ (by rw [← ho]; simp) rfl
              have fg0 : gt a 87 = .bool true := hI.val 20 _ rfl eg
              have fg := guard_of fg0 (by rw [hI.size]; decide)
              clear eg fg0
              clear hall
              clear ho
              refine wpOp_step (o := _) rfl (fun K' hK' => ?_)
              go_simp
              exact hK' _ _ (hI.put 22 rfl (by decide) HND.out HLS.out  (Ch.refl _ _) rfl hI.wld)
            · simp at ho
              have e22 : lg L 22 = true := by unfold lg; simpa using hall ⟨22, .data⟩ (by rw [← ho]; simp) rfl
              have f22 : gt a 89 = .agg (hv fun _ => 0) := hI.val 22 _ rfl e22
              have eg : lg L 20 = true := by unfold lg; simpa using hall ⟨20, .guard⟩ (by rw [← ho]; simp) rfl
              have fg0 : gt a 87 = .bool true := hI.val 20 _ rfl eg
              have fg := guard_of fg0 (by rw [hI.size]; decide)
              clear eg fg0
              unfold gt at f22
              clear hall
              clear ho
              refine wpOp_step (o := _) rfl (fun K' hK' => ?_)
              go_simp
              exact hK' _ _ (hI.put 23 rfl (by decide) HND.out HLS.out  ((Ch.refl _ _).alloc _) ⟨_, 0, rfl, trivial⟩ (hI.wld.alloc _))
            · simp at ho
              have e21 : lg L 21 = true := by unfold lg; simpa using hall ⟨21, .data⟩ (by rw [← ho]; simp) rfl
              have f21 : gt a 88 = xg := hI.val 21 _ rfl e21
              have e23 : lg L 23 = true := by unfold lg; simpa using hall ⟨23, .data⟩ (by rw [← ho]; simp) rfl
              obtain ⟨g23, c23, f23, hh23⟩ : (fun x u => ∃ (g : Nat) (c : Nat), x = .slice (some ⟨g, 0, none⟩) 1 1 ∧ AnyW u) (gt a 90) w' := hI.val 23 _ rfl e23
              have eg : lg L 20 = true := by unfold lg; simpa using hall ⟨20, .guard⟩ (by rw [← ho]; simp) rfl
              have fg0 : gt a 87 = .bool true := hI.val 20 _ rfl eg
              have fg := guard_of fg0 (by rw [hI.size]; decide)
              clear eg fg0
              unfold gt at f21 f23
              clear hall
              clear ho
              have HCT := Go.Lib.hid (n17 xg (.slice (some ⟨g23, 0, none⟩) 1 1) w' (HX.out.ch hI.wld))
              refine wpOp_step (o := _) rfl (fun K' hK' => ?_)
              go_simp
              refine HCT.out.mono ?_
              rintro e w3 ⟨rfl, rfl⟩
              exact hK' _ _ (hI.put 24 rfl (by decide) HND.out HLS.out (Ch.refl _ _) rfl hI.wld)
            · simp at ho
              have e24 : lg L 24 = true := by unfold lg; simpa using hall ⟨24, .data⟩ (by rw [← ho]; simp) rfl
              have f24 : gt a 91 = .int .i64 1 := hI.val 24 _ rfl e24
              have eg : lg L 20 = true := by unfold lg; simpa using hall ⟨20, .guard⟩ (by rw [← ho]; simp) rfl
              have fg0 : gt a 87 = .bool true := hI.val 20 _ rfl eg
              have fg := guard_of fg0 (by rw [hI.size]; decide)
              clear eg fg0
              unfold gt at f24
              clear hall
              clear ho
              have HCT := Go.Lib.hid (num_any 1 w')
              refine wpOp_step (o := _) rfl (fun K' hK' => ?_)
              go_simp
              refine HCT.out.mono ?_
              rintro e w3 ⟨rfl, rfl⟩
              exact hK' _ _ (hI.put 25 rfl (by decide) HND.out HLS.out (Ch.refl _ _) rfl hI.wld)
            · simp at ho
              have e25 : lg L 25 = true := by unfold lg; simpa using hall ⟨25, .data⟩ (by rw [← ho]; simp) rfl
              have f25 : gt a 92 = .int .i64 1 := hI.val 25 _ rfl e25
              have eg : lg L 20 = true := by unfold lg; simpa using hall ⟨20, .guard⟩ (by rw [← ho]; simp) rfl
              have fg0 : gt a 87 = .bool true := hI.val 20 _ rfl eg
              have fg := guard_of fg0 (by rw [hI.size]; decide)
              clear eg fg0
              unfold gt at f25
              clear hall
              clear ho
              refine wpOp_step (o := _) rfl (fun K' hK' => ?_)
              go_simp
              exact hK' _ _ (hI.put 26 rfl (by decide) HND.out HLS.out  (Ch.refl _ _) rfl hI.wld)
            · simp at ho
              have e20 : lg L 20 = true := by unfold lg; simpa using hall ⟨20, .data⟩ (by rw [← ho]; simp) rfl
              have f20 : gt a 87 = .bool true := hI.val 20 _ rfl e20
              have e26 : lg L 26 = true := by unfold lg; simpa using hall ⟨26, .data⟩ (by rw [← ho]; simp) rfl
              have f26 : gt a 93 = .bool true := hI.val 26 _ rfl e26
              unfold gt at f20 f26
              clear hall
              clear ho
              refine wpOp_step (o := _) rfl (fun K' hK' => ?_)
              go_simp
              exact hK' _ _ (hI.put 27 rfl (by decide) HND.out HLS.out  (Ch.refl _ _) rfl hI.wld)
            · simp at ho
              have e27 : lg L 27 = true := by unfold lg; simpa using hall ⟨27, .data⟩ (by rw [← ho]; simp) rfl
              have f27 : gt a 94 = .bool true := hI.val 27 _ rfl e27
              unfold gt at f27
              clear hall
              clear ho
              refine wpOp_step (o := _) rfl (fun K' hK' => ?_)
              go_simp
              exact hK' _ _ (hI.put 28 rfl (by decide) HND.out HLS.out  (Ch.refl _ _) rfl hI.wld)
            · simp at ho
              have q11 := (hI.fixed 11 (by simp)).trans F11.out
              have eg : lg L 28 = true := by unfold lg; simpa using hall ⟨28, .guard⟩ (by rw [← ho]; simp) rfl
              have fg0 : gt a 95 = .bool true := hI.val 28 _ rfl eg
              have fg := guard_of fg0 (by rw [hI.size]; decide)
              clear eg fg0
              unfold gt at q11
              clear hall
              clear ho
              refine wpOp_step (o := _) rfl (fun K' hK' => ?_)
              go_simp
              exact hK' _ _ (hI.put 29 rfl (by decide) HND.out HLS.out  (Ch.refl _ _) rfl hI.wld)
            · simp at ho
              have e29 : lg L 29 = true := by unfold lg; simpa using hall ⟨29, .data⟩ (by rw [← ho]; simp) rfl
              have f29 : gt a 96 = xg := hI.val 29 _ rfl e29
              have eg : lg L 28 = true := by unfold lg; simpa using hall ⟨28, .guard⟩ (by rw [← ho]; simp) rfl
              have fg0 : gt a 95 = .bool true := hI.val 28 _ rfl eg
              have fg := guard_of fg0 (by rw [hI.size]; decide)
              clear eg fg0
              unfold gt at f29
              clear hall
              clear ho
              have HCT := Go.Lib.hid (n18 xg { data := #[] } w' (HX.out.ch hI.wld) (by decide))
              refine wpOp_step (o := _) rfl (fun K' hK' => ?_)
              go_simp
              refine HCT.out.mono ?_
              rintro e w3 ⟨rfl, hc⟩
              exact hK' _ _ (hI.put 30 rfl (by decide) HND.out HLS.out  hc rfl (hI.wld.trans hc))
            · simp at ho
              have e30 : lg L 30 = true := by unfold lg; simpa using hall ⟨30, .data⟩ (by rw [← ho]; simp) rfl
              have f30 : gt a 97 = .int .i64 1 := hI.val 30 _ rfl e30
              have eg : lg L 28 = true := by unfold lg; simpa using hall ⟨28, .guard⟩ (by rw [← ho]; simp) rfl
              have fg0 : gt a 95 = .bool true := hI.val 28 _ rfl eg
              have fg := guard_of fg0 (by rw [hI.size]; decide)
              clear eg fg0
              unfold gt at f30
              clear hall
              clear ho
              have HCT := Go.Lib.hid (num_any 1 w')
              refine wpOp_step (o := _) rfl (fun K' hK' => ?_)
              go_simp
              refine HCT.out.mono ?_
              rintro e w3 ⟨rfl, rfl⟩
              exact hK' _ _ (hI.put 31 rfl (by decide) HND.out HLS.out (Ch.refl _ _) rfl hI.wld)
            · simp at ho
              have e31 : lg L 31 = true := by unfold lg; simpa using hall ⟨31, .data⟩ (by rw [← ho]; simp) rfl
              have f31 : gt a 98 = .int .i64 1 := hI.val 31 _ rfl e31
              have eg : lg L 28 = true := by unfold lg; simpa using hall ⟨28, .guard⟩ (by rw [← ho]; simp) rfl
              have fg0 : gt a 95 = .bool true := hI.val 28 _ rfl eg
              have fg := guard_of fg0 (by rw [hI.size]; decide)
              clear eg fg0
              unfold gt at f31
              clear hall
              clear ho
              refine wpOp_step (o := _) rfl (fun K' hK' => ?_)
              go_simp
              exact hK' _ _ (hI.put 32 rfl (by decide) HND.out HLS.out  (Ch.refl _ _) rfl hI.wld)
            · simp at ho
              have e28 : lg L 28 = true := by unfold lg; simpa using hall ⟨28, .data⟩ (by rw [← ho]; simp) rfl
              have f28 : gt a 95 = .bool true := hI.val 28 _ rfl e28
              have e32 : lg L 32 = true := by unfold lg; simpa using hall ⟨32, .data⟩ (by rw [← ho]; simp) rfl
              have f32 : gt a 99 = .bool true := hI.val 32 _ rfl e32
              unfold gt at f28 f32
              clear hall
              clear ho
              refine wpOp_step (o := _) rfl (fun K' hK' => ?_)
              go_simp
              exact hK' _ _ (hI.put 33 rfl (by decide) HND.out HLS.out  (Ch.refl _ _) rfl hI.wld)
            · simp at ho
              have e33 : lg L 33 = true := by unfold lg; simpa using hall ⟨33, .data⟩ (by rw [← ho]; simp) rfl
              have f33 : gt a 100 = .bool true := hI.val 33 _ rfl e33
              unfold gt at f33
              clear hall
              clear ho
              refine wpOp_step (o := _) rfl (fun K' hK' => ?_)
              go_simp
              exact hK' _ _ (hI.put 34 rfl (by decide) HND.out HLS.out  (Ch.refl _ _) rfl hI.wld)
            · simp at ho
              have q11 := (hI.fixed 11 (by simp)).trans F11.out
              have eg : lg L 34 = true := by unfold lg; simpa using hall ⟨34, .guard⟩ (by rw [← ho]; simp) rfl
              have fg0 : gt a 101 = .bool true := hI.val 34 _ rfl eg
              have fg := guard_of fg0 (by rw [hI.size]; decide)
              clear eg fg0
              unfold gt at q11
              clear hall
              clear ho
              refine wpOp_step (o := _) rfl (fun K' hK' => ?_)
              go_simp
              exact hK' _ _ (hI.put 35 rfl (by decide) HND.out HLS.out  (Ch.refl _ _) rfl hI.wld)
            · simp at ho
              have e35 : lg L 35 = true := by unfold lg; simpa using hall ⟨35, .data⟩ (by rw [← ho]; simp) rfl
              have f35 : gt a 102 = xg := hI.val 35 _ rfl e35
              have eg : lg L 34 = true := by unfold lg; simpa using hall ⟨34, .guard⟩ (by rw [← ho]; simp) rfl
              have fg0 : gt a 101 = .bool true := hI.val 34 _ rfl eg
              have fg := guard_of fg0 (by rw [hI.size]; decide)
              clear eg fg0
              unfold gt at f35
              clear hall
              clear ho
              have HCT := Go.Lib.hid (n13 xg w' (HX.out.ch hI.wld))
              refine wpOp_step (o := _) rfl (fun K' hK' => ?_)
              go_simp
              refine HCT.out.mono ?_
              rintro e w3 ⟨rfl, rfl⟩
              exact hK' _ _ (hI.put 36 rfl (by decide) HND.out HLS.out (Ch.refl _ _) rfl hI.wld)
            · simp at ho
              have e36 : lg L 36 = true := by unfold lg; simpa using hall ⟨36, .data⟩ (by rw [← ho]; simp) rfl
              have f36 : gt a 103 = .slice none 0 0 := hI.val 36 _ rfl e36
              have eg : lg L 34 = true := by unfold lg; simpa using hall ⟨34, .guard⟩ (by rw [← ho]; simp) rfl
              have fg0 : gt a 101 = .bool true := hI.val 34 _ rfl eg
              have fg := guard_of fg0 (by rw [hI.size]; decide)
              clear eg fg0
              unfold gt at f36
              clear hall
              clear ho
              refine wpOp_step (o := _) rfl (fun K' hK' => ?_)
              go_simp
              exact hK' _ _ (hI.put 37 rfl (by decide) HND.out HLS.out  (Ch.refl _ _) rfl hI.wld)
            · simp at ho
              have e37 : lg L 37 = true := by unfold lg; simpa using hall ⟨37, .data⟩ (by rw [← ho]; simp) rfl
              have f37 : gt a 104 = .int .i64 0 := hI.val 37 _ rfl e37
              have eg : lg L 34 = true := by unfold lg; simpa using hall ⟨34, .guard⟩ (by rw [← ho]; simp) rfl
              have fg0 : gt a 101 = .bool true := hI.val 34 _ rfl eg
              have fg := guard_of fg0 (by rw [hI.size]; decide)
              clear eg fg0
              unfold gt at f37
              clear hall
              clear ho
              refine wpOp_step (o := _) rfl (fun K' hK' => ?_)
              go_simp
              exact hK' _ _ (hI.put 38 rfl (by decide) HND.out HLS.out  (Ch.refl _ _) rfl hI.wld)
            · simp at ho
              have e34 : lg L 34 = true := by unfold lg; simpa using hall ⟨34, .data⟩ (by rw [← ho]; simp) rfl
              have f34 : gt a 101 = .bool true := hI.val 34 _ rfl e34
              have e38 : lg L 38 = true := by unfold lg; simpa using hall ⟨38, .data⟩ (by rw [← ho]; simp) rfl
              have f38 : gt a 105 = .bool true := hI.val 38 _ rfl e38
              unfold gt at f34 f38
              clear hall
              clear ho
              refine wpOp_step (o := _) rfl (fun K' hK' => ?_)
              go_simp
              exact hK' _ _ (hI.put 39 rfl (by decide) HND.out HLS.out  (Ch.refl _ _) rfl hI.wld)
            · simp at ho
              have e39 : lg L 39 = true := by unfold lg; simpa using hall ⟨39, .data⟩ (by rw [← ho]; simp) rfl
              have f39 : gt a 106 = .bool true := hI.val 39 _ rfl e39
              unfold gt at f39
              clear hall
              clear ho
              refine wpOp_step (o := _) rfl (fun K' hK' => ?_)
              go_simp
              exact hK' _ _ (hI.put 40 rfl (by decide) HND.out HLS.out  (Ch.refl _ _) rfl hI.wld)
            · simp at ho
              have eg : lg L 40 = true := by unfold lg; simpa using hall ⟨40, .guard⟩ (by rw [← ho]; simp) rfl
              have fg0 : gt a 107 = .bool true := hI.val 40 _ rfl eg
              have fg := guard_of fg0 (by rw [hI.size]; decide)
              clear eg fg0
              clear hall
              clear ho
              have HCT := Go.Lib.hid (wworks_any w')
              refine wpOp_step (o := _) rfl (fun K' hK' => ?_)
              go_simp
              refine HCT.out.mono ?_
              rintro e w3 ⟨rfl, hc⟩
              exact hK' _ _ (hI.put 41 rfl (by decide) HND.out HLS.out  hc rfl (hI.wld.trans hc))
            · simp at ho
              have e40 : lg L 40 = true := by unfold lg; simpa using hall ⟨40, .data⟩ (by rw [← ho]; simp) rfl
              have f40 : gt a 107 = .bool true := hI.val 40 _ rfl e40
              have e41 : lg L 41 = true := by unfold lg; simpa using hall ⟨41, .data⟩ (by rw [← ho]; simp) rfl
              have f41 : gt a 108 = .bool true := hI.val 41 _ rfl e41
              unfold gt at f40 f41
              clear hall
              clear ho
              refine wpOp_step (o := _) rfl (fun K' hK' => ?_)
              go_simp
              exact hK' _ _ (hI.put 42 rfl (by decide) HND.out HLS.out  (Ch.refl _ _) rfl hI.wld)
          · intro L a w' hI hal
            have hfr := hI.frame HSZ.out (by simp) (fun i hi => hal i hi)
            have k0 : gt a 67 = .pointer (some ⟨b, 0, none⟩) := hI.val 0 _ rfl (hal 0 (by decide))
            obtain ⟨g1, c1, k1, hh1⟩ : (fun x v => ∃ (g : Option Addr) (c : Nat), x = .slice g K c ∧ BytesAt v g K c F) (gt a 68) w' := hI.val 1 _ rfl (hal 1 (by decide))
            have H1 := Go.Lib.hid hh1
            have k2 : gt a 69 = .string sg := hI.val 2 _ rfl (hal 2 (by decide))
            have k3 : gt a 70 = .slice p K c := hI.val 3 _ rfl (hal 3 (by decide))
            have k4 : gt a 71 = .string sg := hI.val 4 _ rfl (hal 4 (by decide))
            have k5 : gt a 72 = .bool true := hI.val 5 _ rfl (hal 5 (by decide))
            have k6 : gt a 73 = .bool true := hI.val 6 _ rfl (hal 6 (by decide))
            have k7 : gt a 74 = xg := hI.val 7 _ rfl (hal 7 (by decide))
            obtain ⟨g8, c8, k8, hh8⟩ : (fun x u => ∃ (g : Nat) (c : Nat), x = .slice (some ⟨g, 0, none⟩) 1 1 ∧ AnyW u) (gt a 75) w' := hI.val 8 _ rfl (hal 8 (by decide))
            have H8 := Go.Lib.hid hh8
            have k9 : gt a 76 = .int .i64 1 := hI.val 9 _ rfl (hal 9 (by decide))
            have k10 : gt a 77 = .int .i64 1 := hI.val 10 _ rfl (hal 10 (by decide))
            have k11 : gt a 78 = .bool true := hI.val 11 _ rfl (hal 11 (by decide))
            have k12 : gt a 79 = .bool true := hI.val 12 _ rfl (hal 12 (by decide))
            have k13 : gt a 80 = .bool true := hI.val 13 _ rfl (hal 13 (by decide))
            have k14 : gt a 81 = xg := hI.val 14 _ rfl (hal 14 (by decide))
            obtain ⟨g15, c15, k15, hh15⟩ : (fun x u => ∃ (g : Nat) (c : Nat), x = .slice (some ⟨g, 0, none⟩) 1 1 ∧ AnyW u) (gt a 82) w' := hI.val 15 _ rfl (hal 15 (by decide))
            have H15 := Go.Lib.hid hh15
            have k16 : gt a 83 = .int .i64 1 := hI.val 16 _ rfl (hal 16 (by decide))
            have k17 : gt a 84 = .int .i64 1 := hI.val 17 _ rfl (hal 17 (by decide))
            have k18 : gt a 85 = .bool true := hI.val 18 _ rfl (hal 18 (by decide))
            have k19 : gt a 86 = .bool true := hI.val 19 _ rfl (hal 19 (by decide))
            have k20 : gt a 87 = .bool true := hI.val 20 _ rfl (hal 20 (by decide))
            have k21 : gt a 88 = xg := hI.val 21 _ rfl (hal 21 (by decide))
            have k22 : gt a 89 = .agg (hv fun _ => 0) := hI.val 22 _ rfl (hal 22 (by decide))
            obtain ⟨g23, c23, k23, hh23⟩ : (fun x u => ∃ (g : Nat) (c : Nat), x = .slice (some ⟨g, 0, none⟩) 1 1 ∧ AnyW u) (gt a 90) w' := hI.val 23 _ rfl (hal 23 (by decide))
            have H23 := Go.Lib.hid hh23
            have k24 : gt a 91 = .int .i64 1 := hI.val 24 _ rfl (hal 24 (by decide))
            have k25 : gt a 92 = .int .i64 1 := hI.val 25 _ rfl (hal 25 (by decide))
            have k26 : gt a 93 = .bool true := hI.val 26 _ rfl (hal 26 (by decide))
            have k27 : gt a 94 = .bool true := hI.val 27 _ rfl (hal 27 (by decide))
            have k28 : gt a 95 = .bool true := hI.val 28 _ rfl (hal 28 (by decide))
            have k29 : gt a 96 = xg := hI.val 29 _ rfl (hal 29 (by decide))
            have k30 : gt a 97 = .int .i64 1 := hI.val 30 _ rfl (hal 30 (by decide))
            have k31 : gt a 98 = .int .i64 1 := hI.val 31 _ rfl (hal 31 (by decide))
            have k32 : gt a 99 = .bool true := hI.val 32 _ rfl (hal 32 (by decide))
            have k33 : gt a 100 = .bool true := hI.val 33 _ rfl (hal 33 (by decide))
            have k34 : gt a 101 = .bool true := hI.val 34 _ rfl (hal 34 (by decide))
            have k35 : gt a 102 = xg := hI.val 35 _ rfl (hal 35 (by decide))
            have k36 : gt a 103 = .slice none 0 0 := hI.val 36 _ rfl (hal 36 (by decide))
            have k37 : gt a 104 = .int .i64 0 := hI.val 37 _ rfl (hal 37 (by decide))
            have k38 : gt a 105 = .bool true := hI.val 38 _ rfl (hal 38 (by decide))
            have k39 : gt a 106 = .bool true := hI.val 39 _ rfl (hal 39 (by decide))
            have k40 : gt a 107 = .bool true := hI.val 40 _ rfl (hal 40 (by decide))
            have k41 : gt a 108 = .bool true := hI.val 41 _ rfl (hal 41 (by decide))
            have k42 : gt a 109 = .bool true := hI.val 42 _ rfl (hal 42 (by decide))
            rw [hfr, ← HAX.out]
            have HCR := Go.Lib.hid hI.wld
            simp only [List.map_cons, List.map_nil, List.foldl_cons, List.foldl_nil, k0, k1, k2, k3, k4, k5, k6, k7, k8, k9, k10, k11, k12, k13, k14, k15, k16, k17, k18, k19, k20, k21, k22, k23, k24, k25, k26, k27, k28, k29, k30, k31, k32, k33, k34, k35, k36, k37, k38, k39, k40, k41, k42, List.setIfInBounds_toArray, List.set_cons_succ, List.set_cons_zero]
            clear hfr hI hal k0 k1 k2 k3 k4 k5 k6 k7 k8 k9 k10 k11 k12 k13 k14 k15 k16 k17 k18 k19 k20 k21 k22 k23 k24 k25 k26 k27 k28 k29 k30 k31 k32 k33 k34 k35 k36 k37 k38 k39 k40 k41 k42 hh1 hh8 hh15 hh23 HSZ HND HLS HAX F3 F4 F11
            simp only [List.drop_succ_cons, List.drop_zero]
            have HCZ := Go.Lib.hid (HCW.out.trans HCR.out)
            clear HCR
            go_wp2_with fail
            go_ret
            exact ⟨rfl, HCZ.out⟩
  · go_wp2_with (go_at_call 10; refine (wworks_any _).mono ?_; rintro e w2 ⟨rfl, hc⟩; have HC := Go.Lib.hid hc; clear hc)
    go_ret
    exact ⟨rfl, HC.out⟩
end Go.Proofs.Ytljllfdigfojdaa
