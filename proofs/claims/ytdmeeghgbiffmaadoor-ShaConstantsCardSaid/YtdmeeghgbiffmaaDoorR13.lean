/- The reference's behind. -/
import Derived.Test.YtdmeeghgbiffmaaDoorR12
import Derived.Test.YtdmeeghgbiffmaaDoorRegG
import Derived.Test.YtdmeeghgbiffmaaDoorT15
namespace Go.Proofs.YtdmeeghgbiffmaaDoor
open Go Go.RowKit
attribute [local go_sem high] b_add b_xor b_and b_or b_shr b_shl not32 wrap_un beq32

def dg (x y z : Nat) : Nat → Nat | 0 => x | 1 => y | _ => z
theorem n3_dg (x y z : Nat) : n3 (dg x y z) = #[.int .u64 (x : Int), .int .u64 (y : Int), .int .u64 (z : Int)] := rfl
/-- A number to a power. -/
def pw (n : Nat) : Nat → Nat → Nat
  | 0 => dg 1 0 0
  | i + 1 => tm (pw n i) n
theorem pw_lt (n i : Nat) : ∀ j, j < 3 → pw n i j < 18446744073709551616 := by
  cases i with
  | zero =>
    intro j hj
    match j, hj with
    | 0, _ => show (1 : Nat) < 18446744073709551616; decide
    | 1, _ => show (0 : Nat) < 18446744073709551616; decide
    | 2, _ => show (0 : Nat) < 18446744073709551616; decide
  | succ i => intro j _; exact tm_lt _ _ _
def hitF (lim : Nat → Nat) (word power whole : Nat) : Bool := leF (pw (whole * 4294967296 + word) power) lim 3 && !leF (pw (whole * 4294967296 + word + 1) power) lim 3
def ex (h : Nat → Bool) : Nat → Bool
  | 0 => false
  | t + 1 => ex h t || h (t + 1)
theorem ex_mono (h : Nat → Bool) (s t : Nat) (hst : s ≤ t) (he : ex h s = true) : ex h t = true := by
  induction t with
  | zero => obtain rfl : s = 0 := by omega
            exact he
  | succ t ih =>
    by_cases e : s = t + 1
    · subst e; exact he
    · show (ex h t || h (t + 1)) = true
      rw [ih (by omega)]; rfl
theorem two_first (w : World) (o p : Obj) : ((w.alloc o).alloc p).heap[w.heap.size]? = some o := Ch.heap ((Ch.refl (fun _ => False) _).alloc _) (World.alloc_heap_new w o) id
theorem two_second (w : World) (o : Obj) (c d : Array Value) (t : TypeId) : (((w.alloc o).alloc (.cells d t)).setRow w.heap.size c).heap[w.heap.size + 1]? = some (.cells d t) := by
  refine Ch.heap ((Ch.refl (fun k => k = w.heap.size) ((w.alloc o).alloc (.cells d t))).setRow (fun _ => rfl) c) ?_ (by omega)
  rw [← World.size_alloc w o]
  exact World.alloc_heap_new _ _
def limF (p power : Nat) : Nat → Nat := if power = 3 then tm (dg 0 4294967296 0) p else tm (dg 0 1 0) p

/-- What the region of both products leaves. -/
structure IPow (W : World) (Lo Hi : Nat) (p q p' q' : Array Value) (L : Array Bool) (w : World) : Prop where
  ch : Ch (fun k => k = Lo ∨ k = Hi) W w
  x : w.heap[Lo]? = some (.cells (if lg L 7 = true then p' else p) 85)
  y : w.heap[Hi]? = some (.cells (if lg L 8 = true then q' else q) 85)
  late7 : lg L 7 = true → ∀ j, j < 7 → lg L j = true
  late8 : lg L 8 = true → ∀ j, j < 7 → lg L j = true
  pre6 : lg L 6 = true → lg L 3 = true ∧ lg L 4 = true ∧ lg L 5 = true
  pre5 : lg L 5 = true → lg L 4 = true
section
variable {W : World} {Lo Hi : Nat} {p q p' q' : Array Value} {L : Array Bool} {w w' : World}
theorem IPow.val (h : IPow W Lo Hi p q p' q' L w) (hs : L.size = 9) (j : Nat) (hj : j < 7) (hc : Ch (fun _ => False) w w') (h6 : j = 6 → lg L 3 = true ∧ lg L 4 = true ∧ lg L 5 = true) (h5 : j = 5 → lg L 4 = true) : IPow W Lo Hi p q p' q' (L.setIfInBounds j true) w' := by
  have l := fun k => lg_set L j k (by omega)
  refine ⟨h.ch.trans (hc.mono (fun _ _ e => e.elim)), ?_, ?_, fun e k hk => ?_, fun e k hk => ?_, fun e => ?_, fun e => ?_⟩
  · rw [show lg (L.setIfInBounds j true) 7 = lg L 7 by rw [l, if_neg (by omega)]]; exact hc.heap h.x id
  · rw [show lg (L.setIfInBounds j true) 8 = lg L 8 by rw [l, if_neg (by omega)]]; exact hc.heap h.y id
  · rw [l, if_neg (by omega)] at e; rw [l]; split
    · rfl
    · exact h.late7 e k hk
  · rw [l, if_neg (by omega)] at e; rw [l]; split
    · rfl
    · exact h.late8 e k hk
  · have h345 : lg L 3 = true ∧ lg L 4 = true ∧ lg L 5 = true := by
      by_cases e6 : j = 6
      · exact h6 e6
      · rw [l, if_neg (by omega)] at e; exact h.pre6 e
    rw [l, l, l]
    exact ⟨by split <;> first | rfl | exact h345.1, by split <;> first | rfl | exact h345.2.1, by split <;> first | rfl | exact h345.2.2⟩
  · have h4 : lg L 4 = true := by
      by_cases e5 : j = 5
      · exact h5 e5
      · rw [l, if_neg (by omega)] at e; exact h.pre5 e
    rw [l]
    split <;> first | rfl | exact h4
theorem IPow.seven (h : IPow W Lo Hi p q p' q' L w) (hs : L.size = 9) (hne : Lo ≠ Hi) (hall : ∀ j, j < 7 → lg L j = true) (ho : w.heap[Lo]? = some (.cells p 85)) : IPow W Lo Hi p q p' q' (L.setIfInBounds 7 true) (w.setRow Lo p') := by
  have l := fun k => lg_set L 7 k (by omega)
  have hc : Ch (fun k => k = Lo) w (w.setRow Lo p') := (Ch.refl (fun k => k = Lo) w).setRow (fun _ => rfl) _
  refine ⟨h.ch.trans (hc.mono (fun _ _ e => .inl e)), ?_, ?_, fun _ k hk => ?_, fun e k hk => ?_, fun _ => ⟨?_, ?_, ?_⟩, fun _ => ?_⟩
  · rw [l, if_pos rfl, if_pos rfl]; exact heap_setRow ho
  · rw [show lg (L.setIfInBounds 7 true) 8 = lg L 8 by rw [l, if_neg (by omega)]]; exact hc.heap h.y (Ne.symm hne)
  · rw [l, if_neg (by omega)]; exact hall k hk
  · rw [l, if_neg (by omega)]; exact hall k hk
  · rw [l, if_neg (by omega)]; exact hall 3 (by omega)
  · rw [l, if_neg (by omega)]; exact hall 4 (by omega)
  · rw [l, if_neg (by omega)]; exact hall 5 (by omega)
  · rw [l, if_neg (by omega)]; exact hall 4 (by omega)
theorem IPow.eight (h : IPow W Lo Hi p q p' q' L w) (hs : L.size = 9) (hne : Lo ≠ Hi) (hall : ∀ j, j < 7 → lg L j = true) (ho : w.heap[Hi]? = some (.cells q 85)) : IPow W Lo Hi p q p' q' (L.setIfInBounds 8 true) (w.setRow Hi q') := by
  have l := fun k => lg_set L 8 k (by omega)
  have hc : Ch (fun k => k = Hi) w (w.setRow Hi q') := (Ch.refl (fun k => k = Hi) w).setRow (fun _ => rfl) _
  refine ⟨h.ch.trans (hc.mono (fun _ _ e => .inr e)), ?_, ?_, fun e k hk => ?_, fun _ k hk => ?_, fun _ => ⟨?_, ?_, ?_⟩, fun _ => ?_⟩
  · rw [show lg (L.setIfInBounds 8 true) 7 = lg L 7 by rw [l, if_neg (by omega)]]; exact hc.heap h.x hne
  · rw [l, if_pos rfl, if_pos rfl]; exact heap_setRow ho
  · rw [l, if_neg (by omega)]; exact hall k hk
  · rw [l, if_neg (by omega)]; exact hall k hk
  · rw [l, if_neg (by omega)]; exact hall 3 (by omega)
  · rw [l, if_neg (by omega)]; exact hall 4 (by omega)
  · rw [l, if_neg (by omega)]; exact hall 5 (by omega)
  · rw [l, if_neg (by omega)]; exact hall 4 (by omega)
theorem IPow.x0 (h : IPow W Lo Hi p q p' q' L w) {j : Nat} (hj : j < 7) (hn : lg L j = false) : w.heap[Lo]? = some (.cells p 85) ∧ w.heap[Hi]? = some (.cells q 85) := by
  have h7 : ¬ lg L 7 = true := fun e => by have := h.late7 e j hj; rw [hn] at this; cases this
  have h8 : ¬ lg L 8 = true := fun e => by have := h.late8 e j hj; rw [hn] at this; cases this
  have hx := h.x; have hy := h.y
  rw [if_neg h7] at hx; rw [if_neg h8] at hy
  exact ⟨hx, hy⟩
end
set_option maxRecDepth 100000 in
set_option maxHeartbeats 4000000 in
theorem behind3 (x : BitVec 32) (p : Nat) (w : World) (hp : p < 18446744073709551616) :
    Calls Tryd.prog 36 #[.int .u32 (un x), .int .u64 p, .int .i64 3] w fun e w' => e = .returned (.bool (ex (hitF (limF p 3) x.toNat 3) 17)) ∧ Ch (fun _ => False) w w' := by
  have HT0 := Go.Lib.hid (fun W => times_any (dg 0 1 0) p W (by intro j hj; match j, hj with | 0, _ => decide | 1, _ => decide | 2, _ => decide) hp)
  have HT1 := Go.Lib.hid (fun W => times_any (dg 0 4294967296 0) p W (by intro j hj; match j, hj with | 0, _ => decide | 1, _ => decide | 2, _ => decide) hp)
  have HLM := Go.Lib.hid (show tm (dg 0 4294967296 0) p = limF p 3 from rfl)
  rw [HLM.out] at HT1
  generalize limF p 3 = lim at *
  rw [n3_dg] at HT0 HT1
  have HI0 := Go.Lib.hid (n3_info (tm (dg 0 1 0) p)); have HJ0 := Go.Lib.hid (n3_all (tm (dg 0 1 0) p)); have HK0 := Go.Lib.hid (show 3 = (n3 (tm (dg 0 1 0) p)).size by unfold n3; rw [arr_size])
  have HI1 := Go.Lib.hid (n3_info lim); have HJ1 := Go.Lib.hid (n3_all lim); have HK1 := Go.Lib.hid (n3_size (tm (dg 0 1 0) p) lim)
  have HAM := Go.Lib.hid (fun a W => atMost_any a lim W)
  generalize n3 (tm (dg 0 1 0) p) = R0 at *
  generalize n3 lim = RL at *
  go_enter Tryd.func36, Tryd.ntmps36
  go_wp2_with fail
  refine (HT0.out _).mono ?_; rintro e w1 ⟨rfl, hw1⟩
  have HC1 := Go.Lib.hid hw1; clear hw1
  go_upto_region 2 with (refine wpList_store_row rfl 85 (.tmp 7) (.tmp 15) rfl w1.heap.size R0 rfl rfl 85 #[.int .u64 0, .int .u64 0, .int .u64 0] (World.alloc_heap_new w1 _) HI0.out HK0.out HJ0.out ?_)
  generalize hW2 : (w1.alloc _).setRow w1.heap.size R0 = W2
  have hx2 : W2.heap[w1.heap.size]? = some (.cells R0 85) := by rw [← hW2]; exact heap_setRow (World.alloc_heap_new w1 _)
  have hc2 : Ch (fun _ => False) w1 W2 := by rw [← hW2]; exact ((Ch.refl _ _).alloc _).setRow (fun h => absurd h (Nat.lt_irrefl _)) _
  have HX2 := Go.Lib.hid hx2; have HC2 := Go.Lib.hid (HC1.out.trans hc2)
  have hsz : w.heap.size ≤ w1.heap.size := HC1.out.size
  have HSZ := Go.Lib.hid hsz
  clear hW2 hx2 hc2 HC1 hsz
  generalize w1.heap.size = A at *
  go_wp2_with fail
  refine (HT1.out _).mono ?_; rintro e w3 ⟨rfl, hw3⟩
  have HX3 := Go.Lib.hid (hw3.heap HX2.out id); have HC3 := Go.Lib.hid (HC2.out.trans hw3); clear hw3
  go_upto_region 4 with (refine wpList_store_row rfl 85 (.tmp 7) (.tmp 20) rfl A RL rfl rfl 85 R0 HX3.out HI1.out HK1.out HJ1.out ?_)
  have HX4 := Go.Lib.hid (heap_setRow (cells := RL) HX3.out)
  have HC4 := Go.Lib.hid (HC3.out.setRow (g := A) (fun h => by have := HSZ.out; omega) RL)
  clear HX3 HC3 HX2 HC2 HT0 HT1 HI0 HJ0 HK0
  generalize w3.setRow A RL = W4 at *
  go_wp2_with fail
  have hxl : x.toNat < 4294967296 := x.isLt
  have HXL := Go.Lib.hid hxl
  clear hxl
  go_loopw [8, 9, 10, 11, 12] (fun i _ _ _ _ wr => ∃ t : Nat, t ≤ 17 ∧ i = .int .u64 ((t : Int) + 1) ∧ ex (hitF lim x.toNat 3) t = false ∧ Ch (fun _ => False) W4 wr) (fun i _ _ _ _ _ => 19 - (intOf i).toNat)
  case atStart => exact ⟨0, by omega, rfl, rfl, Ch.refl _ _⟩
  case round =>
    obtain ⟨t, ht, rfl, hex, hC⟩ := hrel
    have HEX := Go.Lib.hid hex; have HC := Go.Lib.hid hC
    clear hex hC
    by_cases hlt : t < 17
    · have h18 : (t : Int) + 1 < 18 := by omega
      have hsh : IntKind.u64.wrap (((t : Int) + 1) * 4294967296) = ((t : Int) + 1) * 4294967296 := by rw [IntKind.wrap_u64]; omega
      have hcv : IntKind.u64.wrap (un x) = un x := by rw [IntKind.wrap_u64]; have := un_nonneg x; have := un_lt x; omega
      obtain ⟨n, hn⟩ : ∃ n, n = (t + 1) * 4294967296 + x.toNat := ⟨_, rfl⟩
      have hnn : IntKind.u64.wrap (((t : Int) + 1) * 4294967296 + un x) = (n : Int) := by
        rw [IntKind.wrap_u64]; have := un_nonneg x; have := un_lt x; unfold un at *; omega
      have HN := Go.Lib.hid (show n < 18446744073709551615 by have := HXL.out; omega)
      have HHT := Go.Lib.hid (show hitF lim x.toNat 3 (t + 1) = (leF (pw n 3) lim 3 && !leF (pw (n + 1) 3) lim 3) by rw [hn]; rfl)
      clear hn
      clear hsh
      have HM1 := Go.Lib.hid (n3_info (dg 1 0 0)); have HM2 := Go.Lib.hid (n3_all (dg 1 0 0))
      go_upto_region 8 with (fail)
      clear hcv hnn
      go_upto_region 9 with (first | (refine wpList_store_row rfl 85 (.tmp 10) (.tmp 30) rfl wr.heap.size (n3 (dg 1 0 0)) rfl rfl 85 #[.int .u64 0, .int .u64 0, .int .u64 0] (two_first wr _ _) HM1.out rfl HM2.out ?_) | (refine wpList_store_row rfl 85 (.tmp 11) (.tmp 31) rfl (wr.heap.size + 1) (n3 (dg 1 0 0)) rfl rfl 85 #[.int .u64 0, .int .u64 0, .int .u64 0] (two_second wr _ _ _ _) HM1.out rfl HM2.out ?_))
      generalize hW5 : World.setRow _ _ _ = W5
      have hlo : W5.heap[wr.heap.size]? = some (.cells (n3 (dg 1 0 0)) 85) := by
        rw [← hW5]; refine Ch.heap ((Ch.refl (fun k => k = wr.heap.size + 1) _).setRow (fun _ => rfl) _) ?_ (by omega)
        exact heap_setRow (two_first wr _ _)
      have hhi : W5.heap[wr.heap.size + 1]? = some (.cells (n3 (dg 1 0 0)) 85) := by
        rw [← hW5]; exact heap_setRow (two_second wr _ _ _ _)
      have hc5 : Ch (fun _ => False) wr W5 := by
        rw [← hW5]; exact ((((Ch.refl _ wr).alloc _).alloc _).setRow (fun h => absurd h (by omega)) _).setRow (fun h => absurd h (by omega)) _
      have hAl : A < wr.heap.size := (Array.getElem?_eq_some_iff.1 (HC.out.heap HX4.out id)).1
      have HLO := Go.Lib.hid hlo; have HHI := Go.Lib.hid hhi; have HC5 := Go.Lib.hid (HC.out.trans hc5); have HAL := Go.Lib.hid hAl; have HLW := Go.Lib.hid (show W4.heap.size ≤ wr.heap.size from HC.out.size)
      clear hW5 hlo hhi hc5 hAl HM1 HM2 HC
      generalize wr.heap.size = Lo at *
      have HD0 := Go.Lib.hid (show dg 1 0 0 = pw n 0 from rfl); have HD1 := Go.Lib.hid (show dg 1 0 0 = pw (n + 1) 0 from rfl)
      go_wp2_with fail
      go_loopw [12] (fun k wz => ∃ i : Nat, i ≤ 3 ∧ k = .int .i64 i ∧ wz.heap[Lo]? = some (.cells (n3 (pw n i)) 85) ∧ wz.heap[Lo + 1]? = some (.cells (n3 (pw (n + 1) i)) 85) ∧ Ch (fun j => j = Lo ∨ j = Lo + 1) W5 wz) (fun k _ => 3 - (intOf k).toNat)
      case atStart => exact ⟨0, by omega, rfl, HLO.out, HHI.out, Ch.refl _ _⟩
      case round =>
        obtain ⟨i, hi, rfl, h1, h2, hCz⟩ := hrel
        have H1 := Go.Lib.hid h1; have H2 := Go.Lib.hid h2; have HCz := Go.Lib.hid hCz
        clear h1 h2 hCz
        by_cases hli : i < 3
        · have hii : (i : Int) < 3 := by omega
          have HTA := Go.Lib.hid (fun W => (show Calls Tryd.prog 52 #[.agg (n3 (pw n i)), .int .u64 (n : Int)] W fun e w' => e = .returned (.agg (n3 (pw n (i + 1)))) ∧ Ch (fun _ => False) W w' from times_any (pw n i) n W (pw_lt n i) (by have := HN.out; omega)))
          have HTB := Go.Lib.hid (fun W => (show Calls Tryd.prog 52 #[.agg (n3 (pw (n + 1) i)), .int .u64 ((n + 1 : Nat) : Int)] W fun e w' => e = .returned (.agg (n3 (pw (n + 1) (i + 1)))) ∧ Ch (fun _ => False) W w' from times_any (pw (n + 1) i) (n + 1) W (pw_lt (n + 1) i) (by have := HN.out; omega)))
          have HP0 := Go.Lib.hid (n3_info (pw n i)); have HP1 := Go.Lib.hid (n3_info (pw n (i + 1))); have HP2 := Go.Lib.hid (n3_all (pw n (i + 1))); have HP3 := Go.Lib.hid (n3_size (pw n i) (pw n (i + 1)))
          have HQ0 := Go.Lib.hid (n3_info (pw (n + 1) i)); have HQ1 := Go.Lib.hid (n3_info (pw (n + 1) (i + 1))); have HQ2 := Go.Lib.hid (n3_all (pw (n + 1) (i + 1))); have HQ3 := Go.Lib.hid (n3_size (pw (n + 1) i) (pw (n + 1) (i + 1)))
          generalize hp1 : n3 (pw n (i + 1)) = p' at *
          generalize hq1 : n3 (pw (n + 1) (i + 1)) = q' at *
          have HPP := Go.Lib.hid hp1; have HQQ := Go.Lib.hid hq1
          clear hp1 hq1
          generalize n3 (pw n i) = pp at *
          generalize n3 (pw (n + 1) i) = qq at *
          go_upto_region 12 with (fail)
          refine wp_region_any (by kernel_rfl) ?_
          generalize hwx : ({ wr with drawn := wr.drawn + 1 } : World) = wx
          have hcx : Ch (fun _ => False) wr wx := by rw [← hwx]; exact (Ch.refl _ wr).drew
          have HX1 := Go.Lib.hid (hcx.heap H1.out id); have HX2 := Go.Lib.hid (hcx.heap H2.out id)
          have HCX := Go.Lib.hid (HCz.out.trans (hcx.mono (fun _ _ h => h.elim)))
          clear hwx hcx H1 H2 HCz
          generalize hax : Act.mk _ _ = ax
          have hsz : ax.tmps.size = 53 := by rw [← hax]; rfl
          have f9 : gt ax 9 = .int .u64 (n : Int) := by rw [← hax]; rfl
          have f10 : gt ax 10 = .pointer (some ⟨Lo, 0, none⟩) := by rw [← hax]; rfl
          have f11 : gt ax 11 = .pointer (some ⟨Lo + 1, 0, none⟩) := by rw [← hax]; rfl
          have HSZ2 := Go.Lib.hid hsz; have F9 := Go.Lib.hid f9; have F10 := Go.Lib.hid f10; have F11 := Go.Lib.hid f11; have HAXE := Go.Lib.hid hax
          have hwn : IntKind.u64.wrap ((n : Int) + 1) = ((n + 1 : Nat) : Int) := by have := HN.out; rw [IntKind.wrap_u64]; omega
          have HWN := Go.Lib.hid hwn
          clear hsz f9 f10 f11 hax hwn
          refine wpAny_inv (InvG 9 37 7 53 (IPow wx Lo (Lo + 1) pp qq p' q') ax (fun j => match j with | 0 => .agg pp | 1 => .int .u64 (n : Int) | 2 => .agg p' | 3 => .agg qq | 4 => .int .u64 (n : Int) | 5 => .int .u64 ((n + 1 : Nat) : Int) | _ => .agg q')) ?_ ?_ _ _ _ _ rfl (by decide) (InvG.start HSZ2.out ⟨Ch.refl _ _, by rw [if_neg (fun e => lg_none _ _ e)]; exact HX1.out, by rw [if_neg (fun e => lg_none _ _ e)]; exact HX2.out, fun e => (lg_none _ _ e).elim, fun e => (lg_none _ _ e).elim, fun e => (lg_none _ _ e).elim, fun e => (lg_none _ _ e).elim⟩)
          · intro L a w' i0 hI hr
            obtain ⟨h1, o, ho, hall⟩ := mem_ready.1 hr
            have hlt0 : i0 < 9 := (Array.getElem?_eq_some_iff.1 ho).1
            have hls := hI.lsize
            have hun : lg L i0 = false := by
              have h2 : i0 < L.size := by omega
              unfold lg; simp [h2] at h1 ⊢; exact h1
            have hsplit : i0 = 0 ∨ i0 = 1 ∨ i0 = 2 ∨ i0 = 3 ∨ i0 = 4 ∨ i0 = 5 ∨ i0 = 6 ∨ i0 = 7 ∨ i0 = 8 := by omega
            clear hlt0 h1 hr
            rcases hsplit with rfl | rfl | rfl | rfl | rfl | rfl | rfl | rfl | rfl
            · refine wpOp_step (o := _) rfl (fun K' hK' => ?_)
              have f := (hI.fixed 10 (by omega)).trans F10.out
              have hb := (hI.wld.x0 (j := 0) (by omega) hun).1
              unfold gt at f
              exact wp_load_row 85 (.tmp 10) rfl Lo (by simpa [Act.eval] using f) 85 pp (0, 0) _ hb Tryd.underlying85 rfl HP0.out (hK' _ _ (hI.put 0 (by omega) (by omega) (by omega) (hI.wld.val hls 0 (by omega) (Ch.refl _ _) (fun h => by omega) (fun h => by omega))))
            · refine wpOp_step (o := _) rfl (fun K' hK' => ?_)
              have f := (hI.fixed 9 (by omega)).trans F9.out
              unfold gt at f
              clear hall
              go_simp
              exact hK' _ _ (hI.put 1 (by omega) (by omega) (by omega) (hI.wld.val hls 1 (by omega) (Ch.refl _ _) (fun h => by omega) (fun h => by omega)))
            · refine wpOp_step (o := _) rfl (fun K' hK' => ?_)
              simp at ho
              have e := hall ⟨0, .data⟩ (by rw [← ho]; simp) rfl
              have e1 := hall ⟨1, .data⟩ (by rw [← ho]; simp) rfl
              have la : lg L 0 = true := by unfold lg; simpa using e
              have lb : lg L 1 = true := by unfold lg; simpa using e1
              have f := hI.val 0 (by omega) la
              have f1 := hI.val 1 (by omega) lb
              unfold gt at f f1
              clear ho hall
              have HCT := Go.Lib.hid (HTA.out w')
              go_simp
              refine HCT.out.mono ?_
              rintro e w9 ⟨rfl, hc⟩
              exact hK' _ _ (hI.put 2 (by omega) (by omega) (by omega) (hI.wld.val hls 2 (by omega) hc (fun h => by omega) (fun h => by omega)))
            · refine wpOp_step (o := _) rfl (fun K' hK' => ?_)
              have f := (hI.fixed 11 (by omega)).trans F11.out
              have hb := (hI.wld.x0 (j := 3) (by omega) hun).2
              unfold gt at f
              exact wp_load_row 85 (.tmp 11) rfl (Lo + 1) (by simpa [Act.eval] using f) 85 qq (0, 0) _ hb Tryd.underlying85 rfl HQ0.out (hK' _ _ (hI.put 3 (by omega) (by omega) (by omega) (hI.wld.val hls 3 (by omega) (Ch.refl _ _) (fun h => by omega) (fun h => by omega))))
            · refine wpOp_step (o := _) rfl (fun K' hK' => ?_)
              have f := (hI.fixed 9 (by omega)).trans F9.out
              unfold gt at f
              clear hall
              go_simp
              exact hK' _ _ (hI.put 4 (by omega) (by omega) (by omega) (hI.wld.val hls 4 (by omega) (Ch.refl _ _) (fun h => by omega) (fun h => by omega)))
            · refine wpOp_step (o := _) rfl (fun K' hK' => ?_)
              simp at ho
              have e := hall ⟨4, .data⟩ (by rw [← ho]; simp) rfl
              have l4 : lg L 4 = true := by unfold lg; simpa using e
              have f := hI.val 4 (by omega) l4
              have hwn := HWN.out
              unfold gt at f
              clear ho hall
              go_simp
              exact hK' _ _ (hI.put 5 (by omega) (by omega) (by omega) (hI.wld.val hls 5 (by omega) (Ch.refl _ _) (fun h => by omega) (fun _ => l4)))
            · refine wpOp_step (o := _) rfl (fun K' hK' => ?_)
              simp at ho
              have e := hall ⟨3, .data⟩ (by rw [← ho]; simp) rfl
              have e1 := hall ⟨5, .data⟩ (by rw [← ho]; simp) rfl
              have la : lg L 3 = true := by unfold lg; simpa using e
              have lb : lg L 5 = true := by unfold lg; simpa using e1
              have lc : lg L 4 = true := hI.wld.pre5 lb
              have f := hI.val 3 (by omega) la
              have f1 := hI.val 5 (by omega) lb
              unfold gt at f f1
              clear ho hall
              have HCT := Go.Lib.hid (HTB.out w')
              go_simp
              refine HCT.out.mono ?_
              rintro e w9 ⟨rfl, hc⟩
              exact hK' _ _ (hI.put 6 (by omega) (by omega) (by omega) (hI.wld.val hls 6 (by omega) hc (fun _ => ⟨la, lc, lb⟩) (fun h => by omega)))
            · refine wpOp_step (o := _) rfl (fun K' hK' => ?_)
              simp at ho
              have e0 : lg L 0 = true := by unfold lg; simpa using hall ⟨0, .phase⟩ (by rw [← ho]; simp) rfl
              have e1 : lg L 1 = true := by unfold lg; simpa using hall ⟨1, .phase⟩ (by rw [← ho]; simp) rfl
              have e2 : lg L 2 = true := by unfold lg; simpa using hall ⟨2, .phase⟩ (by rw [← ho]; simp) rfl
              have e6 : lg L 6 = true := by unfold lg; simpa using hall ⟨6, .chain⟩ (by rw [← ho]; simp) rfl
              obtain ⟨e3, e4, e5⟩ := hI.wld.pre6 e6
              have hal : ∀ k, k < 7 → lg L k = true := fun k hk => by
                match k, hk with | 0, _ => exact e0 | 1, _ => exact e1 | 2, _ => exact e2 | 3, _ => exact e3 | 4, _ => exact e4 | 5, _ => exact e5 | 6, _ => exact e6
              have fp := (hI.fixed 10 (by omega)).trans F10.out
              have fv := hI.val 2 (by omega) e2
              have hb := hI.wld.x
              rw [hun, if_neg (by simp)] at hb
              unfold gt at fp fv
              clear ho hall
              exact wp_store_row 85 (.tmp 10) (.tmp 39) rfl Lo p' (by simpa [Act.eval] using fp) (by simpa [Act.eval] using fv) 85 pp hb HP1.out HP3.out HP2.out (hK' _ _ (hI.skip 7 (by omega) (by omega) (hI.wld.seven hls (by omega) hal hb)))
            · refine wpOp_step (o := _) rfl (fun K' hK' => ?_)
              simp at ho
              have e0 : lg L 0 = true := by unfold lg; simpa using hall ⟨0, .phase⟩ (by rw [← ho]; simp) rfl
              have e1 : lg L 1 = true := by unfold lg; simpa using hall ⟨1, .phase⟩ (by rw [← ho]; simp) rfl
              have e2 : lg L 2 = true := by unfold lg; simpa using hall ⟨2, .phase⟩ (by rw [← ho]; simp) rfl
              have e3 : lg L 3 = true := by unfold lg; simpa using hall ⟨3, .phase⟩ (by rw [← ho]; simp) rfl
              have e4 : lg L 4 = true := by unfold lg; simpa using hall ⟨4, .phase⟩ (by rw [← ho]; simp) rfl
              have e5 : lg L 5 = true := by unfold lg; simpa using hall ⟨5, .phase⟩ (by rw [← ho]; simp) rfl
              have e6 : lg L 6 = true := by unfold lg; simpa using hall ⟨6, .phase⟩ (by rw [← ho]; simp) rfl
              have hal : ∀ k, k < 7 → lg L k = true := fun k hk => by
                match k, hk with | 0, _ => exact e0 | 1, _ => exact e1 | 2, _ => exact e2 | 3, _ => exact e3 | 4, _ => exact e4 | 5, _ => exact e5 | 6, _ => exact e6
              have fp := (hI.fixed 11 (by omega)).trans F11.out
              have fv := hI.val 6 (by omega) e6
              have hb := hI.wld.y
              rw [hun, if_neg (by simp)] at hb
              unfold gt at fp fv
              clear ho hall
              exact wp_store_row 85 (.tmp 11) (.tmp 43) rfl (Lo + 1) q' (by simpa [Act.eval] using fp) (by simpa [Act.eval] using fv) 85 qq hb HQ1.out HQ3.out HQ2.out (hK' _ _ (hI.skip 8 (by omega) (by omega) (hI.wld.eight hls (by omega) hal hb)))
          · intro L a w' hI hr
            have hal := all_listed' (md := .any) (by kernel_rfl) hI.lsize hr
            have hfr := hI.frame HSZ2.out (by omega) (fun i hi => hal i (Nat.lt_of_lt_of_le hi (by decide)))
            rw [hfr, ← HAXE.out]
            have h7 : lg L 7 = true := hal 7 (by decide)
            have h8 : lg L 8 = true := hal 8 (by decide)
            have hxa := hI.wld.x; have hya := hI.wld.y
            rw [if_pos h7] at hxa; rw [if_pos h8] at hya
            have HXA := Go.Lib.hid hxa; have HYA := Go.Lib.hid hya
            have HCA := Go.Lib.hid (HCX.out.trans hI.wld.ch)
            clear hfr hI hr hal h7 h8 hxa hya HX1 HX2 HCX F9 F10 F11 HAXE HSZ2 HTA HTB
            simp only [sets, Nat.reduceAdd, List.setIfInBounds_toArray, List.set_cons_succ, List.set_cons_zero]
            go_wp2_with fail
            go_roundw
            case rel => exact ⟨i + 1, by omega, by go_num, by rw [HPP.out]; exact HXA.out, by rw [HQQ.out]; exact HYA.out, HCA.out⟩
            case measure => simp [intOf]; omega
        · obtain rfl : i = 3 := by omega
          have HXA := Go.Lib.hid (HCz.out.heap (HC5.out.heap HX4.out id) (by have := HAL.out; omega))
          have HCW := Go.Lib.hid (show Ch (fun _ => False) W4 wr from HC5.out.then HCz.out (fun k hk h => by have := HAL.out; have := HLW.out; omega))
          have HLa := Go.Lib.hid (HAM.out (pw n 3)); have HLb := Go.Lib.hid (HAM.out (pw (n + 1) 3))
          have HN1 := Go.Lib.hid (n3_info (pw n 3)); have HN2 := Go.Lib.hid (n3_info (pw (n + 1) 3))
          generalize n3 (pw n 3) = pp at *
          generalize n3 (pw (n + 1) 3) = qq at *
          generalize leF (pw n 3) lim 3 = l1 at *
          generalize leF (pw (n + 1) 3) lim 3 = l2 at *
          cases l1 with
          | false =>
            have HE2 := Go.Lib.hid (show ex (hitF lim x.toNat 3) (t + 1) = false by show (ex (hitF lim x.toNat 3) t || hitF lim x.toNat 3 (t + 1)) = false; rw [HEX.out, HHT.out]; rfl)
            go_wp2_with (first | (refine wpList_load_row rfl 85 (.tmp 10) rfl Lo rfl 85 pp (0, 0) _ H1.out Tryd.underlying85 rfl HN1.out ?_) | (refine wpList_load_row rfl 85 (.tmp 7) rfl A rfl 85 RL (0, 0) _ HXA.out Tryd.underlying85 rfl HI1.out ?_))
            refine (HLa.out _).mono ?_; rintro e w9 ⟨rfl, hw9⟩; have HC9 := Go.Lib.hid (HCW.out.trans hw9); clear hw9
            go_wp2_with fail
            go_roundw
            case rel => exact ⟨t + 1, by omega, by go_num, HE2.out, HC9.out⟩
            case measure => simp [intOf]; omega
          | true =>
            go_wp2_with (first | (refine wpList_load_row rfl 85 (.tmp 10) rfl Lo rfl 85 pp (0, 0) _ H1.out Tryd.underlying85 rfl HN1.out ?_) | (refine wpList_load_row rfl 85 (.tmp 7) rfl A rfl 85 RL (0, 0) _ HXA.out Tryd.underlying85 rfl HI1.out ?_))
            refine (HLa.out _).mono ?_; rintro e w9 ⟨rfl, hw9⟩
            have HC9 := Go.Lib.hid (HCW.out.trans hw9); have H29 := Go.Lib.hid (hw9.heap H2.out id); have HA9 := Go.Lib.hid (hw9.heap HXA.out id); clear hw9
            go_wp2_with (first | (refine wpList_load_row_wanted rfl 85 (.tmp 11) rfl (Lo + 1) rfl 85 qq (0, 0) _ H29.out Tryd.underlying85 rfl HN2.out ?_) | (refine wpList_load_row_wanted rfl 85 (.tmp 7) rfl A rfl 85 RL (0, 0) _ HA9.out Tryd.underlying85 rfl HI1.out ?_))
            refine (HLb.out _).mono ?_; rintro e w10 ⟨rfl, hw10⟩
            have HC10 := Go.Lib.hid (HC9.out.trans hw10); clear hw10
            cases l2 with
            | true =>
              have HE2 := Go.Lib.hid (show ex (hitF lim x.toNat 3) (t + 1) = false by show (ex (hitF lim x.toNat 3) t || hitF lim x.toNat 3 (t + 1)) = false; rw [HEX.out, HHT.out]; rfl)
              go_wp2_with fail
              go_roundw
              case rel => exact ⟨t + 1, by omega, by go_num, HE2.out, HC10.out⟩
              case measure => simp [intOf]; omega
            | false =>
              have HE2 := Go.Lib.hid (show ex (hitF lim x.toNat 3) 17 = true from ex_mono _ (t + 1) 17 (by omega) (by show (ex (hitF lim x.toNat 3) t || hitF lim x.toNat 3 (t + 1)) = true; rw [HEX.out, HHT.out]; rfl))
              go_wp2_with fail
              go_ret
              exact ⟨by rw [HE2.out]; rfl, HC4.out.trans HC10.out⟩
    · obtain rfl : t = 17 := by omega
      go_wp2_with fail
      go_ret
      exact ⟨by rw [HEX.out]; rfl, HC4.out.trans HC.out⟩
end Go.Proofs.YtdmeeghgbiffmaaDoor
