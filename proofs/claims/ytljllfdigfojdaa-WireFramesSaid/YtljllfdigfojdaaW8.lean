/- WireFrames. -/
import Derived.Test.YtljllfdigfojdaaW6
import Derived.Test.YtljllfdigfojdaaW7
import Derived.Test.YtljllfdigfojdaaRegR
import Derived.Test.YtljllfdigfojdaaRU
import Derived.Test.YtljllfdigfojdaaV13
import Derived.Test.YtljllfdigfojdaaU4
import Derived.Deep.CutBlock
import Derived.Sort.CutIn
import Derived.LoopN
namespace Go.Proofs.Ytljllfdigfojdaa
open Go Go.RowKit
attribute [local go_sem] Oper.semAt_some

theorem two_atF (w : World) (a b : Array Value) (t u : TypeId) : ((w.alloc (.cells a t)).alloc (.cells b u)).heap[w.heap.size]? = some (.cells a t) ∧ ((w.alloc (.cells a t)).alloc (.cells b u)).heap[w.heap.size + 1]? = some (.cells b u) ∧ Ch (fun _ => False) w ((w.alloc (.cells a t)).alloc (.cells b u)) := by
  refine ⟨(Below.heap_alloc _ _ _ (by simp)).trans (World.alloc_heap_new w _), ?_, ((Ch.refl _ w).alloc _).alloc _⟩
  have := World.alloc_heap_new (w.alloc (.cells a t)) (.cells b u); rwa [World.size_alloc] at this
theorem own_emptyF (w : World) (F : Nat → UInt8) : (w.alloc (.cells #[] 5)).ownsRow w.heap.size 5 1 (.slice (some ⟨w.heap.size, 0, none⟩) 0 0) 0 (fL F 0) :=
  ⟨rfl, .inr ⟨w.heap.size, 0, _, rfl, Nat.le_refl _, World.alloc_heap_new w _, by omega, by simp [maxLen], rfl, rfl⟩⟩
theorem own_parts {w : World} {base T : Nat} {v : Value} {off mm : Nat → Nat} {qs : Nat → Option Addr} {ds : Nat → Nat} (h : w.ownsRow base 86 2 v T (partsL off mm qs ds T)) : ∃ sv pc, v = .slice sv T pc ∧
    (T = 0 ∨ ∃ pg cur, sv = some ⟨pg, 0, none⟩ ∧ base ≤ pg ∧ w.heap[pg]? = some (.cells cur 86) ∧ ∀ i, i < T → cur[i * 2]? = some (.int .i64 (off (i + 1) : Nat)) ∧ cur[i * 2 + 1]? = some (.slice (qs i) (mm i) (ds i))) := by
  rcases h.2 with ⟨rfl, rfl⟩ | ⟨g, cap, cur, rfl, hb, hg, hnc, _, _, htake⟩
  · exact ⟨none, 0, rfl, .inl rfl⟩
  · refine ⟨_, cap, rfl, .inr ⟨g, cur, rfl, hb, hg, fun i hi => ?_⟩⟩
    obtain ⟨h1, h2⟩ := partsL_at off mm qs ds T i hi
    rw [← htake, List.getElem?_take, if_pos (by omega)] at h1
    rw [← htake, List.getElem?_take, if_pos (by omega)] at h2
    exact ⟨by rw [← Array.getElem?_toList]; exact h1, by rw [← Array.getElem?_toList]; exact h2⟩
/-- What lies in the law's boxes between two turns. -/
structure RowsF (many : Int) (A AB B x0 xs T : Nat) (sv p' : Option Addr) (pc c' ns : Nat) (F : Nat → UInt8) (off kk mm : Nat → Nat) (qs : Nat → Option Addr) (ds : Nat → Nat) (TB : Nat) (tn : Int) (Lim : Nat) (W : World) : Prop where
  a : W.heap[A]? = some (.cells #[.int .i64 many] 3)
  r : W.heap[A + 1]? = some (.cells #[.bool false] 4)
  al : W.heap[AB]? = some (.cells #[.slice sv T pc] 83)
  b : W.heap[B]? = some (.cells #[.slice p' ns c'] 27)
  by1 : BytesAt W p' ns c' F
  by2 : ∀ ad, p' = some ad → ad.block = x0
  t : W.heap[TB]? = some (.cells #[.int .i64 tn] 3)
  rows : T = 0 ∨ ∃ pg cur, sv = some ⟨pg, 0, none⟩ ∧ pg < Lim ∧ W.heap[pg]? = some (.cells cur 86) ∧ ∀ i, i < T → cur[i * 2]? = some (.int .i64 (off (i + 1) : Nat)) ∧ cur[i * 2 + 1]? = some (.slice (qs i) (mm i) (ds i))
  bod : BodiesAt W F off kk mm qs ds xs T
  l : A + 1 < Lim ∧ AB < Lim ∧ B < Lim ∧ x0 < B ∧ xs < Lim ∧ TB < Lim
theorem RowsF.keep {many : Int} {A AB B x0 xs T : Nat} {sv p' : Option Addr} {pc c' ns : Nat} {F : Nat → UInt8} {off kk mm : Nat → Nat} {qs : Nat → Option Addr} {ds : Nat → Nat} {TB : Nat} {tn : Int} {Lim Lim2 : Nat} {W W' : World} {S : Nat → Prop} (h : RowsF many A AB B x0 xs T sv p' pc c' ns F off kk mm qs ds TB tn Lim W) (hc : Ch S W W') (hS : ∀ k, S k → Lim ≤ k) (hL : Lim ≤ Lim2) :
    RowsF many A AB B x0 xs T sv p' pc c' ns F off kk mm qs ds TB tn Lim2 W' where
  a := hc.heap h.a (fun hs => by have := hS _ hs; have := h.l; omega)
  r := hc.heap h.r (fun hs => by have := hS _ hs; have := h.l; omega)
  al := hc.heap h.al (fun hs => by have := hS _ hs; have := h.l; omega)
  b := hc.heap h.b (fun hs => by have := hS _ hs; have := h.l; omega)
  by1 := h.by1.but hc h.by2 (fun hs => by have := hS _ hs; have := h.l; omega)
  by2 := h.by2
  t := hc.heap h.t (fun hs => by have := hS _ hs; have := h.l; omega)
  rows := by
    rcases h.rows with h | ⟨pg, cur, h1, h2, h3, h4⟩
    · exact .inl h
    · exact .inr ⟨pg, cur, h1, by omega, hc.heap h3 (fun hs => by have := hS _ hs; omega), h4⟩
  bod := h.bod.ch hc (fun hs => by have := hS _ hs; have := h.l; omega)
  l := by have := h.l; omega
theorem RowsF.turn {many : Int} {A AB B x0 xs T : Nat} {sv p' : Option Addr} {pc c' ns : Nat} {F : Nat → UInt8} {off kk mm : Nat → Nat} {qs : Nat → Option Addr} {ds : Nat → Nat} {TB TB' : Nat} {tn tn' : Int} {Lim Lim2 : Nat} {W : World} (h : RowsF many A AB B x0 xs T sv p' pc c' ns F off kk mm qs ds TB tn Lim W) (ht : W.heap[TB']? = some (.cells #[.int .i64 tn'] 3)) (hL : Lim ≤ Lim2) (hT : TB' < Lim2) :
    RowsF many A AB B x0 xs T sv p' pc c' ns F off kk mm qs ds TB' tn' Lim2 W where
  a := h.a
  r := h.r
  al := h.al
  b := h.b
  by1 := h.by1
  by2 := h.by2
  t := ht
  rows := by
    rcases h.rows with h | ⟨pg, cur, h1, h2, h3, h4⟩
    · exact .inl h
    · exact .inr ⟨pg, cur, h1, by omega, h3, h4⟩
  bod := h.bod
  l := by have := h.l; omega
theorem isfunc81 : (match Try.prog.underlying 81 with | some (.func _ _ _) => true | _ => false) = true := by kernel_rfl
/-- An iterator is not nil. -/
theorem wpList_eqnil {w : World} {ops : Array Oper} {rest : List Oper} {o : Oper} {a : Act} {Q : Exit → Act → World → Prop} (hgd : o.guard = none) (x : Operand)
    (ho : o.op = .binOp .eql 81 x (.const .nilFunc) 81) {f : Fn} {b c : Array Value} (hx : a.eval x = .func f b c) (h : wpList Try.prog ops Q rest (a.put o.dst (.bool false)) w) : wpList Try.prog ops Q (o :: rest) a w := by
  obtain ⟨p1, p2, p3, hu⟩ : ∃ p1 p2 p3, Try.prog.underlying 81 = some (.func p1 p2 p3) := by
    have h := isfunc81
    split at h
    · rename_i p1 p2 p3 hu; exact ⟨p1, p2, p3, hu⟩
    · cases h
  have he : (Op.equalIn 10000 81 (.func f b c) .nilFunc).run Try.prog w = .ok false w := by
    show (Op.equalIn (9999 + 1) 81 (.func f b c) .nilFunc).run Try.prog w = .ok false w
    rw [Op.equalIn]
    simp only [Sem.run_bind, run_underlying hu, Result.andThen]
    rfl
  refine wpList_plain hgd fun K hK => ?_
  have hy : a.eval (.const .nilFunc) = .nilFunc := rfl
  have h1 : (eqGuard .eql 81 x (.const .nilFunc) (.func f b c) .nilFunc).run Try.prog w = .ok () w := by
    simp [eqGuard]
  have h2 : (binOp .eql 81 (.func f b c) .nilFunc).run Try.prog w = .ok (.bool false) w := by
    simp only [binOp, Op.equal, Sem.run_bind]
    rw [show (Op.equalIn Op.maxDepth 81 (.func f b c) .nilFunc).run Try.prog w = .ok false w from he]
    rfl
  unfold Oper.wp execOp
  simp only [ho, hx, hy, Sem.run_bind, h1, h2, Result.andThen]
  exact hK _ _ h
/-- Both Splits tell alike. -/
theorem both_split (p : Option Addr) (n c x0 : Nat) (F : Nat → UInt8) (w : World) (hb : BytesAt w p n c F) (hx0 : x0 < w.heap.size) (hblk : ∀ ad, p = some ad → ad.block = x0) (hn : n ≤ 1000000000) :
    ∃ (m : Nat) (G : Nat → UInt8) (N0 no : Int),
      (∀ W, Ch (fun _ => False) w W → Calls Try.prog 30 #[.slice p n c] W fun e w' => Ch (fun _ => False) W w' ∧ ∃ q d, e = .returned (.tuple #[.slice q m d, .int .i64 N0, .int .i64 no]) ∧ BytesAt w' q m d G) ∧
      (∀ W, Ch (fun _ => False) w W → Calls Try.prog 31 #[.slice p n c] W fun e w' => Ch (fun _ => False) W w' ∧ ∃ q d, e = .returned (.tuple #[.slice q m d, .int .i64 N0, .int .i64 no]) ∧ BytesAt w' q m d G) := by
  have h1 := fun W (hc : Ch (fun _ => False) w W) => split_any p n c x0 F W (hb.ch hc (fun _ _ => id)) (Nat.lt_of_lt_of_le hx0 hc.size) hblk hn
  have h2 := fun W (hc : Ch (fun _ => False) w W) => rsplit_any p n c x0 F W (hb.ch hc (fun _ _ => id)) hblk hn
  cases hs : splitR F n with
  | inr no =>
    refine ⟨0, fun _ => 0, 0, no, fun W hc => (h1 W hc).mono ?_, fun W hc => (h2 W hc).mono ?_⟩
    · rintro e w' ⟨hc', ⟨no', hs', rfl⟩ | ⟨k, m, h, cur, hs', _⟩⟩
      · rw [hs] at hs'; cases hs'; exact ⟨hc', none, 0, rfl, .inr ⟨rfl, fun _ => rfl⟩⟩
      · rw [hs] at hs'; cases hs'
    · rintro e w' ⟨hc', ⟨no', hs', rfl⟩ | ⟨k, m, q, d, hs', _⟩⟩
      · rw [hs] at hs'; cases hs'; exact ⟨hc', none, 0, rfl, .inr ⟨rfl, fun _ => rfl⟩⟩
      · rw [hs] at hs'; cases hs'
  | inl x =>
    obtain ⟨k, m⟩ := x
    refine ⟨m, fun j => F (k + j), ((k + (m + 4) : Nat) : Int), 0, fun W hc => (h1 W hc).mono ?_, fun W hc => (h2 W hc).mono ?_⟩
    · rintro e w' ⟨hc', ⟨no', hs', rfl⟩ | ⟨k', m', h, cur, hs', _, _, rfl, hh, hrow, hcur⟩⟩
      · rw [hs] at hs'; cases hs'
      · rw [hs] at hs'; cases hs'
        exact ⟨hc', _, _, rfl, .inl ⟨h, 0, rfl, Nat.le_refl _, row_lt hrow, fun j hj => (cell_of_heap hrow _).trans (by rw [Nat.zero_add]; exact hcur j hj)⟩⟩
    · rintro e w' ⟨hc', ⟨no', hs', rfl⟩ | ⟨k', m', q, d, hs', _, rfl, hbq, _⟩⟩
      · rw [hs] at hs'; cases hs'
      · rw [hs] at hs'; cases hs'; exact ⟨hc', q, d, rfl, hbq⟩
theorem res6 (w1 : World) (B : Nat) (b : Bool) (h : w1.heap[B]? = some (.cells #[.bool b] 4)) (t : Array Value) (h6 : t[6]? = some (.pointer (some ⟨B, 0, none⟩))) :
    (results Try.f6 t).run Try.prog w1 = .ok (.bool b) w1 := by
  have h0 : w1.cell? ⟨B, 0, none⟩ = some (.bool b) := cell_of_heap h 0
  simp [results, Try.results6, go_sem, h0, h6]
set_option maxRecDepth 100000 in
set_option maxHeartbeats 8000000 in
theorem frames_law (pb ps : Option Addr) (nb cb ns cs : Nat) (fb F : Nat → UInt8) (many : Int) (w : World) (hb : BytesAt w pb nb cb fb) (hs : BytesAt w ps ns cs F) (hsp : ∀ ad, ps = some ad → ad.block < w.heap.size) :
    Calls Try.prog 6 #[.slice pb nb cb, .slice ps ns cs, .int .i64 many] w fun e w' => e = .returned (.bool true) ∧ Ch (fun _ => False) w w' := by
  obtain ⟨hM, hR, hc1⟩ := two_atF w #[.int .i64 many] #[.bool false] 3 4
  generalize hw1 : (w.alloc (.cells #[.int .i64 many] 3)).alloc (.cells #[.bool false] 4) = w1 at *
  have hz1 : w1.heap.size = w.heap.size + 2 := by rw [← hw1]; simp
  have HB := Go.Lib.hid (hb.ch hc1 (fun _ _ => id)); have HS := Go.Lib.hid (hs.ch hc1 (fun _ _ => id)); have HSP := Go.Lib.hid hsp; have HM := Go.Lib.hid hM; have HR := Go.Lib.hid hR; have HC1 := Go.Lib.hid hc1; have HZ1 := Go.Lib.hid hz1
  have HW1 := Go.Lib.hid hw1
  have hfr := frozen_of_heap hR 0
  have hcr := (cell_of_heap hR 0).trans rfl
  clear hb hs hsp hM hR hc1 hz1 hw1
  by_cases hn1 : 500 < nb
  · have hn' : (500 : Int) < (nb : Int) := by omega
    clear hn1
    go_enter Try.func6, Try.ntmps6
    go_wp2_with fail
    rw [HW1.out]
    refine (wworks_any _).mono ?_
    rintro e w2 ⟨rfl, hc⟩
    have HR2 := Go.Lib.hid (hc.heap HR.out id); have HC2 := Go.Lib.hid (HC1.out.trans hc)
    have hfr2 := frozen_of_heap HR2.out 0
    have hcr2 := (cell_of_heap HR2.out 0).trans rfl
    clear hc
    go_wp2_with fail
    refine bodyPost_ret (res6 _ (w.heap.size + 1) true ((row_setM HR2.out 0 _).trans rfl) _ rfl) rfl ⟨rfl, Ch.setCell HC2.out (p := ⟨w.heap.size + 1, 0, none⟩) (fun h => by have h' : w.heap.size + 1 < w.heap.size := h; omega) _⟩
  by_cases hn2 : 500 < ns
  · have hn1' : ¬ (500 : Int) < (nb : Int) := by omega
    have hn2' : (500 : Int) < (ns : Int) := by omega
    clear hn1 hn2
    go_enter Try.func6, Try.ntmps6
    go_wp2_with fail
    rw [HW1.out]
    refine (wworks_any _).mono ?_
    rintro e w2 ⟨rfl, hc⟩
    have HR2 := Go.Lib.hid (hc.heap HR.out id); have HC2 := Go.Lib.hid (HC1.out.trans hc)
    have hfr2 := frozen_of_heap HR2.out 0
    have hcr2 := (cell_of_heap HR2.out 0).trans rfl
    clear hc
    go_wp2_with fail
    refine bodyPost_ret (res6 _ (w.heap.size + 1) true ((row_setM HR2.out 0 _).trans rfl) _ rfl) rfl ⟨rfl, Ch.setCell HC2.out (p := ⟨w.heap.size + 1, 0, none⟩) (fun h => by have h' : w.heap.size + 1 < w.heap.size := h; omega) _⟩
  have hn1' : ¬ (500 : Int) < (nb : Int) := by omega
  have hn2' : ¬ (500 : Int) < (ns : Int) := by omega
  have HNN := Go.Lib.hid (show nb ≤ 500 ∧ ns ≤ 500 from ⟨by omega, by omega⟩)
  clear hn1 hn2
  obtain ⟨xs, hxs, hxsl⟩ : ∃ xs, (∀ ad, ps = some ad → ad.block = xs) ∧ xs < w1.heap.size := by
    have hz := HZ1.out
    cases hp : ps with
    | none => exact ⟨0, (fun ad e => by cases e), by omega⟩
    | some ad => exact ⟨ad.block, (fun ad' e => by cases e; rfl), by have := HSP.out ad hp; omega⟩
  obtain ⟨m, G, N0, no, hsp1, hsp2⟩ := both_split ps ns cs xs F w1 HS.out hxsl hxs (by have := HNN.out; omega)
  obtain ⟨T, off, kk, mm, hq⟩ := FrSeq.exists F ns
  have HQ := Go.Lib.hid hq; have HP1 := Go.Lib.hid hsp1; have HP2 := Go.Lib.hid hsp2; have HXS := Go.Lib.hid hxs; have HXL := Go.Lib.hid hxsl
  have HFR := Go.Lib.hid (frame_ok pb nb cb fb w1 HB.out (by have := HNN.out; omega))
  have HRF := Go.Lib.hid (fun W (hc : Ch (fun _ => False) w1 W) => rframe_ok pb nb cb fb W (HB.out.ch hc (fun _ _ => id)) (by have := HNN.out; omega))
  have HFRL := Go.Lib.hid (show frL nb ≤ 100000 by unfold frL; have := numL_le (nb + 4); have := HNN.out; omega)
  clear hq hsp1 hsp2 hxs hxsl
  generalize frB fb nb = FR at *
  generalize frL nb = NL at *
  refine (callsIn_wide (n := 0)).1 (callsIn_of_wp_marks Try.func6 rfl trivial (wpIn_wide.2 ?_))
  simp only [Try.ntmps6, List.size_toArray, List.length_cons, List.length_nil, Nat.reduceAdd, Nat.reduceSub, Array.replicate_succ,
     Array.replicate_zero, List.push_toArray, List.append_toArray, List.nil_append, List.cons_append]
  go_wp2_with fail
  rw [HW1.out]
  clear HW1
  refine HFR.out.mono ?_
  rintro e w2 ⟨v, rfl, ho, hc⟩
  obtain ⟨pf, cf, rfl, hbf⟩ := own_bytes ho
  have HBF2 := Go.Lib.hid hbf; have HC2 := Go.Lib.hid hc
  clear ho hbf hc HFR hfr hcr
  go_wp2_with fail
  refine (HP1.out _ HC2.out).mono ?_
  rintro e w3 ⟨hc, pB, cB, rfl, hbb⟩
  have HBB3 := Go.Lib.hid hbb; have HC3 := Go.Lib.hid (HC2.out.trans hc); have HBF3 := Go.Lib.hid (HBF2.out.ch hc (fun _ _ => id))
  clear hc hbb HP1 HBF2 HC2
  go_wp2_with fail
  refine (HP2.out _ HC3.out).mono ?_
  rintro e w5 ⟨hc, q, d, rfl, hbw⟩
  have HBW := Go.Lib.hid hbw; have HC5 := Go.Lib.hid (HC3.out.trans hc); have HBF := Go.Lib.hid (HBF3.out.ch hc (fun _ _ => id)); have HBB := Go.Lib.hid (HBB3.out.ch hc (fun _ _ => id))
  clear hc hbw HP2 HBF3 HBB3 HC3
  have HRF := Go.Lib.hid (fun W (hc : Ch (fun _ => False) w5 W) => HRF.out W (HC5.out.trans hc))
  have HCV1 := Go.Lib.hid (fun W q d (h : BytesAt W q NL d FR) => conv_bytes h)
  have HCV2 := Go.Lib.hid (fun W q d (h : BytesAt W q m d G) => conv_bytes h)
  generalize bS FR NL = sg1 at *
  generalize bS G m = sg2 at *
  have hss1 : (sg1.toList != sg1.toList) = false := by simp
  have hss2 : (sg2.toList != sg2.toList) = false := by simp
  go_upto_region 6 with (fail)
  generalize hax : Act.mk _ _ = ax
  have HSZ := Go.Lib.hid (show ax.tmps.size = 175 by rw [← hax]; rfl)
  have F0 := Go.Lib.hid (show gt ax 0 = .slice pb nb cb by rw [← hax]; rfl)
  have F7 := Go.Lib.hid (show gt ax 7 = .slice pf NL cf by rw [← hax]; rfl)
  have F8 := Go.Lib.hid (show gt ax 8 = .int .i64 0 by rw [← hax]; rfl)
  have F9 := Go.Lib.hid (show gt ax 9 = .slice pB m cB by rw [← hax]; rfl)
  have F10 := Go.Lib.hid (show gt ax 10 = .int .i64 N0 by rw [← hax]; rfl)
  have F11 := Go.Lib.hid (show gt ax 11 = .int .i64 no by rw [← hax]; rfl)
  have F12 := Go.Lib.hid (show gt ax 12 = .slice q m d by rw [← hax]; rfl)
  have F13 := Go.Lib.hid (show gt ax 13 = .int .i64 N0 by rw [← hax]; rfl)
  have F14 := Go.Lib.hid (show gt ax 14 = .int .i64 no by rw [← hax]; rfl)
  have HAX := Go.Lib.hid hax
  clear hax
  have HND := Go.Lib.hid (show ([50, 51, 52, 53, 54, 55, 56, 57, 58, 59, 60, 61, 62, 63, 64, 65, 66, 67, 68, 69, 70, 71, 72, 73, 74, 75, 76, 77] : List Nat).Nodup by decide)
  have HLS : Hid (Lasts [(50, fun x _ => x = .int .i64 0), (51, fun x _ => x = .int .i64 0), (52, fun x _ => x = .bool false), (53, fun x _ => x = .bool false), (54, fun x _ => x = .slice pf NL cf), (55, fun x _ => x = .string sg1), (56, fun x _ => x = .slice pb nb cb), (57, fun x v => ∃ (g : Option Addr) (c : Nat), x = .slice g NL c ∧ BytesAt v g NL c FR), (58, fun x _ => x = .string sg1), (59, fun x _ => x = .bool false), (60, fun x _ => x = .bool false), (61, fun x _ => x = .bool false), (62, fun x _ => x = .slice pB m cB), (63, fun x _ => x = .string sg2), (64, fun x _ => x = .slice q m d), (65, fun x _ => x = .string sg2), (66, fun x _ => x = .bool false), (67, fun x _ => x = .bool false), (68, fun x _ => x = .bool false), (69, fun x _ => x = .int .i64 N0), (70, fun x _ => x = .int .i64 N0), (71, fun x _ => x = .bool false), (72, fun x _ => x = .bool false), (73, fun x _ => x = .bool false), (74, fun x _ => x = .int .i64 no), (75, fun x _ => x = .int .i64 no), (76, fun x _ => x = .int .i64 no), (77, fun x _ => x = .bool false)]) := Go.Lib.hid (by
    intro p hp v w1 w2 hc h
    simp only [List.mem_cons, List.not_mem_nil, or_false] at hp
    rcases hp with rfl | rfl | rfl | rfl | rfl | rfl | rfl | rfl | rfl | rfl | rfl | rfl | rfl | rfl | rfl | rfl | rfl | rfl | rfl | rfl | rfl | rfl | rfl | rfl | rfl | rfl | rfl | rfl
    all_goals first | exact h | (obtain ⟨g, h1, h2⟩ := h; exact ⟨g, h1, hc.heap h2 id⟩) | (obtain ⟨g, c, h1, h2⟩ := h; exact ⟨g, c, h1, h2.ch hc (fun _ _ h => h)⟩))
  refine wp_region_open_tail 28 (InvQ 175 [(50, fun x _ => x = .int .i64 0), (51, fun x _ => x = .int .i64 0), (52, fun x _ => x = .bool false), (53, fun x _ => x = .bool false), (54, fun x _ => x = .slice pf NL cf), (55, fun x _ => x = .string sg1), (56, fun x _ => x = .slice pb nb cb), (57, fun x v => ∃ (g : Option Addr) (c : Nat), x = .slice g NL c ∧ BytesAt v g NL c FR), (58, fun x _ => x = .string sg1), (59, fun x _ => x = .bool false), (60, fun x _ => x = .bool false), (61, fun x _ => x = .bool false), (62, fun x _ => x = .slice pB m cB), (63, fun x _ => x = .string sg2), (64, fun x _ => x = .slice q m d), (65, fun x _ => x = .string sg2), (66, fun x _ => x = .bool false), (67, fun x _ => x = .bool false), (68, fun x _ => x = .bool false), (69, fun x _ => x = .int .i64 N0), (70, fun x _ => x = .int .i64 N0), (71, fun x _ => x = .bool false), (72, fun x _ => x = .bool false), (73, fun x _ => x = .bool false), (74, fun x _ => x = .int .i64 no), (75, fun x _ => x = .int .i64 no), (76, fun x _ => x = .int .i64 no), (77, fun x _ => x = .bool false)] (fun _ w' => Ch (fun _ => False) w5 w') ax) (by kernel_rfl) (by kernel_rfl) (InvQ.start (by simp) HSZ.out (Ch.refl _ _).drew) ?_ ?_
  · intro L a w' i hI hr hlt
    obtain ⟨h1, o, ho, hall⟩ := mem_ready.1 hr
    have hsplit : i = 0 ∨ i = 1 ∨ i = 2 ∨ i = 3 ∨ i = 4 ∨ i = 5 ∨ i = 6 ∨ i = 7 ∨ i = 8 ∨ i = 9 ∨ i = 10 ∨ i = 11 ∨ i = 12 ∨ i = 13 ∨ i = 14 ∨ i = 15 ∨ i = 16 ∨ i = 17 ∨ i = 18 ∨ i = 19 ∨ i = 20 ∨ i = 21 ∨ i = 22 ∨ i = 23 ∨ i = 24 ∨ i = 25 ∨ i = 26 ∨ i = 27 := by omega
    clear hlt h1 hr
    rcases hsplit with rfl | rfl | rfl | rfl | rfl | rfl | rfl | rfl | rfl | rfl | rfl | rfl | rfl | rfl | rfl | rfl | rfl | rfl | rfl | rfl | rfl | rfl | rfl | rfl | rfl | rfl | rfl | rfl
    · have q8 := (hI.fixed 8 (by simp)).trans F8.out
      unfold gt at q8
      clear hall
      refine wpOp_step (o := _) rfl (fun K' hK' => ?_)
      go_simp
      exact hK' _ _ (hI.put 0 rfl (by decide) HND.out HLS.out  (Ch.refl _ _) rfl hI.wld)
    · simp at ho
      have e0 : lg L 0 = true := by unfold lg; simpa using hall ⟨0, .data⟩ (by rw [← ho]; simp) rfl
      have f0 : gt a 50 = .int .i64 0 := hI.val 0 _ rfl e0
      unfold gt at f0
      clear hall
      clear ho
      have HCT := Go.Lib.hid (num_any 0 w')
      refine wpOp_step (o := _) rfl (fun K' hK' => ?_)
      go_simp
      refine HCT.out.mono ?_
      rintro e w3 ⟨rfl, rfl⟩
      exact hK' _ _ (hI.put 1 rfl (by decide) HND.out HLS.out (Ch.refl _ _) rfl hI.wld)
    · simp at ho
      have e1 : lg L 1 = true := by unfold lg; simpa using hall ⟨1, .data⟩ (by rw [← ho]; simp) rfl
      have f1 : gt a 51 = .int .i64 0 := hI.val 1 _ rfl e1
      unfold gt at f1
      clear hall
      clear ho
      refine wpOp_step (o := _) rfl (fun K' hK' => ?_)
      go_simp
      exact hK' _ _ (hI.put 2 rfl (by decide) HND.out HLS.out  (Ch.refl _ _) rfl hI.wld)
    · simp at ho
      have e2 : lg L 2 = true := by unfold lg; simpa using hall ⟨2, .data⟩ (by rw [← ho]; simp) rfl
      have f2 : gt a 52 = .bool false := hI.val 2 _ rfl e2
      unfold gt at f2
      clear hall
      clear ho
      refine wpOp_step (o := _) rfl (fun K' hK' => ?_)
      go_simp
      exact hK' _ _ (hI.put 3 rfl (by decide) HND.out HLS.out  (Ch.refl _ _) rfl hI.wld)
    · simp at ho
      have q7 := (hI.fixed 7 (by simp)).trans F7.out
      have eg : lg L 3 = true := by unfold lg; simpa using hall ⟨3, .guard⟩ (by rw [← ho]; simp) rfl
      have fg0 : gt a 53 = .bool false := hI.val 3 _ rfl eg
      have fg := guard_of fg0 (by rw [hI.size]; decide)
      clear eg fg0
      unfold gt at q7
      clear hall
      clear ho
      refine wpOp_step (o := _) rfl (fun K' hK' => ?_)
      go_simp
      exact hK' _ _ (hI.put 4 rfl (by decide) HND.out HLS.out  (Ch.refl _ _) rfl hI.wld)
    · simp at ho
      have e4 : lg L 4 = true := by unfold lg; simpa using hall ⟨4, .data⟩ (by rw [← ho]; simp) rfl
      have f4 : gt a 54 = .slice pf NL cf := hI.val 4 _ rfl e4
      have eg : lg L 3 = true := by unfold lg; simpa using hall ⟨3, .guard⟩ (by rw [← ho]; simp) rfl
      have fg0 : gt a 53 = .bool false := hI.val 3 _ rfl eg
      have fg := guard_of fg0 (by rw [hI.size]; decide)
      clear eg fg0
      have hcv := HCV1.out w' pf cf (HBF.out.ch hI.wld (fun _ _ => id))
      unfold gt at f4
      clear hall
      clear ho
      refine wpOp_step (o := _) rfl (fun K' hK' => ?_)
      go_simp
      exact hK' _ _ (hI.put 5 rfl (by decide) HND.out HLS.out  (Ch.refl _ _) rfl hI.wld)
    · simp at ho
      have q0 := (hI.fixed 0 (by simp)).trans F0.out
      have eg : lg L 3 = true := by unfold lg; simpa using hall ⟨3, .guard⟩ (by rw [← ho]; simp) rfl
      have fg0 : gt a 53 = .bool false := hI.val 3 _ rfl eg
      have fg := guard_of fg0 (by rw [hI.size]; decide)
      clear eg fg0
      unfold gt at q0
      clear hall
      clear ho
      refine wpOp_step (o := _) rfl (fun K' hK' => ?_)
      go_simp
      exact hK' _ _ (hI.put 6 rfl (by decide) HND.out HLS.out  (Ch.refl _ _) rfl hI.wld)
    · simp at ho
      have e6 : lg L 6 = true := by unfold lg; simpa using hall ⟨6, .data⟩ (by rw [← ho]; simp) rfl
      have f6 : gt a 56 = .slice pb nb cb := hI.val 6 _ rfl e6
      have eg : lg L 3 = true := by unfold lg; simpa using hall ⟨3, .guard⟩ (by rw [← ho]; simp) rfl
      have fg0 : gt a 53 = .bool false := hI.val 3 _ rfl eg
      have fg := guard_of fg0 (by rw [hI.size]; decide)
      clear eg fg0
      unfold gt at f6
      clear hall
      clear ho
      have HCT := Go.Lib.hid (HRF.out w' hI.wld)
      refine wpOp_step (o := _) rfl (fun K' hK' => ?_)
      go_simp
      refine HCT.out.mono ?_
      rintro e w3 ⟨v, rfl, ho, hc⟩
      obtain ⟨pv, cv, rfl, hbv⟩ := own_bytes ho
      exact hK' _ _ (hI.put 7 rfl (by decide) HND.out HLS.out hc ⟨pv, cv, rfl, hbv⟩ (hI.wld.trans hc))
    · simp at ho
      have e7 : lg L 7 = true := by unfold lg; simpa using hall ⟨7, .data⟩ (by rw [← ho]; simp) rfl
      obtain ⟨g7, c7, f7, hh7⟩ : (fun x v => ∃ (g : Option Addr) (c : Nat), x = .slice g NL c ∧ BytesAt v g NL c FR) (gt a 57) w' := hI.val 7 _ rfl e7
      have eg : lg L 3 = true := by unfold lg; simpa using hall ⟨3, .guard⟩ (by rw [← ho]; simp) rfl
      have fg0 : gt a 53 = .bool false := hI.val 3 _ rfl eg
      have fg := guard_of fg0 (by rw [hI.size]; decide)
      clear eg fg0
      have hcv := HCV1.out w' g7 c7 hh7
      unfold gt at f7
      clear hall
      clear ho
      refine wpOp_step (o := _) rfl (fun K' hK' => ?_)
      go_simp
      exact hK' _ _ (hI.put 8 rfl (by decide) HND.out HLS.out  (Ch.refl _ _) rfl hI.wld)
    · simp at ho
      have e5 : lg L 5 = true := by unfold lg; simpa using hall ⟨5, .data⟩ (by rw [← ho]; simp) rfl
      have f5 : gt a 55 = .string sg1 := hI.val 5 _ rfl e5
      have e8 : lg L 8 = true := by unfold lg; simpa using hall ⟨8, .data⟩ (by rw [← ho]; simp) rfl
      have f8 : gt a 58 = .string sg1 := hI.val 8 _ rfl e8
      have eg : lg L 3 = true := by unfold lg; simpa using hall ⟨3, .guard⟩ (by rw [← ho]; simp) rfl
      have fg0 : gt a 53 = .bool false := hI.val 3 _ rfl eg
      have fg := guard_of fg0 (by rw [hI.size]; decide)
      clear eg fg0
      unfold gt at f5 f8
      clear hall
      clear ho
      refine wpOp_step (o := _) rfl (fun K' hK' => ?_)
      go_simp
      exact hK' _ _ (hI.put 9 rfl (by decide) HND.out HLS.out  (Ch.refl _ _) rfl hI.wld)
    · simp at ho
      have e3 : lg L 3 = true := by unfold lg; simpa using hall ⟨3, .data⟩ (by rw [← ho]; simp) rfl
      have f3 : gt a 53 = .bool false := hI.val 3 _ rfl e3
      have e9 : lg L 9 = true := by unfold lg; simpa using hall ⟨9, .data⟩ (by rw [← ho]; simp) rfl
      have f9 : gt a 59 = .bool false := hI.val 9 _ rfl e9
      unfold gt at f3 f9
      clear hall
      clear ho
      refine wpOp_step (o := _) rfl (fun K' hK' => ?_)
      go_simp
      exact hK' _ _ (hI.put 10 rfl (by decide) HND.out HLS.out  (Ch.refl _ _) rfl hI.wld)
    · simp at ho
      have e10 : lg L 10 = true := by unfold lg; simpa using hall ⟨10, .data⟩ (by rw [← ho]; simp) rfl
      have f10 : gt a 60 = .bool false := hI.val 10 _ rfl e10
      unfold gt at f10
      clear hall
      clear ho
      refine wpOp_step (o := _) rfl (fun K' hK' => ?_)
      go_simp
      exact hK' _ _ (hI.put 11 rfl (by decide) HND.out HLS.out  (Ch.refl _ _) rfl hI.wld)
    · simp at ho
      have q9 := (hI.fixed 9 (by simp)).trans F9.out
      have eg : lg L 11 = true := by unfold lg; simpa using hall ⟨11, .guard⟩ (by rw [← ho]; simp) rfl
      have fg0 : gt a 61 = .bool false := hI.val 11 _ rfl eg
      have fg := guard_of fg0 (by rw [hI.size]; decide)
      clear eg fg0
      unfold gt at q9
      clear hall
      clear ho
      refine wpOp_step (o := _) rfl (fun K' hK' => ?_)
      go_simp
      exact hK' _ _ (hI.put 12 rfl (by decide) HND.out HLS.out  (Ch.refl _ _) rfl hI.wld)
    · simp at ho
      have e12 : lg L 12 = true := by unfold lg; simpa using hall ⟨12, .data⟩ (by rw [← ho]; simp) rfl
      have f12 : gt a 62 = .slice pB m cB := hI.val 12 _ rfl e12
      have eg : lg L 11 = true := by unfold lg; simpa using hall ⟨11, .guard⟩ (by rw [← ho]; simp) rfl
      have fg0 : gt a 61 = .bool false := hI.val 11 _ rfl eg
      have fg := guard_of fg0 (by rw [hI.size]; decide)
      clear eg fg0
      have hcv := HCV2.out w' pB cB (HBB.out.ch hI.wld (fun _ _ => id))
      unfold gt at f12
      clear hall
      clear ho
      refine wpOp_step (o := _) rfl (fun K' hK' => ?_)
      go_simp
      exact hK' _ _ (hI.put 13 rfl (by decide) HND.out HLS.out  (Ch.refl _ _) rfl hI.wld)
    · simp at ho
      have q12 := (hI.fixed 12 (by simp)).trans F12.out
      have eg : lg L 11 = true := by unfold lg; simpa using hall ⟨11, .guard⟩ (by rw [← ho]; simp) rfl
      have fg0 : gt a 61 = .bool false := hI.val 11 _ rfl eg
      have fg := guard_of fg0 (by rw [hI.size]; decide)
      clear eg fg0
      unfold gt at q12
      clear hall
      clear ho
      refine wpOp_step (o := _) rfl (fun K' hK' => ?_)
      go_simp
      exact hK' _ _ (hI.put 14 rfl (by decide) HND.out HLS.out  (Ch.refl _ _) rfl hI.wld)
    · simp at ho
      have e14 : lg L 14 = true := by unfold lg; simpa using hall ⟨14, .data⟩ (by rw [← ho]; simp) rfl
      have f14 : gt a 64 = .slice q m d := hI.val 14 _ rfl e14
      have eg : lg L 11 = true := by unfold lg; simpa using hall ⟨11, .guard⟩ (by rw [← ho]; simp) rfl
      have fg0 : gt a 61 = .bool false := hI.val 11 _ rfl eg
      have fg := guard_of fg0 (by rw [hI.size]; decide)
      clear eg fg0
      have hcv := HCV2.out w' q d (HBW.out.ch hI.wld (fun _ _ => id))
      unfold gt at f14
      clear hall
      clear ho
      refine wpOp_step (o := _) rfl (fun K' hK' => ?_)
      go_simp
      exact hK' _ _ (hI.put 15 rfl (by decide) HND.out HLS.out  (Ch.refl _ _) rfl hI.wld)
    · simp at ho
      have e13 : lg L 13 = true := by unfold lg; simpa using hall ⟨13, .data⟩ (by rw [← ho]; simp) rfl
      have f13 : gt a 63 = .string sg2 := hI.val 13 _ rfl e13
      have e15 : lg L 15 = true := by unfold lg; simpa using hall ⟨15, .data⟩ (by rw [← ho]; simp) rfl
      have f15 : gt a 65 = .string sg2 := hI.val 15 _ rfl e15
      have eg : lg L 11 = true := by unfold lg; simpa using hall ⟨11, .guard⟩ (by rw [← ho]; simp) rfl
      have fg0 : gt a 61 = .bool false := hI.val 11 _ rfl eg
      have fg := guard_of fg0 (by rw [hI.size]; decide)
      clear eg fg0
      unfold gt at f13 f15
      clear hall
      clear ho
      refine wpOp_step (o := _) rfl (fun K' hK' => ?_)
      go_simp
      exact hK' _ _ (hI.put 16 rfl (by decide) HND.out HLS.out  (Ch.refl _ _) rfl hI.wld)
    · simp at ho
      have e11 : lg L 11 = true := by unfold lg; simpa using hall ⟨11, .data⟩ (by rw [← ho]; simp) rfl
      have f11 : gt a 61 = .bool false := hI.val 11 _ rfl e11
      have e16 : lg L 16 = true := by unfold lg; simpa using hall ⟨16, .data⟩ (by rw [← ho]; simp) rfl
      have f16 : gt a 66 = .bool false := hI.val 16 _ rfl e16
      unfold gt at f11 f16
      clear hall
      clear ho
      refine wpOp_step (o := _) rfl (fun K' hK' => ?_)
      go_simp
      exact hK' _ _ (hI.put 17 rfl (by decide) HND.out HLS.out  (Ch.refl _ _) rfl hI.wld)
    · simp at ho
      have e17 : lg L 17 = true := by unfold lg; simpa using hall ⟨17, .data⟩ (by rw [← ho]; simp) rfl
      have f17 : gt a 67 = .bool false := hI.val 17 _ rfl e17
      unfold gt at f17
      clear hall
      clear ho
      refine wpOp_step (o := _) rfl (fun K' hK' => ?_)
      go_simp
      exact hK' _ _ (hI.put 18 rfl (by decide) HND.out HLS.out  (Ch.refl _ _) rfl hI.wld)
    · simp at ho
      have q10 := (hI.fixed 10 (by simp)).trans F10.out
      have eg : lg L 18 = true := by unfold lg; simpa using hall ⟨18, .guard⟩ (by rw [← ho]; simp) rfl
      have fg0 : gt a 68 = .bool false := hI.val 18 _ rfl eg
      have fg := guard_of fg0 (by rw [hI.size]; decide)
      clear eg fg0
      unfold gt at q10
      clear hall
      clear ho
      refine wpOp_step (o := _) rfl (fun K' hK' => ?_)
      go_simp
      exact hK' _ _ (hI.put 19 rfl (by decide) HND.out HLS.out  (Ch.refl _ _) rfl hI.wld)
    · simp at ho
      have q13 := (hI.fixed 13 (by simp)).trans F13.out
      have eg : lg L 18 = true := by unfold lg; simpa using hall ⟨18, .guard⟩ (by rw [← ho]; simp) rfl
      have fg0 : gt a 68 = .bool false := hI.val 18 _ rfl eg
      have fg := guard_of fg0 (by rw [hI.size]; decide)
      clear eg fg0
      unfold gt at q13
      clear hall
      clear ho
      refine wpOp_step (o := _) rfl (fun K' hK' => ?_)
      go_simp
      exact hK' _ _ (hI.put 20 rfl (by decide) HND.out HLS.out  (Ch.refl _ _) rfl hI.wld)
    · simp at ho
      have e19 : lg L 19 = true := by unfold lg; simpa using hall ⟨19, .data⟩ (by rw [← ho]; simp) rfl
      have f19 : gt a 69 = .int .i64 N0 := hI.val 19 _ rfl e19
      have e20 : lg L 20 = true := by unfold lg; simpa using hall ⟨20, .data⟩ (by rw [← ho]; simp) rfl
      have f20 : gt a 70 = .int .i64 N0 := hI.val 20 _ rfl e20
      have eg : lg L 18 = true := by unfold lg; simpa using hall ⟨18, .guard⟩ (by rw [← ho]; simp) rfl
      have fg0 : gt a 68 = .bool false := hI.val 18 _ rfl eg
      have fg := guard_of fg0 (by rw [hI.size]; decide)
      clear eg fg0
      unfold gt at f19 f20
      clear hall
      clear ho
      refine wpOp_step (o := _) rfl (fun K' hK' => ?_)
      go_simp
      exact hK' _ _ (hI.put 21 rfl (by decide) HND.out HLS.out  (Ch.refl _ _) rfl hI.wld)
    · simp at ho
      have e18 : lg L 18 = true := by unfold lg; simpa using hall ⟨18, .data⟩ (by rw [← ho]; simp) rfl
      have f18 : gt a 68 = .bool false := hI.val 18 _ rfl e18
      have e21 : lg L 21 = true := by unfold lg; simpa using hall ⟨21, .data⟩ (by rw [← ho]; simp) rfl
      have f21 : gt a 71 = .bool false := hI.val 21 _ rfl e21
      unfold gt at f18 f21
      clear hall
      clear ho
      refine wpOp_step (o := _) rfl (fun K' hK' => ?_)
      go_simp
      exact hK' _ _ (hI.put 22 rfl (by decide) HND.out HLS.out  (Ch.refl _ _) rfl hI.wld)
    · simp at ho
      have e22 : lg L 22 = true := by unfold lg; simpa using hall ⟨22, .data⟩ (by rw [← ho]; simp) rfl
      have f22 : gt a 72 = .bool false := hI.val 22 _ rfl e22
      unfold gt at f22
      clear hall
      clear ho
      refine wpOp_step (o := _) rfl (fun K' hK' => ?_)
      go_simp
      exact hK' _ _ (hI.put 23 rfl (by decide) HND.out HLS.out  (Ch.refl _ _) rfl hI.wld)
    · simp at ho
      have q11 := (hI.fixed 11 (by simp)).trans F11.out
      have eg : lg L 23 = true := by unfold lg; simpa using hall ⟨23, .guard⟩ (by rw [← ho]; simp) rfl
      have fg0 : gt a 73 = .bool false := hI.val 23 _ rfl eg
      have fg := guard_of fg0 (by rw [hI.size]; decide)
      clear eg fg0
      unfold gt at q11
      clear hall
      clear ho
      refine wpOp_step (o := _) rfl (fun K' hK' => ?_)
      go_simp
      exact hK' _ _ (hI.put 24 rfl (by decide) HND.out HLS.out  (Ch.refl _ _) rfl hI.wld)
    · simp at ho
      have e24 : lg L 24 = true := by unfold lg; simpa using hall ⟨24, .data⟩ (by rw [← ho]; simp) rfl
      have f24 : gt a 74 = .int .i64 no := hI.val 24 _ rfl e24
      have eg : lg L 23 = true := by unfold lg; simpa using hall ⟨23, .guard⟩ (by rw [← ho]; simp) rfl
      have fg0 : gt a 73 = .bool false := hI.val 23 _ rfl eg
      have fg := guard_of fg0 (by rw [hI.size]; decide)
      clear eg fg0
      unfold gt at f24
      clear hall
      clear ho
      have HCT := Go.Lib.hid (num_any no w')
      refine wpOp_step (o := _) rfl (fun K' hK' => ?_)
      go_simp
      refine HCT.out.mono ?_
      rintro e w3 ⟨rfl, rfl⟩
      exact hK' _ _ (hI.put 25 rfl (by decide) HND.out HLS.out (Ch.refl _ _) rfl hI.wld)
    · simp at ho
      have q14 := (hI.fixed 14 (by simp)).trans F14.out
      have eg : lg L 23 = true := by unfold lg; simpa using hall ⟨23, .guard⟩ (by rw [← ho]; simp) rfl
      have fg0 : gt a 73 = .bool false := hI.val 23 _ rfl eg
      have fg := guard_of fg0 (by rw [hI.size]; decide)
      clear eg fg0
      unfold gt at q14
      clear hall
      clear ho
      refine wpOp_step (o := _) rfl (fun K' hK' => ?_)
      go_simp
      exact hK' _ _ (hI.put 26 rfl (by decide) HND.out HLS.out  (Ch.refl _ _) rfl hI.wld)
    · simp at ho
      have e25 : lg L 25 = true := by unfold lg; simpa using hall ⟨25, .data⟩ (by rw [← ho]; simp) rfl
      have f25 : gt a 75 = .int .i64 no := hI.val 25 _ rfl e25
      have e26 : lg L 26 = true := by unfold lg; simpa using hall ⟨26, .data⟩ (by rw [← ho]; simp) rfl
      have f26 : gt a 76 = .int .i64 no := hI.val 26 _ rfl e26
      have eg : lg L 23 = true := by unfold lg; simpa using hall ⟨23, .guard⟩ (by rw [← ho]; simp) rfl
      have fg0 : gt a 73 = .bool false := hI.val 23 _ rfl eg
      have fg := guard_of fg0 (by rw [hI.size]; decide)
      clear eg fg0
      unfold gt at f25 f26
      clear hall
      clear ho
      refine wpOp_step (o := _) rfl (fun K' hK' => ?_)
      go_simp
      exact hK' _ _ (hI.put 27 rfl (by decide) HND.out HLS.out  (Ch.refl _ _) rfl hI.wld)
  · intro L a w' hI hal
    have hfr := hI.frame HSZ.out (by simp) (fun i hi => hal i hi)
    have k0 : gt a 50 = .int .i64 0 := hI.val 0 _ rfl (hal 0 (by decide))
    have k1 : gt a 51 = .int .i64 0 := hI.val 1 _ rfl (hal 1 (by decide))
    have k2 : gt a 52 = .bool false := hI.val 2 _ rfl (hal 2 (by decide))
    have k3 : gt a 53 = .bool false := hI.val 3 _ rfl (hal 3 (by decide))
    have k4 : gt a 54 = .slice pf NL cf := hI.val 4 _ rfl (hal 4 (by decide))
    have k5 : gt a 55 = .string sg1 := hI.val 5 _ rfl (hal 5 (by decide))
    have k6 : gt a 56 = .slice pb nb cb := hI.val 6 _ rfl (hal 6 (by decide))
    obtain ⟨g7, c7, k7, hh7⟩ : (fun x v => ∃ (g : Option Addr) (c : Nat), x = .slice g NL c ∧ BytesAt v g NL c FR) (gt a 57) w' := hI.val 7 _ rfl (hal 7 (by decide))
    have H7 := Go.Lib.hid hh7
    have k8 : gt a 58 = .string sg1 := hI.val 8 _ rfl (hal 8 (by decide))
    have k9 : gt a 59 = .bool false := hI.val 9 _ rfl (hal 9 (by decide))
    have k10 : gt a 60 = .bool false := hI.val 10 _ rfl (hal 10 (by decide))
    have k11 : gt a 61 = .bool false := hI.val 11 _ rfl (hal 11 (by decide))
    have k12 : gt a 62 = .slice pB m cB := hI.val 12 _ rfl (hal 12 (by decide))
    have k13 : gt a 63 = .string sg2 := hI.val 13 _ rfl (hal 13 (by decide))
    have k14 : gt a 64 = .slice q m d := hI.val 14 _ rfl (hal 14 (by decide))
    have k15 : gt a 65 = .string sg2 := hI.val 15 _ rfl (hal 15 (by decide))
    have k16 : gt a 66 = .bool false := hI.val 16 _ rfl (hal 16 (by decide))
    have k17 : gt a 67 = .bool false := hI.val 17 _ rfl (hal 17 (by decide))
    have k18 : gt a 68 = .bool false := hI.val 18 _ rfl (hal 18 (by decide))
    have k19 : gt a 69 = .int .i64 N0 := hI.val 19 _ rfl (hal 19 (by decide))
    have k20 : gt a 70 = .int .i64 N0 := hI.val 20 _ rfl (hal 20 (by decide))
    have k21 : gt a 71 = .bool false := hI.val 21 _ rfl (hal 21 (by decide))
    have k22 : gt a 72 = .bool false := hI.val 22 _ rfl (hal 22 (by decide))
    have k23 : gt a 73 = .bool false := hI.val 23 _ rfl (hal 23 (by decide))
    have k24 : gt a 74 = .int .i64 no := hI.val 24 _ rfl (hal 24 (by decide))
    have k25 : gt a 75 = .int .i64 no := hI.val 25 _ rfl (hal 25 (by decide))
    have k26 : gt a 76 = .int .i64 no := hI.val 26 _ rfl (hal 26 (by decide))
    have k27 : gt a 77 = .bool false := hI.val 27 _ rfl (hal 27 (by decide))
    rw [hfr, ← HAX.out]
    have HCR := Go.Lib.hid hI.wld
    simp only [List.map_cons, List.map_nil, List.foldl_cons, List.foldl_nil, k0, k1, k2, k3, k4, k5, k6, k7, k8, k9, k10, k11, k12, k13, k14, k15, k16, k17, k18, k19, k20, k21, k22, k23, k24, k25, k26, k27, List.setIfInBounds_toArray, List.set_cons_succ, List.set_cons_zero]
    clear hfr hI hal k0 k1 k2 k3 k4 k5 k6 k7 k8 k9 k10 k11 k12 k13 k14 k15 k16 k17 k18 k19 k20 k21 k22 k23 k24 k25 k26 k27 hh7 HSZ HND HLS HAX F0 F7 F8 F9 F10 F11 F12 F13 F14
    simp only [List.drop_succ_cons, List.drop_zero]
    have HC6 := Go.Lib.hid (HC5.out.trans HCR.out)
    clear HCR H7 HRF HCV1 HCV2 HBF HBB HBW HC5 hss1 hss2
    have HS6 := Go.Lib.hid (HS.out.ch HC6.out (fun _ _ => id))
    have HE := Go.Lib.hid (own_emptyF w' F); have HAL := Go.Lib.hid ((Ch.refl (fun _ => False) w').alloc (.cells #[] 5))
    have HZE := Go.Lib.hid (World.size_alloc w' (.cells #[] 5))
    go_wp2_with (at_builtin; refine wpList_append_more rfl (.tmp 79) (.tmp 80) rfl w'.heap.size 0 ns _ F F rfl HE.out ps cs rfl (HS6.out.ch HAL.out (fun _ _ => id)) (fun j _ => by rw [Nat.zero_add]) (by have := HNN.out; omega) (by have := HZE.out; omega) ?_; intro v1 w7 ho7 hg7; obtain ⟨p1, c1, rfl, hb7⟩ := own_bytes ho7; rw [Nat.zero_add] at ho7 hb7; have HO7 := Go.Lib.hid ho7; have HG7 := Go.Lib.hid hg7; have HB7 := Go.Lib.hid hb7; clear ho7 hg7 hb7)
    have HC7 := Go.Lib.hid ((HC6.out.trans HAL.out).then HG7.out.ch (fun g hg e => by have e' : (Value.slice (some ⟨w'.heap.size, 0, none⟩) 0 0).ownBlock = some g := e; simp [Value.ownBlock] at e'; have := HC6.out.size; omega))
    have hz7 : w'.heap.size + 1 ≤ w7.heap.size := by have h1 := HG7.out.ch.size; have h2 := HZE.out; omega
    obtain ⟨gm, hpm, hru, hgm⟩ : ∃ gm, (p1 = some ⟨gm, 0, none⟩ ∨ ns = 0) ∧ (ns = 0 ∨ RowU w7 gm ns) ∧ w'.heap.size ≤ gm ∧ gm < w7.heap.size := by
      rcases own_rowU HO7.out with ⟨g, c, e, h1, h2⟩ | ⟨e, h0⟩
      · cases e
        obtain ⟨cur, hcur, _⟩ := id h1
        exact ⟨g, .inl rfl, .inr h1, h2, row_lt hcur⟩
      · exact ⟨w'.heap.size, .inr h0, .inl h0, Nat.le_refl _, by omega⟩
    have hz6 := HC6.out.size; have hz1 := HZ1.out
    have HFA := Go.Lib.hid (frames_at p1 ns c1 F w7 HB7.out (by have := HNN.out; omega) (by omega))
    have HPM := Go.Lib.hid hpm; have HRU := Go.Lib.hid hru; have HGM := Go.Lib.hid hgm; have HGS := Go.Lib.hid (show 2 ≤ gm by omega)
    clear hpm hru hgm hz7 hz6 hz1 HE HAL HZE HG7 HO7 HB7 HS6
    refine HFA.out.mono ?_
    rintro e w8 ⟨B, x0, p8, c8, rfl, hrb, hbb, hbl, hxB, hBz, hx0, hc8⟩
    have HFB := Go.Lib.hid hrb; have HFX := Go.Lib.hid hbb; have HFL := Go.Lib.hid hbl; have HXB := Go.Lib.hid hxB
    have HN0 := Go.Lib.hid (show B ≠ gm ∧ x0 ≠ gm from by have h1 := HGM.out; have h2 := HGS.out; exact ⟨by omega, by omega⟩)
    have HRU8 := Go.Lib.hid (show ns = 0 ∨ RowU w8 gm ns from HRU.out.imp id (fun ⟨cur, h1, h2⟩ => ⟨cur, hc8.heap h1 id, h2⟩))
    have HC8 := Go.Lib.hid (HC7.out.trans hc8)
    clear hrb hbb hbl hxB hBz hx0 hc8 HFA HRU
    go_wp2_with fail
    go_loopw [17] (fun ix wr => ∃ j : Nat, j ≤ ns ∧ ix = .int .i64 j ∧ (ns = 0 ∨ RowU wr gm ns) ∧ Ch (fun t => t = gm) w8 wr) (fun ix _ => ns - (intOf ix).toNat)
    case atStart => exact ⟨0, by omega, rfl, HRU8.out, Ch.refl _ _⟩
    case round =>
      obtain ⟨w9, hw9'⟩ : ∃ x, x = wr := ⟨_, rfl⟩
      subst hw9'
      obtain ⟨j, hj, rfl, hru, hC⟩ := hrel
      have HC := Go.Lib.hid hC; have HRW := Go.Lib.hid hru
      clear hC hru
      by_cases hin : j < ns
      · obtain rfl := HPM.out.resolve_right (by omega)
        obtain ⟨cur, hcur, hby⟩ := HRW.out.resolve_left (by omega)
        obtain ⟨z, hz⟩ := hby j hin
        have hcell : w9.cell? ⟨gm, j, none⟩ = some (.int .u8 (z.toNat : Int)) := (cell_of_heap hcur j).trans hz
        have hfr : w9.frozen? ⟨gm, j, none⟩ = false := frozen_of_heap hcur j
        have HZ := Go.Lib.hid (show ((z.toNat : Int) + 1) % 256 = ((z + 1).toNat : Int) by
          rw [UInt8.toNat_add, show (1 : UInt8).toNat = 1 from rfl]; have := z.toNat_lt; omega)
        have HST := Go.Lib.hid ((show RowU w9 gm ns from ⟨cur, hcur, hby⟩).set (z + 1) hin)
        rw [← HZ.out] at HST
        clear hcur hby hz HZ
        go_wp2_with fail
        go_roundw
        case rel => exact ⟨j + 1, by omega, by go_num, .inr HST.out, Ch.setCell (S := fun t => t = gm) HC.out (p := ⟨gm, j, none⟩) (fun _ => rfl) _⟩
        case measure => simp [intOf]; omega
      · obtain rfl : ns = j := by omega
        have HFB9 := Go.Lib.hid (HC.out.heap HFB.out HN0.out.1); have HFX9 := Go.Lib.hid (HFX.out.but HC.out HFL.out HN0.out.2)
        have HC9 := Go.Lib.hid (HC8.out.then HC.out (fun g hg e => by have h1 := HGM.out.1; have h2 := HC6.out.size; have e' : g = gm := e; omega))
        have HS9 := Go.Lib.hid (HS.out.ch HC9.out (fun _ _ => id))
        have HRS := Go.Lib.hid (rframes_any ps ns cs xs F w9 T off kk mm HQ.out HS9.out HXS.out (Nat.lt_of_lt_of_le HXL.out HC9.out.size) (by have := HNN.out; omega))
        have HR9 := Go.Lib.hid (HC9.out.heap HR.out id); have HM9 := Go.Lib.hid (HC9.out.heap HM.out id)
        clear HC HRW HRU8 HFB HFX HC8 HC7 HC6 HPM HGM HGS HN0 HS9
        go_wp2_with (go_at_call 34; refine HRS.out.mono ?_; rintro e w10 ⟨v, qs, ds, rfl, hown, hbod, hc⟩; obtain ⟨sv, pc, rfl, hownp⟩ := own_parts hown; have HOWN := Go.Lib.hid hownp; clear hownp; have HBOD := Go.Lib.hid hbod; have HC10 := Go.Lib.hid hc; clear hown hbod hc)
        obtain ⟨W0, hW0⟩ : ∃ W0, (w10.alloc (.cells #[.slice sv T pc] 83)).alloc (.cells #[.int .i64 0] 3) = W0 := ⟨_, rfl⟩
        rw [hW0]
        obtain ⟨hAl, hT0, hc0⟩ := two_atF w10 #[.slice sv T pc] #[.int .i64 0] 83 3
        rw [hW0] at hAl hT0 hc0
        have hz0 : W0.heap.size = w10.heap.size + 2 := by rw [← hW0]; simp
        have hc90 : Ch (fun _ => False) w9 W0 := HC10.out.trans hc0
        have hal := HC9.out.size; have hxl := HXL.out; have hz1 := HZ1.out; have hz9 := HC10.out.size
        have hbl9 := row_lt HFB9.out; have hxb := HXB.out
        have HROWS := Go.Lib.hid (show RowsF many w.heap.size w10.heap.size B x0 xs T sv p8 pc c8 ns F off kk mm qs ds (w10.heap.size + 1) 0 W0.heap.size W0 from
          { a := hc90.heap HM9.out id
            r := hc90.heap HR9.out id
            al := hAl
            b := hc90.heap HFB9.out id
            by1 := HFX9.out.ch hc90 (fun _ _ => id)
            by2 := HFL.out
            t := hT0
            rows := by
              rcases HOWN.out with h | ⟨pg, cur, h1, h2, h3, h4⟩
              · exact .inl h
              · have hpl := row_lt h3
                exact .inr ⟨pg, cur, h1, by omega, hc0.heap h3 id, h4⟩
            bod := HBOD.out.ch hc0 id
            l := by omega })
        have HC0 := Go.Lib.hid (show Ch (fun _ => False) w W0 from (HC1.out.trans HC9.out).trans hc90)
        have HTN := Go.Lib.hid (show T ≤ 500 by have h1 := HQ.out.le T (Nat.le_refl _); have h2 := HNN.out; omega)
        have HGV := Go.Lib.hid (fun A B => frames_gives A B F ns T off kk mm HQ.out (by have := HNN.out; omega))
        have HWK := Go.Lib.hid (fun W => wworks_any W)
        have HMN := Go.Lib.hid (show ∀ t, t < T → mm t ≤ 1000 from fun t ht => by have h1 := HQ.out.step t ht; have h2 := HNN.out; omega)
        clear hW0 hAl hT0 hc0 hz0 hc90 hal hxl hz1 hz9 hbl9 hxb HM9 HR9 HFB9 HFX9 HFL HXB HOWN HBOD HC10 HC9 HC1 HS HB HR HM HXS HXL HRS HNN HQ HFRL HSP HZ1 hn1' hn2' hj hin
        have hA : w.heap.size ≤ W0.heap.size := HC0.out.size
        have HL0 := Go.Lib.hid HROWS.out.l
        generalize hAA : w.heap.size = A at *
        generalize hTT : w10.heap.size + 1 = TB at *
        generalize w10.heap.size = AB at *
        clear hTT
        refine wp_loop_rounds 3 ?_
        rw [rounds_succ]

        have hcv : Ch (fun _ => False) W0 (W0.alloc (.cells #[.int .i64 0] 3)) := (Ch.refl _ _).alloc _
        have HNY := Go.Lib.hid (World.alloc_heap_new W0 (.cells #[.int .i64 0] 3))
        have HRV := Go.Lib.hid (HROWS.out.keep hcv (fun _ h => h.elim) (Nat.le_refl _))
        have HCV := Go.Lib.hid (HC0.out.trans hcv)
        have cT : W0.cell? ⟨TB, 0, none⟩ = some (.int .i64 0) := cell_of_heap HROWS.out.t 0
        clear hcv
        go_upto_block 4 with (refine wpList_eqnil rfl (.tmp 102) rfl rfl ?_)
        have HSV := Go.Lib.hid (show (W0.alloc (.cells #[.int .i64 0] 3)).heap.size = W0.heap.size + 1 by simp)
        generalize hVV : W0.alloc (.cells #[.int .i64 0] 3) = V0 at *
        clear hVV
        generalize hYY : W0.heap.size = Y0 at *
        generalize haa : Act.mk _ _ = aa
        have Haa0 := Go.Lib.hid haa
        clear haa
        refine Code.wp_mono (Q := fun e a' W' => e = .normal ∧ ∃ (D n : Nat), a' = { tmps := aa.tmps, defers := { target := .collected D, args := #[] } :: aa.defers } ∧ V0.heap.size ≤ D ∧ W'.heap[D]? = some (.deferred (some [])) ∧
          RowsF many A AB B x0 xs T sv p8 pc c8 ns F off kk mm qs ds TB 0 Y0 W' ∧ W'.heap[Y0]? = some (.cells #[.int .i64 (n : Int)] 3) ∧ (n : Int) = min (T : Int) (max 1 many) ∧ Ch (fun _ => False) w W') ?post ?blk
        case blk =>
          have hg : aa.eval (.tmp 104) = .func (.func 76) #[] #[.pointer (some ⟨B, 0, none⟩)] := by rw [← Haa0.out]; rfl
          refine wp_block ?_
          have hsv := HSV.out
          refine range_gives (HGV.out B x0) (hands_g F T off kk mm) (enters_of Try.func76 (by kernel_rfl) rfl) hg ?hps (fun q => q = Y0) ?hSw ?hKC
            (fun t W' => RowsF many A AB B x0 xs T sv p8 pc c8 ns F off kk mm qs ds TB 0 Y0 W' ∧ W'.heap[Y0]? = some (.cells #[.int .i64 (t : Int)] 3) ∧ (t = 0 ∨ (t : Int) < many) ∧ Ch (fun _ => False) w W')
            (fun c' W' => c' = .exit 4 ∧ RowsF many A AB B x0 xs T sv p8 pc c8 ns F off kk mm qs ds TB 0 Y0 W' ∧ (∃ n : Nat, W'.heap[Y0]? = some (.cells #[.int .i64 (n : Int)] 3) ∧ (n : Int) = min (T : Int) (max 1 many)) ∧ Ch (fun _ => False) w W') ?hfin ?hI ?hIx ?hRd ?h0
            (fun vt => { tmps := (((aa.tmps.setIfInBounds 105 (vt.getD 0 undef)).setIfInBounds 106 (vt.getD 1 undef)).setIfInBounds 21 (vt.getD 0 undef)).setIfInBounds 22 (vt.getD 1 undef), defers := [] }) ?has ?hbody ?hdone ?hstop
          case hps => rintro base t vt A' ⟨_, h, cur, rfl, _⟩; rfl
          case hSw =>
            rintro q rfl
            have hl := HRV.out.l
            have hl0 := HROWS.out.l
            exact ⟨by omega, fun e => by rcases e with e | e <;> omega, fun e => e.elim⟩
          case hKC =>
            have hl := HRV.out.l
            rintro q ((e | e) | e)
            · omega
            · omega
            · exact e.elim
          case hfin => exact fun e => e.elim
          case hI =>
            rintro t P R ⟨h1, h2, h3, h4⟩ hr
            have hr := hr.mono (T := fun k => V0.heap.size ≤ k) (fun _ _ e => e.elim id (fun e => e.elim))
            exact ⟨h1.keep hr (fun q hq => by omega) (Nat.le_refl _), hr.heap h2 (by omega), h3, h4.then hr (fun i hi h => by omega)⟩
          case hIx =>
            rintro c' P R ⟨h0, h1, ⟨n, h2, h3⟩, h4⟩ hr
            have hr := hr.mono (T := fun k => V0.heap.size ≤ k) (fun _ _ e => e.elim id (fun e => e.elim))
            exact ⟨h0, h1.keep hr (fun q hq => by omega) (Nat.le_refl _), ⟨n, hr.heap h2 (by omega), h3⟩, h4.then hr (fun i hi h => by omega)⟩
          case hRd =>
            intro X hx
            have hl := HRV.out.l
            exact ⟨p8, c8, hx.heap HRV.out.b id, HRV.out.by1.ch hx (fun _ _ => id), HRV.out.by2, by omega⟩
          case h0 => exact ⟨HRV.out, HNY.out, .inl rfl, HCV.out⟩
          case has =>
            intro l0 base t vt W3 K hvp hK
            obtain ⟨_, h, cur, rfl, _⟩ := hvp
            rw [← Haa0.out]
            rw [← Haa0.out] at hK
            simp only [List.setIfInBounds_toArray, List.set_cons_succ, List.set_cons_zero] at hK
            gi_wp2
            exact hK
          case hbody =>
            rintro l0 base t vt W3 ht hbase ⟨_, h, cur, rfl, hbh, hrw, hcur⟩ ⟨hr, hy, hlt, hc⟩
            have hl := hr.l
            have hvr := HSV.out
            have HRWX := Go.Lib.hid hr.rows
            obtain ⟨pg, cur2, hsv0, hpg, hpr, hpc⟩ := hr.rows.resolve_left (by omega)
            obtain ⟨hp0, hp1⟩ := hpc t ht
            obtain ⟨hbp, _⟩ := hr.bod t ht
            have HP0 := Go.Lib.hid (show W3.cell? ⟨pg, t * 2, none⟩ = some (.int .i64 (off (t + 1) : Nat)) from (cell_of_heap hpr _).trans hp0)
            have HP1 := Go.Lib.hid (show W3.cell? ⟨pg, t * 2 + 1, none⟩ = some (.slice (qs t) (mm t) (ds t)) from (cell_of_heap hpr _).trans hp1)
            have HBP := Go.Lib.hid hbp
            have HBX := Go.Lib.hid (show BytesAt W3 (some ⟨h, 0, none⟩) (mm t) (mm t) (fun j => F (off t + (kk t + j))) from .inl ⟨h, 0, rfl, Nat.le_refl _, row_lt hrw, fun j hj => (cell_of_heap hrw _).trans (by rw [Nat.zero_add]; exact hcur j hj)⟩)
            have HRH := Go.Lib.hid (show RowU W3 h (mm t) from ⟨cur, hrw, fun j hj => ⟨_, hcur j hj⟩⟩)
            have HAB := Go.Lib.hid (show W3.heap[AB]? = some (.cells #[.slice (some ⟨pg, 0, none⟩) T pc] 83) from by rw [← hsv0]; exact hr.al)
            have HNB := Go.Lib.hid hy
            have HTT := Go.Lib.hid (show (t : Int) < (T : Int) by omega)
            have HCVS := Go.Lib.hid (fun W q d (h : BytesAt W q (mm t) d (fun j => F (off t + (kk t + j)))) => conv_bytes h)
            have HR3 := Go.Lib.hid hr; have HLT := Go.Lib.hid hlt; have HC3 := Go.Lib.hid hc
            have HOW := Go.Lib.hid (show ∀ q, OwnB #[.int .i64 (off (t + 1) : Nat), .slice (some ⟨h, 0, none⟩) (mm t) (mm t)] q → V0.heap.size ≤ q ∧ q = h from fun q ⟨m', c', e⟩ => by cases e; exact ⟨by omega, rfl⟩)
            have HHB := Go.Lib.hid (show V0.heap.size ≤ h by omega)
            have HM2 := Go.Lib.hid (show mm t ≤ 1000 from HMN.out t ht)
            clear hr hy hlt hc hl hvr hpc hp0 hp1 hbp hpr hrw hcur hpg hsv0 hbh hbase
            clear hg hYY
            rw [← Haa0.out]
            simp only [List.setIfInBounds_toArray, List.set_cons_succ, List.set_cons_zero]
            have HOO := Go.Lib.hid (show ∀ k, OwnB #[.int .i64 (off (t + 1) : Nat), .slice (some ⟨h, 0, none⟩) (mm t) (mm t)] k ↔ k = h from fun k => ⟨fun e => (HOW.out k e).2, fun e => ⟨mm t, mm t, by rw [e]; rfl⟩⟩)
            generalize bS (fun j => F (off t + (kk t + j))) (mm t) = sg at *
            generalize (fun j => F (off t + (kk t + j))) = G2 at *
            generalize hm2 : mm t = m2 at *
            clear hm2
            generalize qs t = qt at *
            generalize ds t = dt at *
            generalize ho2 : off (t + 1) = o2 at *
            clear ho2
            have hss : (sg.toList != sg.toList) = false := by simp
            gi_upto_region 24 with (fail)
            generalize hax : Act.mk _ _ = ax
            have HSZ := Go.Lib.hid (show ax.tmps.size = 175 by rw [← hax]; rfl)
            have F18 := Go.Lib.hid (show gt ax 18 = .pointer (some ⟨AB, 0, none⟩) by rw [← hax]; rfl)
            have F20 := Go.Lib.hid (show gt ax 20 = .pointer (some ⟨Y0, 0, none⟩) by rw [← hax]; rfl)
            have F21 := Go.Lib.hid (show gt ax 21 = .int .i64 (o2 : Nat) by rw [← hax]; rfl)
            have F22 := Go.Lib.hid (show gt ax 22 = .slice (some ⟨h, 0, none⟩) m2 m2 by rw [← hax]; rfl)
            have HAX := Go.Lib.hid hax
            clear hax
            have HND := Go.Lib.hid (show ([107, 108, 109, 110, 111, 112, 113, 114, 115, 116, 117, 118, 119, 120, 121, 122, 123, 124, 125, 126, 127, 128, 129] : List Nat).Nodup by decide)
            have HLS : Hid (Lasts [(107, fun x _ => x = .int .i64 (t : Nat)), (108, fun x _ => x = .slice (some ⟨pg, 0, none⟩) T pc), (109, fun x _ => x = .int .i64 (T : Nat)), (110, fun x _ => x = .bool false), (111, fun x _ => x = .bool false), (112, fun x _ => x = .int .i64 (o2 : Nat)), (113, fun x _ => x = .slice (some ⟨pg, 0, none⟩) T pc), (114, fun x _ => x = .int .i64 (t : Nat)), (115, fun x _ => x = .pointer (some ⟨pg, t * 2, none⟩)), (116, fun x _ => x = .pointer (some ⟨pg, t * 2, none⟩)), (117, fun x _ => x = .int .i64 (o2 : Nat)), (118, fun x _ => x = .bool false), (119, fun x _ => x = .bool false), (120, fun x _ => x = .bool false), (121, fun x _ => x = .slice (some ⟨h, 0, none⟩) m2 m2), (122, fun x _ => x = .string sg), (123, fun x _ => x = .slice (some ⟨pg, 0, none⟩) T pc), (124, fun x _ => x = .int .i64 (t : Nat)), (125, fun x _ => x = .pointer (some ⟨pg, t * 2, none⟩)), (126, fun x _ => x = .pointer (some ⟨pg, t * 2 + 1, none⟩)), (127, fun x _ => x = .slice qt m2 dt), (128, fun x _ => x = .string sg), (129, fun x _ => x = .bool false)]) := Go.Lib.hid (by
              intro p hp v w1 w2 hc h
              simp only [List.mem_cons, List.not_mem_nil, or_false] at hp
              rcases hp with rfl | rfl | rfl | rfl | rfl | rfl | rfl | rfl | rfl | rfl | rfl | rfl | rfl | rfl | rfl | rfl | rfl | rfl | rfl | rfl | rfl | rfl | rfl
              all_goals first | exact h | (obtain ⟨g, h1, h2⟩ := h; exact ⟨g, h1, hc.heap h2 id⟩) | (obtain ⟨g, c, h1, h2⟩ := h; exact ⟨g, c, h1, h2.ch hc (fun _ _ h => h)⟩))
            refine wpR_region_open_tail 23 (InvQ 175 [(107, fun x _ => x = .int .i64 (t : Nat)), (108, fun x _ => x = .slice (some ⟨pg, 0, none⟩) T pc), (109, fun x _ => x = .int .i64 (T : Nat)), (110, fun x _ => x = .bool false), (111, fun x _ => x = .bool false), (112, fun x _ => x = .int .i64 (o2 : Nat)), (113, fun x _ => x = .slice (some ⟨pg, 0, none⟩) T pc), (114, fun x _ => x = .int .i64 (t : Nat)), (115, fun x _ => x = .pointer (some ⟨pg, t * 2, none⟩)), (116, fun x _ => x = .pointer (some ⟨pg, t * 2, none⟩)), (117, fun x _ => x = .int .i64 (o2 : Nat)), (118, fun x _ => x = .bool false), (119, fun x _ => x = .bool false), (120, fun x _ => x = .bool false), (121, fun x _ => x = .slice (some ⟨h, 0, none⟩) m2 m2), (122, fun x _ => x = .string sg), (123, fun x _ => x = .slice (some ⟨pg, 0, none⟩) T pc), (124, fun x _ => x = .int .i64 (t : Nat)), (125, fun x _ => x = .pointer (some ⟨pg, t * 2, none⟩)), (126, fun x _ => x = .pointer (some ⟨pg, t * 2 + 1, none⟩)), (127, fun x _ => x = .slice qt m2 dt), (128, fun x _ => x = .string sg), (129, fun x _ => x = .bool false)] (fun _ w' => Ch (fun _ => False) W3 w') ax) (by kernel_rfl) (by kernel_rfl) (by kernel_rfl) (InvQ.start (by simp) HSZ.out (Ch.refl _ _).drew) ?_ ?_
            · intro L a w' i hI hr hlt
              obtain ⟨h1, o, ho, hall⟩ := mem_ready.1 hr
              have hsplit : i = 0 ∨ i = 1 ∨ i = 2 ∨ i = 3 ∨ i = 4 ∨ i = 5 ∨ i = 6 ∨ i = 7 ∨ i = 8 ∨ i = 9 ∨ i = 10 ∨ i = 11 ∨ i = 12 ∨ i = 13 ∨ i = 14 ∨ i = 15 ∨ i = 16 ∨ i = 17 ∨ i = 18 ∨ i = 19 ∨ i = 20 ∨ i = 21 ∨ i = 22 := by omega
              clear hlt h1 hr
              rcases hsplit with rfl | rfl | rfl | rfl | rfl | rfl | rfl | rfl | rfl | rfl | rfl | rfl | rfl | rfl | rfl | rfl | rfl | rfl | rfl | rfl | rfl | rfl | rfl
              · have q20 := (hI.fixed 20 (by simp)).trans F20.out
                have hcn : w'.cell? ⟨Y0, 0, none⟩ = some (.int .i64 (t : Nat)) := cell_of_heap (hI.wld.heap HNB.out id) 0
                unfold gt at q20
                clear hall
                refine wpOp_step (o := _) rfl (fun K' hK' => ?_)
                go_simp
                exact hK' _ _ (hI.put 0 rfl (by decide) HND.out HLS.out  (Ch.refl _ _) rfl hI.wld)
              · have q18 := (hI.fixed 18 (by simp)).trans F18.out
                have hca : w'.cell? ⟨AB, 0, none⟩ = some (.slice (some ⟨pg, 0, none⟩) T pc) := cell_of_heap (hI.wld.heap HAB.out id) 0
                unfold gt at q18
                clear hall
                refine wpOp_step (o := _) rfl (fun K' hK' => ?_)
                go_simp
                exact hK' _ _ (hI.put 1 rfl (by decide) HND.out HLS.out  (Ch.refl _ _) rfl hI.wld)
              · simp at ho
                have e1 : lg L 1 = true := by unfold lg; simpa using hall ⟨1, .data⟩ (by rw [← ho]; simp) rfl
                have f1 : gt a 108 = .slice (some ⟨pg, 0, none⟩) T pc := hI.val 1 _ rfl e1
                unfold gt at f1
                clear hall
                clear ho
                refine wpOp_step (o := _) rfl (fun K' hK' => ?_)
                go_simp
                exact hK' _ _ (hI.put 2 rfl (by decide) HND.out HLS.out  (Ch.refl _ _) rfl hI.wld)
              · simp at ho
                have e0 : lg L 0 = true := by unfold lg; simpa using hall ⟨0, .data⟩ (by rw [← ho]; simp) rfl
                have f0 : gt a 107 = .int .i64 (t : Nat) := hI.val 0 _ rfl e0
                have e2 : lg L 2 = true := by unfold lg; simpa using hall ⟨2, .data⟩ (by rw [← ho]; simp) rfl
                have f2 : gt a 109 = .int .i64 (T : Nat) := hI.val 2 _ rfl e2
                have hNt : ¬ (T ≤ t) := by have := HTT.out; omega
                have hNt2 : decide (T ≤ t) = false := decide_eq_false hNt
                unfold gt at f0 f2
                clear hall
                clear ho
                refine wpOp_step (o := _) rfl (fun K' hK' => ?_)
                go_simp
                exact hK' _ _ (hI.put 3 rfl (by decide) HND.out HLS.out  (Ch.refl _ _) rfl hI.wld)
              · simp at ho
                have e3 : lg L 3 = true := by unfold lg; simpa using hall ⟨3, .data⟩ (by rw [← ho]; simp) rfl
                have f3 : gt a 110 = .bool false := hI.val 3 _ rfl e3
                unfold gt at f3
                clear hall
                clear ho
                refine wpOp_step (o := _) rfl (fun K' hK' => ?_)
                go_simp
                exact hK' _ _ (hI.put 4 rfl (by decide) HND.out HLS.out  (Ch.refl _ _) rfl hI.wld)
              · simp at ho
                have q21 := (hI.fixed 21 (by simp)).trans F21.out
                have eg : lg L 4 = true := by unfold lg; simpa using hall ⟨4, .guard⟩ (by rw [← ho]; simp) rfl
                have fg0 : gt a 111 = .bool false := hI.val 4 _ rfl eg
                have fg := guard_of fg0 (by rw [hI.size]; decide)
                clear eg fg0
                unfold gt at q21
                clear hall
                clear ho
                refine wpOp_step (o := _) rfl (fun K' hK' => ?_)
                go_simp
                exact hK' _ _ (hI.put 5 rfl (by decide) HND.out HLS.out  (Ch.refl _ _) rfl hI.wld)
              · simp at ho
                have q18 := (hI.fixed 18 (by simp)).trans F18.out
                have eg : lg L 4 = true := by unfold lg; simpa using hall ⟨4, .guard⟩ (by rw [← ho]; simp) rfl
                have fg0 : gt a 111 = .bool false := hI.val 4 _ rfl eg
                have fg := guard_of fg0 (by rw [hI.size]; decide)
                clear eg fg0
                have hca : w'.cell? ⟨AB, 0, none⟩ = some (.slice (some ⟨pg, 0, none⟩) T pc) := cell_of_heap (hI.wld.heap HAB.out id) 0
                unfold gt at q18
                clear hall
                clear ho
                refine wpOp_step (o := _) rfl (fun K' hK' => ?_)
                go_simp
                exact hK' _ _ (hI.put 6 rfl (by decide) HND.out HLS.out  (Ch.refl _ _) rfl hI.wld)
              · simp at ho
                have q20 := (hI.fixed 20 (by simp)).trans F20.out
                have eg : lg L 4 = true := by unfold lg; simpa using hall ⟨4, .guard⟩ (by rw [← ho]; simp) rfl
                have fg0 : gt a 111 = .bool false := hI.val 4 _ rfl eg
                have fg := guard_of fg0 (by rw [hI.size]; decide)
                clear eg fg0
                have hcn : w'.cell? ⟨Y0, 0, none⟩ = some (.int .i64 (t : Nat)) := cell_of_heap (hI.wld.heap HNB.out id) 0
                unfold gt at q20
                clear hall
                clear ho
                refine wpOp_step (o := _) rfl (fun K' hK' => ?_)
                go_simp
                exact hK' _ _ (hI.put 7 rfl (by decide) HND.out HLS.out  (Ch.refl _ _) rfl hI.wld)
              · simp at ho
                have e6 : lg L 6 = true := by unfold lg; simpa using hall ⟨6, .data⟩ (by rw [← ho]; simp) rfl
                have f6 : gt a 113 = .slice (some ⟨pg, 0, none⟩) T pc := hI.val 6 _ rfl e6
                have e7 : lg L 7 = true := by unfold lg; simpa using hall ⟨7, .data⟩ (by rw [← ho]; simp) rfl
                have f7 : gt a 114 = .int .i64 (t : Nat) := hI.val 7 _ rfl e7
                have eg : lg L 4 = true := by unfold lg; simpa using hall ⟨4, .guard⟩ (by rw [← ho]; simp) rfl
                have fg0 : gt a 111 = .bool false := hI.val 4 _ rfl eg
                have fg := guard_of fg0 (by rw [hI.size]; decide)
                clear eg fg0
                have htT := HTT.out
                have ht0 : (0 : Int) ≤ (t : Nat) := Int.natCast_nonneg t
                unfold gt at f6 f7
                clear hall
                clear ho
                refine wpOp_step (o := _) rfl (fun K' hK' => ?_)
                go_simp
                exact hK' _ _ (hI.put 8 rfl (by decide) HND.out HLS.out  (Ch.refl _ _) rfl hI.wld)
              · simp at ho
                have e8 : lg L 8 = true := by unfold lg; simpa using hall ⟨8, .data⟩ (by rw [← ho]; simp) rfl
                have f8 : gt a 115 = .pointer (some ⟨pg, t * 2, none⟩) := hI.val 8 _ rfl e8
                have eg : lg L 4 = true := by unfold lg; simpa using hall ⟨4, .guard⟩ (by rw [← ho]; simp) rfl
                have fg0 : gt a 111 = .bool false := hI.val 4 _ rfl eg
                have fg := guard_of fg0 (by rw [hI.size]; decide)
                clear eg fg0
                unfold gt at f8
                clear hall
                clear ho
                refine wpOp_step (o := _) rfl (fun K' hK' => ?_)
                go_simp
                exact hK' _ _ (hI.put 9 rfl (by decide) HND.out HLS.out  (Ch.refl _ _) rfl hI.wld)
              · simp at ho
                have e9 : lg L 9 = true := by unfold lg; simpa using hall ⟨9, .data⟩ (by rw [← ho]; simp) rfl
                have f9 : gt a 116 = .pointer (some ⟨pg, t * 2, none⟩) := hI.val 9 _ rfl e9
                have eg : lg L 4 = true := by unfold lg; simpa using hall ⟨4, .guard⟩ (by rw [← ho]; simp) rfl
                have fg0 : gt a 111 = .bool false := hI.val 4 _ rfl eg
                have fg := guard_of fg0 (by rw [hI.size]; decide)
                clear eg fg0
                have hcp := hI.wld.get HP0.out id
                unfold gt at f9
                clear hall
                clear ho
                refine wpOp_step (o := _) rfl (fun K' hK' => ?_)
                go_simp
                exact hK' _ _ (hI.put 10 rfl (by decide) HND.out HLS.out  (Ch.refl _ _) rfl hI.wld)
              · simp at ho
                have e5 : lg L 5 = true := by unfold lg; simpa using hall ⟨5, .data⟩ (by rw [← ho]; simp) rfl
                have f5 : gt a 112 = .int .i64 (o2 : Nat) := hI.val 5 _ rfl e5
                have e10 : lg L 10 = true := by unfold lg; simpa using hall ⟨10, .data⟩ (by rw [← ho]; simp) rfl
                have f10 : gt a 117 = .int .i64 (o2 : Nat) := hI.val 10 _ rfl e10
                have eg : lg L 4 = true := by unfold lg; simpa using hall ⟨4, .guard⟩ (by rw [← ho]; simp) rfl
                have fg0 : gt a 111 = .bool false := hI.val 4 _ rfl eg
                have fg := guard_of fg0 (by rw [hI.size]; decide)
                clear eg fg0
                unfold gt at f5 f10
                clear hall
                clear ho
                refine wpOp_step (o := _) rfl (fun K' hK' => ?_)
                go_simp
                exact hK' _ _ (hI.put 11 rfl (by decide) HND.out HLS.out  (Ch.refl _ _) rfl hI.wld)
              · simp at ho
                have e4 : lg L 4 = true := by unfold lg; simpa using hall ⟨4, .data⟩ (by rw [← ho]; simp) rfl
                have f4 : gt a 111 = .bool false := hI.val 4 _ rfl e4
                have e11 : lg L 11 = true := by unfold lg; simpa using hall ⟨11, .data⟩ (by rw [← ho]; simp) rfl
                have f11 : gt a 118 = .bool false := hI.val 11 _ rfl e11
                unfold gt at f4 f11
                clear hall
                clear ho
                refine wpOp_step (o := _) rfl (fun K' hK' => ?_)
                go_simp
                exact hK' _ _ (hI.put 12 rfl (by decide) HND.out HLS.out  (Ch.refl _ _) rfl hI.wld)
              · simp at ho
                have e12 : lg L 12 = true := by unfold lg; simpa using hall ⟨12, .data⟩ (by rw [← ho]; simp) rfl
                have f12 : gt a 119 = .bool false := hI.val 12 _ rfl e12
                unfold gt at f12
                clear hall
                clear ho
                refine wpOp_step (o := _) rfl (fun K' hK' => ?_)
                go_simp
                exact hK' _ _ (hI.put 13 rfl (by decide) HND.out HLS.out  (Ch.refl _ _) rfl hI.wld)
              · simp at ho
                have q22 := (hI.fixed 22 (by simp)).trans F22.out
                have eg : lg L 13 = true := by unfold lg; simpa using hall ⟨13, .guard⟩ (by rw [← ho]; simp) rfl
                have fg0 : gt a 120 = .bool false := hI.val 13 _ rfl eg
                have fg := guard_of fg0 (by rw [hI.size]; decide)
                clear eg fg0
                unfold gt at q22
                clear hall
                clear ho
                refine wpOp_step (o := _) rfl (fun K' hK' => ?_)
                go_simp
                exact hK' _ _ (hI.put 14 rfl (by decide) HND.out HLS.out  (Ch.refl _ _) rfl hI.wld)
              · simp at ho
                have e14 : lg L 14 = true := by unfold lg; simpa using hall ⟨14, .data⟩ (by rw [← ho]; simp) rfl
                have f14 : gt a 121 = .slice (some ⟨h, 0, none⟩) m2 m2 := hI.val 14 _ rfl e14
                have eg : lg L 13 = true := by unfold lg; simpa using hall ⟨13, .guard⟩ (by rw [← ho]; simp) rfl
                have fg0 : gt a 120 = .bool false := hI.val 13 _ rfl eg
                have fg := guard_of fg0 (by rw [hI.size]; decide)
                clear eg fg0
                have hcv := HCVS.out w' _ _ (HBX.out.ch hI.wld (fun _ _ => id))
                unfold gt at f14
                clear hall
                clear ho
                refine wpOp_step (o := _) rfl (fun K' hK' => ?_)
                go_simp
                exact hK' _ _ (hI.put 15 rfl (by decide) HND.out HLS.out  (Ch.refl _ _) rfl hI.wld)
              · simp at ho
                have q18 := (hI.fixed 18 (by simp)).trans F18.out
                have eg : lg L 13 = true := by unfold lg; simpa using hall ⟨13, .guard⟩ (by rw [← ho]; simp) rfl
                have fg0 : gt a 120 = .bool false := hI.val 13 _ rfl eg
                have fg := guard_of fg0 (by rw [hI.size]; decide)
                clear eg fg0
                have hca : w'.cell? ⟨AB, 0, none⟩ = some (.slice (some ⟨pg, 0, none⟩) T pc) := cell_of_heap (hI.wld.heap HAB.out id) 0
                unfold gt at q18
                clear hall
                clear ho
                refine wpOp_step (o := _) rfl (fun K' hK' => ?_)
                go_simp
                exact hK' _ _ (hI.put 16 rfl (by decide) HND.out HLS.out  (Ch.refl _ _) rfl hI.wld)
              · simp at ho
                have q20 := (hI.fixed 20 (by simp)).trans F20.out
                have eg : lg L 13 = true := by unfold lg; simpa using hall ⟨13, .guard⟩ (by rw [← ho]; simp) rfl
                have fg0 : gt a 120 = .bool false := hI.val 13 _ rfl eg
                have fg := guard_of fg0 (by rw [hI.size]; decide)
                clear eg fg0
                have hcn : w'.cell? ⟨Y0, 0, none⟩ = some (.int .i64 (t : Nat)) := cell_of_heap (hI.wld.heap HNB.out id) 0
                unfold gt at q20
                clear hall
                clear ho
                refine wpOp_step (o := _) rfl (fun K' hK' => ?_)
                go_simp
                exact hK' _ _ (hI.put 17 rfl (by decide) HND.out HLS.out  (Ch.refl _ _) rfl hI.wld)
              · simp at ho
                have e16 : lg L 16 = true := by unfold lg; simpa using hall ⟨16, .data⟩ (by rw [← ho]; simp) rfl
                have f16 : gt a 123 = .slice (some ⟨pg, 0, none⟩) T pc := hI.val 16 _ rfl e16
                have e17 : lg L 17 = true := by unfold lg; simpa using hall ⟨17, .data⟩ (by rw [← ho]; simp) rfl
                have f17 : gt a 124 = .int .i64 (t : Nat) := hI.val 17 _ rfl e17
                have eg : lg L 13 = true := by unfold lg; simpa using hall ⟨13, .guard⟩ (by rw [← ho]; simp) rfl
                have fg0 : gt a 120 = .bool false := hI.val 13 _ rfl eg
                have fg := guard_of fg0 (by rw [hI.size]; decide)
                clear eg fg0
                have htT := HTT.out
                have ht0 : (0 : Int) ≤ (t : Nat) := Int.natCast_nonneg t
                unfold gt at f16 f17
                clear hall
                clear ho
                refine wpOp_step (o := _) rfl (fun K' hK' => ?_)
                go_simp
                exact hK' _ _ (hI.put 18 rfl (by decide) HND.out HLS.out  (Ch.refl _ _) rfl hI.wld)
              · simp at ho
                have e18 : lg L 18 = true := by unfold lg; simpa using hall ⟨18, .data⟩ (by rw [← ho]; simp) rfl
                have f18 : gt a 125 = .pointer (some ⟨pg, t * 2, none⟩) := hI.val 18 _ rfl e18
                have eg : lg L 13 = true := by unfold lg; simpa using hall ⟨13, .guard⟩ (by rw [← ho]; simp) rfl
                have fg0 : gt a 120 = .bool false := hI.val 13 _ rfl eg
                have fg := guard_of fg0 (by rw [hI.size]; decide)
                clear eg fg0
                unfold gt at f18
                clear hall
                clear ho
                refine wpOp_step (o := _) rfl (fun K' hK' => ?_)
                go_simp
                exact hK' _ _ (hI.put 19 rfl (by decide) HND.out HLS.out  (Ch.refl _ _) rfl hI.wld)
              · simp at ho
                have e19 : lg L 19 = true := by unfold lg; simpa using hall ⟨19, .data⟩ (by rw [← ho]; simp) rfl
                have f19 : gt a 126 = .pointer (some ⟨pg, t * 2 + 1, none⟩) := hI.val 19 _ rfl e19
                have eg : lg L 13 = true := by unfold lg; simpa using hall ⟨13, .guard⟩ (by rw [← ho]; simp) rfl
                have fg0 : gt a 120 = .bool false := hI.val 13 _ rfl eg
                have fg := guard_of fg0 (by rw [hI.size]; decide)
                clear eg fg0
                have hcp := hI.wld.get HP1.out id
                unfold gt at f19
                clear hall
                clear ho
                refine wpOp_step (o := _) rfl (fun K' hK' => ?_)
                go_simp
                exact hK' _ _ (hI.put 20 rfl (by decide) HND.out HLS.out  (Ch.refl _ _) rfl hI.wld)
              · simp at ho
                have e20 : lg L 20 = true := by unfold lg; simpa using hall ⟨20, .data⟩ (by rw [← ho]; simp) rfl
                have f20 : gt a 127 = .slice qt m2 dt := hI.val 20 _ rfl e20
                have eg : lg L 13 = true := by unfold lg; simpa using hall ⟨13, .guard⟩ (by rw [← ho]; simp) rfl
                have fg0 : gt a 120 = .bool false := hI.val 13 _ rfl eg
                have fg := guard_of fg0 (by rw [hI.size]; decide)
                clear eg fg0
                have hcv := HCVS.out w' _ _ (HBP.out.ch hI.wld (fun _ _ => id))
                unfold gt at f20
                clear hall
                clear ho
                refine wpOp_step (o := _) rfl (fun K' hK' => ?_)
                go_simp
                exact hK' _ _ (hI.put 21 rfl (by decide) HND.out HLS.out  (Ch.refl _ _) rfl hI.wld)
              · simp at ho
                have e15 : lg L 15 = true := by unfold lg; simpa using hall ⟨15, .data⟩ (by rw [← ho]; simp) rfl
                have f15 : gt a 122 = .string sg := hI.val 15 _ rfl e15
                have e21 : lg L 21 = true := by unfold lg; simpa using hall ⟨21, .data⟩ (by rw [← ho]; simp) rfl
                have f21 : gt a 128 = .string sg := hI.val 21 _ rfl e21
                have eg : lg L 13 = true := by unfold lg; simpa using hall ⟨13, .guard⟩ (by rw [← ho]; simp) rfl
                have fg0 : gt a 120 = .bool false := hI.val 13 _ rfl eg
                have fg := guard_of fg0 (by rw [hI.size]; decide)
                clear eg fg0
                unfold gt at f15 f21
                clear hall
                clear ho
                refine wpOp_step (o := _) rfl (fun K' hK' => ?_)
                go_simp
                exact hK' _ _ (hI.put 22 rfl (by decide) HND.out HLS.out  (Ch.refl _ _) rfl hI.wld)
            · intro L a w' hI hal
              have hfr := hI.frame HSZ.out (by simp) (fun i hi => hal i hi)
              have k0 : gt a 107 = .int .i64 (t : Nat) := hI.val 0 _ rfl (hal 0 (by decide))
              have k1 : gt a 108 = .slice (some ⟨pg, 0, none⟩) T pc := hI.val 1 _ rfl (hal 1 (by decide))
              have k2 : gt a 109 = .int .i64 (T : Nat) := hI.val 2 _ rfl (hal 2 (by decide))
              have k3 : gt a 110 = .bool false := hI.val 3 _ rfl (hal 3 (by decide))
              have k4 : gt a 111 = .bool false := hI.val 4 _ rfl (hal 4 (by decide))
              have k5 : gt a 112 = .int .i64 (o2 : Nat) := hI.val 5 _ rfl (hal 5 (by decide))
              have k6 : gt a 113 = .slice (some ⟨pg, 0, none⟩) T pc := hI.val 6 _ rfl (hal 6 (by decide))
              have k7 : gt a 114 = .int .i64 (t : Nat) := hI.val 7 _ rfl (hal 7 (by decide))
              have k8 : gt a 115 = .pointer (some ⟨pg, t * 2, none⟩) := hI.val 8 _ rfl (hal 8 (by decide))
              have k9 : gt a 116 = .pointer (some ⟨pg, t * 2, none⟩) := hI.val 9 _ rfl (hal 9 (by decide))
              have k10 : gt a 117 = .int .i64 (o2 : Nat) := hI.val 10 _ rfl (hal 10 (by decide))
              have k11 : gt a 118 = .bool false := hI.val 11 _ rfl (hal 11 (by decide))
              have k12 : gt a 119 = .bool false := hI.val 12 _ rfl (hal 12 (by decide))
              have k13 : gt a 120 = .bool false := hI.val 13 _ rfl (hal 13 (by decide))
              have k14 : gt a 121 = .slice (some ⟨h, 0, none⟩) m2 m2 := hI.val 14 _ rfl (hal 14 (by decide))
              have k15 : gt a 122 = .string sg := hI.val 15 _ rfl (hal 15 (by decide))
              have k16 : gt a 123 = .slice (some ⟨pg, 0, none⟩) T pc := hI.val 16 _ rfl (hal 16 (by decide))
              have k17 : gt a 124 = .int .i64 (t : Nat) := hI.val 17 _ rfl (hal 17 (by decide))
              have k18 : gt a 125 = .pointer (some ⟨pg, t * 2, none⟩) := hI.val 18 _ rfl (hal 18 (by decide))
              have k19 : gt a 126 = .pointer (some ⟨pg, t * 2 + 1, none⟩) := hI.val 19 _ rfl (hal 19 (by decide))
              have k20 : gt a 127 = .slice qt m2 dt := hI.val 20 _ rfl (hal 20 (by decide))
              have k21 : gt a 128 = .string sg := hI.val 21 _ rfl (hal 21 (by decide))
              have k22 : gt a 129 = .bool false := hI.val 22 _ rfl (hal 22 (by decide))
              rw [hfr, ← HAX.out]
              have HCR := Go.Lib.hid hI.wld
              simp only [List.map_cons, List.map_nil, List.foldl_cons, List.foldl_nil, k0, k1, k2, k3, k4, k5, k6, k7, k8, k9, k10, k11, k12, k13, k14, k15, k16, k17, k18, k19, k20, k21, k22, List.setIfInBounds_toArray, List.set_cons_succ, List.set_cons_zero]
              clear hfr hI hal k0 k1 k2 k3 k4 k5 k6 k7 k8 k9 k10 k11 k12 k13 k14 k15 k16 k17 k18 k19 k20 k21 k22  HSZ HND HLS HAX F18 F20 F21 F22
              simp only [List.drop_succ_cons, List.drop_zero]
              go_wp2_with fail
              change Code.wpIn (Fence.wide.inRound l0) 0 Try.prog _ _ _ _
              have HRU5 := Go.Lib.hid (show RowU w' h m2 from by obtain ⟨cur5, h1, h2⟩ := HRH.out; exact ⟨cur5, HCR.out.heap h1 id, h2⟩)
              have HR5 := Go.Lib.hid (HR3.out.keep HCR.out (fun _ e => e.elim) (Nat.le_refl _))
              have HY5 := Go.Lib.hid (HCR.out.heap HNB.out id)
              have HC5 := Go.Lib.hid (HC3.out.trans HCR.out)
              have hmb := HM2.out
              clear HRH HR3 HC3 HP0 HP1 HBP HBX HAB HCVS hss
              gi_wp2
              gi_loopw [23] (fun ix wr => ∃ j : Nat, j ≤ m2 ∧ ix = .int .i64 (j : Int) ∧ RowU wr h m2 ∧ Ch (fun k => k = h) w' wr) (fun ix _ => m2 - (intOf ix).toNat)
              case atStart => exact ⟨0, by omega, rfl, HRU5.out, Ch.refl _ _⟩
              case round =>
                obtain ⟨j, hj, rfl, hru, hch⟩ := hrel
                have HRW := Go.Lib.hid hru; have HCH := Go.Lib.hid hch
                clear hru hch
                by_cases hin : j < m2
                · obtain ⟨cur6, hcur, hby⟩ := HRW.out
                  obtain ⟨z, hz⟩ := hby j hin
                  have hcell : wr.cell? ⟨h, j, none⟩ = some (.int .u8 (z.toNat : Int)) := (cell_of_heap hcur j).trans hz
                  have hfr : wr.frozen? ⟨h, j, none⟩ = false := frozen_of_heap hcur j
                  have HZ := Go.Lib.hid (show ((z.toNat : Int) + 1) % 256 = ((z + 1).toNat : Int) by
                    rw [UInt8.toNat_add, show (1 : UInt8).toNat = 1 from rfl]; have := z.toNat_lt; omega)
                  have HST := Go.Lib.hid ((show RowU wr h m2 from ⟨cur6, hcur, hby⟩).set (z + 1) hin)
                  rw [← HZ.out] at HST
                  clear hcur hby hz HZ
                  gi_wp2
                  case roundEnd => exact ⟨⟨j + 1, by omega, by go_num, HST.out, Ch.setCell (S := fun t => t = h) HCH.out (p := ⟨h, j, none⟩) (fun _ => rfl) _⟩, by simp [intOf]; omega⟩
                · obtain rfl : m2 = j := by omega
                  have hsv2 := HSV.out
                  have hhb := HHB.out
                  have HR6 := Go.Lib.hid (HR5.out.keep HCH.out (fun q e => by omega) (Nat.le_refl _))
                  have HY6 := Go.Lib.hid (HCH.out.heap HY5.out (show ¬ Y0 = h by omega))
                  have HX6 := Go.Lib.hid ((HCR.out.mono (T := fun k => k = Y0 ∨ OwnB #[.int .i64 (o2 : Nat), .slice (some ⟨h, 0, none⟩) m2 m2] k) (fun _ _ e => e.elim)).trans (HCH.out.mono (fun i _ e => .inr ((HOO.out i).2 e))))
                  have HC6 := Go.Lib.hid (HC5.out.then HCH.out (fun i hi e => by omega))
                  have c1 : wr.cell? ⟨TB, 0, none⟩ = some (.int .i64 0) := cell_of_heap HR6.out.t 0
                  have c2 : wr.cell? ⟨A, 0, none⟩ = some (.int .i64 many) := cell_of_heap HR6.out.a 0
                  have c4 : wr.cell? ⟨Y0, 0, none⟩ = some (.int .i64 (t : Int)) := cell_of_heap HY6.out 0
                  have c5 : wr.frozen? ⟨Y0, 0, none⟩ = false := frozen_of_heap HY6.out 0
                  have HCS := Go.Lib.hid (fun (v : Value) => (Ch.setCell (S := fun q => q = Y0) (Ch.refl _ wr) (p := ⟨Y0, 0, none⟩) (fun _ => rfl) v))
                  have HCW := Go.Lib.hid (fun (v : Value) => (Ch.setCell (S := fun _ => False) HC6.out (p := ⟨Y0, 0, none⟩) (fun h => by have h' : Y0 < w.heap.size := h; omega) v))
                  have HNE : Hid (Y0 ≠ A ∧ Y0 ≠ AB ∧ Y0 ≠ TB) := Go.Lib.hid (by have := HR6.out.l; omega)
                  have c7 : ∀ v, (wr.setCell ⟨Y0, 0, none⟩ v).cell? ⟨TB, 0, none⟩ = some (.int .i64 0) := fun v => (World.cell?_setCell_other _ _ _ _ (fun h => by cases h; have := HNE.out; omega)).trans c1
                  have c8' : ∀ v, (wr.setCell ⟨Y0, 0, none⟩ v).cell? ⟨A, 0, none⟩ = some (.int .i64 many) := fun v => (World.cell?_setCell_other _ _ _ _ (fun h => by cases h; have := HNE.out; omega)).trans c2
                  have hw1 : wrap64 ((t : Int) + 1) = (t : Int) + 1 := by have h1 := HTT.out; have h2 := HTN.out; unfold wrap64; omega
                  clear HCH HRW hin hj hsv2 hhb
                  by_cases hle : many ≤ (t : Int) + 1
                  · gi_wp2
                    exact .inr (.inl ⟨_, rfl, ⟨rfl, HR6.out.keep (HCS.out _) (fun q hq => Nat.le_of_eq hq.symm) (Nat.le_refl _), ⟨t + 1, (box_set HY6.out _).trans (by go_num), by have h1 := HLT.out; have h2 := HTT.out; omega⟩, HCW.out _⟩, HX6.out.trans ((HCS.out _).mono (fun _ _ e => .inl e))⟩)
                  · gi_wp2
                    exact ⟨⟨HR6.out.keep (HCS.out _) (fun q hq => Nat.le_of_eq hq.symm) (Nat.le_refl _), (box_set HY6.out _).trans (by go_num), HCW.out _⟩, HX6.out.trans ((HCS.out _).mono (fun _ _ e => .inl e))⟩

          case hdone =>
            rintro D W3 ⟨h1, h2, h3, h4⟩ hD hdef
            exact ⟨rfl, D, T, rfl, hD, hdef, h1, h2, by omega, h4⟩
          case hstop =>
            rintro c' D W3 ⟨rfl, h1, ⟨n, h2, h3⟩, h4⟩ hD hdef
            refine wp_exit ?_
            simp only [Exit.inBlock, if_true]
            exact ⟨trivial, D, n, rfl, hD, hdef, h1, h2, h3, h4⟩
        case post =>
          rintro e a' W' ⟨rfl, D0, n, rfl, hD, hdef, hr, hy, hn, hc⟩
          have c1 : W'.cell? ⟨TB, 0, none⟩ = some (.int .i64 0) := cell_of_heap hr.t 0
          have c2 : W'.cell? ⟨A, 0, none⟩ = some (.int .i64 many) := cell_of_heap hr.a 0
          have c3 : W'.cell? ⟨AB, 0, none⟩ = some (.slice sv T pc) := cell_of_heap hr.al 0
          have c4 : W'.cell? ⟨Y0, 0, none⟩ = some (.int .i64 (n : Int)) := cell_of_heap hy 0
          have HR4 := Go.Lib.hid hr; have HY4 := Go.Lib.hid hy; have HN4 := Go.Lib.hid hn; have HC4 := Go.Lib.hid hc; have HDF := Go.Lib.hid hdef
          clear hr hy hn hc hdef
          rw [← Haa0.out]
          obtain ⟨mx, hmx⟩ : ∃ mx : Int, (if 1 < many then many else 1) = mx := ⟨_, rfl⟩
          have hmn : (if mx < (T : Int) then mx else (T : Int)) = (n : Int) := by
            have := HN4.out
            rw [← hmx]
            split <;> split at * <;> omega
          go_wp2_with fail
          clear hmx hmn
          rw [rounds_succ]
          have HD0A : Hid (A + 1 < D0) := Go.Lib.hid (by have := HL0.out; have := HSV.out; omega)
          have hD0 : D0 < W'.heap.size := (Array.getElem?_eq_some_iff.1 HDF.out).1
          have hY0s : Y0 < W'.heap.size := (Array.getElem?_eq_some_iff.1 HY4.out).1
          obtain ⟨W1, hW1⟩ : ∃ W1, W'.alloc (.cells #[.int .i64 1] 3) = W1 := ⟨_, rfl⟩
          have hc1 : Ch (fun _ => False) W' W1 := by rw [← hW1]; exact (Ch.refl _ _).alloc _
          have hn1 : W1.heap[W'.heap.size]? = some (.cells #[.int .i64 1] 3) := by rw [← hW1]; exact World.alloc_heap_new _ _
          have hs1 : W1.heap.size = W'.heap.size + 1 := by rw [← hW1]; simp
          have HD1 := Go.Lib.hid (hc1.heap HDF.out id)
          have HROWS := Go.Lib.hid ((HR4.out.keep hc1 (fun _ h => h.elim) (Nat.le_refl _)).turn (tn' := 1) hn1 (show Y0 ≤ W1.heap.size by omega) (by omega))
          have HC0 := Go.Lib.hid (HC4.out.trans hc1)
          rw [hW1]
          have hA : A ≤ W1.heap.size := by omega
          have hD0 : D0 < W1.heap.size := by omega
          clear hW1 hn1 hs1 hc1 HDF HR4 HC4 HY4 HN4 c1 c2 c3 c4 Haa0 HL0 HNY HRV HSV HCV cT hY0s hD
          generalize W'.heap.size = T1 at *
          clear W' hYY

          have hcv : Ch (fun _ => False) W1 (W1.alloc (.cells #[.int .i64 0] 3)) := (Ch.refl _ _).alloc _
          have HNY := Go.Lib.hid (World.alloc_heap_new W1 (.cells #[.int .i64 0] 3))
          have HRV := Go.Lib.hid (HROWS.out.keep hcv (fun _ h => h.elim) (Nat.le_refl _))
          have HCV := Go.Lib.hid (HC0.out.trans hcv)
          have cT : W1.cell? ⟨T1, 0, none⟩ = some (.int .i64 1) := cell_of_heap HROWS.out.t 0
          have HDV := Go.Lib.hid (hcv.heap HD1.out id)
          clear hcv
          go_upto_block 4 with (refine wpList_eqnil rfl (.tmp 102) rfl rfl ?_)
          have HSV := Go.Lib.hid (show (W1.alloc (.cells #[.int .i64 0] 3)).heap.size = W1.heap.size + 1 by simp)
          generalize hVV : W1.alloc (.cells #[.int .i64 0] 3) = V1 at *
          clear hVV
          generalize hYY : W1.heap.size = Y1 at *
          generalize haa : Act.mk _ _ = aa
          have Haa1 := Go.Lib.hid haa
          clear haa
          refine Code.wp_mono (Q := fun e a' W' => e = .normal ∧ ∃ (D n : Nat), a' = { tmps := aa.tmps, defers := { target := .collected D, args := #[] } :: aa.defers } ∧ V1.heap.size ≤ D ∧ W'.heap[D]? = some (.deferred (some [])) ∧
            RowsF many A AB B x0 xs T sv p8 pc c8 ns F off kk mm qs ds T1 1 Y1 W' ∧ W'.heap[Y1]? = some (.cells #[.int .i64 (n : Int)] 3) ∧ n = T ∧ Ch (fun _ => False) w W' ∧ W'.heap[D0]? = some (.deferred (some []))) ?post ?blk
          case blk =>
            have hg : aa.eval (.tmp 104) = .func (.func 76) #[] #[.pointer (some ⟨B, 0, none⟩)] := by rw [← Haa1.out]; rfl
            refine wp_block ?_
            have hsv := HSV.out
            refine range_gives (HGV.out B x0) (hands_g F T off kk mm) (enters_of Try.func76 (by kernel_rfl) rfl) hg ?hps (fun q => q = Y1) ?hSw ?hKC
              (fun t W' => RowsF many A AB B x0 xs T sv p8 pc c8 ns F off kk mm qs ds T1 1 Y1 W' ∧ W'.heap[Y1]? = some (.cells #[.int .i64 (t : Int)] 3) ∧ True ∧ Ch (fun _ => False) w W' ∧ W'.heap[D0]? = some (.deferred (some [])))
              (fun c' W' => c' = .exit 4 ∧ RowsF many A AB B x0 xs T sv p8 pc c8 ns F off kk mm qs ds T1 1 Y1 W' ∧ (∃ n : Nat, W'.heap[Y1]? = some (.cells #[.int .i64 (n : Int)] 3) ∧ n = T) ∧ Ch (fun _ => False) w W' ∧ W'.heap[D0]? = some (.deferred (some []))) ?hfin ?hI ?hIx ?hRd ?h0
              (fun vt => { tmps := (((aa.tmps.setIfInBounds 105 (vt.getD 0 undef)).setIfInBounds 106 (vt.getD 1 undef)).setIfInBounds 21 (vt.getD 0 undef)).setIfInBounds 22 (vt.getD 1 undef), defers := [] }) ?has ?hbody ?hdone ?hstop
            case hps => rintro base t vt A' ⟨_, h, cur, rfl, _⟩; rfl
            case hSw =>
              rintro q rfl
              have hl := HRV.out.l
              have hl0 := HROWS.out.l
              exact ⟨by omega, fun e => by rcases e with e | e <;> omega, fun e => e.elim⟩
            case hKC =>
              have hl := HRV.out.l
              rintro q ((e | e) | e)
              · omega
              · omega
              · exact e.elim
            case hfin => exact fun e => e.elim
            case hI =>
              rintro t P R ⟨h1, h2, h3, h4, h5⟩ hr
              have hr := hr.mono (T := fun k => V1.heap.size ≤ k) (fun _ _ e => e.elim id (fun e => e.elim))
              exact ⟨h1.keep hr (fun q hq => by omega) (Nat.le_refl _), hr.heap h2 (by omega), h3, h4.then hr (fun i hi h => by omega), hr.heap h5 (by omega)⟩
            case hIx =>
              rintro c' P R ⟨h0, h1, ⟨n, h2, h3⟩, h4, h5⟩ hr
              have hr := hr.mono (T := fun k => V1.heap.size ≤ k) (fun _ _ e => e.elim id (fun e => e.elim))
              exact ⟨h0, h1.keep hr (fun q hq => by omega) (Nat.le_refl _), ⟨n, hr.heap h2 (by omega), h3⟩, h4.then hr (fun i hi h => by omega), hr.heap h5 (by omega)⟩
            case hRd =>
              intro X hx
              have hl := HRV.out.l
              exact ⟨p8, c8, hx.heap HRV.out.b id, HRV.out.by1.ch hx (fun _ _ => id), HRV.out.by2, by omega⟩
            case h0 => exact ⟨HRV.out, HNY.out, trivial, HCV.out, HDV.out⟩
            case has =>
              intro l0 base t vt W3 K hvp hK
              obtain ⟨_, h, cur, rfl, _⟩ := hvp
              rw [← Haa1.out]
              rw [← Haa1.out] at hK
              simp only [List.setIfInBounds_toArray, List.set_cons_succ, List.set_cons_zero] at hK
              gi_wp2
              exact hK
            case hbody =>
              rintro l0 base t vt W3 ht hbase ⟨_, h, cur, rfl, hbh, hrw, hcur⟩ ⟨hr, hy, hlt, hc, h5⟩
              have hl := hr.l
              have hvr := HSV.out
              have HRWX := Go.Lib.hid hr.rows
              obtain ⟨pg, cur2, hsv0, hpg, hpr, hpc⟩ := hr.rows.resolve_left (by omega)
              obtain ⟨hp0, hp1⟩ := hpc t ht
              obtain ⟨hbp, _⟩ := hr.bod t ht
              have HP0 := Go.Lib.hid (show W3.cell? ⟨pg, t * 2, none⟩ = some (.int .i64 (off (t + 1) : Nat)) from (cell_of_heap hpr _).trans hp0)
              have HP1 := Go.Lib.hid (show W3.cell? ⟨pg, t * 2 + 1, none⟩ = some (.slice (qs t) (mm t) (ds t)) from (cell_of_heap hpr _).trans hp1)
              have HBP := Go.Lib.hid hbp
              have HBX := Go.Lib.hid (show BytesAt W3 (some ⟨h, 0, none⟩) (mm t) (mm t) (fun j => F (off t + (kk t + j))) from .inl ⟨h, 0, rfl, Nat.le_refl _, row_lt hrw, fun j hj => (cell_of_heap hrw _).trans (by rw [Nat.zero_add]; exact hcur j hj)⟩)
              have HRH := Go.Lib.hid (show RowU W3 h (mm t) from ⟨cur, hrw, fun j hj => ⟨_, hcur j hj⟩⟩)
              have HAB := Go.Lib.hid (show W3.heap[AB]? = some (.cells #[.slice (some ⟨pg, 0, none⟩) T pc] 83) from by rw [← hsv0]; exact hr.al)
              have HNB := Go.Lib.hid hy
              have HTT := Go.Lib.hid (show (t : Int) < (T : Int) by omega)
              have HCVS := Go.Lib.hid (fun W q d (h : BytesAt W q (mm t) d (fun j => F (off t + (kk t + j)))) => conv_bytes h)
              have HR3 := Go.Lib.hid hr; have HLT := Go.Lib.hid hlt; have HC3 := Go.Lib.hid hc
              have HOW := Go.Lib.hid (show ∀ q, OwnB #[.int .i64 (off (t + 1) : Nat), .slice (some ⟨h, 0, none⟩) (mm t) (mm t)] q → V1.heap.size ≤ q ∧ q = h from fun q ⟨m', c', e⟩ => by cases e; exact ⟨by omega, rfl⟩)
              have HHB := Go.Lib.hid (show V1.heap.size ≤ h by omega)
              have HM2 := Go.Lib.hid (show mm t ≤ 1000 from HMN.out t ht)
              clear hr hy hlt hc hl hvr hpc hp0 hp1 hbp hpr hrw hcur hpg hsv0 hbh hbase
              clear hg hYY
              rw [← Haa1.out]
              simp only [List.setIfInBounds_toArray, List.set_cons_succ, List.set_cons_zero]
              have HOO := Go.Lib.hid (show ∀ k, OwnB #[.int .i64 (off (t + 1) : Nat), .slice (some ⟨h, 0, none⟩) (mm t) (mm t)] k ↔ k = h from fun k => ⟨fun e => (HOW.out k e).2, fun e => ⟨mm t, mm t, by rw [e]; rfl⟩⟩)
              generalize bS (fun j => F (off t + (kk t + j))) (mm t) = sg at *
              generalize (fun j => F (off t + (kk t + j))) = G2 at *
              generalize hm2 : mm t = m2 at *
              clear hm2
              generalize qs t = qt at *
              generalize ds t = dt at *
              generalize ho2 : off (t + 1) = o2 at *
              clear ho2
              have hss : (sg.toList != sg.toList) = false := by simp
              gi_upto_region 24 with (fail)
              generalize hax : Act.mk _ _ = ax
              have HSZ := Go.Lib.hid (show ax.tmps.size = 175 by rw [← hax]; rfl)
              have F18 := Go.Lib.hid (show gt ax 18 = .pointer (some ⟨AB, 0, none⟩) by rw [← hax]; rfl)
              have F20 := Go.Lib.hid (show gt ax 20 = .pointer (some ⟨Y1, 0, none⟩) by rw [← hax]; rfl)
              have F21 := Go.Lib.hid (show gt ax 21 = .int .i64 (o2 : Nat) by rw [← hax]; rfl)
              have F22 := Go.Lib.hid (show gt ax 22 = .slice (some ⟨h, 0, none⟩) m2 m2 by rw [← hax]; rfl)
              have HAX := Go.Lib.hid hax
              clear hax
              have HND := Go.Lib.hid (show ([107, 108, 109, 110, 111, 112, 113, 114, 115, 116, 117, 118, 119, 120, 121, 122, 123, 124, 125, 126, 127, 128, 129] : List Nat).Nodup by decide)
              have HLS : Hid (Lasts [(107, fun x _ => x = .int .i64 (t : Nat)), (108, fun x _ => x = .slice (some ⟨pg, 0, none⟩) T pc), (109, fun x _ => x = .int .i64 (T : Nat)), (110, fun x _ => x = .bool false), (111, fun x _ => x = .bool false), (112, fun x _ => x = .int .i64 (o2 : Nat)), (113, fun x _ => x = .slice (some ⟨pg, 0, none⟩) T pc), (114, fun x _ => x = .int .i64 (t : Nat)), (115, fun x _ => x = .pointer (some ⟨pg, t * 2, none⟩)), (116, fun x _ => x = .pointer (some ⟨pg, t * 2, none⟩)), (117, fun x _ => x = .int .i64 (o2 : Nat)), (118, fun x _ => x = .bool false), (119, fun x _ => x = .bool false), (120, fun x _ => x = .bool false), (121, fun x _ => x = .slice (some ⟨h, 0, none⟩) m2 m2), (122, fun x _ => x = .string sg), (123, fun x _ => x = .slice (some ⟨pg, 0, none⟩) T pc), (124, fun x _ => x = .int .i64 (t : Nat)), (125, fun x _ => x = .pointer (some ⟨pg, t * 2, none⟩)), (126, fun x _ => x = .pointer (some ⟨pg, t * 2 + 1, none⟩)), (127, fun x _ => x = .slice qt m2 dt), (128, fun x _ => x = .string sg), (129, fun x _ => x = .bool false)]) := Go.Lib.hid (by
                intro p hp v w1 w2 hc h
                simp only [List.mem_cons, List.not_mem_nil, or_false] at hp
                rcases hp with rfl | rfl | rfl | rfl | rfl | rfl | rfl | rfl | rfl | rfl | rfl | rfl | rfl | rfl | rfl | rfl | rfl | rfl | rfl | rfl | rfl | rfl | rfl
                all_goals first | exact h | (obtain ⟨g, h1, h2⟩ := h; exact ⟨g, h1, hc.heap h2 id⟩) | (obtain ⟨g, c, h1, h2⟩ := h; exact ⟨g, c, h1, h2.ch hc (fun _ _ h => h)⟩))
              refine wpR_region_open_tail 23 (InvQ 175 [(107, fun x _ => x = .int .i64 (t : Nat)), (108, fun x _ => x = .slice (some ⟨pg, 0, none⟩) T pc), (109, fun x _ => x = .int .i64 (T : Nat)), (110, fun x _ => x = .bool false), (111, fun x _ => x = .bool false), (112, fun x _ => x = .int .i64 (o2 : Nat)), (113, fun x _ => x = .slice (some ⟨pg, 0, none⟩) T pc), (114, fun x _ => x = .int .i64 (t : Nat)), (115, fun x _ => x = .pointer (some ⟨pg, t * 2, none⟩)), (116, fun x _ => x = .pointer (some ⟨pg, t * 2, none⟩)), (117, fun x _ => x = .int .i64 (o2 : Nat)), (118, fun x _ => x = .bool false), (119, fun x _ => x = .bool false), (120, fun x _ => x = .bool false), (121, fun x _ => x = .slice (some ⟨h, 0, none⟩) m2 m2), (122, fun x _ => x = .string sg), (123, fun x _ => x = .slice (some ⟨pg, 0, none⟩) T pc), (124, fun x _ => x = .int .i64 (t : Nat)), (125, fun x _ => x = .pointer (some ⟨pg, t * 2, none⟩)), (126, fun x _ => x = .pointer (some ⟨pg, t * 2 + 1, none⟩)), (127, fun x _ => x = .slice qt m2 dt), (128, fun x _ => x = .string sg), (129, fun x _ => x = .bool false)] (fun _ w' => Ch (fun _ => False) W3 w') ax) (by kernel_rfl) (by kernel_rfl) (by kernel_rfl) (InvQ.start (by simp) HSZ.out (Ch.refl _ _).drew) ?_ ?_
              · intro L a w' i hI hr hlt
                obtain ⟨h1, o, ho, hall⟩ := mem_ready.1 hr
                have hsplit : i = 0 ∨ i = 1 ∨ i = 2 ∨ i = 3 ∨ i = 4 ∨ i = 5 ∨ i = 6 ∨ i = 7 ∨ i = 8 ∨ i = 9 ∨ i = 10 ∨ i = 11 ∨ i = 12 ∨ i = 13 ∨ i = 14 ∨ i = 15 ∨ i = 16 ∨ i = 17 ∨ i = 18 ∨ i = 19 ∨ i = 20 ∨ i = 21 ∨ i = 22 := by omega
                clear hlt h1 hr
                rcases hsplit with rfl | rfl | rfl | rfl | rfl | rfl | rfl | rfl | rfl | rfl | rfl | rfl | rfl | rfl | rfl | rfl | rfl | rfl | rfl | rfl | rfl | rfl | rfl
                · have q20 := (hI.fixed 20 (by simp)).trans F20.out
                  have hcn : w'.cell? ⟨Y1, 0, none⟩ = some (.int .i64 (t : Nat)) := cell_of_heap (hI.wld.heap HNB.out id) 0
                  unfold gt at q20
                  clear hall
                  refine wpOp_step (o := _) rfl (fun K' hK' => ?_)
                  go_simp
                  exact hK' _ _ (hI.put 0 rfl (by decide) HND.out HLS.out  (Ch.refl _ _) rfl hI.wld)
                · have q18 := (hI.fixed 18 (by simp)).trans F18.out
                  have hca : w'.cell? ⟨AB, 0, none⟩ = some (.slice (some ⟨pg, 0, none⟩) T pc) := cell_of_heap (hI.wld.heap HAB.out id) 0
                  unfold gt at q18
                  clear hall
                  refine wpOp_step (o := _) rfl (fun K' hK' => ?_)
                  go_simp
                  exact hK' _ _ (hI.put 1 rfl (by decide) HND.out HLS.out  (Ch.refl _ _) rfl hI.wld)
                · simp at ho
                  have e1 : lg L 1 = true := by unfold lg; simpa using hall ⟨1, .data⟩ (by rw [← ho]; simp) rfl
                  have f1 : gt a 108 = .slice (some ⟨pg, 0, none⟩) T pc := hI.val 1 _ rfl e1
                  unfold gt at f1
                  clear hall
                  clear ho
                  refine wpOp_step (o := _) rfl (fun K' hK' => ?_)
                  go_simp
                  exact hK' _ _ (hI.put 2 rfl (by decide) HND.out HLS.out  (Ch.refl _ _) rfl hI.wld)
                · simp at ho
                  have e0 : lg L 0 = true := by unfold lg; simpa using hall ⟨0, .data⟩ (by rw [← ho]; simp) rfl
                  have f0 : gt a 107 = .int .i64 (t : Nat) := hI.val 0 _ rfl e0
                  have e2 : lg L 2 = true := by unfold lg; simpa using hall ⟨2, .data⟩ (by rw [← ho]; simp) rfl
                  have f2 : gt a 109 = .int .i64 (T : Nat) := hI.val 2 _ rfl e2
                  have hNt : ¬ (T ≤ t) := by have := HTT.out; omega
                  have hNt2 : decide (T ≤ t) = false := decide_eq_false hNt
                  unfold gt at f0 f2
                  clear hall
                  clear ho
                  refine wpOp_step (o := _) rfl (fun K' hK' => ?_)
                  go_simp
                  exact hK' _ _ (hI.put 3 rfl (by decide) HND.out HLS.out  (Ch.refl _ _) rfl hI.wld)
                · simp at ho
                  have e3 : lg L 3 = true := by unfold lg; simpa using hall ⟨3, .data⟩ (by rw [← ho]; simp) rfl
                  have f3 : gt a 110 = .bool false := hI.val 3 _ rfl e3
                  unfold gt at f3
                  clear hall
                  clear ho
                  refine wpOp_step (o := _) rfl (fun K' hK' => ?_)
                  go_simp
                  exact hK' _ _ (hI.put 4 rfl (by decide) HND.out HLS.out  (Ch.refl _ _) rfl hI.wld)
                · simp at ho
                  have q21 := (hI.fixed 21 (by simp)).trans F21.out
                  have eg : lg L 4 = true := by unfold lg; simpa using hall ⟨4, .guard⟩ (by rw [← ho]; simp) rfl
                  have fg0 : gt a 111 = .bool false := hI.val 4 _ rfl eg
                  have fg := guard_of fg0 (by rw [hI.size]; decide)
                  clear eg fg0
                  unfold gt at q21
                  clear hall
                  clear ho
                  refine wpOp_step (o := _) rfl (fun K' hK' => ?_)
                  go_simp
                  exact hK' _ _ (hI.put 5 rfl (by decide) HND.out HLS.out  (Ch.refl _ _) rfl hI.wld)
                · simp at ho
                  have q18 := (hI.fixed 18 (by simp)).trans F18.out
                  have eg : lg L 4 = true := by unfold lg; simpa using hall ⟨4, .guard⟩ (by rw [← ho]; simp) rfl
                  have fg0 : gt a 111 = .bool false := hI.val 4 _ rfl eg
                  have fg := guard_of fg0 (by rw [hI.size]; decide)
                  clear eg fg0
                  have hca : w'.cell? ⟨AB, 0, none⟩ = some (.slice (some ⟨pg, 0, none⟩) T pc) := cell_of_heap (hI.wld.heap HAB.out id) 0
                  unfold gt at q18
                  clear hall
                  clear ho
                  refine wpOp_step (o := _) rfl (fun K' hK' => ?_)
                  go_simp
                  exact hK' _ _ (hI.put 6 rfl (by decide) HND.out HLS.out  (Ch.refl _ _) rfl hI.wld)
                · simp at ho
                  have q20 := (hI.fixed 20 (by simp)).trans F20.out
                  have eg : lg L 4 = true := by unfold lg; simpa using hall ⟨4, .guard⟩ (by rw [← ho]; simp) rfl
                  have fg0 : gt a 111 = .bool false := hI.val 4 _ rfl eg
                  have fg := guard_of fg0 (by rw [hI.size]; decide)
                  clear eg fg0
                  have hcn : w'.cell? ⟨Y1, 0, none⟩ = some (.int .i64 (t : Nat)) := cell_of_heap (hI.wld.heap HNB.out id) 0
                  unfold gt at q20
                  clear hall
                  clear ho
                  refine wpOp_step (o := _) rfl (fun K' hK' => ?_)
                  go_simp
                  exact hK' _ _ (hI.put 7 rfl (by decide) HND.out HLS.out  (Ch.refl _ _) rfl hI.wld)
                · simp at ho
                  have e6 : lg L 6 = true := by unfold lg; simpa using hall ⟨6, .data⟩ (by rw [← ho]; simp) rfl
                  have f6 : gt a 113 = .slice (some ⟨pg, 0, none⟩) T pc := hI.val 6 _ rfl e6
                  have e7 : lg L 7 = true := by unfold lg; simpa using hall ⟨7, .data⟩ (by rw [← ho]; simp) rfl
                  have f7 : gt a 114 = .int .i64 (t : Nat) := hI.val 7 _ rfl e7
                  have eg : lg L 4 = true := by unfold lg; simpa using hall ⟨4, .guard⟩ (by rw [← ho]; simp) rfl
                  have fg0 : gt a 111 = .bool false := hI.val 4 _ rfl eg
                  have fg := guard_of fg0 (by rw [hI.size]; decide)
                  clear eg fg0
                  have htT := HTT.out
                  have ht0 : (0 : Int) ≤ (t : Nat) := Int.natCast_nonneg t
                  unfold gt at f6 f7
                  clear hall
                  clear ho
                  refine wpOp_step (o := _) rfl (fun K' hK' => ?_)
                  go_simp
                  exact hK' _ _ (hI.put 8 rfl (by decide) HND.out HLS.out  (Ch.refl _ _) rfl hI.wld)
                · simp at ho
                  have e8 : lg L 8 = true := by unfold lg; simpa using hall ⟨8, .data⟩ (by rw [← ho]; simp) rfl
                  have f8 : gt a 115 = .pointer (some ⟨pg, t * 2, none⟩) := hI.val 8 _ rfl e8
                  have eg : lg L 4 = true := by unfold lg; simpa using hall ⟨4, .guard⟩ (by rw [← ho]; simp) rfl
                  have fg0 : gt a 111 = .bool false := hI.val 4 _ rfl eg
                  have fg := guard_of fg0 (by rw [hI.size]; decide)
                  clear eg fg0
                  unfold gt at f8
                  clear hall
                  clear ho
                  refine wpOp_step (o := _) rfl (fun K' hK' => ?_)
                  go_simp
                  exact hK' _ _ (hI.put 9 rfl (by decide) HND.out HLS.out  (Ch.refl _ _) rfl hI.wld)
                · simp at ho
                  have e9 : lg L 9 = true := by unfold lg; simpa using hall ⟨9, .data⟩ (by rw [← ho]; simp) rfl
                  have f9 : gt a 116 = .pointer (some ⟨pg, t * 2, none⟩) := hI.val 9 _ rfl e9
                  have eg : lg L 4 = true := by unfold lg; simpa using hall ⟨4, .guard⟩ (by rw [← ho]; simp) rfl
                  have fg0 : gt a 111 = .bool false := hI.val 4 _ rfl eg
                  have fg := guard_of fg0 (by rw [hI.size]; decide)
                  clear eg fg0
                  have hcp := hI.wld.get HP0.out id
                  unfold gt at f9
                  clear hall
                  clear ho
                  refine wpOp_step (o := _) rfl (fun K' hK' => ?_)
                  go_simp
                  exact hK' _ _ (hI.put 10 rfl (by decide) HND.out HLS.out  (Ch.refl _ _) rfl hI.wld)
                · simp at ho
                  have e5 : lg L 5 = true := by unfold lg; simpa using hall ⟨5, .data⟩ (by rw [← ho]; simp) rfl
                  have f5 : gt a 112 = .int .i64 (o2 : Nat) := hI.val 5 _ rfl e5
                  have e10 : lg L 10 = true := by unfold lg; simpa using hall ⟨10, .data⟩ (by rw [← ho]; simp) rfl
                  have f10 : gt a 117 = .int .i64 (o2 : Nat) := hI.val 10 _ rfl e10
                  have eg : lg L 4 = true := by unfold lg; simpa using hall ⟨4, .guard⟩ (by rw [← ho]; simp) rfl
                  have fg0 : gt a 111 = .bool false := hI.val 4 _ rfl eg
                  have fg := guard_of fg0 (by rw [hI.size]; decide)
                  clear eg fg0
                  unfold gt at f5 f10
                  clear hall
                  clear ho
                  refine wpOp_step (o := _) rfl (fun K' hK' => ?_)
                  go_simp
                  exact hK' _ _ (hI.put 11 rfl (by decide) HND.out HLS.out  (Ch.refl _ _) rfl hI.wld)
                · simp at ho
                  have e4 : lg L 4 = true := by unfold lg; simpa using hall ⟨4, .data⟩ (by rw [← ho]; simp) rfl
                  have f4 : gt a 111 = .bool false := hI.val 4 _ rfl e4
                  have e11 : lg L 11 = true := by unfold lg; simpa using hall ⟨11, .data⟩ (by rw [← ho]; simp) rfl
                  have f11 : gt a 118 = .bool false := hI.val 11 _ rfl e11
                  unfold gt at f4 f11
                  clear hall
                  clear ho
                  refine wpOp_step (o := _) rfl (fun K' hK' => ?_)
                  go_simp
                  exact hK' _ _ (hI.put 12 rfl (by decide) HND.out HLS.out  (Ch.refl _ _) rfl hI.wld)
                · simp at ho
                  have e12 : lg L 12 = true := by unfold lg; simpa using hall ⟨12, .data⟩ (by rw [← ho]; simp) rfl
                  have f12 : gt a 119 = .bool false := hI.val 12 _ rfl e12
                  unfold gt at f12
                  clear hall
                  clear ho
                  refine wpOp_step (o := _) rfl (fun K' hK' => ?_)
                  go_simp
                  exact hK' _ _ (hI.put 13 rfl (by decide) HND.out HLS.out  (Ch.refl _ _) rfl hI.wld)
                · simp at ho
                  have q22 := (hI.fixed 22 (by simp)).trans F22.out
                  have eg : lg L 13 = true := by unfold lg; simpa using hall ⟨13, .guard⟩ (by rw [← ho]; simp) rfl
                  have fg0 : gt a 120 = .bool false := hI.val 13 _ rfl eg
                  have fg := guard_of fg0 (by rw [hI.size]; decide)
                  clear eg fg0
                  unfold gt at q22
                  clear hall
                  clear ho
                  refine wpOp_step (o := _) rfl (fun K' hK' => ?_)
                  go_simp
                  exact hK' _ _ (hI.put 14 rfl (by decide) HND.out HLS.out  (Ch.refl _ _) rfl hI.wld)
                · simp at ho
                  have e14 : lg L 14 = true := by unfold lg; simpa using hall ⟨14, .data⟩ (by rw [← ho]; simp) rfl
                  have f14 : gt a 121 = .slice (some ⟨h, 0, none⟩) m2 m2 := hI.val 14 _ rfl e14
                  have eg : lg L 13 = true := by unfold lg; simpa using hall ⟨13, .guard⟩ (by rw [← ho]; simp) rfl
                  have fg0 : gt a 120 = .bool false := hI.val 13 _ rfl eg
                  have fg := guard_of fg0 (by rw [hI.size]; decide)
                  clear eg fg0
                  have hcv := HCVS.out w' _ _ (HBX.out.ch hI.wld (fun _ _ => id))
                  unfold gt at f14
                  clear hall
                  clear ho
                  refine wpOp_step (o := _) rfl (fun K' hK' => ?_)
                  go_simp
                  exact hK' _ _ (hI.put 15 rfl (by decide) HND.out HLS.out  (Ch.refl _ _) rfl hI.wld)
                · simp at ho
                  have q18 := (hI.fixed 18 (by simp)).trans F18.out
                  have eg : lg L 13 = true := by unfold lg; simpa using hall ⟨13, .guard⟩ (by rw [← ho]; simp) rfl
                  have fg0 : gt a 120 = .bool false := hI.val 13 _ rfl eg
                  have fg := guard_of fg0 (by rw [hI.size]; decide)
                  clear eg fg0
                  have hca : w'.cell? ⟨AB, 0, none⟩ = some (.slice (some ⟨pg, 0, none⟩) T pc) := cell_of_heap (hI.wld.heap HAB.out id) 0
                  unfold gt at q18
                  clear hall
                  clear ho
                  refine wpOp_step (o := _) rfl (fun K' hK' => ?_)
                  go_simp
                  exact hK' _ _ (hI.put 16 rfl (by decide) HND.out HLS.out  (Ch.refl _ _) rfl hI.wld)
                · simp at ho
                  have q20 := (hI.fixed 20 (by simp)).trans F20.out
                  have eg : lg L 13 = true := by unfold lg; simpa using hall ⟨13, .guard⟩ (by rw [← ho]; simp) rfl
                  have fg0 : gt a 120 = .bool false := hI.val 13 _ rfl eg
                  have fg := guard_of fg0 (by rw [hI.size]; decide)
                  clear eg fg0
                  have hcn : w'.cell? ⟨Y1, 0, none⟩ = some (.int .i64 (t : Nat)) := cell_of_heap (hI.wld.heap HNB.out id) 0
                  unfold gt at q20
                  clear hall
                  clear ho
                  refine wpOp_step (o := _) rfl (fun K' hK' => ?_)
                  go_simp
                  exact hK' _ _ (hI.put 17 rfl (by decide) HND.out HLS.out  (Ch.refl _ _) rfl hI.wld)
                · simp at ho
                  have e16 : lg L 16 = true := by unfold lg; simpa using hall ⟨16, .data⟩ (by rw [← ho]; simp) rfl
                  have f16 : gt a 123 = .slice (some ⟨pg, 0, none⟩) T pc := hI.val 16 _ rfl e16
                  have e17 : lg L 17 = true := by unfold lg; simpa using hall ⟨17, .data⟩ (by rw [← ho]; simp) rfl
                  have f17 : gt a 124 = .int .i64 (t : Nat) := hI.val 17 _ rfl e17
                  have eg : lg L 13 = true := by unfold lg; simpa using hall ⟨13, .guard⟩ (by rw [← ho]; simp) rfl
                  have fg0 : gt a 120 = .bool false := hI.val 13 _ rfl eg
                  have fg := guard_of fg0 (by rw [hI.size]; decide)
                  clear eg fg0
                  have htT := HTT.out
                  have ht0 : (0 : Int) ≤ (t : Nat) := Int.natCast_nonneg t
                  unfold gt at f16 f17
                  clear hall
                  clear ho
                  refine wpOp_step (o := _) rfl (fun K' hK' => ?_)
                  go_simp
                  exact hK' _ _ (hI.put 18 rfl (by decide) HND.out HLS.out  (Ch.refl _ _) rfl hI.wld)
                · simp at ho
                  have e18 : lg L 18 = true := by unfold lg; simpa using hall ⟨18, .data⟩ (by rw [← ho]; simp) rfl
                  have f18 : gt a 125 = .pointer (some ⟨pg, t * 2, none⟩) := hI.val 18 _ rfl e18
                  have eg : lg L 13 = true := by unfold lg; simpa using hall ⟨13, .guard⟩ (by rw [← ho]; simp) rfl
                  have fg0 : gt a 120 = .bool false := hI.val 13 _ rfl eg
                  have fg := guard_of fg0 (by rw [hI.size]; decide)
                  clear eg fg0
                  unfold gt at f18
                  clear hall
                  clear ho
                  refine wpOp_step (o := _) rfl (fun K' hK' => ?_)
                  go_simp
                  exact hK' _ _ (hI.put 19 rfl (by decide) HND.out HLS.out  (Ch.refl _ _) rfl hI.wld)
                · simp at ho
                  have e19 : lg L 19 = true := by unfold lg; simpa using hall ⟨19, .data⟩ (by rw [← ho]; simp) rfl
                  have f19 : gt a 126 = .pointer (some ⟨pg, t * 2 + 1, none⟩) := hI.val 19 _ rfl e19
                  have eg : lg L 13 = true := by unfold lg; simpa using hall ⟨13, .guard⟩ (by rw [← ho]; simp) rfl
                  have fg0 : gt a 120 = .bool false := hI.val 13 _ rfl eg
                  have fg := guard_of fg0 (by rw [hI.size]; decide)
                  clear eg fg0
                  have hcp := hI.wld.get HP1.out id
                  unfold gt at f19
                  clear hall
                  clear ho
                  refine wpOp_step (o := _) rfl (fun K' hK' => ?_)
                  go_simp
                  exact hK' _ _ (hI.put 20 rfl (by decide) HND.out HLS.out  (Ch.refl _ _) rfl hI.wld)
                · simp at ho
                  have e20 : lg L 20 = true := by unfold lg; simpa using hall ⟨20, .data⟩ (by rw [← ho]; simp) rfl
                  have f20 : gt a 127 = .slice qt m2 dt := hI.val 20 _ rfl e20
                  have eg : lg L 13 = true := by unfold lg; simpa using hall ⟨13, .guard⟩ (by rw [← ho]; simp) rfl
                  have fg0 : gt a 120 = .bool false := hI.val 13 _ rfl eg
                  have fg := guard_of fg0 (by rw [hI.size]; decide)
                  clear eg fg0
                  have hcv := HCVS.out w' _ _ (HBP.out.ch hI.wld (fun _ _ => id))
                  unfold gt at f20
                  clear hall
                  clear ho
                  refine wpOp_step (o := _) rfl (fun K' hK' => ?_)
                  go_simp
                  exact hK' _ _ (hI.put 21 rfl (by decide) HND.out HLS.out  (Ch.refl _ _) rfl hI.wld)
                · simp at ho
                  have e15 : lg L 15 = true := by unfold lg; simpa using hall ⟨15, .data⟩ (by rw [← ho]; simp) rfl
                  have f15 : gt a 122 = .string sg := hI.val 15 _ rfl e15
                  have e21 : lg L 21 = true := by unfold lg; simpa using hall ⟨21, .data⟩ (by rw [← ho]; simp) rfl
                  have f21 : gt a 128 = .string sg := hI.val 21 _ rfl e21
                  have eg : lg L 13 = true := by unfold lg; simpa using hall ⟨13, .guard⟩ (by rw [← ho]; simp) rfl
                  have fg0 : gt a 120 = .bool false := hI.val 13 _ rfl eg
                  have fg := guard_of fg0 (by rw [hI.size]; decide)
                  clear eg fg0
                  unfold gt at f15 f21
                  clear hall
                  clear ho
                  refine wpOp_step (o := _) rfl (fun K' hK' => ?_)
                  go_simp
                  exact hK' _ _ (hI.put 22 rfl (by decide) HND.out HLS.out  (Ch.refl _ _) rfl hI.wld)
              · intro L a w' hI hal
                have hfr := hI.frame HSZ.out (by simp) (fun i hi => hal i hi)
                have k0 : gt a 107 = .int .i64 (t : Nat) := hI.val 0 _ rfl (hal 0 (by decide))
                have k1 : gt a 108 = .slice (some ⟨pg, 0, none⟩) T pc := hI.val 1 _ rfl (hal 1 (by decide))
                have k2 : gt a 109 = .int .i64 (T : Nat) := hI.val 2 _ rfl (hal 2 (by decide))
                have k3 : gt a 110 = .bool false := hI.val 3 _ rfl (hal 3 (by decide))
                have k4 : gt a 111 = .bool false := hI.val 4 _ rfl (hal 4 (by decide))
                have k5 : gt a 112 = .int .i64 (o2 : Nat) := hI.val 5 _ rfl (hal 5 (by decide))
                have k6 : gt a 113 = .slice (some ⟨pg, 0, none⟩) T pc := hI.val 6 _ rfl (hal 6 (by decide))
                have k7 : gt a 114 = .int .i64 (t : Nat) := hI.val 7 _ rfl (hal 7 (by decide))
                have k8 : gt a 115 = .pointer (some ⟨pg, t * 2, none⟩) := hI.val 8 _ rfl (hal 8 (by decide))
                have k9 : gt a 116 = .pointer (some ⟨pg, t * 2, none⟩) := hI.val 9 _ rfl (hal 9 (by decide))
                have k10 : gt a 117 = .int .i64 (o2 : Nat) := hI.val 10 _ rfl (hal 10 (by decide))
                have k11 : gt a 118 = .bool false := hI.val 11 _ rfl (hal 11 (by decide))
                have k12 : gt a 119 = .bool false := hI.val 12 _ rfl (hal 12 (by decide))
                have k13 : gt a 120 = .bool false := hI.val 13 _ rfl (hal 13 (by decide))
                have k14 : gt a 121 = .slice (some ⟨h, 0, none⟩) m2 m2 := hI.val 14 _ rfl (hal 14 (by decide))
                have k15 : gt a 122 = .string sg := hI.val 15 _ rfl (hal 15 (by decide))
                have k16 : gt a 123 = .slice (some ⟨pg, 0, none⟩) T pc := hI.val 16 _ rfl (hal 16 (by decide))
                have k17 : gt a 124 = .int .i64 (t : Nat) := hI.val 17 _ rfl (hal 17 (by decide))
                have k18 : gt a 125 = .pointer (some ⟨pg, t * 2, none⟩) := hI.val 18 _ rfl (hal 18 (by decide))
                have k19 : gt a 126 = .pointer (some ⟨pg, t * 2 + 1, none⟩) := hI.val 19 _ rfl (hal 19 (by decide))
                have k20 : gt a 127 = .slice qt m2 dt := hI.val 20 _ rfl (hal 20 (by decide))
                have k21 : gt a 128 = .string sg := hI.val 21 _ rfl (hal 21 (by decide))
                have k22 : gt a 129 = .bool false := hI.val 22 _ rfl (hal 22 (by decide))
                rw [hfr, ← HAX.out]
                have HCR := Go.Lib.hid hI.wld
                simp only [List.map_cons, List.map_nil, List.foldl_cons, List.foldl_nil, k0, k1, k2, k3, k4, k5, k6, k7, k8, k9, k10, k11, k12, k13, k14, k15, k16, k17, k18, k19, k20, k21, k22, List.setIfInBounds_toArray, List.set_cons_succ, List.set_cons_zero]
                clear hfr hI hal k0 k1 k2 k3 k4 k5 k6 k7 k8 k9 k10 k11 k12 k13 k14 k15 k16 k17 k18 k19 k20 k21 k22  HSZ HND HLS HAX F18 F20 F21 F22
                simp only [List.drop_succ_cons, List.drop_zero]
                go_wp2_with fail
                change Code.wpIn (Fence.wide.inRound l0) 0 Try.prog _ _ _ _
                have HRU5 := Go.Lib.hid (show RowU w' h m2 from by obtain ⟨cur5, h1, h2⟩ := HRH.out; exact ⟨cur5, HCR.out.heap h1 id, h2⟩)
                have HR5 := Go.Lib.hid (HR3.out.keep HCR.out (fun _ e => e.elim) (Nat.le_refl _))
                have HY5 := Go.Lib.hid (HCR.out.heap HNB.out id)
                have HC5 := Go.Lib.hid (HC3.out.trans HCR.out)
                have hmb := HM2.out
                clear HRH HR3 HC3 HP0 HP1 HBP HBX HAB HCVS hss
                gi_wp2
                gi_loopw [23] (fun ix wr => ∃ j : Nat, j ≤ m2 ∧ ix = .int .i64 (j : Int) ∧ RowU wr h m2 ∧ Ch (fun k => k = h) w' wr) (fun ix _ => m2 - (intOf ix).toNat)
                case atStart => exact ⟨0, by omega, rfl, HRU5.out, Ch.refl _ _⟩
                case round =>
                  obtain ⟨j, hj, rfl, hru, hch⟩ := hrel
                  have HRW := Go.Lib.hid hru; have HCH := Go.Lib.hid hch
                  clear hru hch
                  by_cases hin : j < m2
                  · obtain ⟨cur6, hcur, hby⟩ := HRW.out
                    obtain ⟨z, hz⟩ := hby j hin
                    have hcell : wr.cell? ⟨h, j, none⟩ = some (.int .u8 (z.toNat : Int)) := (cell_of_heap hcur j).trans hz
                    have hfr : wr.frozen? ⟨h, j, none⟩ = false := frozen_of_heap hcur j
                    have HZ := Go.Lib.hid (show ((z.toNat : Int) + 1) % 256 = ((z + 1).toNat : Int) by
                      rw [UInt8.toNat_add, show (1 : UInt8).toNat = 1 from rfl]; have := z.toNat_lt; omega)
                    have HST := Go.Lib.hid ((show RowU wr h m2 from ⟨cur6, hcur, hby⟩).set (z + 1) hin)
                    rw [← HZ.out] at HST
                    clear hcur hby hz HZ
                    gi_wp2
                    case roundEnd => exact ⟨⟨j + 1, by omega, by go_num, HST.out, Ch.setCell (S := fun t => t = h) HCH.out (p := ⟨h, j, none⟩) (fun _ => rfl) _⟩, by simp [intOf]; omega⟩
                  · obtain rfl : m2 = j := by omega
                    have hsv2 := HSV.out
                    have hhb := HHB.out
                    have HR6 := Go.Lib.hid (HR5.out.keep HCH.out (fun q e => by omega) (Nat.le_refl _))
                    have HY6 := Go.Lib.hid (HCH.out.heap HY5.out (show ¬ Y1 = h by omega))
                    have HX6 := Go.Lib.hid ((HCR.out.mono (T := fun k => k = Y1 ∨ OwnB #[.int .i64 (o2 : Nat), .slice (some ⟨h, 0, none⟩) m2 m2] k) (fun _ _ e => e.elim)).trans (HCH.out.mono (fun i _ e => .inr ((HOO.out i).2 e))))
                    have HC6 := Go.Lib.hid (HC5.out.then HCH.out (fun i hi e => by omega))
                    have c1 : wr.cell? ⟨T1, 0, none⟩ = some (.int .i64 1) := cell_of_heap HR6.out.t 0
                    have c2 : wr.cell? ⟨A, 0, none⟩ = some (.int .i64 many) := cell_of_heap HR6.out.a 0
                    have c4 : wr.cell? ⟨Y1, 0, none⟩ = some (.int .i64 (t : Int)) := cell_of_heap HY6.out 0
                    have c5 : wr.frozen? ⟨Y1, 0, none⟩ = false := frozen_of_heap HY6.out 0
                    have HCS := Go.Lib.hid (fun (v : Value) => (Ch.setCell (S := fun q => q = Y1) (Ch.refl _ wr) (p := ⟨Y1, 0, none⟩) (fun _ => rfl) v))
                    have HCW := Go.Lib.hid (fun (v : Value) => (Ch.setCell (S := fun _ => False) HC6.out (p := ⟨Y1, 0, none⟩) (fun h => by have h' : Y1 < w.heap.size := h; omega) v))
                    have HD6 := Go.Lib.hid (fun (v : Value) => (HCS.out v).heap (HX6.out.heap h5 (fun h => by rcases h with h | h; (· have h' : D0 = Y1 := h; omega); (· have := (HOW.out D0 h); omega))) (fun h => by have h' : D0 = Y1 := h; omega))
                    have HNE : Hid (Y1 ≠ A ∧ Y1 ≠ AB ∧ Y1 ≠ T1) := Go.Lib.hid (by have := HR6.out.l; omega)
                    have c7 : ∀ v, (wr.setCell ⟨Y1, 0, none⟩ v).cell? ⟨T1, 0, none⟩ = some (.int .i64 1) := fun v => (World.cell?_setCell_other _ _ _ _ (fun h => by cases h; have := HNE.out; omega)).trans c1
                    have c8' : ∀ v, (wr.setCell ⟨Y1, 0, none⟩ v).cell? ⟨A, 0, none⟩ = some (.int .i64 many) := fun v => (World.cell?_setCell_other _ _ _ _ (fun h => by cases h; have := HNE.out; omega)).trans c2
                    have hw1 : wrap64 ((t : Int) + 1) = (t : Int) + 1 := by have h1 := HTT.out; have h2 := HTN.out; unfold wrap64; omega
                    clear HCH HRW hin hj hsv2 hhb h5
                    gi_wp2
                    exact ⟨⟨HR6.out.keep (HCS.out _) (fun q hq => Nat.le_of_eq hq.symm) (Nat.le_refl _), (box_set HY6.out _).trans (by go_num), HCW.out _, HD6.out _⟩, HX6.out.trans ((HCS.out _).mono (fun _ _ e => .inl e))⟩

            case hdone =>
              rintro D W3 ⟨h1, h2, h3, h4, h5⟩ hD hdef
              exact ⟨rfl, D, T, rfl, hD, hdef, h1, h2, by rfl, h4, h5⟩
            case hstop =>
              rintro c' D W3 ⟨rfl, h1, ⟨n, h2, h3⟩, h4, h5⟩ hD hdef
              refine wp_exit ?_
              simp only [Exit.inBlock, if_true]
              exact ⟨trivial, D, n, rfl, hD, hdef, h1, h2, h3, h4, h5⟩
          case post =>
            rintro e a' W' ⟨rfl, D1, n, rfl, hD, hdef, hr, hy, hn, hc, h5⟩
            have c1 : W'.cell? ⟨T1, 0, none⟩ = some (.int .i64 1) := cell_of_heap hr.t 0
            have c2 : W'.cell? ⟨A, 0, none⟩ = some (.int .i64 many) := cell_of_heap hr.a 0
            have c3 : W'.cell? ⟨AB, 0, none⟩ = some (.slice sv T pc) := cell_of_heap hr.al 0
            have c4 : W'.cell? ⟨Y1, 0, none⟩ = some (.int .i64 (n : Int)) := cell_of_heap hy 0
            have HR4 := Go.Lib.hid hr; have HY4 := Go.Lib.hid hy; have HN4 := Go.Lib.hid hn; have HC4 := Go.Lib.hid hc; have HDF := Go.Lib.hid hdef
            clear hr hy hn hc hdef
            rw [← Haa1.out]
            have hnN := HN4.out
            subst hnN
            have hY1s : Y1 < W'.heap.size := (Array.getElem?_eq_some_iff.1 HY4.out).1
            have hsv := HSV.out
            have HDL := Go.Lib.hid (show A + 1 < Y1 ∧ Y1 < D1 ∧ D0 < Y1 from ⟨HR4.out.l.1, by omega, hD0⟩)
            have HD5 := Go.Lib.hid h5
            have hc5 : Ch (fun _ => False) W' (W'.alloc (.cells #[.int .i64 2] 3)) := (Ch.refl _ _).alloc _
            have HC5 := Go.Lib.hid (HC4.out.trans hc5)
            have HRR := Go.Lib.hid (HR4.out.r)
            have HWQ := Go.Lib.hid (HWK.out (W'.alloc (.cells #[.int .i64 2] 3)))
            clear hsv h5 hc5 hYY
            go_wp2_with fail
            rw [rounds_succ]
            go_wp2_with (go_at_call 10; refine HWQ.out.mono ?_; rintro e w8 ⟨rfl, hc8⟩; have hr8 := hc8.heap (((Ch.refl (fun _ => False) W').alloc (.cells #[.int .i64 2] 3)).heap HRR.out id) id; have c8' : w8.cell? ⟨A + 1, 0, none⟩ = some (.bool false) := cell_of_heap hr8 0; have f8 : w8.frozen? ⟨A + 1, 0, none⟩ = false := frozen_of_heap hr8 0; have HR8 := Go.Lib.hid hr8; have HC8 := Go.Lib.hid hc8; clear hr8 hc8)
            have hcs := Ch.setCell (S := fun q => q = A + 1) (Ch.refl _ w8) (p := ⟨A + 1, 0, none⟩) (fun _ => rfl) (.bool true)
            have hca : Ch (fun _ => False) W' w8 := ((Ch.refl _ W').alloc _).trans HC8.out
            have hdl := HDL.out
            have e1 := hcs.heap (hca.heap HDF.out id) (fun h => by have h' : D1 = A + 1 := h; omega)
            have e0 := hcs.heap (hca.heap HD5.out id) (fun h => by have h' : D0 = A + 1 := h; have := HD0A.out; omega)
            have er := box_set HR8.out (.bool true)
            have hcw := (HC5.out.trans HC8.out).setCell (p := ⟨A + 1, 0, none⟩) (fun h => by have h' : A + 1 < w.heap.size := h; omega) (.bool true)
            generalize w8.setCell ⟨A + 1, 0, none⟩ (.bool true) = w9' at *
            have run1 := run_takeDeferred (P := Try.prog) e1
            have e0' : (w9'.putObj D1 (.deferred none)).heap[D0]? = some (.deferred (some [])) := (World.putObj_heap_other (by omega)).trans e0
            have run0 := run_takeDeferred (P := Try.prog) e0'
            refine ⟨by simp, .inl ⟨_, _, rfl, run1, ?_⟩⟩
            refine ⟨by simp, .inl ⟨_, _, rfl, run0, ?_⟩⟩
            have er' : ((w9'.putObj D1 (.deferred none)).putObj D0 (.deferred none)).heap[A + 1]? = some (.cells #[.bool true] 4) := (World.putObj_heap_other (by have := HD0A.out; omega)).trans ((World.putObj_heap_other (by omega)).trans er)
            have cr := cell_of_heap er' 0
            exact ⟨.bool true, by simp [results, Try.results6, go_sem, cr], rfl, (hcw.putObj (fun h => by omega) _).putObj (fun h => by have := HD0A.out; omega) _⟩
end Go.Proofs.Ytljllfdigfojdaa
