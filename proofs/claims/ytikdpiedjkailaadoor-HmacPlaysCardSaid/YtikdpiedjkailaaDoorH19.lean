/- works. -/
import Derived.Test.YtikdpiedjkailaaDoorH15
import Derived.Lib.SlBytesConst
import Derived.KernelRfl
import Derived.Test.YtikdpiedjkailaaDoorH17
namespace Go.Proofs.YtikdpiedjkailaaDoor
open Go Go.RowKit

theorem wpList_eql_wanted {P : Program} {ops : Array Oper} {rest : List Oper} {o : Oper} {a : Act} {w : World} {Q : Exit → Act → World → Prop} (hgd : Region.wanted o (yielded ops a.tmps) = true) (x y : Operand) (t t2 : TypeId) (ho : o.op = .binOp .eql t x y t2)
    (R S : Array Value) (hx : a.eval x = .agg R) (hy : a.eval y = .agg S) (hg : P.eqGuardType P.depth t = false) {b : Bool} (he : (Op.equalIn 10000 t (.agg R) (.agg S)).run P w = .ok b w) (h : wpList P ops Q rest (a.put o.dst (.bool b)) w) : wpList P ops Q (o :: rest) a w :=
  wpList_step fun K hK => by
    rw [if_pos hgd]
    exact wp_eql x y t t2 ho R S hx hy hg he (hK _ _ h)
theorem wpList_load_at_wanted {P : Program} {w : World} {ops : Array Oper} {rest : List Oper} {o : Oper} {a : Act} {Q : Exit → Act → World → Prop} (hgd : Region.wanted o (yielded ops a.tmps) = true) (ty : TypeId) (x : Operand) (ho : o.op = .load ty x) (ad : Addr) (hx : a.eval x = .pointer (some ad)) (v : Value)
    (hl : (loadVar ty ad).run P w = .ok v w) (h : wpList P ops Q rest (a.put o.dst v) w) : wpList P ops Q (o :: rest) a w :=
  wpList_step fun K hK => by
    rw [if_pos hgd]
    exact wp_load_at ty x ho ad hx v hl (hK _ _ h)
def lit (l : List UInt8) : Nat → UInt8 := fun i => l.getD i 0
theorem lit_bytes {W W' : World} {l : List UInt8} {fz : Nat × Nat} (h : W.alloc (.cells (l.map fun b => Value.int .u8 (b.toNat : Int)).toArray 5 fz) = W') : BytesAt W' (some ⟨W.heap.size, 0, none⟩) l.length l.length (lit l) := by
  subst h
  refine .inl ⟨_, 0, rfl, Nat.le_refl _, fun j hj => ?_⟩
  rw [Nat.zero_add]
  refine (cell_of_heap (World.alloc_heap_new W (.cells (l.map fun b => Value.int .u8 (b.toNat : Int)).toArray 5 fz)) _).trans ?_
  simp [lit, hj]
def kF : Nat → UInt8 := lit [107]
def T1B : Nat → UInt8 := tagB (kb kF 1) (lit [97, 98]) 2
def TaB : Nat → UInt8 := tagB (kb kF 1) (lit [97]) 1
def TbB : Nat → UInt8 := tagB (kb kF 1) (lit [98]) 1
theorem lit_map {F : Nat → UInt8} {n : Nat} {l : List UInt8} (h : (List.range n).map F = l) (i : Nat) (hi : i < n) : F i = lit l i := by
  subst h; simp [lit, hi]
def inA : List UInt8 := [22, 66, 78, 58, 34, 201, 249, 68, 95, 67, 62, 102, 68, 106, 90, 41, 91, 189, 0, 230, 68, 174, 87, 176, 25, 93, 48, 174, 156, 153, 6, 54]
def inB : List UInt8 := [144, 158, 239, 1, 28, 20, 138, 122, 94, 63, 15, 113, 105, 105, 243, 63, 179, 174, 62, 169, 52, 104, 21, 17, 119, 232, 187, 33, 69, 201, 156, 0]
def outP : List UInt8 := [55, 92, 92, 92, 92, 92, 92, 92, 92, 92, 92, 92, 92, 92, 92, 92, 92, 92, 92, 92, 92, 92, 92, 92, 92, 92, 92, 92, 92, 92, 92, 92, 92, 92, 92, 92, 92, 92, 92, 92, 92, 92, 92, 92, 92, 92, 92, 92, 92, 92, 92, 92, 92, 92, 92, 92, 92, 92, 92, 92, 92, 92, 92, 92]
set_option maxRecDepth 100000 in
theorem inner_a : (List.range 32).map (hashB (inK (kb kF 1) (lit [97])) (64 + 1)) = inA := by kernel_rfl
set_option maxRecDepth 100000 in
theorem inner_b : (List.range 32).map (hashB (inK (kb kF 1) (lit [98])) (64 + 1)) = inB := by kernel_rfl
set_option maxRecDepth 100000 in
theorem outer_p : (List.range 64).map (fun i => kb kF 1 i ^^^ 92) = outP := by kernel_rfl
set_option maxRecDepth 100000 in
theorem outer_a : hashB (lit (outP ++ inA)) 96 0 = 120 := by kernel_rfl
set_option maxRecDepth 100000 in
theorem outer_b : hashB (lit (outP ++ inB)) 96 0 = 47 := by kernel_rfl
theorem outer_lit {T : Nat → UInt8} {l : List UInt8} (h : (List.range 32).map T = l) : hashB (catB 64 (fun i => kb kF 1 i ^^^ 92) T) 96 = hashB (lit (outP ++ l)) 96 := by
  apply hashB_congr
  intro j hj
  have hp : outP.length = 64 := rfl
  unfold catB
  by_cases h1 : j < 64
  · rw [if_pos h1]
    have := lit_map outer_p j h1
    refine Eq.trans this ?_
    unfold lit
    rw [List.getD_eq_getElem?_getD, List.getD_eq_getElem?_getD, List.getElem?_append_left (by omega)]
  · rw [if_neg h1, lit_map h (j - 64) (by omega)]
    unfold lit
    rw [List.getD_eq_getElem?_getD, List.getD_eq_getElem?_getD, List.getElem?_append_right (by omega), hp]
theorem unlike : eqH TbB TaB = false := by
  rw [Bool.eq_false_iff]
  intro h
  have h0 := (eqH_iff _ _).1 h 0 (by omega)
  have ha : TaB 0 = 120 := by
    show hashB (catB 64 (fun i => kb kF 1 i ^^^ 92) (hashB (inK (kb kF 1) (lit [97])) (64 + 1))) 96 0 = _
    rw [outer_lit inner_a, outer_a]
  have hb : TbB 0 = 47 := by
    show hashB (catB 64 (fun i => kb kF 1 i ^^^ 92) (hashB (inK (kb kF 1) (lit [98])) (64 + 1))) 96 0 = _
    rw [outer_lit inner_b, outer_b]
  rw [ha, hb] at h0
  exact absurd h0 (by decide)
def nmA : Nat → ByteArray := fun _ => ⟨#[97]⟩
def nmB : Nat → ByteArray := fun _ => ⟨#[98]⟩
def nmAB : Nat → ByteArray := fun i => if i = 0 then ⟨#[97]⟩ else ⟨#[98]⟩
def C1B : Nat → UInt8 := childB kF 1 1 nmA fun _ => 1
def C2B : Nat → UInt8 := childB kF 1 2 nmAB fun i => if i = 0 then 1 else 2
theorem keyF_succ (key : Nat → UInt8) (n : Nat) (nm : Nat → ByteArray) (nu : Nat → Nat) (i : Nat) : keyF key n nm nu (i + 1) = expB (kb (keyF key n nm nu i) (keyL n i)) (nameS (nm i) (nu i)) := rfl
theorem child_two : childB C1B 32 1 nmB (fun _ => 2) = C2B := by
  have e1 : childB C1B 32 1 nmB (fun _ => 2) = keyF C1B 32 nmB (fun _ => 2) (0 + 1) := rfl
  have e2 : C2B = keyF kF 1 nmAB (fun i => if i = 0 then 1 else 2) (1 + 1) := rfl
  have e3 : C1B = keyF kF 1 nmA (fun _ => 1) (0 + 1) := rfl
  have e4 : keyF kF 1 nmAB (fun i => if i = 0 then 1 else 2) (0 + 1) = keyF kF 1 nmA (fun _ => 1) (0 + 1) := by
    rw [keyF_succ, keyF_succ]; rfl
  have e5 : keyF kF 1 nmAB (fun i => if i = 0 then 1 else 2) 1 = C1B := e4.trans e3.symm
  rw [e1, e2, keyF_succ, keyF_succ, e5]
  have e6 : keyF C1B 32 nmB (fun _ => 2) 0 = C1B := rfl
  rw [e6]
  have e7 : keyL 32 0 = keyL 1 1 := rfl
  rw [e7]
  have e8 : nmB 0 = nmAB 1 := rfl
  rw [e8]
  have e9 : (if (1 : Nat) = 0 then 1 else 2) = 2 := rfl
  rw [e9]
theorem num17 (z : Int) (w : World) : Calls Tryd.prog 17 #[.int .i64 z] w fun e w' => e = .returned (.int .i64 z) ∧ w = w' := by
  go_enter Tryd.func17, Tryd.ntmps17
  go_wp2
  go_ret
  exact ⟨rfl, rfl⟩
end Go.Proofs.YtikdpiedjkailaaDoor
/- works. -/
namespace Go.Proofs.YtikdpiedjkailaaDoor
open Go Go.RowKit

theorem alloc_size1 (W : World) (o : Obj) : (W.alloc o).heap.size = W.heap.size + 1 := World.size_alloc W o
/-- One literal part in a row of parts. -/
theorem one_part {W : World} {l : List UInt8} {fz : Nat × Nat} {W' : World} (h : (W.alloc (.cells (l.map fun b => Value.int .u8 (b.toNat : Int)).toArray 5 fz)).alloc (.cells #[.slice (some ⟨W.heap.size, 0, none⟩) l.length l.length] 22) = W') :
    PartsAt W' (W.heap.size + 1) 0 1 (fun _ => some ⟨W.heap.size, 0, none⟩) (fun _ => l.length) (fun _ => l.length) (lit l) ∧ Ch (fun _ => False) W W' := by
  subst h
  have hb := lit_bytes (W := W) (l := l) (fz := fz) rfl
  refine ⟨parts_of (fun i hi => ?_) (fun i hi => ?_), ((Ch.refl _ W).alloc _).alloc _⟩
  · obtain rfl : i = 0 := by omega
    have := cell_fresh (W.alloc (.cells (l.map fun b => Value.int .u8 (b.toNat : Int)).toArray 5 fz)) #[.slice (some ⟨W.heap.size, 0, none⟩) l.length l.length] 22 0
    rw [alloc_size1] at this
    exact this
  · obtain rfl : i = 0 := by omega
    have := hb.ch ((Ch.refl (fun _ => False) _).alloc (.cells #[.slice (some ⟨W.heap.size, 0, none⟩) l.length l.length] 22)) (fun _ _ h => h)
    refine bytes_congr this (fun j hj => ?_)
    simp [upto]
set_option maxHeartbeats 400000 in
theorem two_parts {W : World} {fz : Nat × Nat} {W' : World} (h : ((W.alloc (.cells #[.int .u8 97] 5 fz)).alloc (.cells #[.int .u8 98] 5 fz)).alloc (.cells #[.slice (some ⟨W.heap.size, 0, none⟩) 1 1, .slice (some ⟨W.heap.size + 1, 0, none⟩) 1 1] 22) = W') :
    PartsAt W' (W.heap.size + 2) 0 2 (fun i => if i = 0 then some ⟨W.heap.size, 0, none⟩ else some ⟨W.heap.size + 1, 0, none⟩) (fun _ => 1) (fun _ => 1) (lit [97, 98]) ∧ Ch (fun _ => False) W W' := by
  subst h
  have hb := lit_bytes (W := W) (l := [97]) (fz := fz) rfl
  have hb2 := lit_bytes (W := W.alloc (.cells #[.int .u8 97] 5 fz)) (l := [98]) (fz := fz) rfl
  rw [alloc_size1] at hb2
  refine ⟨parts_of (fun i hi => ?_) (fun i hi => ?_), (((Ch.refl _ W).alloc _).alloc _).alloc _⟩
  · have := cell_fresh ((W.alloc (.cells #[.int .u8 97] 5 fz)).alloc (.cells #[.int .u8 98] 5 fz)) #[.slice (some ⟨W.heap.size, 0, none⟩) 1 1, .slice (some ⟨W.heap.size + 1, 0, none⟩) 1 1] 22
    rw [alloc_size1, alloc_size1] at this
    obtain rfl | rfl : i = 0 ∨ i = 1 := by omega
    · exact this 0
    · exact this 1
  · obtain rfl | rfl : i = 0 ∨ i = 1 := by omega
    · refine bytes_congr ((hb.ch ((Ch.refl (fun _ => False) _).alloc (.cells #[.int .u8 98] 5 fz)) (fun _ _ h => h)).ch ((Ch.refl (fun _ => False) _).alloc (.cells #[.slice (some ⟨W.heap.size, 0, none⟩) 1 1, .slice (some ⟨W.heap.size + 1, 0, none⟩) 1 1] 22)) (fun _ _ h => h)) (fun j hj => ?_)
      obtain rfl : j = 0 := by omega
      rfl
    · refine bytes_congr (hb2.ch ((Ch.refl (fun _ => False) _).alloc (.cells #[.slice (some ⟨W.heap.size, 0, none⟩) 1 1, .slice (some ⟨W.heap.size + 1, 0, none⟩) 1 1] 22)) (fun _ _ h => h)) (fun j hj => ?_)
      obtain rfl : j = 0 := by omega
      rfl

set_option maxRecDepth 100000 in
set_option maxHeartbeats 8000000 in
theorem works_any (w : World) (hK : KAt w) : Calls Tryd.prog 10 #[] w fun e w' => e = .returned (.bool true) ∧ Ch (fun _ => False) w w' := by
  have HK := Go.Lib.hid hK
  clear hK
  have hcv := fun (w : World) (C : Array Value) (n c : Nat) => Lib.run_convert_bytes_const (P := Tryd.prog) w 22 5 C n c Tryd.underlying22 Tryd.underlying5
  have hcv2 := fun (w : World) (o : Obj) (C : Array Value) (n c : Nat) => (show (convert 22 22 (.slice (some ⟨w.heap.size + 1, 0, none⟩) n c)).run Tryd.prog ((w.alloc o).alloc (.cells C 5)) = .ok (.slice (some ⟨w.heap.size + 1, 0, none⟩) n c) ((w.alloc o).alloc (.cells C 5 (C.size, C.size + 1))) by
    have := hcv (w.alloc o) C n c
    rw [alloc_size1] at this
    exact this)
  go_enter Tryd.func10, Tryd.ntmps10
  go_wp2_with fail
  generalize hW1 : World.alloc w _ = w1
  have hc1 : Ch (fun _ => False) w w1 := by rw [← hW1]; exact (Ch.refl _ w).alloc _
  have HKF := Go.Lib.hid (show BytesAt w1 (some ⟨w.heap.size, 0, none⟩) 1 1 kF from lit_bytes (l := [107]) hW1)
  have HC1 := Go.Lib.hid hc1
  clear hW1 hc1
  generalize w.heap.size = bk at *
  refine (expand_err _ _ _ _ _ _ (.inr (by decide))).mono ?_
  rintro e w2 ⟨rfl, hc2⟩
  have HC2 := Go.Lib.hid (HC1.out.trans hc2); have HK2 := Go.Lib.hid (HKF.out.ch hc2 (fun _ _ h => h))
  clear hc2 HC1 HKF
  go_wp2_with fail
  have HE0 := expand_any (some ⟨bk, 0, none⟩) 1 1 kF ⟨#[120]⟩ 0 w2 (by omega) HK2.out (by omega) (by decide) (HK.out.ch HC2.out id)
  rw [show (((0 : Nat)) : Int) = 0 from rfl] at HE0
  refine HE0.mono ?_
  rintro e w3 ⟨q3, c3, rfl, _, hc3⟩
  have HC3 := Go.Lib.hid (HC2.out.trans hc3); have HK3 := Go.Lib.hid (HK2.out.ch hc3 (fun _ _ h => h))
  clear hc3 HC2 HK2 HE0
  go_wp2_with fail
  generalize hW4 : World.alloc (World.alloc (World.alloc w3 _) _) _ = w4
  obtain ⟨hp4, hc4⟩ := two_parts hW4
  have HC4 := Go.Lib.hid (HC3.out.trans hc4); have HK4 := Go.Lib.hid (HK3.out.ch hc4 (fun _ _ h => h))
  have HT4 := Go.Lib.hid (tag_any (some ⟨bk, 0, none⟩) 1 1 kF (w3.heap.size + 2) 0 2 2 (some ⟨w3.heap.size + 2, 0, none⟩) _ _ _ (lit [97, 98]) w4 (by omega) HK4.out (.inl rfl) (by omega) (by decide) hp4 (HK.out.ch HC4.out id))
  rw [show tagB (kb kF 1) (lit [97, 98]) (upto (fun _ => 1) 2) = T1B from rfl] at HT4
  clear hW4 hp4 hc4 HC3 HK3
  refine HT4.out.mono ?_
  rintro e w5 ⟨rfl, hc5⟩
  have HC5 := Go.Lib.hid (HC4.out.trans hc5); have HK5 := Go.Lib.hid (HK4.out.ch hc5 (fun _ _ h => h))
  clear hc5 HT4 HC4 HK4
  have HHI := Go.Lib.hid (hv_info T1B); have HHA := Go.Lib.hid (hv_all T1B)
  have HHZ := Go.Lib.hid (show (hv fun _ => 0).size = (hv T1B).size by rw [show (hv fun _ => 0).size = 32 from arr_size _ _]; exact (arr_size _ _).symm)
  have HEQT := Go.Lib.hid (fun W => eqH_self T1B ▸ eq_hv T1B T1B W)
  go_upto_region 5 with (refine wpList_store_row rfl 28 (.tmp 6) (.tmp 26) rfl w5.heap.size (hv T1B) rfl rfl 28 (hv fun _ => 0) (World.alloc_heap_new w5 _) HHI.out HHZ.out HHA.out ?_)
  generalize hW6 : World.setRow _ w5.heap.size (hv T1B) = w6
  have hc6 : Ch (fun _ => False) w5 w6 := by rw [← hW6]; exact ((Ch.refl _ _).alloc _).setRow (fun h => absurd h (Nat.lt_irrefl _)) _
  have HX6 := Go.Lib.hid (show w6.heap[w5.heap.size]? = some (.cells (hv T1B) 28) by rw [← hW6]; exact heap_setRow (World.alloc_heap_new w5 _))
  have HC6 := Go.Lib.hid (HC5.out.trans hc6); have HK6 := Go.Lib.hid (HK5.out.ch hc6 (fun _ _ h => h))
  clear hW6 hc6 HC5 HK5 HHI HHA HHZ
  generalize w5.heap.size = X6 at *
  rw [put_none]
  go_wp2_with fail
  generalize hW7 : World.alloc w6 _ = w7
  have hc7 : Ch (fun _ => False) w6 w7 := by rw [← hW7]; exact (Ch.refl _ w6).alloc _
  have hs7 : StepsAt w7 w6.heap.size 0 1 nmA (fun _ => 1) := by
    intro i hi
    obtain rfl : i = 0 := by omega
    rw [← hW7]
    exact ⟨cell_fresh w6 _ 44 0, cell_fresh w6 _ 44 1⟩
  have HC7 := Go.Lib.hid (HC6.out.trans hc7); have HK7 := Go.Lib.hid (HK6.out.ch hc7 (fun _ _ h => h)); have HX7 := Go.Lib.hid (hc7.heap HX6.out id)
  have HCH := Go.Lib.hid (child_some (some ⟨bk, 0, none⟩) 1 1 kF w6.heap.size 0 1 1 nmA (fun _ => 1) w7 (by omega) HK7.out (by omega) (by omega) hs7 (fun i hi => (by decide : (1 : Nat) ≤ 100000000)) (HK.out.ch HC7.out id))
  rw [show childB kF 1 1 nmA (fun _ => 1) = C1B from rfl] at HCH
  clear hW7 hc7 hs7 HC6 HK6 HX6
  refine HCH.out.mono ?_
  rintro e w8 ⟨rfl, hc8⟩
  have HC8 := Go.Lib.hid (HC7.out.trans hc8); have HK8 := Go.Lib.hid (HK7.out.ch hc8 (fun _ _ h => h)); have HX8 := Go.Lib.hid (hc8.heap HX7.out id)
  clear hc8 HCH HC7 HK7 HX7
  have HHI := Go.Lib.hid (hv_info C1B); have HHA := Go.Lib.hid (hv_all C1B)
  have HHZ := Go.Lib.hid (show (hv fun _ => 0).size = (hv C1B).size by rw [show (hv fun _ => 0).size = 32 from arr_size _ _]; exact (arr_size _ _).symm)
  go_upto_region 6 with (refine wpList_store_row rfl 28 (.tmp 7) (.tmp 30) rfl w8.heap.size (hv C1B) rfl rfl 28 (hv fun _ => 0) (World.alloc_heap_new w8 _) HHI.out HHZ.out HHA.out ?_)
  generalize hW9 : World.setRow _ w8.heap.size (hv C1B) = w9
  have hc9 : Ch (fun _ => False) w8 w9 := by rw [← hW9]; exact ((Ch.refl _ _).alloc _).setRow (fun h => absurd h (Nat.lt_irrefl _)) _
  have HY9 := Go.Lib.hid (show w9.heap[w8.heap.size]? = some (.cells (hv C1B) 28) by rw [← hW9]; exact heap_setRow (World.alloc_heap_new w8 _))
  have HC9 := Go.Lib.hid (HC8.out.trans hc9); have HK9 := Go.Lib.hid (HK8.out.ch hc9 (fun _ _ h => h)); have HX9 := Go.Lib.hid (hc9.heap HX8.out id)
  clear hW9 hc9 HC8 HK8 HX8 HHI HHA HHZ
  generalize w8.heap.size = Y at *
  rw [put_none]
  have HLT := Go.Lib.hid (hash_load HX9.out)
  generalize hRT : hv T1B = RT at *
  have HRT := Go.Lib.hid hRT
  clear hRT
  go_wp2_with (first | (go_at_call 17; refine (num17 _ _).mono ?_; rintro e w' ⟨rfl, rfl⟩) | (refine wpList_load_at_wanted (by simp [Region.wanted, yielded]) 28 (.tmp 6) rfl ⟨X6, 0, none⟩ rfl (.agg RT) HLT.out ?_))
  -- Right(k, t, "ab")
  generalize hW10 : World.alloc (World.alloc w9 _) _ = w10
  obtain ⟨hp10, hc10⟩ := one_part (l := [97, 98]) hW10
  have HC10 := Go.Lib.hid (HC9.out.trans hc10); have HK10 := Go.Lib.hid (HK9.out.ch hc10 (fun _ _ h => h)); have HY10 := Go.Lib.hid (hc10.heap HY9.out id)
  have HR10 := Go.Lib.hid (right_any (some ⟨bk, 0, none⟩) 1 1 kF T1B (w9.heap.size + 1) 0 1 1 (some ⟨w9.heap.size + 1, 0, none⟩) _ _ _ (lit [97, 98]) w10 (by omega) HK10.out (.inl rfl) (by omega) (by decide) hp10 (HK.out.ch HC10.out id))
  rw [show tagB (kb kF 1) (lit [97, 98]) (upto (fun _ => ([97, 98] : List UInt8).length) 1) = T1B from rfl, eqH_self, HRT.out] at HR10
  clear hW10 hp10 hc10 HC9 HK9 HX9 HY9
  refine HR10.out.mono ?_
  rintro e w11 ⟨rfl, hc11⟩
  have HC11 := Go.Lib.hid (HC10.out.trans hc11); have HK11 := Go.Lib.hid (HK10.out.ch hc11 (fun _ _ h => h)); have HY11 := Go.Lib.hid (hc11.heap HY10.out id)
  clear hc11 HR10 HC10 HK10 HY10 HLT
  go_wp2_with fail
  -- Tag(k, "a")
  generalize hW12 : World.alloc (World.alloc w11 _) _ = w12
  obtain ⟨hp12, hc12⟩ := one_part (l := [97]) hW12
  have HC12 := Go.Lib.hid (HC11.out.trans hc12); have HK12 := Go.Lib.hid (HK11.out.ch hc12 (fun _ _ h => h)); have HY12 := Go.Lib.hid (hc12.heap HY11.out id)
  have HT12 := Go.Lib.hid (tag_any (some ⟨bk, 0, none⟩) 1 1 kF (w11.heap.size + 1) 0 1 1 (some ⟨w11.heap.size + 1, 0, none⟩) _ _ _ (lit [97]) w12 (by omega) HK12.out (.inl rfl) (by omega) (by decide) hp12 (HK.out.ch HC12.out id))
  rw [show tagB (kb kF 1) (lit [97]) (upto (fun _ => ([97] : List UInt8).length) 1) = TaB from rfl] at HT12
  clear hW12 hp12 hc12 HC11 HK11 HY11
  refine HT12.out.mono ?_
  rintro e w13 ⟨rfl, hc13⟩
  have HC13 := Go.Lib.hid (HC12.out.trans hc13); have HK13 := Go.Lib.hid (HK12.out.ch hc13 (fun _ _ h => h)); have HY13 := Go.Lib.hid (hc13.heap HY12.out id)
  clear hc13 HT12 HC12 HK12 HY12
  go_wp2_with fail
  -- Right(k, .., "b")
  generalize hW14 : World.alloc (World.alloc w13 _) _ = w14
  obtain ⟨hp14, hc14⟩ := one_part (l := [98]) hW14
  have HC14 := Go.Lib.hid (HC13.out.trans hc14); have HK14 := Go.Lib.hid (HK13.out.ch hc14 (fun _ _ h => h)); have HY14 := Go.Lib.hid (hc14.heap HY13.out id)
  have HR14 := Go.Lib.hid (right_any (some ⟨bk, 0, none⟩) 1 1 kF TaB (w13.heap.size + 1) 0 1 1 (some ⟨w13.heap.size + 1, 0, none⟩) _ _ _ (lit [98]) w14 (by omega) HK14.out (.inl rfl) (by omega) (by decide) hp14 (HK.out.ch HC14.out id))
  rw [show tagB (kb kF 1) (lit [98]) (upto (fun _ => ([98] : List UInt8).length) 1) = TbB from rfl, unlike] at HR14
  clear hW14 hp14 hc14 HC13 HK13 HY13
  refine HR14.out.mono ?_
  rintro e w15 ⟨rfl, hc15⟩
  have HC15 := Go.Lib.hid (HC14.out.trans hc15); have HK15 := Go.Lib.hid (HK14.out.ch hc15 (fun _ _ h => h)); have HY15 := Go.Lib.hid (hc15.heap HY14.out id)
  clear hc15 HR14 HC14 HK14 HY14
  go_wp2_with fail
  -- Child(k)
  refine (child_none (some ⟨bk, 0, none⟩) 1 1 0 kF none w15 (by omega) HK15.out (HK.out.ch HC15.out id)).mono ?_
  rintro e w16 ⟨rfl, hc16⟩
  have HC16 := Go.Lib.hid (HC15.out.trans hc16); have HK16 := Go.Lib.hid (HK15.out.ch hc16 (fun _ _ h => h)); have HY16 := Go.Lib.hid (hc16.heap HY15.out id)
  clear hc16 HC15 HK15 HY15
  have HEQK := Go.Lib.hid (fun W => eqH_self (hashB kF 1) ▸ eq_hv (hashB kF 1) (hashB kF 1) W)
  go_wp2_with fail
  refine (rsum_any (some ⟨bk, 0, none⟩) 1 1 kF w16 (by omega) HK16.out).mono ?_
  rintro e w17 ⟨rfl, hc17⟩
  have HC17 := Go.Lib.hid (HC16.out.trans hc17); have HK17 := Go.Lib.hid (HK16.out.ch hc17 (fun _ _ h => h)); have HY17 := Go.Lib.hid (hc17.heap HY16.out id)
  clear hc17 HC16 HK16 HY16
  generalize hv (hashB kF 1) = RK at *
  go_wp2_with (refine wpList_eql_wanted (by simp [Region.wanted, yielded]) (.tmp 67) (.tmp 69) 28 28 rfl RK RK rfl rfl eqg28 (HEQK.out _) ?_)
  -- Child(u[:], b2)
  generalize hW18 : World.alloc w17 _ = w18
  have hc18 : Ch (fun _ => False) w17 w18 := by rw [← hW18]; exact (Ch.refl _ w17).alloc _
  have hs18 : StepsAt w18 w17.heap.size 0 1 nmB (fun _ => 2) := by
    intro i hi
    obtain rfl : i = 0 := by omega
    rw [← hW18]
    exact ⟨cell_fresh w17 _ 44 0, cell_fresh w17 _ 44 1⟩
  have HC18 := Go.Lib.hid (HC17.out.trans hc18); have HK18 := Go.Lib.hid (HK17.out.ch hc18 (fun _ _ h => h)); have HY18 := Go.Lib.hid (hc18.heap HY17.out id)
  have hu18 : BytesAt w18 (some ⟨Y, 0, none⟩) 32 32 C1B := .inl ⟨Y, 0, rfl, Nat.le_refl _, fun j hj => by rw [Nat.zero_add]; exact (cell_of_heap HY18.out _).trans (arr_get 32 _ j hj)⟩
  have HCH := Go.Lib.hid (child_some (some ⟨Y, 0, none⟩) 32 32 C1B w17.heap.size 0 1 1 nmB (fun _ => 2) w18 (by omega) hu18 (by omega) (by omega) hs18 (fun i hi => (by decide : (1 : Nat) ≤ 100000000)) (HK.out.ch HC18.out id))
  rw [child_two] at HCH
  clear hW18 hc18 hs18 hu18 HC17 HK17 HY17
  refine HCH.out.mono ?_
  rintro e w19 ⟨rfl, hc19⟩
  have HC19 := Go.Lib.hid (HC18.out.trans hc19); have HK19 := Go.Lib.hid (HK18.out.ch hc19 (fun _ _ h => h))
  clear hc19 HCH HC18 HK18 HY18
  have HEQC := Go.Lib.hid (fun W => eqH_self C2B ▸ eq_hv C2B C2B W)
  generalize hRC : hv C2B = RC at *
  have HRC := Go.Lib.hid hRC
  clear hRC
  go_wp2_with fail
  generalize hW20 : World.alloc w19 _ = w20
  have hc20 : Ch (fun _ => False) w19 w20 := by rw [← hW20]; exact (Ch.refl _ w19).alloc _
  have hs20 : StepsAt w20 w19.heap.size 0 2 nmAB (fun i => if i = 0 then 1 else 2) := by
    intro i hi
    rw [← hW20]
    obtain rfl | rfl : i = 0 ∨ i = 1 := by omega
    · exact ⟨cell_fresh w19 _ 44 0, cell_fresh w19 _ 44 1⟩
    · exact ⟨cell_fresh w19 _ 44 2, cell_fresh w19 _ 44 3⟩
  have HC20 := Go.Lib.hid (HC19.out.trans hc20); have HK20 := Go.Lib.hid (HK19.out.ch hc20 (fun _ _ h => h))
  have HCH := Go.Lib.hid (child_some (some ⟨bk, 0, none⟩) 1 1 kF w19.heap.size 0 2 2 nmAB (fun i => if i = 0 then 1 else 2) w20 (by omega) HK20.out (by omega) (by omega) hs20 (fun i hi => by
    unfold nmAB; split <;> decide) (HK.out.ch HC20.out id))
  rw [show childB kF 1 2 nmAB (fun i => if i = 0 then 1 else 2) = C2B from rfl, HRC.out] at HCH
  clear hW20 hc20 hs20 HC19 HK19
  refine HCH.out.mono ?_
  rintro e w21 ⟨rfl, hc21⟩
  have HC21 := Go.Lib.hid (HC20.out.trans hc21)
  clear hc21 HCH HC20 HK20
  go_wp2_with (refine wpList_eql_wanted (by simp [Region.wanted, yielded]) (.tmp 76) (.tmp 81) 28 28 rfl RC RC rfl rfl eqg28 (HEQC.out _) ?_)
  go_ret
  exact ⟨rfl, HC21.out⟩
end Go.Proofs.YtikdpiedjkailaaDoor
