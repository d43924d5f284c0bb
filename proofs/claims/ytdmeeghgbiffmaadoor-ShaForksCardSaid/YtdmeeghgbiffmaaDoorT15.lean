import Derived.Test.YtdmeeghgbiffmaaDoorEval
import Derived.Lib.SlBytesConst
import Derived.Stop.BytesEq
namespace Go.Proofs.YtdmeeghgbiffmaaDoor
open Go.RowKit
theorem wpList_load_row_wanted {P : Program} {ops : Array Oper} {rest : List Oper} {o : Oper} {a : Act} {w : World} {Q : Exit → Act → World → Prop} (hgd : Region.wanted o (yielded ops a.tmps) = true) (ty : TypeId) (x : Operand) (ho : o.op = .load ty x)
    (g : Nat) (hx : a.eval x = .pointer (some ⟨g, 0, none⟩)) (t : TypeId) (cs : Array Value) (fr : Nat × Nat) (d : TypeDesc) (hg : w.heap[g]? = some (.cells cs t fr))
    (hu : P.underlying ty = some d) (hd : (match d with | .struct _ | .array _ _ => true | _ => false) = true) (hi : (P.info? ty).map (·.size) = some cs.size)
    (h : wpList P ops Q rest (a.put o.dst (.agg cs)) w) : wpList P ops Q (o :: rest) a w :=
  wpList_step fun K hK => by
    rw [if_pos hgd]
    exact wp_load_row ty x ho g hx t cs fr d hg hu hd hi (hK _ _ h)
theorem hv_cells (g : Nat → UInt8) : hv g = (((List.range 32).map g).map Extern.Stop.cell).toArray := by
  unfold hv arr
  rw [List.map_map]; rfl
theorem eq_hv (g g' : Nat → UInt8) (w : World) : (Op.equalIn 10000 31 (.agg (hv g)) (.agg (hv g'))).run Tryd.prog w = .ok ((List.range 32).map g == (List.range 32).map g') w := by
  rw [hv_cells, hv_cells]
  exact run_equalIn_bytes (P := Tryd.prog) w 9998 31 5 32 Tryd.underlying31 Tryd.underlying5 (fun w => by kernel_rfl) _ _ (by simp) (by simp)
theorem hexB_size (g : Nat → UInt8) : (hexB g).size = 64 := by
  show (hexL g).toArray.size = 64
  simp [hexL_length]
theorem hexB_extract (g : Nat → UInt8) (l : List UInt8) (h : (hexL g).take 8 = l) : (hexB g).extract 0 8 = ⟨l.toArray⟩ := by
  subst h
  apply ByteArray.ext
  simp [hexB]
set_option maxRecDepth 100000 in
set_option maxHeartbeats 400000 in
theorem starts_any (g : Nat → UInt8) (l : List UInt8) (h : (hexL g).take 8 = l) (w : World) :
    Calls Tryd.prog 44 #[.agg (hv g), .string ⟨l.toArray⟩] w fun e w' => e = .returned (.bool true) ∧ Ch (fun _ => False) w w' := by
  have ht := Go.Lib.hid (fun w => text_any g w)
  have hs := hexB_size g
  have hx := hexB_extract g l h
  generalize hexB g = x at *
  generalize (⟨l.toArray⟩ : ByteArray) = y at *
  go_enter Tryd.func44, Tryd.ntmps44
  go_wp2_with (first | (refine wpList_load_row rfl 31 (.tmp 2) rfl w.heap.size rfl 31 _ (0, 0) _ (World.alloc_heap_new w _) Tryd.underlying31 rfl (hv_info _) ?_) | (go_at_call 27; refine (ht.out _).mono ?_; rintro e w1 ⟨rfl, hw1⟩; have HW1 := Go.Lib.hid hw1; clear hw1))
  go_ret
  exact ⟨rfl, ((Ch.refl _ w).alloc _).trans (HW1.out.mono (fun _ _ h => h))⟩

theorem sum_none (w : World) (hK : KAt w) : Calls Tryd.prog 17 #[.slice none 0 0] w fun e w' => e = .returned (.agg (hv (hashB noF 0))) ∧ Ch (fun _ => False) w w' :=
  sum_any 0 0 0 0 none (fun _ => none) (fun _ => 0) (fun _ => 0) noF w (.inr rfl) (by omega) (by decide) ⟨fun i hi => absurd hi (by omega), fun i hi => absurd hi (by omega)⟩ hK
theorem twice_none (w : World) (hK : KAt w) : Calls Tryd.prog 19 #[.slice none 0 0] w fun e w' => e = .returned (.agg (hv (hashB (hashB noF 0) 32))) ∧ Ch (fun _ => False) w w' :=
  twice_any 0 0 0 0 none (fun _ => none) (fun _ => 0) (fun _ => 0) noF w (.inr rfl) (by omega) (by decide) ⟨fun i hi => absurd hi (by omega), fun i hi => absurd hi (by omega)⟩ hK
theorem sum_abc (w : World) (hK : KAt w) : Calls Tryd.prog 17 #[.slice (some ⟨w.heap.size + 1, 0, none⟩) 1 1] ((w.alloc (.cells #[.int .u8 97, .int .u8 98, .int .u8 99] 5 (3, 4))).alloc (.cells #[.slice (some ⟨w.heap.size, 0, none⟩) 3 3] 34)) fun e w' => e = .returned (.agg (hv (hashB abcF 3))) ∧ Ch (fun _ => False) w w' := by
  have hc1 : Ch (fun _ => False) w (w.alloc (.cells #[.int .u8 97, .int .u8 98, .int .u8 99] 5 (3, 4))) := (Ch.refl _ _).alloc _
  have hc2 : Ch (fun _ => False) w ((w.alloc (.cells #[.int .u8 97, .int .u8 98, .int .u8 99] 5 (3, 4))).alloc (.cells #[.slice (some ⟨w.heap.size, 0, none⟩) 3 3] 34)) := hc1.alloc _
  have hb := fun j => World.cell?_alloc_mark w #[.int .u8 97, .int .u8 98, .int .u8 99] 5 (3, 4) j
  have hr := cell_fresh (w.alloc (.cells #[.int .u8 97, .int .u8 98, .int .u8 99] 5 (3, 4))) #[.slice (some ⟨w.heap.size, 0, none⟩) 3 3] 34 0
  rw [World.size_alloc] at hr
  have hs1 : (w.alloc (.cells #[.int .u8 97, .int .u8 98, .int .u8 99] 5 (3, 4))).heap.size = w.heap.size + 1 := World.size_alloc _ _
  generalize w.alloc (.cells #[.int .u8 97, .int .u8 98, .int .u8 99] 5 (3, 4)) = w1 at *
  have hc3 : Ch (fun _ => False) w1 (w1.alloc (.cells #[.slice (some ⟨w.heap.size, 0, none⟩) 3 3] 34)) := (Ch.refl _ _).alloc _
  refine (sum_any (w.heap.size + 1) 0 1 1 _ (fun _ => some ⟨w.heap.size, 0, none⟩) (fun _ => 3) (fun _ => 3) abcF _ (.inl rfl) (by omega) (by decide) ⟨fun i hi => ?_, fun i hi => ⟨w.heap.size, 0, .inl rfl, by have := hc3.size; omega, fun j hj => ?_⟩⟩ (hK.ch hc2 id)).mono ?_
  · obtain rfl : i = 0 := by omega
    exact hr
  · obtain rfl : i = 0 := by omega
    refine hc3.get ((hb _).trans ?_) id
    match j, hj with | 0, _ => rfl | 1, _ => rfl | 2, _ => rfl
  · rintro e w' ⟨rfl, h⟩
    exact ⟨rfl, hc2.trans h⟩
def zB (n : Nat) : ByteArray := ⟨(zeroL n).toArray⟩
theorem zeros64 (w : World) : Calls Tryd.prog 43 #[.int .i64 64] w fun e w' => e = .returned (.string (zB 64)) ∧ Ch (fun _ => False) w w' := zeros_any 64 (by omega) (by omega) w
theorem zeros63 (w : World) : Calls Tryd.prog 43 #[.int .i64 63] w fun e w' => e = .returned (.string (zB 63)) ∧ Ch (fun _ => False) w w' := zeros_any 63 (by omega) (by omega) w
theorem parse64 : hv (parsed (zB 64)) = hv (fun _ => 0) := by kernel_rfl
theorem perr64 : perr (zB 64) = 0 := by kernel_rfl
theorem perr63 : perr (zB 63) = 110 := by kernel_rfl
theorem perrA : perr (⟨#[65]⟩ ++ zB 63) = 110 := by kernel_rfl

set_option maxRecDepth 100000 in
set_option maxHeartbeats 400000 in
theorem works_any (w : World) (hK : KAt w) : Calls Tryd.prog 15 #[] w fun e w' => e = .returned (.bool true) ∧ Ch (fun _ => False) w w' := by
  have HK := Go.Lib.hid hK
  clear hK
  have hcv := fun (w : World) (C : Array Value) (n c : Nat) => Lib.run_convert_bytes_const (P := Tryd.prog) w 34 5 C n c Tryd.underlying34 Tryd.underlying5
  go_enter Tryd.func15, Tryd.ntmps15
  go_wp2_with fail
  refine (zeros64 _).mono ?_; rintro e w1 ⟨rfl, hw1⟩; have HW1 := Go.Lib.hid hw1; clear hw1
  go_wp2_with fail
  refine (parse_any _ _).mono ?_; rintro e w2 ⟨rfl, hw2⟩; have HW2 := Go.Lib.hid (HW1.out.trans hw2); clear hw2
  have HP1 := Go.Lib.hid parse64
  rw [perr64]
  generalize parsed (zB 64) = p1 at *
  go_wp2_with (refine wpList_store_row rfl 31 (.tmp 1) (.tmp 10) rfl w2.heap.size (hv p1) rfl rfl 31 (arr 32 fun _ => .int .u8 0) (World.alloc_heap_new w2 _) (hv_info _) (by rw [arr_size]; exact (arr_size _ _).symm) (hv_all _) ?_)
  generalize hW : (w2.alloc _).setRow w2.heap.size (hv p1) = W2
  have hh1 : W2.heap[w2.heap.size]? = some (.cells (hv p1) 31) := by rw [← hW]; exact heap_setRow (World.alloc_heap_new w2 _)
  have hc : Ch (fun _ => False) w2 W2 := by rw [← hW]; exact ((Ch.refl _ _).alloc _).setRow (fun h => absurd h (Nat.lt_irrefl _)) _
  have HC2 := Go.Lib.hid (HW2.out.trans (hc.mono (fun _ _ h => h))); have HH1 := Go.Lib.hid hh1
  clear hc hh1 hW HW2 HW1
  generalize w2.heap.size = B1 at *
  -- the second text
  refine (zeros63 _).mono ?_; rintro e w3 ⟨rfl, hw3⟩; have HC3 := Go.Lib.hid hw3; clear hw3
  go_wp2_with fail
  refine (parse_any _ _).mono ?_; rintro e w4 ⟨rfl, hw4⟩; have HC4 := Go.Lib.hid (HC3.out.trans hw4); clear hw4
  rw [perr63]
  generalize parsed (zB 63) = p2 at *
  go_wp2_with (refine wpList_store_row rfl 31 (.tmp 3) (.tmp 15) rfl w4.heap.size (hv p2) rfl rfl 31 (arr 32 fun _ => .int .u8 0) (World.alloc_heap_new w4 _) (hv_info _) (by rw [arr_size]; exact (arr_size _ _).symm) (hv_all _) ?_)
  generalize hW : (w4.alloc _).setRow w4.heap.size (hv p2) = W4
  have hc : Ch (fun _ => False) w4 W4 := by rw [← hW]; exact ((Ch.refl _ _).alloc _).setRow (fun h => absurd h (Nat.lt_irrefl _)) _
  have HC5 := Go.Lib.hid (HC4.out.trans hc)
  clear hc hW
  generalize w4.heap.size = B3 at *
  -- the third text
  have hz63 : (zB 63).size = 63 := by kernel_rfl
  refine (zeros63 _).mono ?_; rintro e w5 ⟨rfl, hw5⟩; have HC6 := Go.Lib.hid (HC5.out.trans hw5); clear hw5
  go_wp2_with fail
  refine (parse_any _ _).mono ?_; rintro e w6 ⟨rfl, hw6⟩; have HC7 := Go.Lib.hid (HC6.out.trans hw6); clear hw6
  rw [perrA]
  generalize parsed (⟨#[65]⟩ ++ zB 63) = p3 at *
  go_wp2_with (refine wpList_store_row rfl 31 (.tmp 5) (.tmp 21) rfl w6.heap.size (hv p3) rfl rfl 31 (arr 32 fun _ => .int .u8 0) (World.alloc_heap_new w6 _) (hv_info _) (by rw [arr_size]; exact (arr_size _ _).symm) (hv_all _) ?_)
  generalize hW : (w6.alloc _).setRow w6.heap.size (hv p3) = W6
  have hc : Ch (fun _ => False) w6 W6 := by rw [← hW]; exact ((Ch.refl _ _).alloc _).setRow (fun h => absurd h (Nat.lt_irrefl _)) _
  have HC8 := Go.Lib.hid (HC7.out.trans hc)
  have HC9 := Go.Lib.hid (HC2.out.trans (HC8.out.mono (fun _ _ h => h)))
  have HH6 := Go.Lib.hid (HC8.out.heap HH1.out id)
  have hK6 := HK.out.ch HC9.out id
  have HK6 := Go.Lib.hid hK6
  have hs6 : W6.heap.size = w6.heap.size + 1 := by rw [← hW]; simp
  clear hc hW hK6 HC7 HC6 HC5 HC4 HC3 hz63
  try rw [← hs6]
  generalize w6.heap.size = B5 at *
  clear hs6
  rw [hcv]
  simp only [Result.andThen]
  rw [Oper.upon_value]
  go_wp2_with fail
  refine (sum_abc _ HK6.out).mono ?_; rintro e w7 ⟨rfl, hw7⟩; have HC10 := Go.Lib.hid hw7; clear hw7
  generalize hg1 : hashB abcF 3 = g1
  have hl1 := starts_any g1 _ (hg1 ▸ pre_abc)
  have HL1 := Go.Lib.hid hl1
  clear hl1 hg1
  go_wp2_with fail
  refine (HL1.out _).mono ?_; rintro e w8 ⟨rfl, hw8⟩; have HC11 := Go.Lib.hid (HC10.out.trans hw8); clear hw8
  have HK8 := Go.Lib.hid (HK6.out.ch HC11.out id)
  generalize hg2 : hashB noF 0 = g2
  have HL2 := Go.Lib.hid (starts_any g2 _ (hg2 ▸ pre_no))
  have HS2 := Go.Lib.hid (hg2 ▸ sum_none w8 HK8.out)
  generalize hg3 : hashB (hashB noF 0) 32 = g3
  have HL3 := Go.Lib.hid (starts_any g3 _ (hg3 ▸ pre_no2))
  have HS3 := Go.Lib.hid (fun w => hg3 ▸ twice_none w)
  clear hg2 hg3
  go_wp2_with fail
  refine HS2.out.mono ?_; rintro e w9 ⟨rfl, hw9⟩; have HC12 := Go.Lib.hid (HC11.out.trans hw9); clear hw9
  go_wp2_with fail
  refine (HL2.out _).mono ?_; rintro e w10 ⟨rfl, hw10⟩; have HC13 := Go.Lib.hid (HC12.out.trans hw10); clear hw10
  have HK10 := Go.Lib.hid (HK6.out.ch HC13.out id)
  go_wp2_with fail
  refine (HS3.out _ HK10.out).mono ?_; rintro e w11 ⟨rfl, hw11⟩; have HC14 := Go.Lib.hid (HC13.out.trans hw11); clear hw11
  go_wp2_with fail
  refine (HL3.out _).mono ?_; rintro e w12 ⟨rfl, hw12⟩; have HC15 := Go.Lib.hid (HC14.out.trans hw12); clear hw12
  have HH12 := Go.Lib.hid (HC15.out.heap HH6.out id)
  go_wp2_with (refine wpList_load_row_wanted rfl 31 (.tmp 1) rfl B1 rfl 31 _ (0, 0) _ HH12.out Tryd.underlying31 rfl (hv_info _) ?_)
  have he : (Op.equalIn 10000 31 (.agg (hv p1)) (.agg (hv fun _ => 0))).run Tryd.prog w12 = .ok true w12 := by
    rw [HP1.out, eq_hv]; simp
  refine (congrArg _ (congrArg (fun r => (Result.andThen r _).andThen _) he)).mpr ?_
  simp only [Result.andThen]
  rw [Oper.upon_value]
  go_wp2_with (go_at_call 26; refine (num26 _ _).mono ?_; rintro e w' ⟨rfl, rfl⟩)
  go_ret
  exact ⟨rfl, HC9.out.trans HC15.out⟩
end Go.Proofs.YtdmeeghgbiffmaaDoor
