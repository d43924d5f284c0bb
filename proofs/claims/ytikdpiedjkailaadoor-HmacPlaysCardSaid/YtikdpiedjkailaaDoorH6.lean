/- A key's block, and what tells it turned. -/
import Derived.Test.YtikdpiedjkailaaDoorH5
import Derived.Laws.CopyOwn
namespace Go.Proofs.YtikdpiedjkailaaDoor
open Go Go.RowKit

theorem bv64_ext {A : Array Value} {k : Nat → UInt8} (hs : A.size = 64) (h : ∀ i, i < 64 → A[i]? = some (.int .u8 ((k i).toNat : Int))) : A = bv64 k := by
  apply Array.ext_getElem?
  intro i
  by_cases hi : i < 64
  · rw [h i hi, bv64_get k i hi]
  · rw [Array.getElem?_eq_none (by omega), Array.getElem?_eq_none (by rw [bv64_size]; omega)]
theorem splice_bv (k0 f : Nat → UInt8) (n : Nat) (hn : n ≤ 64) : ((bv64 k0).toList.take 0 ++ (fL f n ++ (bv64 k0).toList.drop (0 + (fL f n).length))).toArray = bv64 (fun i => if i < n then f i else k0 i) := by
  have hl : (bv64 k0).toList.length = 64 := by rw [Array.length_toList]; exact bv64_size k0
  have hfl := fL_len f n
  apply bv64_ext
  · simp [hl, hfl]; omega
  · intro i hi
    simp only [List.take_zero, List.nil_append, List.getElem?_toArray, Nat.zero_add]
    by_cases h : i < n
    · rw [List.getElem?_append_left (by rw [hfl]; exact h)]
      simp [fL, h]
    · rw [List.getElem?_append_right (by rw [hfl]; omega), List.getElem?_drop, if_neg h]
      rw [show (fL f n).length + (i - (fL f n).length) = i by rw [hfl]; omega]
      have := bv64_get k0 i hi
      simpa using this
/-- 'copy(row[:], b)', b at most as long as the row of 64 bytes. -/
theorem wpList_copy_bytes {w : World} {ops : Array Oper} {rest : List Oper} {o : Oper} {a : Act} {Q : Exit → Act → World → Prop} (hgd : o.guard = none) (d s : Operand)
    (ho : o.op = .call { callee := .builtin .copy, args := #[d, s], argTypes := #[22, 22] }) (g : Nat) (k0 f : Nat → UInt8) (p : Option Addr) (n c : Nat) (hn : n ≤ 64)
    (hd : a.eval d = .slice (some ⟨g, 0, none⟩) 64 64) (hs : a.eval s = .slice p n c) (hg : w.heap[g]? = some (.cells (bv64 k0) 66)) (hb : BytesAt w p n c f)
    (h : ∀ v w', w'.heap[g]? = some (.cells (bv64 fun i => if i < n then f i else k0 i) 66) → Ch (fun k => k = g) w w' → wpList Tryd.prog ops Q rest (a.put o.dst v) w') : wpList Tryd.prog ops Q (o :: rest) a w := by
  by_cases h0 : n = 0
  · subst h0
    refine wpList_copy_nothing hgd d s 22 22 ho 5 Tryd.underlying22 (by kernel_rfl) (some ⟨g, 0, none⟩) p 64 64 0 c hd hs (by simp) (h _ _ ?_ (Ch.refl _ _))
    simpa using hg
  · rcases hb with ⟨x, y, rfl, hnc, hb⟩ | ⟨_, h1, _⟩
    · refine wpList_copy_own hgd d s 22 22 ho 5 Tryd.underlying22 (by kernel_rfl) g 0 64 64 ⟨x, y, none⟩ n c hd hs (bv64 k0) 66 hg (fL f n) (by rw [fL_len]; simp [Nat.min_def]; omega) ?_ (by rw [fL_len, bv64_size]; omega) ?_ (h _ _ ?_ ?_)
      · intro j v hj
        obtain ⟨h1, rfl⟩ := fL_get f n j v hj
        rw [show (⟨x, y, none⟩ : Addr).add j = ⟨x, y + j, none⟩ by simp [Addr.add]]
        exact hb j h1
      · intro v hv
        obtain ⟨j, hj⟩ := List.mem_iff_getElem?.1 hv
        obtain ⟨_, rfl⟩ := fL_get f n j v hj
        rfl
      · rw [splice_bv k0 f n hn]; exact heap_setRow hg
      · exact Ch.setRow (S := fun k => k = g) (Ch.refl _ w) (fun _ => rfl) _
    · exact absurd h1 h0
/-- A key's block. -/
def kb (f : Nat → UInt8) (n : Nat) : Nat → UInt8 := fun i => if n ≤ 64 then (if i < n then f i else 0) else (if i < 32 then hashB f n i else 0)
theorem zero64 : (arr 64 fun _ => Value.int .u8 0) = bv64 fun _ => 0 := rfl

set_option maxRecDepth 100000 in
set_option maxHeartbeats 1000000 in
theorem blocks_any (p : Option Addr) (n c : Nat) (f : Nat → UInt8) (w : World) (hn : n ≤ 1000000000) (hf : BytesAt w p n c f) (hK : KAt w) :
    Calls Tryd.prog 39 #[.slice p n c] w fun e w' => ∃ b, e = .returned (.func (.func 55) #[] #[.pointer (some ⟨b, 0, none⟩)]) ∧ w.heap.size ≤ b ∧ b < w'.heap.size ∧ (∀ i, i < 64 → w'.cell? ⟨b, i, none⟩ = some (.int .u8 ((kb f n i).toNat : Int))) ∧ Ch (fun _ => False) w w' := by
  have hmf : ∀ (fn : Fn) (first cap : Array Value) (w : World), (Instr.makeFunc fn first cap).run Tryd.prog w = .ok (.func fn first cap) w := fun _ _ _ _ => rfl
  have HF := Go.Lib.hid hf; have HK := Go.Lib.hid hK
  clear hf hK
  by_cases h64 : n ≤ 64
  · have h1 : ¬ (64 : Int) < (n : Int) := by omega
    have HKB := Go.Lib.hid (show (bv64 fun i => if i < n then f i else 0) = bv64 (kb f n) by congr 1; funext i; unfold kb; rw [if_pos h64])
    go_enter Tryd.func39, Tryd.ntmps39
    go_wp2_with (refine wpList_copy_bytes rfl (.tmp 14) (.tmp 15) rfl w.heap.size (fun _ => 0) f p n c h64 rfl rfl (World.alloc_heap_new w _) (HF.out.ch ((Ch.refl (fun _ => False) w).alloc _) (fun _ _ h => h)) ?_
                 intro v1 w1 hh1 hc1
                 have HH1 := Go.Lib.hid hh1; have HC1 := Go.Lib.hid hc1; clear hh1 hc1)
    go_ret
    refine ⟨_, rfl, Nat.le_refl _, row_lt HH1.out, fun i hi => (cell_of_heap HH1.out _).trans ?_, ((Ch.refl _ w).alloc _).then HC1.out (fun i hi h => by omega)⟩
    rw [HKB.out]; exact bv64_get _ i hi
  · have h1 : (64 : Int) < (n : Int) := by omega
    have HKB := Go.Lib.hid (show (bv64 fun i => if i < 32 then hashB f n i else 0) = bv64 (kb f n) by congr 1; funext i; unfold kb; rw [if_neg h64])
    have hal0 : Ch (fun _ => False) w (w.alloc (.cells (arr 64 fun _ => .int .u8 0) 66)) := (Ch.refl _ w).alloc _
    have hh0 : (w.alloc (.cells (arr 64 fun _ => .int .u8 0) 66)).heap[w.heap.size]? = some (.cells (arr 64 fun _ => .int .u8 0) 66) := World.alloc_heap_new w _
    have hsz0 : (w.alloc (.cells (arr 64 fun _ => .int .u8 0) 66)).heap.size = w.heap.size + 1 := World.size_alloc _ _
    have HS := Go.Lib.hid (fun (W : World) (hc : Ch (fun _ => False) w W) => sum_any W.heap.size 0 1 1 (some ⟨W.heap.size, 0, none⟩) (fun _ => p) (fun _ => n) (fun _ => c) f (W.alloc (.cells #[.slice p n c] 22)) (.inl rfl) (by omega) (by simp [upto]; omega)
      (parts_of (fun i hi => by
        obtain rfl : i = 0 := by omega
        exact cell_fresh W _ 22 0) (fun i hi => by
        obtain rfl : i = 0 := by omega
        have := (HF.out.ch hc (fun _ _ h => h)).ch ((Ch.refl (fun _ => False) W).alloc (.cells #[.slice p n c] 22)) (fun _ _ h => h)
        simpa [upto] using this)) (HK.out.ch (hc.alloc _) id))
    have HS := Go.Lib.hid (HS.out _ hal0)
    rw [show upto (fun _ => n) 1 = n from Nat.zero_add _, hsz0] at HS
    generalize hT : hashB f n = T at *
    have HTT := Go.Lib.hid hT
    have HAL0 := Go.Lib.hid hal0; have HH0 := Go.Lib.hid hh0; have HSZ0 := Go.Lib.hid hsz0
    clear hT hal0 hh0 hsz0
    go_enter Tryd.func39, Tryd.ntmps39
    go_wp2_with fail
    refine HS.out.mono ?_
    rintro e w2 ⟨rfl, hc2⟩
    have HC2 := Go.Lib.hid ((HAL0.out.alloc _).trans hc2)
    have HR2 := Go.Lib.hid (hc2.heap (((Ch.refl (fun _ => False) _).alloc _).heap HH0.out id) id)
    clear hc2 HS
    go_upto_region 4 with (refine wpList_store_row rfl 28 (.tmp 4) (.tmp 10) rfl w2.heap.size (hv T) rfl rfl 28 _ (World.alloc_heap_new w2 _) (hv_info _) (by rw [show (hv T).size = 32 from arr_size _ _]; rfl) (hv_all _) ?_)
    generalize hA : (w2.alloc _).setRow w2.heap.size (hv T) = W3
    have hx3 : W3.heap[w2.heap.size]? = some (.cells (hv T) 28) := by rw [← hA]; exact heap_setRow (World.alloc_heap_new w2 _)
    have hc3 : Ch (fun _ => False) w2 W3 := by rw [← hA]; exact ((Ch.refl _ _).alloc _).setRow (fun h => absurd h (Nat.lt_irrefl _)) _
    have HX3 := Go.Lib.hid hx3; have HR3 := Go.Lib.hid (hc3.heap HR2.out id); have HC3 := Go.Lib.hid (HC2.out.trans hc3)
    clear hA hx3 hc3 HR2 HC2
    generalize w2.heap.size = X at *
    refine wp_region_quiet_tail 2 (by kernel_rfl) (by kernel_rfl) ?_
    simp only [List.take_succ_cons, List.take_zero, List.drop_succ_cons, List.drop_zero]
    repeat (quiet_step (fail))
    refine wpQuiet_nil ?_
    intro _ hw'
    obtain ⟨q1, rfl⟩ := hw'
    have hcq : Ch (fun _ => False) W3 (W3.drewN q1) := (Ch.refl _ W3).drewN q1
    have HC4 := Go.Lib.hid (HC3.out.trans hcq); have HR4 := Go.Lib.hid (hcq.heap HR3.out id); have HX4 := Go.Lib.hid (hcq.heap HX3.out id)
    clear hcq
    generalize W3.drewN q1 = W4 at *
    refine wpList_copy_bytes rfl (.tmp 11) (.tmp 12) rfl w.heap.size (fun _ => 0) T (some ⟨X, 0, none⟩) 32 32 (by decide) rfl rfl HR4.out (.inl ⟨X, 0, rfl, Nat.le_refl _, fun j hj => by
      rw [Nat.zero_add]; exact (cell_of_heap HX4.out _).trans (arr_get 32 _ j hj)⟩) ?_
    intro v1 w5 hh5 hc5
    have HH5 := Go.Lib.hid hh5; have HC5 := Go.Lib.hid hc5; clear hh5 hc5
    go_wp2_with fail
    go_ret
    refine ⟨_, rfl, Nat.le_refl _, row_lt HH5.out, fun i hi => (cell_of_heap HH5.out _).trans ?_, HC4.out.then HC5.out (fun i hi h => by omega)⟩
    rw [HKB.out]; exact bv64_get _ i hi
end Go.Proofs.YtikdpiedjkailaaDoor
