/- hmac.Tag, Extract. -/
import Derived.Test.YtikdpiedjkailaaDoorH7
import Derived.Stop.BytesEq
namespace Go.Proofs.YtikdpiedjkailaaDoor
open Go Go.RowKit

/-- The tag by a key's block of m bytes of f. -/
def tagB (k f : Nat → UInt8) (m : Nat) : Nat → UInt8 := hashB (catB 64 (fun i => k i ^^^ 92) (hashB (inK k f) (64 + m))) 96
theorem ptr_load (Y r : Nat) (W : World) (h : W.cell? ⟨Y, 0, none⟩ = some (.pointer (some ⟨r, 0, none⟩))) : (loadVar 64 ⟨Y, 0, none⟩).run Tryd.prog W = .ok (.agg #[.pointer (some ⟨r, 0, none⟩)]) W :=
  run_loadVar_part (P := Tryd.prog) W ⟨Y, 0, none⟩ 64 #[.pointer (some ⟨r, 0, none⟩)] _ (fun j v hj => by
    match j, hj with
    | 0, hj => obtain rfl : Value.pointer (some ⟨r, 0, none⟩) = v := by simpa using hj
               simpa [Addr.add] using h) Tryd.underlying64 rfl (by kernel_rfl)
/-- take, the parts of elder memory, the sum of later one. -/
theorem take_late (k : Nat → UInt8) (r s a off N cap : Nat) (sp : Option Addr) (P : Nat → Option Addr) (L C : Nat → Nat) (f : Nat → UInt8) (w w0 : World) (hsp : sp = some ⟨a, off, none⟩ ∨ N = 0) (hN : N ≤ 1000000) (hn : upto L N ≤ 100000000000)
    (hP : PartsAt w0 a off N P L C f) (hc : Ch (fun _ => False) w0 w) (hr : w0.heap.size ≤ r) (h0 : r ≠ 0) (hR : RunAt w r (inK k f) 64) (hK : KAt w) :
    Calls Tryd.prog 27 #[.agg #[.pointer (some ⟨r, 0, none⟩)], .slice sp N cap] w fun e w' => e = .returned (.int .i64 0) ∧ Ch (fun k => k = r) w w' ∧ RunAt w' r (inK k f) (64 + upto L N) := by
  by_cases hN0 : N = 0
  · subst hN0
    exact take_any r 64 (r + 1) 0 0 cap sp P L C (inK k f) w (.inr rfl) (by omega) h0 (by simp [upto]) ⟨fun i hi => by omega, fun i hi => by omega⟩ (fun i x y hi => by omega) (by omega) hR hK
  · have ha := cell_lt (hP.row 0 (by omega))
    have ha' : a < w0.heap.size := ha
    refine take_any r 64 a off N cap sp P L C (inK k f) w hsp hN h0 (by omega) ?_ (fun i x y hi hL e => ?_) (by omega) hR hK
    · rw [show (fun j => inK k f (64 + j)) = f from funext fun j => inK_ge k f j]
      exact hP.ch hc (fun _ _ h => h)
    · obtain ⟨x', y', h1, h2, h3⟩ := hP.bytes i hi
      have h4 := h1.resolve_right hL
      rw [e] at h4
      cases h4
      omega

set_option maxRecDepth 100000 in
set_option maxHeartbeats 1000000 in
theorem tag_any (p : Option Addr) (n c : Nat) (key : Nat → UInt8) (a off N cap : Nat) (sp : Option Addr) (P : Nat → Option Addr) (L C : Nat → Nat) (f : Nat → UInt8) (w : World) (hn : n ≤ 1000000000) (hf : BytesAt w p n c key)
    (hsp : sp = some ⟨a, off, none⟩ ∨ N = 0) (hN : N ≤ 1000000) (hm : upto L N ≤ 100000000000) (hP : PartsAt w a off N P L C f) (hK : KAt w) :
    Calls Tryd.prog 11 #[.slice p n c, .slice sp N cap] w fun e w' => e = .returned (.agg (hv (tagB (kb key n) f (upto L N)))) ∧ Ch (fun _ => False) w w' := by
  have hal : Ch (fun _ => False) w (w.alloc (.cells (arr 32 fun _ => .int .u8 0) 28)) := (Ch.refl _ w).alloc _
  have hw0 : 0 < w.heap.size := cell_lt (hK 0 (by omega))
  have hsz : (w.alloc (.cells (arr 32 fun _ => .int .u8 0) 28)).heap.size = w.heap.size + 1 := World.size_alloc _ _
  have HB := mbegun_any p n c key _ hn (hf.ch hal (fun _ _ h => h)) (hK.ch hal id) f
  rw [hsz] at HB
  have HB := Go.Lib.hid HB
  have HK := Go.Lib.hid hK
  have HT := Go.Lib.hid (show tagB (kb key n) f (upto L N) = hashB (catB 64 (fun i => kb key n i ^^^ 92) (hashB (inK (kb key n) f) (64 + upto L N))) 96 from rfl)
  generalize tagB (kb key n) f (upto L N) = T at *
  generalize kb key n = k at *
  have HTL := Go.Lib.hid (fun r w1 (hc : Ch (fun _ => False) w w1) (hr : w.heap.size ≤ r) (hR : RunAt w1 r (inK k f) 64) => take_late k r 0 a off N cap sp P L C f w1 w hsp hN hm hP hc hr (by omega) hR (hK.ch hc id))
  generalize inK k f = F at *
  have hM : 64 + upto L N ≤ 1000000000000 := by omega
  generalize 64 + upto L N = M at *
  generalize (fun i => k i ^^^ 92) = oo at *
  have HAL := Go.Lib.hid hal
  have HA0 := Go.Lib.hid (World.alloc_heap_new w (.cells (arr 32 fun _ => .int .u8 0) 28))
  clear hf hK hP hsp hal hsz
  go_enter Tryd.func11, Tryd.ntmps11
  go_wp2_with fail
  refine HB.out.mono ?_
  rintro e w1 ⟨r, rfl, hr1, hr2, hr3, hc1⟩
  have HR := Go.Lib.hid hr3; have HA1 := Go.Lib.hid (hc1.heap HA0.out id); have HC1 := Go.Lib.hid (HAL.out.trans hc1)
  have HMI := Go.Lib.hid (macV_info r oo); have HMA := Go.Lib.hid (macV_all r oo); have HMZ := Go.Lib.hid (macV_size r oo)
  clear hr3 hc1 HB HAL HA0
  go_upto_region 2 with (refine wpList_store_row rfl 68 (.tmp 5) (.tmp 7) rfl w1.heap.size (macV r oo) rfl rfl 68 _ (World.alloc_heap_new w1 _) HMI.out (by rw [HMZ.out]; rfl) HMA.out ?_)
  generalize hA : World.setRow _ w1.heap.size (macV r oo) = W2
  have hx2 : W2.heap[w1.heap.size]? = some (.cells (macV r oo) 68) := by rw [← hA]; exact heap_setRow (World.alloc_heap_new w1 _)
  have hc2 : Ch (fun _ => False) w1 W2 := by rw [← hA]; exact ((Ch.refl _ _).alloc _).setRow (fun h => absurd h (Nat.lt_irrefl _)) _
  have HX2 := Go.Lib.hid hx2; have HA2 := Go.Lib.hid (hc2.heap HA1.out id); have HC2 := Go.Lib.hid (HC1.out.trans hc2); have HR2 := Go.Lib.hid (HR.out.ch hc2 id)
  have hb0 : w.heap.size < w1.heap.size := (Array.getElem?_eq_some_iff.1 HA1.out).1
  clear hA hx2 hc2 HA1 HC1 HR
  generalize w1.heap.size = X at *
  have HLD := Go.Lib.hid (ptr_load X r W2 ((cell_of_heap HX2.out 0).trans (macV_get r oo 0 (by omega))))
  rw [put_none]
  go_wp2_with (refine wpList_load_at rfl 64 (.tmp 8) rfl ⟨X, 0, none⟩ rfl (.agg #[.pointer (some ⟨r, 0, none⟩)]) HLD.out ?_)
  refine (HTL.out r W2 HC2.out (by omega) HR2.out).mono ?_
  rintro e w3 ⟨rfl, hc3, hr3⟩
  have HX3 := Go.Lib.hid (hc3.heap HX2.out (by omega)); have HA3 := Go.Lib.hid (hc3.heap HA2.out (by omega)); have HC3 := Go.Lib.hid (HC2.out.then hc3 (fun i hi h => by omega)); have HR3 := Go.Lib.hid hr3
  clear hc3 hr3 HX2 HA2 HC2 HR2 HLD
  go_wp2_with fail
  have HE := Go.Lib.hid (ended_any X r M F oo w3 hM (mac_of_heap HX3.out HR3.out) (HK.out.ch HC3.out id))
  rw [← HT.out] at HE
  refine HE.out.mono ?_
  rintro e w4 ⟨rfl, hc4⟩
  have HA4 := Go.Lib.hid (hc4.heap HA3.out id); have HC4 := Go.Lib.hid (HC3.out.trans hc4)
  clear hc4 HE
  go_wp2_with (refine wpList_store_row rfl 28 (.tmp 4) (.tmp 12) rfl w.heap.size (hv T) rfl rfl 28 _ HA4.out (hv_info _) (by rw [show (hv T).size = 32 from arr_size _ _]; rfl) (hv_all _) ?_)
  refine bodyPost_ret (results_cell_row (h := Tryd.results11) _ _ w.heap.size 28 _ (0, 0) _ rfl (heap_setRow HA4.out) Tryd.underlying28 rfl (hv_info _)) rfl ⟨rfl, ?_⟩
  exact HC4.out.setRow (fun h => absurd h (Nat.lt_irrefl _)) _

set_option maxRecDepth 100000 in
set_option maxHeartbeats 1000000 in
theorem extract_any (p : Option Addr) (n c : Nat) (key : Nat → UInt8) (a off N cap : Nat) (sp : Option Addr) (P : Nat → Option Addr) (L C : Nat → Nat) (f : Nat → UInt8) (w : World) (hn : n ≤ 1000000000) (hf : BytesAt w p n c key)
    (hsp : sp = some ⟨a, off, none⟩ ∨ N = 0) (hN : N ≤ 1000000) (hm : upto L N ≤ 100000000000) (hP : PartsAt w a off N P L C f) (hK : KAt w) :
    Calls Tryd.prog 13 #[.slice p n c, .slice sp N cap] w fun e w' => e = .returned (.agg (hv (tagB (kb key n) f (upto L N)))) ∧ Ch (fun _ => False) w w' := by
  have hal : Ch (fun _ => False) w (w.alloc (.cells (arr 32 fun _ => .int .u8 0) 28)) := (Ch.refl _ w).alloc _
  have HB := Go.Lib.hid (tag_any p n c key a off N cap sp P L C f _ hn (hf.ch hal (fun _ _ h => h)) hsp hN hm (hP.ch hal (fun _ _ h => h)) (hK.ch hal id))
  have HA0 := Go.Lib.hid (World.alloc_heap_new w (.cells (arr 32 fun _ => .int .u8 0) 28))
  have HAL := Go.Lib.hid hal
  generalize tagB (kb key n) f (upto L N) = T at *
  clear hf hP hsp hK hal
  go_enter Tryd.func13, Tryd.ntmps13
  go_wp2_with fail
  refine HB.out.mono ?_
  rintro e w4 ⟨rfl, hc4⟩
  have HA4 := Go.Lib.hid (hc4.heap HA0.out id); have HC4 := Go.Lib.hid (HAL.out.trans hc4)
  clear hc4 HB HAL
  go_wp2_with (refine wpList_store_row rfl 28 (.tmp 4) (.tmp 7) rfl w.heap.size (hv T) rfl rfl 28 _ HA4.out (hv_info _) (by rw [show (hv T).size = 32 from arr_size _ _]; rfl) (hv_all _) ?_)
  refine bodyPost_ret (results_cell_row (h := Tryd.results13) _ _ w.heap.size 28 _ (0, 0) _ rfl (heap_setRow HA4.out) Tryd.underlying28 rfl (hv_info _)) rfl ⟨rfl, ?_⟩
  exact HC4.out.setRow (fun h => absurd h (Nat.lt_irrefl _)) _
end Go.Proofs.YtikdpiedjkailaaDoor
/- hmac.Right; a tag under way forked, Copy. -/
namespace Go.Proofs.YtikdpiedjkailaaDoor
open Go Go.RowKit

theorem hv_cells (g : Nat → UInt8) : hv g = (((List.range 32).map g).map Extern.Stop.cell).toArray := by
  unfold hv arr
  rw [List.map_map]; rfl
/-- Are two hashes the same? -/
def eqH (g g' : Nat → UInt8) : Bool := (List.range 32).map g == (List.range 32).map g'
theorem eq_hv (g g' : Nat → UInt8) (w : World) : (Op.equalIn 10000 28 (.agg (hv g)) (.agg (hv g'))).run Tryd.prog w = .ok (eqH g g') w := by
  unfold eqH
  rw [hv_cells, hv_cells]
  exact run_equalIn_bytes (P := Tryd.prog) w 9998 28 5 32 Tryd.underlying28 Tryd.underlying5 (fun w => by kernel_rfl) _ _ (by simp) (by simp)
theorem eqH_self (g : Nat → UInt8) : eqH g g = true := by unfold eqH; simp
theorem eqH_iff (g g' : Nat → UInt8) : eqH g g' = true ↔ ∀ i, i < 32 → g i = g' i := by
  unfold eqH
  rw [beq_iff_eq]
  constructor
  · intro h i hi
    have := congrArg (fun l => l[i]?) h
    simpa [hi] using this
  · intro h
    exact List.map_congr_left fun i hi => h i (List.mem_range.1 hi)
theorem eqH_hv (g g' : Nat → UInt8) : eqH g g' = true ↔ hv g = hv g' := by
  rw [eqH_iff]
  constructor
  · intro h; unfold hv; exact arr_congr (fun i hi => by rw [h i hi])
  · intro h i hi
    have h1 := arr_get 32 (fun i => Value.int .u8 ((g i).toNat : Int)) i hi
    have h2 := arr_get 32 (fun i => Value.int .u8 ((g' i).toNat : Int)) i hi
    have h3 : arr 32 (fun i => Value.int .u8 ((g i).toNat : Int)) = arr 32 (fun i => Value.int .u8 ((g' i).toNat : Int)) := h
    rw [h3] at h1
    have := Option.some.inj (h1.symm.trans h2)
    injection this with _ h4
    exact UInt8.toNat_inj.1 (by omega)
theorem eqg28 : Tryd.prog.eqGuardType Tryd.prog.depth 28 = false := by kernel_rfl
theorem wp_eql {P : Program} {o : Oper} {a : Act} {w : World} {K : Act → World → Prop} {Q : Exit → Act → World → Prop} (x y : Operand) (t t2 : TypeId) (ho : o.op = .binOp .eql t x y t2)
    (R S : Array Value) (hx : a.eval x = .agg R) (hy : a.eval y = .agg S) (hg : P.eqGuardType P.depth t = false) {b : Bool} (he : (Op.equalIn 10000 t (.agg R) (.agg S)).run P w = .ok b w) (h : K (a.put o.dst (.bool b)) w) : o.wp P a w K Q := by
  unfold Oper.wp execOp
  have h1 : (eqGuard .eql t x y (.agg R) (.agg S)).run P w = .ok () w := by
    simp [eqGuard, hg]
  have h2 : (binOp .eql t (.agg R) (.agg S)).run P w = .ok (.bool b) w := by
    simp only [binOp, Op.equal, Sem.run_bind]
    rw [show (Op.equalIn Op.maxDepth t (.agg R) (.agg S)).run P w = .ok b w from he]
    rfl
  simp only [ho, hx, hy, Sem.run_bind, h1, h2, Result.andThen]
  exact h
theorem wpList_eql {P : Program} {ops : Array Oper} {rest : List Oper} {o : Oper} {a : Act} {w : World} {Q : Exit → Act → World → Prop} (hgd : o.guard = none) (x y : Operand) (t t2 : TypeId) (ho : o.op = .binOp .eql t x y t2)
    (R S : Array Value) (hx : a.eval x = .agg R) (hy : a.eval y = .agg S) (hg : P.eqGuardType P.depth t = false) {b : Bool} (he : (Op.equalIn 10000 t (.agg R) (.agg S)).run P w = .ok b w) (h : wpList P ops Q rest (a.put o.dst (.bool b)) w) : wpList P ops Q (o :: rest) a w :=
  wpList_plain hgd fun _ hK => wp_eql x y t t2 ho R S hx hy hg he (hK _ _ h)

set_option maxRecDepth 100000 in
set_option maxHeartbeats 1000000 in
theorem right_any (p : Option Addr) (n c : Nat) (key tag : Nat → UInt8) (a off N cap : Nat) (sp : Option Addr) (P : Nat → Option Addr) (L C : Nat → Nat) (f : Nat → UInt8) (w : World) (hn : n ≤ 1000000000) (hf : BytesAt w p n c key)
    (hsp : sp = some ⟨a, off, none⟩ ∨ N = 0) (hN : N ≤ 1000000) (hm : upto L N ≤ 100000000000) (hP : PartsAt w a off N P L C f) (hK : KAt w) :
    Calls Tryd.prog 14 #[.slice p n c, .agg (hv tag), .slice sp N cap] w fun e w' => e = .returned (.bool (eqH (tagB (kb key n) f (upto L N)) tag)) ∧ Ch (fun _ => False) w w' := by
  have HB := Go.Lib.hid (fun W (hc : Ch (fun _ => False) w W) => tag_any p n c key a off N cap sp P L C f W hn (hf.ch hc (fun _ _ h => h)) hsp hN hm (hP.ch hc (fun _ _ h => h)) (hK.ch hc id))
  have HEQ := Go.Lib.hid (fun W => eq_hv (tagB (kb key n) f (upto L N)) tag W)
  generalize eqH (tagB (kb key n) f (upto L N)) tag = E at *
  generalize tagB (kb key n) f (upto L N) = T at *
  have HI := Go.Lib.hid (hv_info tag)
  have hal : Ch (fun _ => False) w (w.alloc (.cells (hv tag) 28)) := (Ch.refl _ w).alloc _
  have HA := Go.Lib.hid (World.alloc_heap_new w (.cells (hv tag) 28))
  have HAL := Go.Lib.hid hal
  generalize hRT : hv T = RT at *
  generalize hRG : hv tag = RG at *
  clear hf hP hsp hK hal hRT hRG
  go_enter Tryd.func14, Tryd.ntmps14
  go_upto_region 1 with (fail)
  generalize w.alloc (.cells RG 28) = W1 at *
  generalize hax : Act.mk _ _ = ax
  have HSZ := Go.Lib.hid (show ax.tmps.size = 12 by rw [← hax]; rfl)
  have F0 := Go.Lib.hid (show gt ax 0 = .slice p n c by rw [← hax]; rfl)
  have F2 := Go.Lib.hid (show gt ax 2 = .slice sp N cap by rw [← hax]; rfl)
  have F4 := Go.Lib.hid (show gt ax 4 = .pointer (some ⟨w.heap.size, 0, none⟩) by rw [← hax]; rfl)
  have HAX := Go.Lib.hid hax
  clear hax
  have HND := Go.Lib.hid (show ([7, 8, 9, 10, 11] : List Nat).Nodup by decide)
  have HLS : Hid (Lasts [(7, fun x _ => x = .slice p n c), (8, fun x _ => x = .slice sp N cap), (9, fun x _ => x = .agg RT), (10, fun x _ => x = .agg RG), (11, fun x _ => x = .bool E)]) := Go.Lib.hid (by
    intro p hp v w1 w2 hc h
    simp only [List.mem_cons, List.not_mem_nil, or_false] at hp
    rcases hp with rfl | rfl | rfl | rfl | rfl
    all_goals first | exact h | (obtain ⟨g, h1, h2⟩ := h; exact ⟨g, h1, hc.heap h2 id⟩) | (obtain ⟨g, c, h1, h2⟩ := h; exact ⟨g, c, h1, h2.ch hc (fun _ _ h => h)⟩))
  refine wp_region_open_tail 5 (InvQ 12 [(7, fun x _ => x = .slice p n c), (8, fun x _ => x = .slice sp N cap), (9, fun x _ => x = .agg RT), (10, fun x _ => x = .agg RG), (11, fun x _ => x = .bool E)] (fun _ w' => Ch (fun _ => False) W1 w') ax) (by kernel_rfl) (by kernel_rfl) (InvQ.start (by simp) HSZ.out (Ch.refl _ _).drew) ?_ ?_
  · intro L a w' i hI hr hlt
    obtain ⟨h1, o, ho, hall⟩ := mem_ready.1 hr
    have hsplit : i = 0 ∨ i = 1 ∨ i = 2 ∨ i = 3 ∨ i = 4 := by omega
    clear hlt h1 hr
    rcases hsplit with rfl | rfl | rfl | rfl | rfl
    · have q0 := (hI.fixed 0 (by simp)).trans F0.out
      unfold gt at q0
      clear hall
      refine wpOp_step (o := _) rfl (fun K' hK' => ?_)
      go_simp
      exact hK' _ _ (hI.put 0 rfl (by decide) HND.out HLS.out  (Ch.refl _ _) rfl hI.wld)
    · have q2 := (hI.fixed 2 (by simp)).trans F2.out
      unfold gt at q2
      clear hall
      refine wpOp_step (o := _) rfl (fun K' hK' => ?_)
      go_simp
      exact hK' _ _ (hI.put 1 rfl (by decide) HND.out HLS.out  (Ch.refl _ _) rfl hI.wld)
    · simp at ho
      have e0 : lg L 0 = true := by unfold lg; simpa using hall ⟨0, .data⟩ (by rw [← ho]; simp) rfl
      have f0 : gt a 7 = .slice p n c := hI.val 0 _ rfl e0
      have e1 : lg L 1 = true := by unfold lg; simpa using hall ⟨1, .data⟩ (by rw [← ho]; simp) rfl
      have f1 : gt a 8 = .slice sp N cap := hI.val 1 _ rfl e1
      unfold gt at f0 f1
      clear hall
      clear ho
      have HCT := Go.Lib.hid (HB.out w' (HAL.out.trans hI.wld))
      refine wpOp_step (o := _) rfl (fun K' hK' => ?_)
      go_simp
      refine HCT.out.mono ?_
      rintro e w3 ⟨rfl, hc⟩
      exact hK' _ _ (hI.put 2 rfl (by decide) HND.out HLS.out  hc rfl (hI.wld.trans hc))
    · have q4 := (hI.fixed 4 (by simp)).trans F4.out
      unfold gt at q4
      clear hall
      refine wpOp_step (o := _) rfl (fun K' hK' => ?_)
      exact wp_load_row 28 (.tmp 4) rfl w.heap.size (by simpa [Act.eval] using q4) 28 RG (0, 0) _ (hI.wld.heap HA.out id) Tryd.underlying28 rfl HI.out (hK' _ _ (hI.put 3 rfl (by decide) HND.out HLS.out  (Ch.refl _ _) rfl hI.wld))
    · simp at ho
      have e2 : lg L 2 = true := by unfold lg; simpa using hall ⟨2, .data⟩ (by rw [← ho]; simp) rfl
      have f2 : gt a 9 = .agg RT := hI.val 2 _ rfl e2
      have e3 : lg L 3 = true := by unfold lg; simpa using hall ⟨3, .data⟩ (by rw [← ho]; simp) rfl
      have f3 : gt a 10 = .agg RG := hI.val 3 _ rfl e3
      unfold gt at f2 f3
      clear hall
      clear ho
      refine wpOp_step (o := _) rfl (fun K' hK' => ?_)
      exact wp_eql (.tmp 9) (.tmp 10) 28 28 rfl RT RG (by simpa [Act.eval] using f2) (by simpa [Act.eval] using f3) eqg28 (HEQ.out _) (hK' _ _ (hI.put 4 rfl (by decide) HND.out HLS.out  (Ch.refl _ _) rfl hI.wld))
  · intro L a w' hI hal
    have hfr := hI.frame HSZ.out (by simp) (fun i hi => hal i hi)
    have k0 : gt a 7 = .slice p n c := hI.val 0 _ rfl (hal 0 (by decide))
    have k1 : gt a 8 = .slice sp N cap := hI.val 1 _ rfl (hal 1 (by decide))
    have k2 : gt a 9 = .agg RT := hI.val 2 _ rfl (hal 2 (by decide))
    have k3 : gt a 10 = .agg RG := hI.val 3 _ rfl (hal 3 (by decide))
    have k4 : gt a 11 = .bool E := hI.val 4 _ rfl (hal 4 (by decide))
    rw [hfr, ← HAX.out]
    have HCR := Go.Lib.hid hI.wld
    simp only [List.map_cons, List.map_nil, List.foldl_cons, List.foldl_nil, k0, k1, k2, k3, k4, List.setIfInBounds_toArray, List.set_cons_succ, List.set_cons_zero]
    clear hfr hI hal k0 k1 k2 k3 k4  HSZ HND HLS HAX F0 F2 F4
    simp only [List.drop_succ_cons, List.drop_zero]
    have HC := Go.Lib.hid (HAL.out.trans HCR.out)
    clear HAL HCR
    go_wp2_with fail
    go_ret
    exact ⟨rfl, HC.out⟩

set_option maxRecDepth 100000 in
set_option maxHeartbeats 1000000 in
theorem forked_any (b r n : Nat) (f oo : Nat → UInt8) (w : World) (h : MacAt w b r f n oo) :
    Calls Tryd.prog 34 #[.pointer (some ⟨b, 0, none⟩)] w fun e w' => ∃ r', e = .returned (.agg (macV r' oo)) ∧ w.heap.size ≤ r' ∧ r' < w'.heap.size ∧ RunAt w' r' f n ∧ Ch (fun _ => False) w w' := by
  have hal : Ch (fun _ => False) w (w.alloc (.cells Tryd.zeroCells68 68)) := (Ch.refl _ w).alloc _
  have HA0 := Go.Lib.hid (World.alloc_heap_new w (.cells Tryd.zeroCells68 68))
  have HZ := Go.Lib.hid (show w.heap.size < (w.alloc (.cells Tryd.zeroCells68 68)).heap.size by rw [World.size_alloc]; omega)
  have HAL := Go.Lib.hid hal
  have HAP := Go.Lib.hid (fun W (hc : Ch (fun _ => False) w W) => apart_any r n f W (h.run.ch hc id))
  have HLD := Go.Lib.hid (fun W (hc : Ch (fun _ => False) w W) => ptr_load b r W (hc.get h.ptr id))
  have HLO := Go.Lib.hid (fun W (hc : Ch (fun _ => False) w W) => bv64_load (w := W) (b := b) (o := 1) (k := oo) (fun i hi => hc.get (h.outer i hi) id))
  have HBZ := Go.Lib.hid (Nat.ne_of_gt (show 0 < 1 by omega))
  clear h hal
  go_enter Tryd.func34, Tryd.ntmps34
  go_upto_region 1 with (fail)
  generalize w.alloc (.cells Tryd.zeroCells68 68) = W1 at *
  generalize hax : Act.mk _ _ = ax
  have HSZ := Go.Lib.hid (show ax.tmps.size = 13 by rw [← hax]; rfl)
  have F0 := Go.Lib.hid (show gt ax 0 = .pointer (some ⟨b, 0, none⟩) by rw [← hax]; rfl)
  have HAX := Go.Lib.hid hax
  clear hax
  have HND := Go.Lib.hid (show ([3, 4, 5, 6, 7, 8, 9, 10, 11] : List Nat).Nodup by decide)
  have HLS : Hid (Lasts [(3, fun x _ => x = .pointer (some ⟨b, 0, none⟩)), (4, fun x _ => x = .pointer (some ⟨b, 0, none⟩)), (5, fun x _ => x = .pointer (some ⟨b, 0, none⟩)), (6, fun x _ => x = .agg #[.pointer (some ⟨r, 0, none⟩)]), (7, fun x v => ∃ r' c, x = .agg #[.pointer (some ⟨r', 0, none⟩)] ∧ (c = r' ∧ W1.heap.size ≤ r' ∧ r' < v.heap.size ∧ RunAt v r' f n)), (8, fun x _ => x = .pointer (some ⟨b, 0, none⟩)), (9, fun x _ => x = .pointer (some ⟨b, 0, none⟩)), (10, fun x _ => x = .pointer (some ⟨b, 1, none⟩)), (11, fun x _ => x = .agg (bv64 oo))]) := Go.Lib.hid (by
    intro p hp v w1 w2 hc h
    simp only [List.mem_cons, List.not_mem_nil, or_false] at hp
    rcases hp with rfl | rfl | rfl | rfl | rfl | rfl | rfl | rfl | rfl
    all_goals first | exact h | (obtain ⟨g, h1, h2⟩ := h; exact ⟨g, h1, hc.heap h2 id⟩) | (obtain ⟨g, c, h1, h2, h3, h4, h5⟩ := h; exact ⟨g, c, h1, h2, h3, Nat.lt_of_lt_of_le h4 hc.size, h5.ch hc id⟩))
  refine wp_region_open_tail 9 (InvQ 13 [(3, fun x _ => x = .pointer (some ⟨b, 0, none⟩)), (4, fun x _ => x = .pointer (some ⟨b, 0, none⟩)), (5, fun x _ => x = .pointer (some ⟨b, 0, none⟩)), (6, fun x _ => x = .agg #[.pointer (some ⟨r, 0, none⟩)]), (7, fun x v => ∃ r' c, x = .agg #[.pointer (some ⟨r', 0, none⟩)] ∧ (c = r' ∧ W1.heap.size ≤ r' ∧ r' < v.heap.size ∧ RunAt v r' f n)), (8, fun x _ => x = .pointer (some ⟨b, 0, none⟩)), (9, fun x _ => x = .pointer (some ⟨b, 0, none⟩)), (10, fun x _ => x = .pointer (some ⟨b, 1, none⟩)), (11, fun x _ => x = .agg (bv64 oo))] (fun _ w' => Ch (fun _ => False) W1 w') ax) (by kernel_rfl) (by kernel_rfl) (InvQ.start (by simp) HSZ.out (Ch.refl _ _).drew) ?_ ?_
  · intro L a w' i hI hr hlt
    obtain ⟨h1, o, ho, hall⟩ := mem_ready.1 hr
    have hsplit : i = 0 ∨ i = 1 ∨ i = 2 ∨ i = 3 ∨ i = 4 ∨ i = 5 ∨ i = 6 ∨ i = 7 ∨ i = 8 := by omega
    clear hlt h1 hr
    rcases hsplit with rfl | rfl | rfl | rfl | rfl | rfl | rfl | rfl | rfl
    · have q0 := (hI.fixed 0 (by simp)).trans F0.out
      unfold gt at q0
      clear hall
      refine wpOp_step (o := _) rfl (fun K' hK' => ?_)
      go_simp
      exact hK' _ _ (hI.put 0 rfl (by decide) HND.out HLS.out  (Ch.refl _ _) rfl hI.wld)
    · simp at ho
      have e0 : lg L 0 = true := by unfold lg; simpa using hall ⟨0, .data⟩ (by rw [← ho]; simp) rfl
      have f0 : gt a 3 = .pointer (some ⟨b, 0, none⟩) := hI.val 0 _ rfl e0
      unfold gt at f0
      clear hall
      clear ho
      refine wpOp_step (o := _) rfl (fun K' hK' => ?_)
      go_simp
      exact hK' _ _ (hI.put 1 rfl (by decide) HND.out HLS.out  (Ch.refl _ _) rfl hI.wld)
    · simp at ho
      have e1 : lg L 1 = true := by unfold lg; simpa using hall ⟨1, .data⟩ (by rw [← ho]; simp) rfl
      have f1 : gt a 4 = .pointer (some ⟨b, 0, none⟩) := hI.val 1 _ rfl e1
      unfold gt at f1
      clear hall
      clear ho
      refine wpOp_step (o := _) rfl (fun K' hK' => ?_)
      go_simp
      exact hK' _ _ (hI.put 2 rfl (by decide) HND.out HLS.out  (Ch.refl _ _) rfl hI.wld)
    · simp at ho
      have e2 : lg L 2 = true := by unfold lg; simpa using hall ⟨2, .data⟩ (by rw [← ho]; simp) rfl
      have f2 : gt a 5 = .pointer (some ⟨b, 0, none⟩) := hI.val 2 _ rfl e2
      unfold gt at f2
      clear hall
      clear ho
      refine wpOp_step (o := _) rfl (fun K' hK' => ?_)
      exact wp_load_at 64 (.tmp 5) rfl ⟨b, 0, none⟩ (by simpa [Act.eval] using f2) _ (HLD.out w' (HAL.out.trans hI.wld)) (hK' _ _ (hI.put 3 rfl (by decide) HND.out HLS.out  (Ch.refl _ _) rfl hI.wld))
    · simp at ho
      have e3 : lg L 3 = true := by unfold lg; simpa using hall ⟨3, .data⟩ (by rw [← ho]; simp) rfl
      have f3 : gt a 6 = .agg #[.pointer (some ⟨r, 0, none⟩)] := hI.val 3 _ rfl e3
      unfold gt at f3
      clear hall
      clear ho
      have HCT := Go.Lib.hid (HAP.out w' (HAL.out.trans hI.wld))
      refine wpOp_step (o := _) rfl (fun K' hK' => ?_)
      go_simp
      refine HCT.out.mono ?_
      rintro e w3 ⟨r', rfl, hr1, hr2, hr3, hc⟩
      exact hK' _ _ (hI.put 4 rfl (by decide) HND.out HLS.out hc ⟨r', r', rfl, rfl, Nat.le_trans hI.wld.size hr1, hr2, hr3⟩ (hI.wld.trans hc))
    · have q0 := (hI.fixed 0 (by simp)).trans F0.out
      unfold gt at q0
      clear hall
      refine wpOp_step (o := _) rfl (fun K' hK' => ?_)
      go_simp
      exact hK' _ _ (hI.put 5 rfl (by decide) HND.out HLS.out  (Ch.refl _ _) rfl hI.wld)
    · simp at ho
      have e5 : lg L 5 = true := by unfold lg; simpa using hall ⟨5, .data⟩ (by rw [← ho]; simp) rfl
      have f5 : gt a 8 = .pointer (some ⟨b, 0, none⟩) := hI.val 5 _ rfl e5
      unfold gt at f5
      clear hall
      clear ho
      refine wpOp_step (o := _) rfl (fun K' hK' => ?_)
      go_simp
      exact hK' _ _ (hI.put 6 rfl (by decide) HND.out HLS.out  (Ch.refl _ _) rfl hI.wld)
    · simp at ho
      have e6 : lg L 6 = true := by unfold lg; simpa using hall ⟨6, .data⟩ (by rw [← ho]; simp) rfl
      have f6 : gt a 9 = .pointer (some ⟨b, 0, none⟩) := hI.val 6 _ rfl e6
      unfold gt at f6
      clear hall
      clear ho
      refine wpOp_step (o := _) rfl (fun K' hK' => ?_)
      go_simp
      exact hK' _ _ (hI.put 7 rfl (by decide) HND.out HLS.out  (Ch.refl _ _) rfl hI.wld)
    · simp at ho
      have e7 : lg L 7 = true := by unfold lg; simpa using hall ⟨7, .data⟩ (by rw [← ho]; simp) rfl
      have f7 : gt a 10 = .pointer (some ⟨b, 1, none⟩) := hI.val 7 _ rfl e7
      unfold gt at f7
      clear hall
      clear ho
      refine wpOp_step (o := _) rfl (fun K' hK' => ?_)
      exact wp_load_at 66 (.tmp 10) rfl ⟨b, 1, none⟩ (by simpa [Act.eval] using f7) _ (HLO.out w' (HAL.out.trans hI.wld)) (hK' _ _ (hI.put 8 rfl (by decide) HND.out HLS.out  (Ch.refl _ _) rfl hI.wld))
  · intro L a w' hI hal
    have hfr := hI.frame HSZ.out (by simp) (fun i hi => hal i hi)
    have k0 : gt a 3 = .pointer (some ⟨b, 0, none⟩) := hI.val 0 _ rfl (hal 0 (by decide))
    have k1 : gt a 4 = .pointer (some ⟨b, 0, none⟩) := hI.val 1 _ rfl (hal 1 (by decide))
    have k2 : gt a 5 = .pointer (some ⟨b, 0, none⟩) := hI.val 2 _ rfl (hal 2 (by decide))
    have k3 : gt a 6 = .agg #[.pointer (some ⟨r, 0, none⟩)] := hI.val 3 _ rfl (hal 3 (by decide))
    obtain ⟨g4, c4, k4, hh4⟩ : (fun x v => ∃ r' c, x = .agg #[.pointer (some ⟨r', 0, none⟩)] ∧ (c = r' ∧ W1.heap.size ≤ r' ∧ r' < v.heap.size ∧ RunAt v r' f n)) (gt a 7) w' := hI.val 4 _ rfl (hal 4 (by decide))
    have H4 := Go.Lib.hid hh4
    have k5 : gt a 8 = .pointer (some ⟨b, 0, none⟩) := hI.val 5 _ rfl (hal 5 (by decide))
    have k6 : gt a 9 = .pointer (some ⟨b, 0, none⟩) := hI.val 6 _ rfl (hal 6 (by decide))
    have k7 : gt a 10 = .pointer (some ⟨b, 1, none⟩) := hI.val 7 _ rfl (hal 7 (by decide))
    have k8 : gt a 11 = .agg (bv64 oo) := hI.val 8 _ rfl (hal 8 (by decide))
    rw [hfr, ← HAX.out]
    have HCR := Go.Lib.hid hI.wld
    simp only [List.map_cons, List.map_nil, List.foldl_cons, List.foldl_nil, k0, k1, k2, k3, k4, k5, k6, k7, k8, List.setIfInBounds_toArray, List.set_cons_succ, List.set_cons_zero]
    clear hfr hI hal k0 k1 k2 k3 k4 k5 k6 k7 k8 hh4 HSZ HND HLS HAX F0
    simp only [List.drop_succ_cons, List.drop_zero]
    have HC := Go.Lib.hid (HAL.out.trans HCR.out); have HA1 := Go.Lib.hid (HCR.out.heap HA0.out id)
    obtain ⟨_, hg1, hg2, hg3⟩ := H4.out
    have HR := Go.Lib.hid hg3; have hz := HZ.out
    have HMI := Go.Lib.hid (macV_info g4 oo); have HMA := Go.Lib.hid (macV_all g4 oo); have HMZ := Go.Lib.hid (macV_size g4 oo)
    clear HAL HCR HA0 H4 hg3
    go_wp2_with (first | (refine wpList_buildTo rfl 68 _ rfl (some 12) rfl (macV g4 oo) (by kernel_rfl) ?_) | (refine wpList_store_row rfl 68 (.tmp 2) (.tmp 12) rfl w.heap.size (macV g4 oo) rfl rfl 68 _ HA1.out HMI.out (by rw [HMZ.out]; rfl) HMA.out ?_))
    refine bodyPost_ret (results_cell_row (h := Tryd.results34) _ _ w.heap.size 68 _ (0, 0) _ rfl (heap_setRow HA1.out) Tryd.underlying68 rfl HMI.out) rfl ⟨g4, rfl, by omega, ?_, ?_, ?_⟩
    · exact Nat.lt_of_lt_of_le hg2 ((Ch.refl (fun _ => True) w').setRow (fun _ => trivial) _).size
    · exact HR.out.ch (Ch.setRow (S := fun k => k = w.heap.size) (Ch.refl _ w') (fun _ => rfl) _) (by omega)
    · exact HC.out.setRow (fun h => absurd h (Nat.lt_irrefl _)) _

set_option maxRecDepth 100000 in
set_option maxHeartbeats 1000000 in
theorem mcopy_any (b r n : Nat) (f oo : Nat → UInt8) (w : World) (h : MacAt w b r f n oo) :
    Calls Tryd.prog 23 #[.pointer (some ⟨b, 0, none⟩)] w fun e w' => ∃ b' r', e = .returned (.pointer (some ⟨b', 0, none⟩)) ∧ w.heap.size ≤ r' ∧ r' < b' ∧ b' < w'.heap.size ∧ MacAt w' b' r' f n oo ∧ Ch (fun _ => False) w w' := by
  have HT := Go.Lib.hid (mthere_any b r w h.ptr)
  have HF := Go.Lib.hid (forked_any b r n f oo w h)
  clear h
  go_enter Tryd.func23, Tryd.ntmps23
  go_wp2_with fail
  refine HT.out.mono ?_
  rintro e w1 ⟨rfl, rfl⟩
  go_wp2_with fail
  refine HF.out.mono ?_
  rintro e w1 ⟨r', rfl, hr1, hr2, hr3, hc1⟩
  have HR := Go.Lib.hid hr3; have HC := Go.Lib.hid hc1
  have HMI := Go.Lib.hid (macV_info r' oo); have HMA := Go.Lib.hid (macV_all r' oo); have HMZ := Go.Lib.hid (macV_size r' oo)
  clear hr3 hc1
  go_wp2_with (refine wpList_store_row rfl 68 (.tmp 3) (.tmp 8) rfl w1.heap.size (macV r' oo) rfl rfl 68 _ (World.alloc_heap_new w1 _) HMI.out (by rw [HMZ.out]; rfl) HMA.out ?_)
  go_ret
  refine ⟨_, r', rfl, hr1, hr2, ?_, mac_of_heap (heap_setRow (World.alloc_heap_new w1 _)) (HR.out.ch (((Ch.refl (fun _ => False) _).alloc _).setRow (fun h => absurd h (Nat.lt_irrefl _)) _) id), (HC.out.alloc _).setRow (fun h => by have := HC.out.size; omega) _⟩
  simp
set_option maxHeartbeats 400000 in
theorem mcopy_no (x : Value) (w : World) (h : NoMac x w) : Calls Tryd.prog 23 #[x] w fun e w' => e = .returned (.pointer none) ∧ w = w' := by
  have HD := Go.Lib.hid (mdead_any x w h)
  clear h
  go_enter Tryd.func23, Tryd.ntmps23
  go_wp2_with (go_at_call 33; refine HD.out.mono ?_; rintro e w1 ⟨rfl, rfl⟩)
  go_ret
  exact ⟨rfl, rfl⟩
end Go.Proofs.YtikdpiedjkailaaDoor
