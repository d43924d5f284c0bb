/- hmac.Expand. -/
import Derived.Test.YtikdpiedjkailaaDoorH13
import Derived.WalkMore
namespace Go.Proofs.YtikdpiedjkailaaDoor
open Go Go.RowKit
attribute [local go_sem] Oper.semAt_some

/-- The bytes of a key under a name. -/
def expB (k : Nat → UInt8) (s : ByteArray) : Nat → UInt8 := fun i => tgs k s (i / 32 + 1) (i % 32)
theorem expB_next (k : Nat → UInt8) (s : ByteArray) (t j : Nat) (h : j < 32) : expB k s (32 * t + j) = tgs k s (t + 1) j := by
  unfold expB
  rw [show (32 * t + j) / 32 = t by omega, show (32 * t + j) % 32 = j by omega]
theorem bytes_short {w : World} {p : Option Addr} {n c m : Nat} {f : Nat → UInt8} (h : BytesAt w p n c f) (hm : m ≤ n) : BytesAt w p m c f := by
  rcases h with ⟨x, y, h1, h2, h3⟩ | ⟨h1, h2, h3⟩
  · exact .inl ⟨x, y, h1, by omega, fun j hj => h3 j (by omega)⟩
  · exact .inr ⟨h1, by omega, h3⟩
theorem own_ch {w w' : World} {base k : Nat} {v : Value} {xs : List Value} {S : Nat → Prop} (h : w.ownsRow base 5 1 v k xs) (hc : Ch S w w') (hs : ∀ g c, v = .slice (some ⟨g, 0, none⟩) k c → ¬ S g) : w'.ownsRow base 5 1 v k xs := by
  obtain ⟨hlen, h0 | ⟨g, cap, cur, rfl, hbg, hg, hrest⟩⟩ := h
  · exact ⟨hlen, .inl h0⟩
  · exact ⟨hlen, .inr ⟨g, cap, cur, rfl, hbg, hc.heap hg (hs g cap rfl), hrest⟩⟩

set_option maxRecDepth 100000 in
set_option maxHeartbeats 2000000 in
theorem expand_err (p : Option Addr) (nk ck : Nat) (s : ByteArray) (n : Int) (w : World) (hn : n < 0 ∨ 8160 < n) :
    Calls Tryd.prog 15 #[.slice p nk ck, .string s, .int .i64 n] w fun e w' => e = .returned (.tuple #[.slice none 0 0, .int .i64 2]) ∧ Ch (fun _ => False) w w' := by
  refine (callsIn_wide (n := 0)).1 (callsIn_of_wp_marks Tryd.func15 rfl trivial (wpIn_wide.2 ?_))
  simp only [Tryd.ntmps15, List.size_toArray, List.length_cons, List.length_nil, Nat.reduceAdd, Nat.reduceSub, Array.replicate_succ,
     Array.replicate_zero, List.push_toArray, List.append_toArray, List.nil_append, List.cons_append]
  by_cases h0 : n < 0
  · go_wp2_with fail
    go_step3
    go_wp2_with fail
    rw [Exit.noGoto_ret]
    exact ⟨.tuple #[.slice none 0 0, .int .i64 2], by simp [results, Tryd.results15, go_sem], rfl, (Ch.refl _ w).alloc _⟩
  · have h1 : 8160 < n := by omega
    go_wp2_with fail
    go_step3
    go_wp2_with fail
    rw [Exit.noGoto_ret]
    exact ⟨.tuple #[.slice none 0 0, .int .i64 2], by simp [results, Tryd.results15, go_sem], rfl, (Ch.refl _ w).alloc _⟩

set_option maxRecDepth 100000 in
set_option maxHeartbeats 4000000 in
theorem expand_any (p : Option Addr) (nk ck : Nat) (key : Nat → UInt8) (s : ByteArray) (n : Nat) (w : World) (hn : n ≤ 8160) (hkey : BytesAt w p nk ck key) (hnk : nk ≤ 1000000000) (hs : s.size ≤ 1000000000) (hK : KAt w) :
    Calls Tryd.prog 15 #[.slice p nk ck, .string s, .int .i64 (n : Int)] w fun e w' => ∃ q c, e = .returned (.tuple #[.slice q n c, .int .i64 0]) ∧ BytesAt w' q n c (expB (kb key nk) s) ∧ Ch (fun _ => False) w w' := by
  obtain ⟨i0, hi, hz0, hz1, hz2⟩ := info_parts info5
  have HK := Go.Lib.hid hK; have HKEY := Go.Lib.hid hkey
  have hw0 : 0 < w.heap.size := cell_lt (hK 0 (by omega))
  obtain ⟨w0, hr0, ho0, hg0⟩ := run_make_own (P := Tryd.prog) (w.alloc (.cells #[.int .i64 (n : Int)] 3)) w.heap.size 22 5 i0 (.int .u8 0) 1 Tryd.underlying22 hi hz0 hz1 .i64 .i64 n (by rw [hz2]; omega) (by simp [maxLen]; omega) (by simp)
  have hc0 : Ch (fun _ => False) w w0 := Ch.grown ((Ch.refl (fun _ => False) w).alloc _) hg0 (fun k hk => by cases hk)
  have hn0 : w0.heap[w.heap.size]? = some (.cells #[.int .i64 (n : Int)] 3) := (hg0.block w.heap.size (by simp) (by simp)).trans (World.alloc_heap_new w _)
  rw [World.size_alloc] at hr0 ho0
  have HO0 := Go.Lib.hid ho0; have HC0 := Go.Lib.hid hc0; have HN0 := Go.Lib.hid hn0
  have hcn : w0.cell? ⟨w.heap.size, 0, none⟩ = some (.int .i64 (n : Int)) := cell_of_heap hn0 0
  have hRl : w.heap.size + 1 < w0.heap.size := (World.ownsRow.lt ho0 (w.heap.size + 1) rfl).2
  clear hK hkey ho0 hg0 hc0 hn0
  have h1 : ¬ (8160 : Int) < (n : Int) := by omega
  have h2 : ¬ (n : Int) < 0 := by omega
  refine (callsIn_wide (n := 0)).1 (callsIn_of_wp_marks Tryd.func15 rfl trivial (wpIn_wide.2 ?_))
  simp only [Tryd.ntmps15, List.size_toArray, List.length_cons, List.length_nil, Nat.reduceAdd, Nat.reduceSub, Array.replicate_succ,
     Array.replicate_zero, List.push_toArray, List.append_toArray, List.nil_append, List.cons_append]
  go_wp2_with fail
  go_step3
  go_wp2_with fail
  go_step3
  go_wp2_with (go_at_call 30; refine (tags_any _ _ _ _ _).mono ?_; rintro e w' ⟨rfl, rfl⟩)
  generalize hW2 : World.alloc (World.alloc (World.alloc w0 _) _) _ = W2
  have hcW : Ch (fun _ => False) w0 W2 := by rw [← hW2]; exact (((Ch.refl _ w0).alloc _).alloc _).alloc _
  have hs0 : (w0.alloc (.cells #[.slice (some ⟨w.heap.size + 1, 0, none⟩) 0 n] 22)).heap.size = w0.heap.size + 1 := World.size_alloc _ _
  have hs1 : ((w0.alloc (.cells #[.slice (some ⟨w.heap.size + 1, 0, none⟩) 0 n] 22)).alloc (.cells #[.slice p nk ck] 22)).heap.size = w0.heap.size + 2 := by rw [World.size_alloc, World.size_alloc]
  have hs2 : W2.heap.size = w0.heap.size + 3 := by rw [← hW2, World.size_alloc, World.size_alloc, World.size_alloc]
  have hO2 : W2.heap[w0.heap.size]? = some (.cells #[.slice (some ⟨w.heap.size + 1, 0, none⟩) 0 n] 22) := by
    rw [← hW2]; exact (((Ch.refl (fun _ => False) _).alloc _).alloc _).heap (World.alloc_heap_new w0 _) id
  have hA2 : W2.cell? ⟨w0.heap.size + 1, 0, none⟩ = some (.slice p nk ck) := by
    rw [← hW2, ← hs0]; exact ((Ch.refl (fun _ => False) _).alloc _).get (cell_of_heap (World.alloc_heap_new (w0.alloc _) _) 0) id
  have hB2 : W2.cell? ⟨w0.heap.size + 2, 0, none⟩ = some (.string s) := by
    rw [← hW2, ← hs1]; exact cell_of_heap (World.alloc_heap_new ((w0.alloc _).alloc _) _) 0
  rw [hs0, hs1] at *
  have HN2 := Go.Lib.hid (hcW.heap HN0.out id); have HC2 := Go.Lib.hid (HC0.out.trans hcW)
  have HOW2 := Go.Lib.hid (own_ch HO0.out hcW (fun _ _ _ h => h))
  have HO2 := Go.Lib.hid hO2; have HKE2 := Go.Lib.hid (HKEY.out.ch HC2.out (fun _ _ h => h)); have HK2 := Go.Lib.hid (HK.out.ch HC2.out id)
  clear hW2 hcW hs0 hs1 HN0 HC0 HO0 hO2 hr0 hcn HKEY HK
  have HE := Go.Lib.hid (fun t j (h : j < 32) => expB_next (kb key nk) s t j h)
  generalize hE : expB (kb key nk) s = E at *
  have HEE := Go.Lib.hid hE
  clear hE
  generalize w0.heap.size = O at *
  generalize hR : w.heap.size + 1 = R at *
  have hRw : w.heap.size < R := by omega
  have HSR := Go.Lib.hid hR
  clear hR
  generalize haa : Act.mk _ _ = aa
  have Haa := Go.Lib.hid haa
  have hg : aa.eval (.tmp 20) = .func (.func 43) #[] #[.pointer (some ⟨O + 1, 0, none⟩), .pointer (some ⟨O + 2, 0, none⟩)] := by rw [← haa]; rfl
  clear haa
  refine range_tags (O + 1) (O + 2) nk ck p key s hg hA2 hB2 HKE2.out hnk hs HK2.out (fun k => k = O ∨ k = R) (fun k hk => by omega) (by omega) (by omega)
    (fun t W => ∃ len, len = min (32 * t) n ∧ W.heap[O]? = some (.cells #[.slice (some ⟨R, 0, none⟩) len n] 22) ∧ W.ownsRow w.heap.size 5 1 (.slice (some ⟨R, 0, none⟩) len n) len (fL E len) ∧ W.heap[w.heap.size]? = some (.cells #[.int .i64 (n : Int)] 3) ∧ Ch (fun _ => False) w W)
    (fun W => W.heap[O]? = some (.cells #[.slice (some ⟨R, 0, none⟩) n n] 22) ∧ W.ownsRow w.heap.size 5 1 (.slice (some ⟨R, 0, none⟩) n n) n (fL E n) ∧ Ch (fun _ => False) w W)
    ?hI ?hIx ⟨0, by omega, HO2.out, HOW2.out, HN2.out, HC2.out⟩
    (fun t V => { tmps := (aa.tmps.setIfInBounds 21 (.agg (hv (tgs (kb key nk) s (t + 1))))).setIfInBounds 9 (.pointer (some ⟨V, 0, none⟩)), defers := [] }) ?has ?hbody ?hstop
  case hI =>
    rintro t X Y ⟨len, e1, e2, e3, e4, e5⟩ hr
    exact ⟨len, e1, hr.heap e2 (by omega), own_ch e3 hr (fun g c e => by cases e; omega), hr.heap e4 (by omega), e5.then hr (fun i hi h => by omega)⟩
  case hIx =>
    rintro X Y ⟨e2, e3, e5⟩ hr
    exact ⟨hr.heap e2 (by omega), own_ch e3 hr (fun g c e => by cases e; omega), e5.then hr (fun i hi h => by omega)⟩
  case has =>
    intro l t W K hK
    have hK' := hK ((W.alloc (.cells (arr 32 fun _ => .int .u8 0) 28)).setRow W.heap.size (hv (tgs (kb key nk) s (t + 1)))) (heap_setRow (World.alloc_heap_new W _)) (((Ch.refl _ W).alloc _).setRow (fun h => absurd h (Nat.lt_irrefl _)) _)
    clear hK
    have HRI := Go.Lib.hid (hv_info (tgs (kb key nk) s (t + 1))); have HRA := Go.Lib.hid (hv_all (tgs (kb key nk) s (t + 1)))
    have HRS := Go.Lib.hid (show (arr 32 fun _ => Value.int .u8 0).size = (hv (tgs (kb key nk) s (t + 1))).size by rw [arr_size]; exact (arr_size _ _).symm)
    generalize hv (tgs (kb key nk) s (t + 1)) = RV at *
    rw [← Haa.out]
    rw [← Haa.out] at hK'
    simp only [List.setIfInBounds_toArray, List.set_cons_succ, List.set_cons_zero] at hK'
    gi_wp2_with (refine wpListR_of rfl (fun c e => by cases e) (fun K' hK2 => wp_store_row 28 (.tmp 9) (.tmp 21) rfl W.heap.size RV rfl rfl 28 (arr 32 fun _ => .int .u8 0) (World.alloc_heap_new W _) HRI.out HRS.out HRA.out (hK2 _ _ ?_)))
    exact hK'
  case hbody =>
    rintro l t V W ht ⟨len, e1, e2, e3, e4, e5⟩ hV hVl
    have hlen : len ≤ n := by omega
    obtain ⟨m, hm, hm2, hm3⟩ : ∃ m, m = min 32 (n - len) ∧ m ≤ 32 ∧ len + m ≤ n := ⟨_, rfl, by omega, by omega⟩
    have HCO := Go.Lib.hid (show W.cell? ⟨O, 0, none⟩ = some (.slice (some ⟨R, 0, none⟩) len n) from cell_of_heap e2 0)
    have HCN := Go.Lib.hid (show W.cell? ⟨w.heap.size, 0, none⟩ = some (.int .i64 (n : Int)) from cell_of_heap e4 0)
    have E1 := Go.Lib.hid e1; have E2 := Go.Lib.hid e2; have E3 := Go.Lib.hid e3; have E4 := Go.Lib.hid e4; have E5 := Go.Lib.hid e5; have HV := Go.Lib.hid hV; have HM := Go.Lib.hid hm
    have HET := Go.Lib.hid (HE.out t)
    clear e1 e2 e3 e4 e5 hV hm
    generalize tgs (kb key nk) s (t + 1) = T at *
    have HIN := Go.Lib.hid (show BytesAt W (some ⟨V, 0, none⟩) 32 32 T from .inl ⟨V, 0, rfl, Nat.le_refl _, fun j hj => by rw [Nat.zero_add]; exact (cell_of_heap HV.out _).trans (arr_get 32 _ j hj)⟩)
    generalize hv T = RV at *
    rw [← Haa.out]
    simp only [List.setIfInBounds_toArray, List.set_cons_succ, List.set_cons_zero]
    gi_wp2_with fail
    have HMI := Go.Lib.hid (show (if (n : Int) - len < 32 then (n : Int) - len else 32) = (m : Int) by have := HM.out; split <;> omega)
    generalize hax : Act.mk _ _ = ax
    have HSZ := Go.Lib.hid (show ax.tmps.size = 35 by rw [← hax]; rfl)
    have F5 := Go.Lib.hid (show gt ax 5 = .pointer (some ⟨w.heap.size, 0, none⟩) by rw [← hax]; rfl)
    have F8 := Go.Lib.hid (show gt ax 8 = .pointer (some ⟨O, 0, none⟩) by rw [← hax]; rfl)
    have F9 := Go.Lib.hid (show gt ax 9 = .pointer (some ⟨V, 0, none⟩) by rw [← hax]; rfl)
    have HAX := Go.Lib.hid hax
    clear hax
    have HND := Go.Lib.hid (show ([22, 23, 24, 25, 26, 27, 28] : List Nat).Nodup by decide)
    have HLS : Hid (Lasts [(22, fun x _ => x = .slice (some ⟨R, 0, none⟩) len n), (23, fun x _ => x = .int .i64 (n : Int)), (24, fun x _ => x = .slice (some ⟨R, 0, none⟩) len n), (25, fun x _ => x = .int .i64 (len : Int)), (26, fun x _ => x = .int .i64 ((n : Int) - len)), (27, fun x _ => x = .int .i64 (m : Int)), (28, fun x _ => x = .slice (some ⟨V, 0, none⟩) m 32)]) := Go.Lib.hid (by
      intro p hp v w1 w2 hc h
      simp only [List.mem_cons, List.not_mem_nil, or_false] at hp
      rcases hp with rfl | rfl | rfl | rfl | rfl | rfl | rfl
      all_goals first | exact h | (obtain ⟨g, h1, h2⟩ := h; exact ⟨g, h1, hc.heap h2 id⟩) | (obtain ⟨g, c, h1, h2⟩ := h; exact ⟨g, c, h1, h2.ch hc (fun _ _ h => h)⟩))
    refine wpR_region_open_tail 7 (InvQ 35 [(22, fun x _ => x = .slice (some ⟨R, 0, none⟩) len n), (23, fun x _ => x = .int .i64 (n : Int)), (24, fun x _ => x = .slice (some ⟨R, 0, none⟩) len n), (25, fun x _ => x = .int .i64 (len : Int)), (26, fun x _ => x = .int .i64 ((n : Int) - len)), (27, fun x _ => x = .int .i64 (m : Int)), (28, fun x _ => x = .slice (some ⟨V, 0, none⟩) m 32)] (fun _ w' => Ch (fun _ => False) W w') ax) (by kernel_rfl) (by kernel_rfl) (by kernel_rfl) (InvQ.start (by simp) HSZ.out (Ch.refl _ _).drew) ?_ ?_
    · intro L a w' i hI hr hlt
      obtain ⟨h1, o, ho, hall⟩ := mem_ready.1 hr
      have hsplit : i = 0 ∨ i = 1 ∨ i = 2 ∨ i = 3 ∨ i = 4 ∨ i = 5 ∨ i = 6 := by omega
      clear hlt h1 hr
      rcases hsplit with rfl | rfl | rfl | rfl | rfl | rfl | rfl
      · have q8 := (hI.fixed 8 (by simp)).trans F8.out
        have hcl := hI.wld.get HCO.out id
        unfold gt at q8
        clear hall
        refine wpOp_step (o := _) rfl (fun K' hK' => ?_)
        go_simp
        exact hK' _ _ (hI.put 0 rfl (by decide) HND.out HLS.out  (Ch.refl _ _) rfl hI.wld)
      · have q5 := (hI.fixed 5 (by simp)).trans F5.out
        have hcl := hI.wld.get HCN.out id
        unfold gt at q5
        clear hall
        refine wpOp_step (o := _) rfl (fun K' hK' => ?_)
        go_simp
        exact hK' _ _ (hI.put 1 rfl (by decide) HND.out HLS.out  (Ch.refl _ _) rfl hI.wld)
      · have q8 := (hI.fixed 8 (by simp)).trans F8.out
        have hcl := hI.wld.get HCO.out id
        unfold gt at q8
        clear hall
        refine wpOp_step (o := _) rfl (fun K' hK' => ?_)
        go_simp
        exact hK' _ _ (hI.put 2 rfl (by decide) HND.out HLS.out  (Ch.refl _ _) rfl hI.wld)
      · simp at ho
        have e2 : lg L 2 = true := by unfold lg; simpa using hall ⟨2, .data⟩ (by rw [← ho]; simp) rfl
        have f2 : gt a 24 = .slice (some ⟨R, 0, none⟩) len n := hI.val 2 _ rfl e2
        unfold gt at f2
        clear hall
        clear ho
        refine wpOp_step (o := _) rfl (fun K' hK' => ?_)
        go_simp
        exact hK' _ _ (hI.put 3 rfl (by decide) HND.out HLS.out  (Ch.refl _ _) rfl hI.wld)
      · simp at ho
        have e1 : lg L 1 = true := by unfold lg; simpa using hall ⟨1, .data⟩ (by rw [← ho]; simp) rfl
        have f1 : gt a 23 = .int .i64 (n : Int) := hI.val 1 _ rfl e1
        have e3 : lg L 3 = true := by unfold lg; simpa using hall ⟨3, .data⟩ (by rw [← ho]; simp) rfl
        have f3 : gt a 25 = .int .i64 (len : Int) := hI.val 3 _ rfl e3
        have hws : IntKind.i64.wrap ((n : Int) - len) = (n : Int) - len := by rw [IntKind.wrap_i64]; omega
        unfold gt at f1 f3
        clear hall
        clear ho
        refine wpOp_step (o := _) rfl (fun K' hK' => ?_)
        go_simp
        exact hK' _ _ (hI.put 4 rfl (by decide) HND.out HLS.out  (Ch.refl _ _) rfl hI.wld)
      · simp at ho
        have e4 : lg L 4 = true := by unfold lg; simpa using hall ⟨4, .data⟩ (by rw [← ho]; simp) rfl
        have f4 : gt a 26 = .int .i64 ((n : Int) - len) := hI.val 4 _ rfl e4
        have hmm := HMI.out
        unfold gt at f4
        clear hall
        clear ho
        refine wpOp_step (o := _) rfl (fun K' hK' => ?_)
        go_simp
        exact hK' _ _ (hI.put 5 rfl (by decide) HND.out HLS.out  (Ch.refl _ _) rfl hI.wld)
      · simp at ho
        have e5 : lg L 5 = true := by unfold lg; simpa using hall ⟨5, .data⟩ (by rw [← ho]; simp) rfl
        have f5 : gt a 27 = .int .i64 (m : Int) := hI.val 5 _ rfl e5
        have q9 := (hI.fixed 9 (by simp)).trans F9.out
        have hl1 : 0 ≤ (m : Int) := by omega
        have hl2 : (m : Int) ≤ 32 := by omega
        unfold gt at f5 q9
        clear hall
        clear ho
        refine wpOp_step (o := _) rfl (fun K' hK' => ?_)
        go_simp
        exact hK' _ _ (hI.put 6 rfl (by decide) HND.out HLS.out  (Ch.refl _ _) rfl hI.wld)
    · intro L a w' hI hal
      have hfr := hI.frame HSZ.out (by simp) (fun i hi => hal i hi)
      have k0 : gt a 22 = .slice (some ⟨R, 0, none⟩) len n := hI.val 0 _ rfl (hal 0 (by decide))
      have k1 : gt a 23 = .int .i64 (n : Int) := hI.val 1 _ rfl (hal 1 (by decide))
      have k2 : gt a 24 = .slice (some ⟨R, 0, none⟩) len n := hI.val 2 _ rfl (hal 2 (by decide))
      have k3 : gt a 25 = .int .i64 (len : Int) := hI.val 3 _ rfl (hal 3 (by decide))
      have k4 : gt a 26 = .int .i64 ((n : Int) - len) := hI.val 4 _ rfl (hal 4 (by decide))
      have k5 : gt a 27 = .int .i64 (m : Int) := hI.val 5 _ rfl (hal 5 (by decide))
      have k6 : gt a 28 = .slice (some ⟨V, 0, none⟩) m 32 := hI.val 6 _ rfl (hal 6 (by decide))
      rw [hfr, ← HAX.out]
      have HCR := Go.Lib.hid hI.wld
      simp only [List.map_cons, List.map_nil, List.foldl_cons, List.foldl_nil, k0, k1, k2, k3, k4, k5, k6, List.setIfInBounds_toArray, List.set_cons_succ, List.set_cons_zero]
      clear hfr hI hal k0 k1 k2 k3 k4 k5 k6  HSZ HND HLS HAX F5 F8 F9
      simp only [List.drop_succ_cons, List.drop_zero]
      have hOR : O ≠ R := by omega
      have hNR : w.heap.size ≠ R := by omega
      refine wpList_append_fits _ rfl (.tmp 22) (.tmp 28) 22 rfl w.heap.size 5 i0 1 Tryd.underlying22 hi hz1 R len n (fL E len) rfl (own_ch E3.out HCR.out (fun _ _ _ h => h)) ⟨V, 0, none⟩ m 32 (fL T m) rfl (by rw [fL_len]; omega)
        (fun j u hj => (bytes_short (HIN.out.ch HCR.out (fun _ _ h => h)) hm2).news j u hj) (fL_one _ _) (by omega) ?_
      intro w5 hown5 hgrow5
      rw [fL_append E E T len m (fun _ _ => rfl) (fun j hj => by
        have h1 := E1.out; have h2 := HM.out
        rw [show len = 32 * t by omega]; exact HET.out j (by omega))] at hown5
      have hcR : Ch (fun k => k = R) w' w5 := Ch.grown (Ch.refl _ w') hgrow5 (fun k hk _ => by cases hk; rfl)
      have hcW : Ch (fun k => k = R) W w5 := (HCR.out.mono (T := fun k => k = R) (fun _ _ h => h.elim)).trans hcR
      have hO5 := hcW.heap E2.out hOR
      have hN5 := hcW.heap E4.out hNR
      obtain ⟨k, hk⟩ : ∃ k, len + m = k := ⟨_, rfl⟩
      rw [hk] at hown5 ⊢
      have hcO : w5.cell? ⟨O, 0, none⟩ = some (.slice (some ⟨R, 0, none⟩) len n) := cell_of_heap hO5 0
      have hfO : w5.frozen? ⟨O, 0, none⟩ = false := frozen_of_heap hO5 0
      have HOW5 := Go.Lib.hid hown5; have HO5 := Go.Lib.hid hO5; have HN5 := Go.Lib.hid hN5; have HCW := Go.Lib.hid hcW; have HKK := Go.Lib.hid hk
      clear hown5 hgrow5 hcR hcW hO5 hN5 hk HCR
      go_wp2_with fail
      change Code.wpIn (Fence.wide.inRound l) 0 Tryd.prog _ _ _ _
      have hcs : Ch (fun q => q = O) w5 (w5.setCell ⟨O, 0, none⟩ (.slice (some ⟨R, 0, none⟩) k n)) := Ch.setCell (S := fun q => q = O) (Ch.refl _ w5) (p := ⟨O, 0, none⟩) (fun _ => rfl) _
      have hO6 := box_set HO5.out (.slice (some ⟨R, 0, none⟩) k n)
      generalize w5.setCell ⟨O, 0, none⟩ (.slice (some ⟨R, 0, none⟩) k n) = W6 at *
      have hN6 := hcs.heap HN5.out (show ¬ w.heap.size = O by omega)
      have HOW6 := Go.Lib.hid (own_ch HOW5.out hcs (fun g c e => by cases e; omega))
      have HC6 := Go.Lib.hid ((HCW.out.mono (T := fun k => k = O ∨ k = R) (fun _ _ h => .inr h)).trans (hcs.mono (fun _ _ h => .inl h)))
      have HO6 := Go.Lib.hid hO6; have HN6 := Go.Lib.hid hN6
      have c1 : W6.cell? ⟨O, 0, none⟩ = some (.slice (some ⟨R, 0, none⟩) k n) := cell_of_heap hO6 0
      have c2 : W6.cell? ⟨w.heap.size, 0, none⟩ = some (.int .i64 (n : Int)) := cell_of_heap hN6 0
      clear hcs hO6 hN6 HOW5 HO5 HN5 HCW hcO hfO
      have hCC : Ch (fun _ => False) w W6 := E5.out.then HC6.out (fun i hi h => by omega)
      have HCC := Go.Lib.hid hCC
      clear hCC
      by_cases hkn : k = n
      · have hd : ((k : Int) == (n : Int)) = true := by rw [beq_iff_eq]; omega
        have HKN := Go.Lib.hid hkn
        clear hkn
        gi_wp2
        have e := HKN.out
        exact ⟨⟨by rw [← e]; rw [← e] at HO6; exact HO6.out, by rw [← e]; rw [← e] at HOW6; exact HOW6.out, HCC.out⟩, HC6.out⟩
      · have hd : ((k : Int) == (n : Int)) = false := by rw [beq_eq_false_iff_ne]; omega
        have HT2 := Go.Lib.hid (show t < 254 ∧ k = min (32 * (t + 1)) n by have := E1.out; have := HM.out; have := HKK.out; omega)
        gi_wp2
        have e := HT2.out.2
        rw [e] at HO6 HOW6
        exact ⟨HT2.out.1, ⟨HO6.out, HOW6.out, HN6.out, HCC.out⟩, HC6.out⟩
  case hstop =>
    rintro D W ⟨e2, e3, e5⟩ hD hdef
    have c0 : W.cell? ⟨O, 0, none⟩ = some (.slice (some ⟨R, 0, none⟩) n n) := cell_of_heap e2 0
    have E3 := Go.Lib.hid e3; have E5 := Go.Lib.hid e5; have HD := Go.Lib.hid hdef
    clear e2 e3 e5 hdef
    rw [← Haa.out]
    go_wp2
    try rw [Exit.noGoto_ret]
    have hrun := run_takeDeferred (P := Tryd.prog) HD.out
    refine ⟨by simp, .inl ⟨_, _, rfl, hrun, ?_⟩⟩
    have hpo : Ch (fun k => k = D) W (W.putObj D (.deferred none)) := Ch.putObj (S := fun k => k = D) (Ch.refl _ W) (fun _ => rfl) _
    have HO := own_ch E3.out hpo (fun g c e => by cases e; omega)
    obtain ⟨q, c, eq, hb⟩ := own_nil HO
    cases eq
    refine ⟨.tuple #[.slice (some ⟨R, 0, none⟩) n n, .int .i64 0], by simp [results, Tryd.results15, go_sem], _, _, rfl, by rw [HEE.out]; exact hb, E5.out.then hpo (fun i hi h => by omega)⟩
end Go.Proofs.YtikdpiedjkailaaDoor
