/- Bytes put together; what a child is expanded by. -/
import Derived.Test.YtikdpiedjkailaaDoorH9
import Derived.Lib.AppendStr
namespace Go.Proofs.YtikdpiedjkailaaDoor
open Go Go.RowKit

def byteAt (s : ByteArray) (i : Nat) : UInt8 := s.data.getD i 0
theorem str_fL (s : ByteArray) : Lib.strCells s = fL (byteAt s) s.size := by
  unfold Lib.strCells fL
  apply List.ext_getElem?
  intro i
  by_cases h : i < s.size
  · have h' : i < s.data.size := h
    simp [h', byteAt, h, Array.getD_eq_getD_getElem?]
  · have h' : ¬ i < s.data.size := h
    simp [h', h]

theorem own_nil2 {w : World} {base k : Nat} {v : Value} {F : Nat → UInt8} (h : w.ownsRow base 5 1 v k (fL F k)) : ∃ q c, v = .slice q k c ∧ BytesAt w q k c F ∧ ∀ ad, q = some ad → base ≤ ad.block := by
  obtain ⟨hlen, ⟨rfl, rfl⟩ | ⟨g, cap, cur, rfl, hbg, hg, hnc, hcm, hcs, htake⟩⟩ := h
  · exact ⟨none, 0, rfl, .inr ⟨rfl, rfl, rfl⟩, fun _ e => by cases e⟩
  · exact ⟨_, _, rfl, .inl ⟨g, 0, rfl, hnc, fun j hj => by rw [Nat.zero_add]; exact (cell_of_heap hg _).trans (fL_cur htake j hj)⟩, fun ad e => by cases e; exact hbg⟩
set_option maxRecDepth 100000 in
set_option maxHeartbeats 400000 in
theorem together_s2 (s : ByteArray) (q : Option Addr) (m d : Nat) (g : Nat → UInt8) (w : World) (hs : s.size ≤ 10000000000000) (hg : BytesAt w q m d g) (hm : m ≤ 10000000000000) :
    Calls Tryd.prog 44 #[.string s, .slice q m d] w fun e w' => ∃ r k, e = .returned (.slice r (s.size + m) k) ∧ BytesAt w' r (s.size + m) k (catB s.size (byteAt s) g) ∧ (∀ ad, r = some ad → w.heap.size ≤ ad.block) ∧ Ch (fun _ => False) w w' := by
  obtain ⟨i0, hi, hz0, hz1, hz2⟩ := info_parts info5
  have HG := Go.Lib.hid hg
  obtain ⟨w0, hr0, ho0, hg0⟩ := run_make_own (P := Tryd.prog) w w.heap.size 22 5 i0 (.int .u8 0) 1 Tryd.underlying22 hi hz0 hz1 .i64 .i64 (s.size + m) (by rw [hz2]; omega) (by simp [maxLen]; omega) (Nat.le_refl _)
  rw [Int.natCast_add] at hr0
  have HO0 := Go.Lib.hid ho0
  have HC0 := Go.Lib.hid (Ch.grown (Ch.refl (fun _ => False) w) hg0 (fun k hk => by cases hk))
  have HSF := Go.Lib.hid (str_fL s)
  have hsw := HC0.out.size
  clear ho0 hg0 hg
  go_enter Tryd.func44, Tryd.ntmps44
  go_wp2_with (at_builtin; first
    | (refine Lib.wpList_append_own_string _ rfl (.tmp 10) (.tmp 11) 22 9 rfl w.heap.size 5 i0 Tryd.underlying22 Tryd.underlying9 hi hz0 hz1 hz2 _ _ _ rfl HO0.out s rfl (by simp [maxLen]; omega) (by omega) hsw ?_
       intro v1 w1 hown1 hgrow1 _
       rw [Nat.zero_add, List.nil_append, HSF.out] at hown1
       have hc1 : Ch (fun _ => False) w w1 := Ch.grown HC0.out hgrow1 (fun k hk hlt => by have := (World.ownsRow.lt HO0.out) k hk; omega)
       have HO1 := Go.Lib.hid hown1; have HC1 := Go.Lib.hid hc1; clear hown1 hgrow1 hc1)
    | (refine wpList_append_bytes rfl (.tmp 12) (.tmp 13) rfl w.heap.size _ _ _ rfl HO1.out q m d g rfl (HG.out.ch HC1.out (fun _ _ h => h)) (by omega) HC1.out.size ?_
       intro v2 w2 hown2 hgrow2
       rw [fL_append (catB s.size (byteAt s) g) (byteAt s) g s.size m (fun j hj => by unfold catB; rw [if_pos hj]) (fun j hj => by unfold catB; rw [if_neg (by omega)]; congr 1; omega)] at hown2
       have hc2 : Ch (fun _ => False) w w2 := Ch.grown HC1.out hgrow2 (fun k hk hlt => by have := (World.ownsRow.lt HO1.out) k hk; omega)
       have HO2 := Go.Lib.hid hown2; have HC2 := Go.Lib.hid hc2; clear hown2 hgrow2 hc2))
  go_ret
  obtain ⟨r, k, rfl, hb, hge⟩ := own_nil2 HO2.out
  exact ⟨r, k, rfl, hb, hge, HC2.out⟩
theorem together_s (s : ByteArray) (q : Option Addr) (m d : Nat) (g : Nat → UInt8) (w : World) (hs : s.size ≤ 10000000000000) (hg : BytesAt w q m d g) (hm : m ≤ 10000000000000) :
    Calls Tryd.prog 44 #[.string s, .slice q m d] w fun e w' => ∃ r k, e = .returned (.slice r (s.size + m) k) ∧ BytesAt w' r (s.size + m) k (catB s.size (byteAt s) g) ∧ Ch (fun _ => False) w w' :=
  (together_s2 s q m d g w hs hg hm).mono fun _ _ ⟨r, k, h1, h2, _, h3⟩ => ⟨r, k, h1, h2, h3⟩

set_option maxRecDepth 100000 in
set_option maxHeartbeats 400000 in
theorem together_b (p q : Option Addr) (n m c d : Nat) (f g : Nat → UInt8) (w : World) (hf : BytesAt w p n c f) (hg : BytesAt w q m d g) (hn : n ≤ 10000000000000) (hm : m ≤ 10000000000000) :
    Calls Tryd.prog 48 #[.slice p n c, .slice q m d] w fun e w' => ∃ r k, e = .returned (.slice r (n + m) k) ∧ BytesAt w' r (n + m) k (catB n f g) ∧ Ch (fun _ => False) w w' := by
  obtain ⟨i0, hi, hz0, hz1, hz2⟩ := info_parts info5
  have HF := Go.Lib.hid hf
  have HG := Go.Lib.hid hg
  obtain ⟨w0, hr0, ho0, hg0⟩ := run_make_own (P := Tryd.prog) w w.heap.size 22 5 i0 (.int .u8 0) 1 Tryd.underlying22 hi hz0 hz1 .i64 .i64 (n + m) (by rw [hz2]; omega) (by simp [maxLen]; omega) (Nat.le_refl _)
  rw [Int.natCast_add] at hr0
  have HO0 := Go.Lib.hid ho0
  have HC0 := Go.Lib.hid (Ch.grown (Ch.refl (fun _ => False) w) hg0 (fun k hk => by cases hk))
  have hsw := HC0.out.size
  clear ho0 hg0 hg hf
  go_enter Tryd.func48, Tryd.ntmps48
  go_wp2_with (at_builtin; first
    | (refine wpList_append_bytes rfl (.tmp 10) (.tmp 11) rfl w.heap.size _ _ _ rfl HO0.out p n c f rfl (HF.out.ch HC0.out (fun _ _ h => h)) (by omega) hsw ?_
       intro v1 w1 hown1 hgrow1
       rw [Nat.zero_add, List.nil_append] at hown1
       have hc1 : Ch (fun _ => False) w w1 := Ch.grown HC0.out hgrow1 (fun k hk hlt => by have := (World.ownsRow.lt HO0.out) k hk; omega)
       have HO1 := Go.Lib.hid hown1; have HC1 := Go.Lib.hid hc1; clear hown1 hgrow1 hc1)
    | (refine wpList_append_bytes rfl (.tmp 12) (.tmp 13) rfl w.heap.size _ _ _ rfl HO1.out q m d g rfl (HG.out.ch HC1.out (fun _ _ h => h)) (by omega) HC1.out.size ?_
       intro v2 w2 hown2 hgrow2
       rw [fL_append (catB n f g) f g n m (fun j hj => by unfold catB; rw [if_pos hj]) (fun j hj => by unfold catB; rw [if_neg (by omega)]; congr 1; omega)] at hown2
       have hc2 : Ch (fun _ => False) w w2 := Ch.grown HC1.out hgrow2 (fun k hk hlt => by have := (World.ownsRow.lt HO1.out) k hk; omega)
       have HO2 := Go.Lib.hid hown2; have HC2 := Go.Lib.hid hc2; clear hown2 hgrow2 hc2))
  go_ret
  obtain ⟨r, k, rfl, hb⟩ := own_nil HO2.out
  exact ⟨r, k, rfl, hb, HC2.out⟩
end Go.Proofs.YtikdpiedjkailaaDoor
/- What a child is expanded by. -/
namespace Go.Proofs.YtikdpiedjkailaaDoor
open Go Go.RowKit

def u64n (N : Nat) : Int := (N : Int)
theorem b_shr64 (t : TypeId) (yk : IntKind) (N : Nat) (n : Int) (h0 : 0 ≤ n) (h : n ≤ 63) : binOp .shr t (.int .u64 (u64n N)) (.int yk n) = pure (.int .u64 (u64n (N / 2 ^ n.toNat))) := by
  show Op.shift .shr .u64 (u64n N) yk n = _
  obtain ⟨m, rfl⟩ := Int.eq_ofNat_of_zero_le h0
  simp only [Op.shift]
  rw [if_neg (by omega)]
  show pure (Value.int .u64 ((u64n N).fdiv (2 ^ min ((m : Int).toNat) 64))) = _
  rw [show min ((m : Int).toNat) 64 = m by omega]
  rw [Int.fdiv_eq_ediv_of_nonneg _ (by exact_mod_cast Nat.zero_le (2 ^ m))]
  simp [u64n]
theorem u64_byte (M : Nat) : u64n M % 256 = ((UInt8.ofNat M).toNat : Int) := by
  unfold u64n
  rw [UInt8.toNat_ofNat']
  omega
attribute [local go_sem high] b_shr64 u64_byte
/-- A number's eight bytes. -/
def numB (N : Nat) (k : Nat) : UInt8 := UInt8.ofNat (N / 2 ^ (56 - 8 * k))
theorem numB_val (N k : Nat) : u64n N / 2 ^ (56 - 8 * k) % 256 = ((numB N k).toNat : Int) := by
  unfold u64n numB
  rw [UInt8.toNat_ofNat']
  generalize 56 - 8 * k = e
  rw [Int.natCast_emod, Int.natCast_ediv, Int.natCast_pow]
  rfl
def bL (f : Nat → UInt8) (n : Nat) : List UInt8 := (List.range n).map f
def bS (f : Nat → UInt8) (n : Nat) : ByteArray := ⟨(bL f n).toArray⟩
theorem bL_len (f : Nat → UInt8) (n : Nat) : (bL f n).length = n := by simp [bL]
theorem bS_size (f : Nat → UInt8) (n : Nat) : (bS f n).size = n := by
  show (bL f n).toArray.size = n
  simp [bL]
theorem bS_at (f : Nat → UInt8) (n j : Nat) (h : j < n) : byteAt (bS f n) j = f j := by
  unfold byteAt bS bL
  simp [Array.getD_eq_getD_getElem?, h]
theorem conv_bytes {w : World} {p : Option Addr} {n c : Nat} {f : Nat → UInt8} (h : BytesAt w p n c f) : (convert 22 9 (.slice p n c)).run Tryd.prog w = .ok (.string (bS f n)) w := by
  rcases h with ⟨x, y, rfl, _, hb⟩ | ⟨rfl, rfl, rfl⟩
  · have hc := run_convert_bytes_back (P := Tryd.prog) w 22 9 5 ⟨x, y, none⟩ c (bL f n) Tryd.underlying22 Tryd.underlying5 Tryd.underlying9 (fun j hj => by
      rw [bL_len] at hj
      rw [show (⟨x, y, none⟩ : Addr).add j = ⟨x, y + j, none⟩ by simp [Addr.add]]
      rw [hb j hj]
      simp [bL])
    rw [bL_len] at hc
    exact hc
  · simp [convert, run_underlying Tryd.underlying22, run_underlying Tryd.underlying9, run_underlying Tryd.underlying5, bS, bL, go_sem, Conv.bytesToString]; rfl
def stepV (s : ByteArray) (N : Nat) : Array Value := #[.string s, .int .u64 (u64n N)]
set_option maxRecDepth 100000 in
set_option maxHeartbeats 1000000 in
theorem name_any (s : ByteArray) (N : Nat) (w : World) (hs : s.size ≤ 1000000000) :
    Calls Tryd.prog 32 #[.agg #[.string s, .int .u64 (u64n N)]] w fun e w' => ∃ x : ByteArray, e = .returned (.string x) ∧ x.size = s.size + 9 ∧ (∀ j, j < s.size + 9 → byteAt x j = catB (s.size + 1) (catB s.size (byteAt s) (fun _ => 0)) (numB N) j) ∧ Ch (fun _ => False) w w' := by
  go_enter Tryd.func32, Tryd.ntmps32
  go_wp2_with fail
  generalize hW1 : World.alloc _ _ = W1
  have hc1 : Ch (fun _ => False) w W1 := by rw [← hW1]; exact ((Ch.refl _ w).alloc _).alloc _
  have hh1 : W1.heap[w.heap.size]? = some (.cells #[.string s, .int .u64 (u64n N)] 44) := by
    rw [← hW1]; exact ((Ch.refl (fun _ => False) _).alloc _).heap (World.alloc_heap_new w _) id
  have hk1 : ∀ j, j < 8 → W1.cell? ⟨w.heap.size + 1, j, none⟩ = some (.int .u8 0) ∧ W1.frozen? ⟨w.heap.size + 1, j, none⟩ = false := by
    intro j hj
    have h : W1.heap[w.heap.size + 1]? = some (.cells (arr 8 fun _ => .int .u8 0) 97) := by
      rw [← hW1, ← World.size_alloc w (.cells #[.string s, .int .u64 (u64n N)] 44)]; exact World.alloc_heap_new _ _
    exact ⟨(cell_of_heap h j).trans (arr_get 8 _ j hj), frozen_of_heap h j⟩
  have HC1 := Go.Lib.hid hc1; have HH1 := Go.Lib.hid hh1; have HK1 := Go.Lib.hid hk1
  clear hW1 hc1 hh1 hk1
  go_loopw [5] (fun i wr => ∃ k : Nat, k ≤ 8 ∧ i = .int .i64 k ∧ (∀ t, t < 8 → wr.cell? ⟨w.heap.size + 1, t, none⟩ = some (.int .u8 ((if t < k then numB N t else 0).toNat : Int)) ∧ wr.frozen? ⟨w.heap.size + 1, t, none⟩ = false) ∧ Ch (fun q => q = w.heap.size + 1) W1 wr) (fun i _ => 8 - (intOf i).toNat)
  case atStart => exact ⟨0, by omega, rfl, fun t ht => ⟨(HK1.out t ht).1, (HK1.out t ht).2⟩, Ch.refl _ _⟩
  case round =>
    obtain ⟨k, hk, rfl, hcl, hC⟩ := hrel
    have HCL := Go.Lib.hid hcl; have HC := Go.Lib.hid hC
    clear hcl hC
    by_cases hlt : k < 8
    · obtain ⟨hv, hf⟩ := HCL.out k hlt
      rw [if_neg (by omega)] at hv
      have hst0 : wr.cell? ⟨w.heap.size, 0, none⟩ = some (.string s) := HC.out.get (cell_of_heap HH1.out 0) (show ¬ w.heap.size = w.heap.size + 1 by omega)
      have hst1 : wr.cell? ⟨w.heap.size, 1, none⟩ = some (.int .u64 (u64n N)) := HC.out.get (cell_of_heap HH1.out 1) (show ¬ w.heap.size = w.heap.size + 1 by omega)
      go_wp2_with fail
      go_roundw
      case rel =>
        refine ⟨k + 1, by omega, by go_num, fun t ht => ⟨?_, ?_⟩, Ch.setCell (S := fun q => q = w.heap.size + 1) HC.out (p := ⟨w.heap.size + 1, k, none⟩) (fun _ => rfl) _⟩
        · by_cases e : t = k
          · subst e
            rw [if_pos (by omega), ← numB_val]; exact World.cell?_setCell_same _ _ _ hv
          · rw [World.cell?_setCell_other _ _ _ _ (fun h => e (by cases h; rfl)), (HCL.out t ht).1]
            by_cases e2 : t < k
            · rw [if_pos e2, if_pos (by omega)]
            · rw [if_neg e2, if_neg (by omega)]
        · rw [World.frozen?_setCell]; exact (HCL.out t ht).2
      case measure => simp [intOf]; omega
    · obtain rfl : k = 8 := by omega
      have HST := Go.Lib.hid (HC.out.get (cell_of_heap HH1.out 0) (show ¬ w.heap.size = w.heap.size + 1 by omega))
      have HNB := Go.Lib.hid (fun W (hc : Ch (fun _ => False) wr W) => (show BytesAt W (some ⟨w.heap.size + 1, 0, none⟩) 8 8 (numB N) from .inl ⟨w.heap.size + 1, 0, rfl, Nat.le_refl _, fun j hj => by
        rw [Nat.zero_add, hc.get (HCL.out j hj).1 id, if_pos hj]⟩))
      have HCW := Go.Lib.hid (HC1.out.then HC.out (fun i hi h => by omega))
      have HTS := Go.Lib.hid (fun W g (h : W.heap[g]? = some (.cells #[.int .u8 0] 5)) => together_s s (some ⟨g, 0, none⟩) 1 1 (fun _ => 0) W (by omega) (.inl ⟨g, 0, rfl, by omega, fun j hj => by
        obtain rfl : j = 0 := by omega
        exact cell_of_heap h 0⟩) (by omega))
      have HTB := Go.Lib.hid (fun W q d (h : BytesAt W q (s.size + 1) d (catB s.size (byteAt s) fun _ => 0)) (h2 : BytesAt W (some ⟨w.heap.size + 1, 0, none⟩) 8 8 (numB N)) => together_b q (some ⟨w.heap.size + 1, 0, none⟩) (s.size + 1) 8 d 8 _ _ W h h2 (by omega) (by omega))
      clear HC1 HH1 HK1 HCL HC
      go_upto_region 7 with (fail)
      generalize hax : Act.mk _ _ = ax
      have HSZ := Go.Lib.hid (show ax.tmps.size = 25 by rw [← hax]; rfl)
      have F1 := Go.Lib.hid (show gt ax 1 = .pointer (some ⟨w.heap.size, 0, none⟩) by rw [← hax]; rfl)
      have F3 := Go.Lib.hid (show gt ax 3 = .pointer (some ⟨w.heap.size + 1, 0, none⟩) by rw [← hax]; rfl)
      have HAX := Go.Lib.hid hax
      clear hax
      have HND := Go.Lib.hid (show ([18, 19, 20, 21, 22] : List Nat).Nodup by decide)
      have HLS : Hid (Lasts [(18, fun x _ => x = .pointer (some ⟨w.heap.size, 0, none⟩)), (19, fun x _ => x = .string s), (20, fun x v => ∃ g, x = .slice (some ⟨g, 0, none⟩) 1 1 ∧ v.heap[g]? = some (.cells #[.int .u8 0] 5)), (21, fun x v => ∃ q d, x = .slice q (s.size + 1) d ∧ BytesAt v q (s.size + 1) d (catB s.size (byteAt s) fun _ => 0)), (22, fun x _ => x = .slice (some ⟨w.heap.size + 1, 0, none⟩) 8 8)]) := Go.Lib.hid (by
        intro p hp v w1 w2 hc h
        simp only [List.mem_cons, List.not_mem_nil, or_false] at hp
        rcases hp with rfl | rfl | rfl | rfl | rfl
        all_goals first | exact h | (obtain ⟨g, h1, h2⟩ := h; exact ⟨g, h1, hc.heap h2 id⟩) | (obtain ⟨g, c, h1, h2⟩ := h; exact ⟨g, c, h1, h2.ch hc (fun _ _ h => h)⟩))
      refine wp_region_open_tail 5 (InvQ 25 [(18, fun x _ => x = .pointer (some ⟨w.heap.size, 0, none⟩)), (19, fun x _ => x = .string s), (20, fun x v => ∃ g, x = .slice (some ⟨g, 0, none⟩) 1 1 ∧ v.heap[g]? = some (.cells #[.int .u8 0] 5)), (21, fun x v => ∃ q d, x = .slice q (s.size + 1) d ∧ BytesAt v q (s.size + 1) d (catB s.size (byteAt s) fun _ => 0)), (22, fun x _ => x = .slice (some ⟨w.heap.size + 1, 0, none⟩) 8 8)] (fun _ w' => Ch (fun _ => False) wr w') ax) (by kernel_rfl) (by kernel_rfl) (InvQ.start (by simp) HSZ.out (Ch.refl _ _).drew) ?_ ?_
      · intro L a w' i hI hr hlt
        obtain ⟨h1, o, ho, hall⟩ := mem_ready.1 hr
        have hsplit : i = 0 ∨ i = 1 ∨ i = 2 ∨ i = 3 ∨ i = 4 := by omega
        clear hlt h1 hr
        rcases hsplit with rfl | rfl | rfl | rfl | rfl
        · have q1 := (hI.fixed 1 (by simp)).trans F1.out
          unfold gt at q1
          clear hall
          refine wpOp_step (o := _) rfl (fun K' hK' => ?_)
          go_simp
          exact hK' _ _ (hI.put 0 rfl (by decide) HND.out HLS.out  (Ch.refl _ _) rfl hI.wld)
        · simp at ho
          have e0 : lg L 0 = true := by unfold lg; simpa using hall ⟨0, .data⟩ (by rw [← ho]; simp) rfl
          have f0 : gt a 18 = .pointer (some ⟨w.heap.size, 0, none⟩) := hI.val 0 _ rfl e0
          have hst := hI.wld.get HST.out id
          unfold gt at f0
          clear hall
          clear ho
          refine wpOp_step (o := _) rfl (fun K' hK' => ?_)
          go_simp
          exact hK' _ _ (hI.put 1 rfl (by decide) HND.out HLS.out  (Ch.refl _ _) rfl hI.wld)
        · clear hall
          refine wpOp_step (o := _) rfl (fun K' hK' => ?_)
          go_simp
          exact hK' _ _ (hI.put 2 rfl (by decide) HND.out HLS.out  ((Ch.refl _ _).alloc _) ⟨_, rfl, World.alloc_heap_new w' _⟩ (hI.wld.alloc _))
        · simp at ho
          have e1 : lg L 1 = true := by unfold lg; simpa using hall ⟨1, .data⟩ (by rw [← ho]; simp) rfl
          have f1 : gt a 19 = .string s := hI.val 1 _ rfl e1
          have e2 : lg L 2 = true := by unfold lg; simpa using hall ⟨2, .data⟩ (by rw [← ho]; simp) rfl
          obtain ⟨g2, f2, hh2⟩ : ∃ g, gt a 20 = .slice (some ⟨g, 0, none⟩) 1 1 ∧ w'.heap[g]? = some (.cells #[.int .u8 0] 5) := hI.val 2 _ rfl e2
          unfold gt at f1 f2
          clear hall
          clear ho
          have HCT := Go.Lib.hid (HTS.out w' g2 hh2)
          refine wpOp_step (o := _) rfl (fun K' hK' => ?_)
          go_simp
          refine HCT.out.mono ?_
          rintro e w3 ⟨q, d, rfl, hq, hc⟩
          exact hK' _ _ (hI.put 3 rfl (by decide) HND.out HLS.out hc ⟨q, d, rfl, hq⟩ (hI.wld.trans hc))
        · have q3 := (hI.fixed 3 (by simp)).trans F3.out
          unfold gt at q3
          clear hall
          refine wpOp_step (o := _) rfl (fun K' hK' => ?_)
          go_simp
          exact hK' _ _ (hI.put 4 rfl (by decide) HND.out HLS.out  (Ch.refl _ _) rfl hI.wld)
      · intro L a w' hI hal
        have hfr := hI.frame HSZ.out (by simp) (fun i hi => hal i hi)
        have k0 : gt a 18 = .pointer (some ⟨w.heap.size, 0, none⟩) := hI.val 0 _ rfl (hal 0 (by decide))
        have k1 : gt a 19 = .string s := hI.val 1 _ rfl (hal 1 (by decide))
        obtain ⟨g2, k2, hh2⟩ : ∃ g, gt a 20 = .slice (some ⟨g, 0, none⟩) 1 1 ∧ w'.heap[g]? = some (.cells #[.int .u8 0] 5) := hI.val 2 _ rfl (hal 2 (by decide))
        have H2 := Go.Lib.hid hh2
        obtain ⟨g3, c3, k3, hh3⟩ : (fun x v => ∃ q d, x = .slice q (s.size + 1) d ∧ BytesAt v q (s.size + 1) d (catB s.size (byteAt s) fun _ => 0)) (gt a 21) w' := hI.val 3 _ rfl (hal 3 (by decide))
        have H3 := Go.Lib.hid hh3
        have k4 : gt a 22 = .slice (some ⟨w.heap.size + 1, 0, none⟩) 8 8 := hI.val 4 _ rfl (hal 4 (by decide))
        rw [hfr, ← HAX.out]
        have HCR := Go.Lib.hid hI.wld
        simp only [List.map_cons, List.map_nil, List.foldl_cons, List.foldl_nil, k0, k1, k2, k3, k4, List.setIfInBounds_toArray, List.set_cons_succ, List.set_cons_zero]
        clear hfr hI hal k0 k1 k2 k3 k4 hh2 hh3 HSZ HND HLS HAX F1 F3
        simp only [List.drop_succ_cons, List.drop_zero]
        have HC := Go.Lib.hid (HCW.out.trans HCR.out)
        have HB2 := Go.Lib.hid (HTB.out w' g3 c3 H3.out (HNB.out w' HCR.out))
        clear HCW HNB HCR HTS HTB
        go_wp2_with fail
        refine HB2.out.mono ?_
        rintro e w5 ⟨q, d, rfl, hb5, hc5⟩
        have hcv := conv_bytes hb5
        have HC5 := Go.Lib.hid (HC.out.trans hc5)
        have HSZ := Go.Lib.hid (bS_size (catB (s.size + 1) (catB s.size (byteAt s) fun _ => 0) (numB N)) (s.size + 1 + 8))
        have HAT := Go.Lib.hid (bS_at (catB (s.size + 1) (catB s.size (byteAt s) fun _ => 0) (numB N)) (s.size + 1 + 8))
        generalize bS (catB (s.size + 1) (catB s.size (byteAt s) fun _ => 0) (numB N)) (s.size + 1 + 8) = X at *
        clear hb5 hc5 HC HB2
        go_wp2_with fail
        go_ret
        exact ⟨X, rfl, HSZ.out, fun j hj => HAT.out j (by omega), HC5.out⟩
end Go.Proofs.YtikdpiedjkailaaDoor
