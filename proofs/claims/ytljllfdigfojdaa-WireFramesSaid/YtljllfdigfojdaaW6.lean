/- The reference's Split. -/
import Derived.Test.YtljllfdigfojdaaW2
import Derived.Test.YtljllfdigfojdaaT22
import Derived.Test.YtljllfdigfojdaaV16
import Derived.Test.YtljllfdigfojdaaV15
import Derived.Laws.AppendOwn
namespace Go.Proofs.Ytljllfdigfojdaa
open Go Go.RowKit

theorem wrap64_of {x : Int} (h1 : -9223372036854775808 ≤ x) (h2 : x ≤ 9223372036854775807) : wrap64 x = x := by
  simp [wrap64]; omega
/-- What the reference's Split tells. -/
def RsTold (f : Nat → UInt8) (n x0 : Nat) (w : World) (e : Ending) (w' : World) : Prop :=
  Ch (fun _ => False) w w' ∧ ((∃ no, splitR f n = .inr no ∧ e = .returned (.tuple #[.slice none 0 0, .int .i64 0, .int .i64 no])) ∨
    (∃ k m q d, splitR f n = .inl (k, m) ∧ k + (m + 4) ≤ n ∧ e = .returned (.tuple #[.slice q m d, .int .i64 ((k + (m + 4) : Nat) : Int), .int .i64 0]) ∧ BytesAt w' q m d (fun j => f (k + j)) ∧ ∀ ad, q = some ad → ad.block = x0))
set_option maxRecDepth 100000 in
set_option maxHeartbeats 2000000 in
theorem rsplit_no (p : Option Addr) (n c x0 : Nat) (f : Nat → UInt8) (w : World) (hb : BytesAt w p n c f) (hn : n ≤ 1000000000) (no : Int) (ho : (outS f n = .lack ∧ no = 0) ∨ (outS f n = .wrong ∧ no = 141)) :
    Calls Try.prog 31 #[.slice p n c] w fun e w' => e = .returned (.tuple #[.slice none 0 0, .int .i64 0, .int .i64 no]) ∧ Ch (fun _ => False) w w' := by
  have HF := Go.Lib.hid (first_any p n c f w hb (by omega))
  unfold fstN at HF
  have HRK := Go.Lib.hid (show ∀ v k, rdN f n = .got v k → 1 ≤ k ∧ k ≤ n from fun v k hr => by
    unfold rdN at hr
    split at hr
    · cases hr
    · split at hr
      · cases hr; omega
      · split at hr
        · cases hr
        · split at hr
          · cases hr
          · cases hr; omega)
  unfold outS at ho
  cases hr : rdN f n with
  | lack =>
    rw [hr] at HF ho
    obtain rfl : no = 0 := by rcases ho with ⟨_, h⟩ | ⟨h, _⟩ <;> first | exact h | cases h
    clear hr ho hb
    go_enter Try.func31, Try.ntmps31
    go_wp2_with (go_at_call 73; refine HF.out.mono ?_; rintro e w1 ⟨rfl, hc⟩; have HC := Go.Lib.hid hc; clear hc)
    refine bodyPost_ret (v := .tuple #[.slice none 0 0, .int .i64 0, .int .i64 0]) (by simp [results, Try.results31, go_sem]) rfl ⟨rfl, HC.out⟩
  | wrong =>
    rw [hr] at HF ho
    obtain rfl : no = 141 := by rcases ho with ⟨h, _⟩ | ⟨_, h⟩ <;> first | exact h | cases h
    clear hr ho hb
    go_enter Try.func31, Try.ntmps31
    go_wp2_with (go_at_call 73; refine HF.out.mono ?_; rintro e w1 ⟨rfl, hc⟩; have HC := Go.Lib.hid hc; clear hc)
    refine bodyPost_ret (v := .tuple #[.slice none 0 0, .int .i64 0, .int .i64 141]) (by simp [results, Try.results31, go_sem]) rfl ⟨rfl, HC.out⟩
  | got v k =>
    obtain ⟨hk1, hkn⟩ := HRK.out v k hr
    rw [hr] at HF ho
    simp only at HF ho
    have hk0 : ((k : Int) == 0) = false := by simp; omega
    have hk2 : ¬ (k : Int) < 0 := by omega
    clear hr hb HRK
    by_cases hv4 : v < 4
    · have h4 : (v : Int) < 4 := by omega
      rw [if_pos (.inr hv4)] at ho
      obtain rfl : no = 141 := by rcases ho with ⟨h, _⟩ | ⟨_, h⟩ <;> first | exact h | cases h
      clear ho hv4 hk1
      go_enter Try.func31, Try.ntmps31
      go_wp2_with (go_at_call 73; refine HF.out.mono ?_; rintro e w1 ⟨rfl, hc⟩; have HC := Go.Lib.hid hc; clear hc)
      refine bodyPost_ret (v := .tuple #[.slice none 0 0, .int .i64 0, .int .i64 141]) (by simp [results, Try.results31, go_sem]) rfl ⟨rfl, HC.out⟩
    · have h4 : ¬ (v : Int) < 4 := by omega
      by_cases hv8 : 8196 < v
      · have h8 : (8196 : Int) < (v : Int) := by omega
        rw [if_pos (.inl hv8)] at ho
        obtain rfl : no = 141 := by rcases ho with ⟨h, _⟩ | ⟨_, h⟩ <;> first | exact h | cases h
        clear ho hv4 hv8 hk1
        go_enter Try.func31, Try.ntmps31
        go_wp2_with (go_at_call 73; refine HF.out.mono ?_; rintro e w1 ⟨rfl, hc⟩; have HC := Go.Lib.hid hc; clear hc)
        refine bodyPost_ret (v := .tuple #[.slice none 0 0, .int .i64 0, .int .i64 141]) (by simp [results, Try.results31, go_sem]) rfl ⟨rfl, HC.out⟩
      · have h8 : ¬ (8196 : Int) < (v : Int) := by omega
        rw [if_neg (by omega)] at ho
        by_cases hkv : n < k + v
        · rw [if_pos hkv] at ho
          obtain rfl : no = 0 := by rcases ho with ⟨_, h⟩ | ⟨h, _⟩ <;> first | exact h | cases h
          have hlt : (n : Int) - (k : Int) < (v : Int) := by omega
          have hw1 : wrap64 ((n : Int) - (k : Int)) = (n : Int) - (k : Int) := wrap64_of (by omega) (by omega)
          clear ho hv4 hv8 hk1 hkv
          go_enter Try.func31, Try.ntmps31
          go_wp2_with (go_at_call 73; refine HF.out.mono ?_; rintro e w1 ⟨rfl, hc⟩; have HC := Go.Lib.hid hc; clear hc)
          refine bodyPost_ret (v := .tuple #[.slice none 0 0, .int .i64 0, .int .i64 0]) (by simp [results, Try.results31, go_sem]) rfl ⟨rfl, HC.out⟩
        · rw [if_neg hkv] at ho
          rcases ho with ⟨h, _⟩ | ⟨h, _⟩ <;> cases h
set_option maxRecDepth 100000 in
set_option maxHeartbeats 2000000 in
theorem rsplit_got (p : Option Addr) (n c x0 : Nat) (f : Nat → UInt8) (w : World) (hb : BytesAt w p n c f) (hblk : ∀ ad, p = some ad → ad.block = x0) (m k : Nat) (ho : outS f n = .got (m + 4) k) (hn : n ≤ 1000000000) :
    Calls Try.prog 31 #[.slice p n c] w (RsTold f n x0 w) := by
  have HF := Go.Lib.hid (first_any p n c f w hb (by omega))
  unfold fstN at HF
  obtain ⟨_, hm8, hkn, hk1⟩ := outS_got ho
  have hr : rdN f n = .got (m + 4) k := by
    unfold outS at ho
    cases hr : rdN f n with
    | lack => rw [hr] at ho; cases ho
    | wrong => rw [hr] at ho; cases ho
    | got v q =>
      rw [hr] at ho
      simp only at ho
      split at ho
      · cases ho
      · split at ho
        · cases ho
        · cases ho; rfl
  rw [hr] at HF
  simp only at HF
  have HSR := Go.Lib.hid (show splitR f n = if sumOK f k m then .inl (k, m) else .inr 130 by unfold splitR; rw [ho]; rfl)
  obtain ⟨x, y, rfl, hnc, hxl, hcell⟩ : ∃ x y, p = some ⟨x, y, none⟩ ∧ n ≤ c ∧ x < w.heap.size ∧ ∀ j, j < n → w.cell? ⟨x, y + j, none⟩ = some (.int .u8 ((f j).toNat : Int)) := by
    rcases hb with h | ⟨h, _⟩
    · exact h
    · omega
  have HRO := Go.Lib.hid (fun W (hc : Ch (fun _ => False) w W) => ropen_long (some ⟨x, y + k, none⟩) m (c - k) (fun j => f (k + j)) W (by omega) (by omega) (.inl ⟨x, y + k, rfl, by omega, Nat.lt_of_lt_of_le hxl hc.size, fun j hj => by rw [Nat.add_assoc]; exact hc.get (hcell (k + j) (by omega)) id⟩))
  have HBB := Go.Lib.hid (fun W (hc : Ch (fun _ => False) w W) => (show BytesAt W (some ⟨x, y + k, none⟩) m (c - k) (fun j => f (k + j)) from .inl ⟨x, y + k, rfl, by omega, Nat.lt_of_lt_of_le hxl hc.size, fun j hj => by rw [Nat.add_assoc]; exact hc.get (hcell (k + j) (by omega)) id⟩))
  have HBL := Go.Lib.hid hblk; have HKN := Go.Lib.hid hkn
  have hk0 : ((k : Int) == 0) = false := by simp; omega
  have hk2 : ¬ (k : Int) < 0 := by omega
  have h4 : ¬ ((m + 4 : Nat) : Int) < 4 := by omega
  have h8 : ¬ (8196 : Int) < ((m + 4 : Nat) : Int) := by omega
  have hlt : ¬ (n : Int) - (k : Int) < ((m + 4 : Nat) : Int) := by omega
  have hw1 : wrap64 ((n : Int) - (k : Int)) = (n : Int) - (k : Int) := wrap64_of (by omega) (by omega)
  have hw2 : wrap64 ((k : Int) + ((m + 4 : Nat) : Int)) = ((k + (m + 4) : Nat) : Int) := by rw [wrap64_of (by omega) (by omega)]; omega
  have hle1 : (k : Int) ≤ ((k + (m + 4) : Nat) : Int) := by omega
  have hle2 : ((k + (m + 4) : Nat) : Int) ≤ (c : Int) := by omega
  have hkc : ¬ c = k := by omega
  generalize hs : k + (m + 4) = s at *
  have HS := Go.Lib.hid (show s - k = m + 4 by omega)
  generalize hv : m + 4 = v at *
  have HV := Go.Lib.hid hv; have HSS := Go.Lib.hid hs
  have hg1 : (0 : Int) ≤ (k : Int) + (v : Int) := by omega
  have hg2 : (k : Int) + (v : Int) ≤ (c : Int) := by omega
  have htn : ((k : Int) + (v : Int)).toNat = s := by omega
  have hks : k ≤ s := by omega
  clear hr ho hb hm8 hkn hk1 hnc hxl hcell hblk hs hv hw2 hle1 hle2
  go_enter Try.func31, Try.ntmps31
  go_wp2_with (go_at_call 73; refine HF.out.mono ?_; rintro e w1 ⟨rfl, hc⟩; have HC := Go.Lib.hid hc; clear hc)
  rw [HS.out]
  refine (HRO.out _ HC.out).mono ?_
  rintro e w2 ⟨hc2, ⟨hf, rfl⟩ | ⟨ht, rfl⟩⟩
  · have HC2 := Go.Lib.hid (HC.out.trans hc2); have HX := Go.Lib.hid hf
    clear hc2 hf
    go_wp2_with fail
    refine bodyPost_ret (v := .tuple #[.slice none 0 0, .int .i64 0, .int .i64 130]) (by simp [results, Try.results31, go_sem]) rfl ⟨HC2.out, .inl ⟨130, ?_, rfl⟩⟩
    rw [HSR.out, if_neg]
    unfold sumOK
    rw [HV.out, HX.out]; decide
  · have HC2 := Go.Lib.hid (HC.out.trans hc2); have HX := Go.Lib.hid ht
    clear hc2 ht
    go_wp2_with fail
    refine bodyPost_ret (v := .tuple #[.slice (some ⟨x, y + k, none⟩) m (c - k), .int .i64 ((k : Int) + (v : Int)), .int .i64 0]) (by simp [results, Try.results31, go_sem]) rfl ⟨HC2.out, .inr ⟨k, m, some ⟨x, y + k, none⟩, c - k, ?_, ?_, ?_, HBB.out _ HC2.out, ?_⟩⟩
    · rw [HSR.out, if_pos]
      unfold sumOK
      rw [HV.out]; exact HX.out
    · rw [HV.out, HSS.out]; exact HKN.out
    · have := HSS.out; have := HV.out
      rw [show ((k : Int) + (v : Int)) = ((k + (m + 4) : Nat) : Int) by omega]
    · intro ad e; cases e; exact (show x = x0 from HBL.out ⟨x, y, none⟩ rfl)
/-- The reference's Split, of whatever bytes. -/
theorem rsplit_any (p : Option Addr) (n c x0 : Nat) (f : Nat → UInt8) (w : World) (hb : BytesAt w p n c f) (hblk : ∀ ad, p = some ad → ad.block = x0) (hn : n ≤ 1000000000) : Calls Try.prog 31 #[.slice p n c] w (RsTold f n x0 w) := by
  cases ho : outS f n with
  | lack =>
    refine (rsplit_no p n c x0 f w hb hn 0 (.inl ⟨ho, rfl⟩)).mono ?_
    rintro e w' ⟨rfl, hc⟩
    exact ⟨hc, .inl ⟨0, by unfold splitR; rw [ho], rfl⟩⟩
  | wrong =>
    refine (rsplit_no p n c x0 f w hb hn 141 (.inr ⟨ho, rfl⟩)).mono ?_
    rintro e w' ⟨rfl, hc⟩
    exact ⟨hc, .inl ⟨141, by unfold splitR; rw [ho], rfl⟩⟩
  | got L k =>
    obtain ⟨h4, _⟩ := outS_got ho
    obtain ⟨m, rfl⟩ : ∃ m, L = m + 4 := ⟨L - 4, by omega⟩
    exact rsplit_got p n c x0 f w hb hblk m k ho hn
end Go.Proofs.Ytljllfdigfojdaa
/- The reference's Frame and Frames. -/
namespace Go.Proofs.Ytljllfdigfojdaa
open Go Go.RowKit

set_option maxRecDepth 100000 in
theorem rframe_ok (p : Option Addr) (n c : Nat) (f : Nat → UInt8) (w : World) (hb : BytesAt w p n c f) (hn : n ≤ 8192) :
    Calls Try.prog 32 #[.slice p n c] w fun e w' => ∃ v', e = .returned v' ∧ w'.ownsRow w.heap.size 5 1 v' (frL n) (fL (frB f n) (frL n)) ∧ Ch (fun _ => False) w w' := by
  have HS := Go.Lib.hid (rseal_any p n c f w hb (by omega))
  have HNN := Go.Lib.hid (fun W => rnum_any (n + 4) W (by omega))
  have HSL := Go.Lib.hid (frB_seal f n)
  have HNB := Go.Lib.hid (show fL (numB (n + 4)) (numL (n + 4)) = fL (frB f n) (numL (n + 4)) by
    unfold fL
    exact List.map_congr_left (fun j hj => by rw [frB_num f n j (List.mem_range.1 hj)]))
  have HFL := Go.Lib.hid (show frL n = numL (n + 4) + (n + 4) from rfl)
  have hnl := numL_le (n + 4)
  clear hb
  rw [HFL.out]
  rw [HNB.out] at HNN
  generalize numL (n + 4) = nl at *
  generalize frB f n = FR at *
  generalize sealF f n = SF at *
  clear HNB HFL
  go_enter Try.func32, Try.ntmps32
  go_wp2_with fail
  refine HS.out.mono ?_
  rintro e w2 ⟨v2, rfl, ho, hc⟩
  obtain ⟨p2, c2, rfl, hb2⟩ := own_bytes ho
  have HB2 := Go.Lib.hid hb2; have HC2 := Go.Lib.hid hc
  clear ho hb2 hc HS
  go_wp2_with fail
  refine (HNN.out w2).mono ?_
  rintro e w3 ⟨v3, rfl, ho, hg⟩
  obtain ⟨p3, c3, rfl, -⟩ := own_bytes ho
  have HO3 := Go.Lib.hid (show w3.ownsRow w.heap.size 5 1 (.slice p3 nl c3) nl (fL FR nl) from by
    refine ⟨ho.1, ho.2.imp id ?_⟩
    rintro ⟨g, cap, cur, e, hb, h⟩
    exact ⟨g, cap, cur, e, Nat.le_trans HC2.out.size hb, h⟩)
  have HC3 := Go.Lib.hid (HC2.out.trans hg); have HB3 := Go.Lib.hid (HB2.out.ch hg (fun _ _ => id))
  have hsz := HC3.out.size
  clear ho hg HNN HB2
  go_wp2_with (at_builtin; refine wpList_append_row rfl (.tmp 8) (.tmp 9) rfl w.heap.size nl (n + 4) (.slice p3 nl c3) FR SF rfl HO3.out p2 c2 rfl HB3.out (by omega) (fun j _ => HSL.out j) (by omega) hsz ?_; intro v4 w4 ho4 hg4; have HO4 := Go.Lib.hid ho4; have HC4 := Go.Lib.hid (HC3.out.then hg4.ch (fun g hg e => by have := (HO3.out.lt g e).1; omega)); clear ho4 hg4)
  refine bodyPost_ret (v := v4) (by simp [results, Try.results32, go_sem]) rfl ⟨v4, rfl, HO4.out, HC4.out⟩
/-- The cells of the first parts. -/
def partsL (off mm : Nat → Nat) (qs : Nat → Option Addr) (ds : Nat → Nat) : Nat → List Value
  | 0 => []
  | t + 1 => partsL off mm qs ds t ++ [.int .i64 (off (t + 1) : Nat), .slice (qs t) (mm t) (ds t)]
theorem partsL_len (off mm : Nat → Nat) (qs : Nat → Option Addr) (ds : Nat → Nat) : ∀ t, (partsL off mm qs ds t).length = t * 2
  | 0 => rfl
  | t + 1 => by unfold partsL; rw [List.length_append, partsL_len off mm qs ds t]; simp; omega
theorem partsL_congr {off mm : Nat → Nat} {qs qs' : Nat → Option Addr} {ds ds' : Nat → Nat} : ∀ t, (∀ i, i < t → qs i = qs' i ∧ ds i = ds' i) → partsL off mm qs ds t = partsL off mm qs' ds' t
  | 0, _ => rfl
  | t + 1, h => by unfold partsL; rw [partsL_congr t (fun i hi => h i (by omega)), (h t (by omega)).1, (h t (by omega)).2]
theorem partsL_at (off mm : Nat → Nat) (qs : Nat → Option Addr) (ds : Nat → Nat) : ∀ t i, i < t → (partsL off mm qs ds t)[i * 2]? = some (.int .i64 (off (i + 1) : Nat)) ∧ (partsL off mm qs ds t)[i * 2 + 1]? = some (.slice (qs i) (mm i) (ds i))
  | 0, i, h => by omega
  | t + 1, i, h => by
    unfold partsL
    have hl := partsL_len off mm qs ds t
    by_cases e : i = t
    · subst e
      constructor
      · rw [List.getElem?_append_right (by omega), hl]; simp
      · rw [List.getElem?_append_right (by omega), hl, show i * 2 + 1 - i * 2 = 1 by omega]; rfl
    · have h1 := partsL_at off mm qs ds t i (by omega)
      rw [List.getElem?_append_left (by omega), List.getElem?_append_left (by omega)]
      exact h1
theorem info86m : (Try.prog.info? 86).map (fun i => (i.zero, i.size, i.bytes)) = some (some (.agg #[.int .i64 0, .slice none 0 0]), 2, 32) := by kernel_rfl
theorem info86 : ∃ i, Try.prog.info? 86 = some i ∧ i.zero = some (.agg #[.int .i64 0, .slice none 0 0]) ∧ i.size = 2 ∧ i.bytes = 32 := info_parts info86m
end Go.Proofs.Ytljllfdigfojdaa
/- The reference's Frames. -/
namespace Go.Proofs.Ytljllfdigfojdaa
open Go Go.RowKit

theorem BytesAt.fromC {w : World} {p : Option Addr} {n c L : Nat} {f : Nat → UInt8} (h : BytesAt w p n c f) (hL : L ≤ n) (hc : c = L) : BytesAt w p (n - L) 0 (shiftF f L) := by
  refine .inr ⟨?_, fun _ => rfl⟩
  rcases h with ⟨_, _, _, h1, _⟩ | ⟨h1, _⟩ <;> omega
theorem own_chS {e : TypeId} {w w' : World} {Z z k : Nat} {v : Value} {xs : List Value} {S : Nat → Prop} (h : w.ownsRow Z e z v k xs) (hc : Ch S w w') (hs : ∀ q, v.ownBlock = some q → ¬ S q) : w'.ownsRow Z e z v k xs := by
  refine ⟨h.1, ?_⟩
  rcases h.2 with hn | ⟨g, cap, cur, rfl, h1, h2, h3⟩
  · exact .inl hn
  · exact .inr ⟨g, cap, cur, rfl, h1, hc.heap h2 (hs g rfl), h3⟩
theorem two_news (w : World) (x y : Value) (t : TypeId) : ∀ j u, [x, y][j]? = some u → (w.alloc (.cells #[x, y] t)).cell? ((⟨w.heap.size, 0, none⟩ : Addr).add j) = some u := fun j u h => by
  match j, h with
  | 0, h => cases h; exact cell_fresh w #[x, y] t 0
  | 1, h => cases h; exact cell_fresh w #[x, y] t 1
/-- The bodies of the first frames lie in memory. -/
def BodiesAt (w : World) (F : Nat → UInt8) (off kk mm : Nat → Nat) (qs : Nat → Option Addr) (ds : Nat → Nat) (x0 t : Nat) : Prop :=
  ∀ i, i < t → BytesAt w (qs i) (mm i) (ds i) (fun j => F (off i + (kk i + j))) ∧ ∀ ad, qs i = some ad → ad.block = x0
theorem BodiesAt.ch {w w' : World} {F : Nat → UInt8} {off kk mm : Nat → Nat} {qs : Nat → Option Addr} {ds : Nat → Nat} {x0 t : Nat} {S : Nat → Prop} (h : BodiesAt w F off kk mm qs ds x0 t) (hc : Ch S w w') (hx : ¬ S x0) : BodiesAt w' F off kk mm qs ds x0 t :=
  fun i hi => ⟨(h i hi).1.but hc (h i hi).2 hx, (h i hi).2⟩
set_option maxRecDepth 100000 in
set_option maxHeartbeats 4000000 in
theorem rframes_any (p : Option Addr) (n c x0 : Nat) (F : Nat → UInt8) (w : World) (T : Nat) (off kk mm : Nat → Nat) (hq : FrSeq F n T off kk mm) (hb : BytesAt w p n c F) (hblk : ∀ ad, p = some ad → ad.block = x0) (hx0 : x0 < w.heap.size) (hn : n ≤ 1000000000) :
    Calls Try.prog 34 #[.slice p n c] w fun e w' => ∃ v qs ds, e = .returned v ∧ w'.ownsRow w.heap.size 86 2 v T (partsL off mm qs ds T) ∧ BodiesAt w' F off kk mm qs ds x0 T ∧ Ch (fun _ => False) w w' := by
  have HQ := Go.Lib.hid hq; have HB := Go.Lib.hid hb; have HBL := Go.Lib.hid hblk; have HX := Go.Lib.hid hx0
  clear hq hb hblk hx0
  obtain ⟨i0, hi, hz0, hz1, hz2⟩ := info86
  have HI := Go.Lib.hid hi; have HZ0 := Go.Lib.hid hz0; have HZ1 := Go.Lib.hid hz1; have HZ2 := Go.Lib.hid hz2
  clear hi hz0 hz1 hz2
  go_enter Try.func34, Try.ntmps34
  go_wp2_with fail
  go_loopg [3, 4] T (fun gk u ix wr => ∃ t : Nat, t ≤ T ∧ gk = T - t ∧ ix = .int .i64 (off t : Nat) ∧ ∃ qs ds, wr.ownsRow w.heap.size 86 2 u t (partsL off mm qs ds t) ∧ BodiesAt wr F off kk mm qs ds x0 t ∧ Ch (fun _ => False) w wr)
  case atStart => exact ⟨0, by omega, rfl, by rw [HQ.out.zero]; rfl, fun _ => none, fun _ => 0, ⟨rfl, .inl ⟨rfl, rfl⟩⟩, fun i hi => by omega, Ch.refl _ _⟩
  case round =>
    obtain ⟨u, hu⟩ : ∃ u, u = u3 := ⟨_, rfl⟩
    subst hu
    obtain ⟨t, ht, hg, rfl, qs, ds, hown, hbod, hch⟩ := hrel
    have HGK := Go.Lib.hid hg; have HOWN := Go.Lib.hid hown; have HBOD := Go.Lib.hid hbod; have HCH := Go.Lib.hid hch
    obtain ⟨hot, _⟩ := HQ.out.le t ht
    have hbt := HB.out.ch hch (fun _ _ => id)
    have hob : (off t : Int) ≤ (n : Int) := by omega
    have hob0 : (0 : Int) ≤ (off t : Int) := by omega
    have HOT := Go.Lib.hid hot
    clear hg hown hbod hch
    by_cases hce : c = off t
    · skip
      have HSP := Go.Lib.hid (rsplit_any p (n - off t) 0 x0 (shiftF F (off t)) wr (hbt.fromC hot hce) HBL.out (by omega))
      clear hbt hot
      generalize hot2 : off t = o at *
      have HOE := Go.Lib.hid hot2
      clear hot2
      subst hce
      go_wp2_with fail
      refine HSP.out.mono ?_
      rintro e w2 ⟨hc2, ⟨no, hs, rfl⟩ | ⟨k, m, q, d, hs, hkn, rfl, hbq, hbl⟩⟩
      · obtain rfl : t = T := by
          rcases Nat.lt_or_ge t T with h1 | h1
          · have h2 := (HQ.out.step t h1).1; rw [HOE.out] at h2; rw [h2] at hs; cases hs
          · omega
        have HC2 := Go.Lib.hid (HCH.out.trans hc2); have HBD := Go.Lib.hid (HBOD.out.ch hc2 id)
        have HO2 := Go.Lib.hid (own_chS HOWN.out hc2 (fun _ _ => id))
        clear hs hc2 HSP
        by_cases hno : no = 0
        · subst hno
          go_wp2_with fail
          go_ret
          exact ⟨_, qs, ds, rfl, HO2.out, HBD.out, HC2.out⟩
        · go_wp2_with fail
          go_ret
          exact ⟨_, qs, ds, rfl, HO2.out, HBD.out, HC2.out⟩
      · have htT : t < T := by
          rcases Nat.lt_or_ge t T with h1 | h1
          · exact h1
          · obtain rfl : t = T := by omega
            obtain ⟨no, h2⟩ := HQ.out.done
            rw [HOE.out] at h2; rw [h2] at hs; cases hs
        obtain ⟨hst, hoff, hle, _⟩ := HQ.out.step t htT
        rw [HOE.out] at hst hoff
        rw [hst] at hs
        obtain ⟨rfl, rfl⟩ : kk t = k ∧ mm t = m := by cases hs; exact ⟨rfl, rfl⟩
        have HC2 := Go.Lib.hid (HCH.out.trans hc2); have HBD := Go.Lib.hid (HBOD.out.ch hc2 id)
        have HO2 := Go.Lib.hid (own_chS HOWN.out (hc2.trans ((Ch.refl (fun _ => False) w2).alloc (.cells #[.int .i64 (off (t + 1) : Nat), .slice q (mm t) d] 86))) (fun _ _ => id))
        have HBQ := Go.Lib.hid hbq; have HBQL := Go.Lib.hid hbl
        have hL0 : ((kk t + (mm t + 4) : Nat) : Int) ≠ 0 := by omega
        have hsum : (c : Int) + ((kk t + (mm t + 4) : Nat) : Int) = (off (t + 1) : Nat) := by rw [hoff]; omega
        have hr1 : -9223372036854775808 ≤ (c : Int) + ((kk t + (mm t + 4) : Nat) : Int) := by omega
        have hr2 : (c : Int) + ((kk t + (mm t + 4) : Nat) : Int) ≤ 9223372036854775807 := by omega
        have HTT := Go.Lib.hid htT; have HOT1 := Go.Lib.hid hle
        have hs63 : t + 1 ≤ 1000000001 := by have := HQ.out.le (t + 1) (by omega); omega
        have HS63 := Go.Lib.hid hs63
        clear hst hoff hle hs hc2 hbq hbl HSP HOWN HBOD hs63 htT hkn
        generalize hL : kk t + (mm t + 4) = L at *
        have HL := Go.Lib.hid hL
        clear hL
        generalize ho2 : off (t + 1) = o2 at *
        have HOO := Go.Lib.hid ho2
        clear ho2
        go_wp2_with (at_builtin; refine wpList_append_own _ rfl (.tmp 26) (.tmp 30) 83 rfl w.heap.size 86 i0 _ 2 32 Try.underlying83 HI.out HZ0.out HZ1.out HZ2.out rfl (by decide) u t (partsL off mm qs ds t) rfl HO2.out ⟨w2.heap.size, 0, none⟩ 1 1 [.int .i64 (o2 : Int), .slice q (mm t) d] rfl rfl (two_news w2 _ _ 86) (by simp [Value.oneCell']) (by have := HS63.out; simp [maxLen]; omega) (by have := HS63.out; omega) (by have := HC2.out.size; have := World.size_alloc w2 (.cells #[.int .i64 (o2 : Int), .slice q (mm t) d] 86); omega) ?_; intro v4 w4 ho4 hg4 _; have HO4 := Go.Lib.hid ho4; have hc4 : Ch (fun k => u.ownBlock = some k) w2 w4 := ((((Ch.refl (fun _ => False) w2).alloc (.cells #[.int .i64 (o2 : Int), .slice q (mm t) d] 86)).mono (fun _ _ e => e.elim)).trans (Ch.grown (Ch.refl _ _) hg4 (fun k e _ => e))); have HC4 := Go.Lib.hid hc4; clear ho4 hg4 hc4)
        have hub : ∀ k, u.ownBlock = some k → w.heap.size ≤ k := fun k e => (HO2.out.lt k e).1
        have hxx := HX.out
        have hnx : ¬ u.ownBlock = some x0 := fun e => by have := hub x0 e; omega
        have HB4 := Go.Lib.hid (show BodiesAt w4 F off kk mm (fun i => if i = t then q else qs i) (fun i => if i = t then d else ds i) x0 (t + 1) from fun i hi => by
          by_cases e : i = t
          · subst e
            simp only [if_true]
            have h1 := HBQ.out.but HC4.out HBQL.out hnx
            rw [HOE.out]
            exact ⟨h1, HBQL.out⟩
          · simp only [if_neg e]
            exact (HBD.out.ch HC4.out hnx) i (by omega))
        have HP4 := Go.Lib.hid (show partsL off mm (fun i => if i = t then q else qs i) (fun i => if i = t then d else ds i) (t + 1) = partsL off mm qs ds t ++ [.int .i64 (o2 : Int), .slice q (mm t) d] by
          rw [show partsL off mm (fun i => if i = t then q else qs i) (fun i => if i = t then d else ds i) (t + 1) = partsL off mm (fun i => if i = t then q else qs i) (fun i => if i = t then d else ds i) t ++ [.int .i64 (off (t + 1) : Nat), .slice (if t = t then q else qs t) (mm t) (if t = t then d else ds t)] from rfl, HOO.out, if_pos rfl, if_pos rfl]
          rw [partsL_congr (qs' := qs) (ds' := ds) t (fun i hi => ⟨if_neg (by omega), if_neg (by omega)⟩)])
        go_wp2_with fail
        go_roundg (T - (t + 1))
        case measure => have h1 := HGK.out; have h2 := HTT.out; omega
        case rel =>
          have h2 := HTT.out
          exact ⟨t + 1, by omega, rfl, by rw [HOO.out], _, _, by rw [HP4.out]; exact HO4.out, HB4.out, HC2.out.then HC4.out (fun k hk e => by have := hub k e; omega)⟩
    · skip
      have HSP := Go.Lib.hid (rsplit_any (p.map fun x => x.add (off t)) (n - off t) (c - off t) x0 (shiftF F (off t)) wr (hbt.from hot hce) (fun ad e => by cases p with | none => cases e | some a0 => cases e; exact (show (a0.add (off t)).block = a0.block by unfold Addr.add; split <;> rfl).trans (HBL.out a0 rfl)) (by omega))
      clear hbt hot
      go_wp2_with fail
      refine HSP.out.mono ?_
      rintro e w2 ⟨hc2, ⟨no, hs, rfl⟩ | ⟨k, m, q, d, hs, hkn, rfl, hbq, hbl⟩⟩
      · obtain rfl : t = T := by
          rcases Nat.lt_or_ge t T with h1 | h1
          · rw [(HQ.out.step t h1).1] at hs; cases hs
          · omega
        have HC2 := Go.Lib.hid (HCH.out.trans hc2); have HBD := Go.Lib.hid (HBOD.out.ch hc2 id)
        have HO2 := Go.Lib.hid (own_chS HOWN.out hc2 (fun _ _ => id))
        clear hs hc2 HSP
        by_cases hno : no = 0
        · subst hno
          go_wp2_with fail
          go_ret
          exact ⟨_, qs, ds, rfl, HO2.out, HBD.out, HC2.out⟩
        · go_wp2_with fail
          go_ret
          exact ⟨_, qs, ds, rfl, HO2.out, HBD.out, HC2.out⟩
      · have htT : t < T := by
          rcases Nat.lt_or_ge t T with h1 | h1
          · exact h1
          · obtain rfl : t = T := by omega
            obtain ⟨no, h2⟩ := HQ.out.done
            rw [h2] at hs; cases hs
        obtain ⟨hst, hoff, hle, _⟩ := HQ.out.step t htT
        rw [hst] at hs
        obtain ⟨rfl, rfl⟩ : kk t = k ∧ mm t = m := by cases hs; exact ⟨rfl, rfl⟩
        have HC2 := Go.Lib.hid (HCH.out.trans hc2); have HBD := Go.Lib.hid (HBOD.out.ch hc2 id)
        have HO2 := Go.Lib.hid (own_chS HOWN.out (hc2.trans ((Ch.refl (fun _ => False) w2).alloc (.cells #[.int .i64 (off (t + 1) : Nat), .slice q (mm t) d] 86))) (fun _ _ => id))
        have HBQ := Go.Lib.hid hbq; have HBQL := Go.Lib.hid hbl
        have hL0 : ((kk t + (mm t + 4) : Nat) : Int) ≠ 0 := by omega
        have hsum : (off t : Int) + ((kk t + (mm t + 4) : Nat) : Int) = (off (t + 1) : Nat) := by rw [hoff]; omega
        have hr1 : -9223372036854775808 ≤ (off t : Int) + ((kk t + (mm t + 4) : Nat) : Int) := by omega
        have hr2 : (off t : Int) + ((kk t + (mm t + 4) : Nat) : Int) ≤ 9223372036854775807 := by omega
        have HTT := Go.Lib.hid htT; have HOT1 := Go.Lib.hid hle
        have hs63 : t + 1 ≤ 1000000001 := by have := HQ.out.le (t + 1) (by omega); omega
        have HS63 := Go.Lib.hid hs63
        clear hst hoff hle hs hc2 hbq hbl HSP HOWN HBOD hs63 htT hkn
        generalize hL : kk t + (mm t + 4) = L at *
        have HL := Go.Lib.hid hL
        clear hL
        generalize ho2 : off (t + 1) = o2 at *
        have HOO := Go.Lib.hid ho2
        clear ho2
        go_wp2_with (at_builtin; refine wpList_append_own _ rfl (.tmp 26) (.tmp 30) 83 rfl w.heap.size 86 i0 _ 2 32 Try.underlying83 HI.out HZ0.out HZ1.out HZ2.out rfl (by decide) u t (partsL off mm qs ds t) rfl HO2.out ⟨w2.heap.size, 0, none⟩ 1 1 [.int .i64 (o2 : Int), .slice q (mm t) d] rfl rfl (two_news w2 _ _ 86) (by simp [Value.oneCell']) (by have := HS63.out; simp [maxLen]; omega) (by have := HS63.out; omega) (by have := HC2.out.size; have := World.size_alloc w2 (.cells #[.int .i64 (o2 : Int), .slice q (mm t) d] 86); omega) ?_; intro v4 w4 ho4 hg4 _; have HO4 := Go.Lib.hid ho4; have hc4 : Ch (fun k => u.ownBlock = some k) w2 w4 := ((((Ch.refl (fun _ => False) w2).alloc (.cells #[.int .i64 (o2 : Int), .slice q (mm t) d] 86)).mono (fun _ _ e => e.elim)).trans (Ch.grown (Ch.refl _ _) hg4 (fun k e _ => e))); have HC4 := Go.Lib.hid hc4; clear ho4 hg4 hc4)
        have hub : ∀ k, u.ownBlock = some k → w.heap.size ≤ k := fun k e => (HO2.out.lt k e).1
        have hxx := HX.out
        have hnx : ¬ u.ownBlock = some x0 := fun e => by have := hub x0 e; omega
        have HB4 := Go.Lib.hid (show BodiesAt w4 F off kk mm (fun i => if i = t then q else qs i) (fun i => if i = t then d else ds i) x0 (t + 1) from fun i hi => by
          by_cases e : i = t
          · subst e
            simp only [if_true]
            have h1 := HBQ.out.but HC4.out HBQL.out hnx
            exact ⟨h1, HBQL.out⟩
          · simp only [if_neg e]
            exact (HBD.out.ch HC4.out hnx) i (by omega))
        have HP4 := Go.Lib.hid (show partsL off mm (fun i => if i = t then q else qs i) (fun i => if i = t then d else ds i) (t + 1) = partsL off mm qs ds t ++ [.int .i64 (o2 : Int), .slice q (mm t) d] by
          rw [show partsL off mm (fun i => if i = t then q else qs i) (fun i => if i = t then d else ds i) (t + 1) = partsL off mm (fun i => if i = t then q else qs i) (fun i => if i = t then d else ds i) t ++ [.int .i64 (off (t + 1) : Nat), .slice (if t = t then q else qs t) (mm t) (if t = t then d else ds t)] from rfl, HOO.out, if_pos rfl, if_pos rfl]
          rw [partsL_congr (qs' := qs) (ds' := ds) t (fun i hi => ⟨if_neg (by omega), if_neg (by omega)⟩)])
        go_wp2_with fail
        go_roundg (T - (t + 1))
        case measure => have h1 := HGK.out; have h2 := HTT.out; omega
        case rel =>
          have h2 := HTT.out
          exact ⟨t + 1, by omega, rfl, by rw [HOO.out], _, _, by rw [HP4.out]; exact HO4.out, HB4.out, HC2.out.then HC4.out (fun k hk e => by have := hub k e; omega)⟩
end Go.Proofs.Ytljllfdigfojdaa
