/- The reference's reader: its Number. -/
import Derived.Test.YtljllfdigfojdaaV16
namespace Go.Proofs.Ytljllfdigfojdaa
open Go Go.RowKit

theorem rdN_got {f : Nat → UInt8} {n v k : Nat} (h : rdN f n = .got v k) : 1 ≤ k ∧ k ≤ n ∧ v ≤ 4611686018427387904 := by
  unfold rdN at h
  split at h
  · cases h
  · split at h
    · cases h; exact ⟨by omega, by omega, by have := (f 0).toNat_lt; omega⟩
    · split at h
      · cases h
      · split at h
        · cases h
        · rename_i hx
          cases h
          refine ⟨by omega, by omega, ?_⟩
          refine Nat.le_of_not_lt (fun h2 => hx (.inl h2))
set_option maxRecDepth 100000 in
theorem rrNumber_neg (p : Option Addr) (n c : Nat) (most : Int) (w : World) (hm : most < 0) :
    Calls Try.prog 50 #[.agg #[.slice p n c, .bool false], .int .i64 most] w fun e w' => e = .returned (.tuple #[.agg #[.slice p n c, .bool false], .int .i64 0, .int .i64 2]) ∧ Ch (fun _ => False) w w' := by
  go_enter Try.func50, Try.ntmps50
  go_wp2
  have hB : ((w.alloc (.cells #[.slice p n c, .bool false] 51)).alloc (.cells #[.slice p n c, .bool false] 51)).heap[w.heap.size + 1]? = some (.cells #[.slice p n c, .bool false] 51) := by
    rw [← World.size_alloc w (.cells #[.slice p n c, .bool false] 51)]
    exact World.alloc_heap_new _ _
  have hall : Ch (fun _ => False) w ((w.alloc (.cells #[.slice p n c, .bool false] 51)).alloc (.cells #[.slice p n c, .bool false] 51)) := ((Ch.refl _ w).alloc _).alloc _
  generalize (w.alloc (.cells #[.slice p n c, .bool false] 51)).alloc (.cells #[.slice p n c, .bool false] 51) = WF at *
  have h0 : WF.cell? ⟨w.heap.size + 1, 0, none⟩ = some (.slice p n c) := (cell_of_heap hB 0).trans rfl
  have h1 : WF.cell? ⟨w.heap.size + 1, 1, none⟩ = some (.bool false) := (cell_of_heap hB 1).trans rfl
  refine bodyPost_ret (v := .tuple #[.agg #[.slice p n c, .bool false], .int .i64 0, .int .i64 2]) (by simp [results, Try.results50, go_sem, h0, h1]) rfl ⟨rfl, hall⟩
theorem set_two {w : World} {b : Nat} {x y : Value} {t : TypeId} (h : w.heap[b]? = some (.cells #[x, y] t)) (u v : Value) : ((w.setCell ⟨b, 0, none⟩ u).setCell ⟨b, 1, none⟩ v).heap[b]? = some (.cells #[u, v] t) :=
  (row_setM ((row_setM h 0 u).trans rfl) 1 v).trans rfl
theorem ch_two {S : Nat → Prop} {a w : World} (h : Ch S a w) {b : Nat} (hb : b < a.heap.size → S b) (u v : Value) : Ch S a ((w.setCell ⟨b, 0, none⟩ u).setCell ⟨b, 1, none⟩ v) :=
  Ch.setCell (Ch.setCell h (p := ⟨b, 0, none⟩) hb u) (p := ⟨b, 1, none⟩) hb v
/-- What the reference's reader tells of a number. -/
def RrTold (out : Out) (f : Nat → UInt8) (p : Option Addr) (n c x0 : Nat) (w : World) (e : Ending) (w' : World) : Prop :=
  Ch (fun _ => False) w w' ∧ match out with
    | .got x k => k ≤ n ∧ ∃ p' c', e = .returned (.tuple #[.agg #[.slice p' (n - k) c', .bool false], x, .int .i64 0]) ∧ BytesAt w' p' (n - k) c' (fun j => f (k + j)) ∧ ∀ ad, p' = some ad → ad.block = x0
    | _ => e = .returned (.tuple #[.agg #[.slice p n c, .bool true], .int .i64 0, .int .i64 140])
theorem res50 (w1 : World) (B : Nat) (s : Option Addr) (n c : Nat) (b : Bool) (v : Value) (no : Int) (h : w1.heap[B]? = some (.cells #[.slice s n c, .bool b] 51)) (t : Array Value) (h4 : t[4]? = some (.pointer (some ⟨B, 0, none⟩))) (h5 : t[5]? = some v) (h6 : t[6]? = some (.int .i64 no)) :
    (results Try.f50 t).run Try.prog w1 = .ok (.tuple #[.agg #[.slice s n c, .bool b], v, .int .i64 no]) w1 := by
  have h0 : w1.cell? ⟨B, 0, none⟩ = some (.slice s n c) := (cell_of_heap h 0).trans rfl
  have h1 : w1.cell? ⟨B, 1, none⟩ = some (.bool b) := (cell_of_heap h 1).trans rfl
  simp [results, Try.results50, go_sem, h0, h1, h4, h5, h6]
set_option maxRecDepth 100000 in
set_option maxHeartbeats 1000000 in
theorem rrNumber_any (p : Option Addr) (n c x0 : Nat) (f : Nat → UInt8) (most : Int) (w : World) (hm : 0 ≤ most) (hb : BytesAt w p n c f) (hblk : ∀ ad, p = some ad → ad.block = x0) (hn : n ≤ 1000000000000) :
    Calls Try.prog 50 #[.agg #[.slice p n c, .bool false], .int .i64 most] w (RrTold (outN most f n) f p n c x0 w) := by
  have hal : Ch (fun _ => False) w ((w.alloc (.cells #[.slice p n c, .bool false] 51)).alloc (.cells #[.slice none 0 0, .bool false] 51)) := ((Ch.refl _ w).alloc _).alloc _
  have HF := Go.Lib.hid (first_any p n c f _ (hb.ch hal (fun _ _ => id)) hn)
  have HAL := Go.Lib.hid hal; have HB := Go.Lib.hid hb; have HBL := Go.Lib.hid hblk
  have hm' : ¬ most < 0 := by omega
  have HR := Go.Lib.hid (fun v k (h : rdN f n = .got v k) => rdN_got h)
  have hz : ((w.alloc (.cells #[.slice p n c, .bool false] 51)).alloc (.cells #[.slice none 0 0, .bool false] 51)).heap.size = w.heap.size + 2 := by simp
  have hA : ((w.alloc (.cells #[.slice p n c, .bool false] 51)).alloc (.cells #[.slice none 0 0, .bool false] 51)).heap[w.heap.size]? = some (.cells #[.slice p n c, .bool false] 51) := ((Ch.refl (fun _ => False) (w.alloc _)).alloc _).heap (World.alloc_heap_new w _) id
  have hB : ((w.alloc (.cells #[.slice p n c, .bool false] 51)).alloc (.cells #[.slice none 0 0, .bool false] 51)).heap[w.heap.size + 1]? = some (.cells #[.slice none 0 0, .bool false] 51) := by
    rw [← World.size_alloc w (.cells #[.slice p n c, .bool false] 51)]
    exact World.alloc_heap_new _ _
  have HA := Go.Lib.hid hA; have HB2 := Go.Lib.hid hB; have HZ := Go.Lib.hid hz
  clear hal hb hblk hz hA hB
  unfold RrTold outN
  unfold fstN at HF
  cases hr : rdN f n with
  | lack =>
    rw [hr] at HF
    clear hr HR
    go_enter Try.func50, Try.ntmps50
    go_wp2_with fail
    refine HF.out.mono ?_
    rintro e w2 ⟨rfl, hc⟩
    have ha := hc.heap HA.out id; have hb2 := hc.heap HB2.out id
    have hcx := HAL.out.trans hc
    have HC2 := Go.Lib.hid hcx; have HB3 := Go.Lib.hid hb2
    have ha0 : w2.cell? ⟨w.heap.size, 0, none⟩ = some (.slice p n c) := (cell_of_heap ha 0).trans rfl
    have hb0 : w2.cell? ⟨w.heap.size + 1, 0, none⟩ = some (.slice none 0 0) := (cell_of_heap hb2 0).trans rfl
    have hb1 : w2.cell? ⟨w.heap.size + 1, 1, none⟩ = some (.bool false) := (cell_of_heap hb2 1).trans rfl
    have hf0 : w2.frozen? ⟨w.heap.size + 1, 0, none⟩ = false := frozen_of_heap hb2 0
    have hf1 : w2.frozen? ⟨w.heap.size + 1, 1, none⟩ = false := frozen_of_heap hb2 1
    clear ha hb2 hcx hc
    go_wp2_with fail
    have hfin := set_two HB3.out (.slice p n c) (.bool true)
    have hall := ch_two HC2.out (b := w.heap.size + 1) (fun h => by omega) (.slice p n c) (.bool true)
    generalize (w2.setCell ⟨w.heap.size + 1, 0, none⟩ (.slice p n c)).setCell ⟨w.heap.size + 1, 1, none⟩ (.bool true) = WF at *
    exact bodyPost_ret (res50 WF _ p n c true _ 140 hfin _ rfl rfl rfl) rfl ⟨hall, rfl⟩
  | wrong =>
    rw [hr] at HF
    clear hr HR
    go_enter Try.func50, Try.ntmps50
    go_wp2_with fail
    refine HF.out.mono ?_
    rintro e w2 ⟨rfl, hc⟩
    have ha := hc.heap HA.out id; have hb2 := hc.heap HB2.out id
    have hcx := HAL.out.trans hc
    have HC2 := Go.Lib.hid hcx; have HB3 := Go.Lib.hid hb2
    have ha0 : w2.cell? ⟨w.heap.size, 0, none⟩ = some (.slice p n c) := (cell_of_heap ha 0).trans rfl
    have hb0 : w2.cell? ⟨w.heap.size + 1, 0, none⟩ = some (.slice none 0 0) := (cell_of_heap hb2 0).trans rfl
    have hb1 : w2.cell? ⟨w.heap.size + 1, 1, none⟩ = some (.bool false) := (cell_of_heap hb2 1).trans rfl
    have hf0 : w2.frozen? ⟨w.heap.size + 1, 0, none⟩ = false := frozen_of_heap hb2 0
    have hf1 : w2.frozen? ⟨w.heap.size + 1, 1, none⟩ = false := frozen_of_heap hb2 1
    clear ha hb2 hcx hc
    go_wp2_with fail
    have hfin := set_two HB3.out (.slice p n c) (.bool true)
    have hall := ch_two HC2.out (b := w.heap.size + 1) (fun h => by omega) (.slice p n c) (.bool true)
    generalize (w2.setCell ⟨w.heap.size + 1, 0, none⟩ (.slice p n c)).setCell ⟨w.heap.size + 1, 1, none⟩ (.bool true) = WF at *
    exact bodyPost_ret (res50 WF _ p n c true _ 140 hfin _ rfl rfl rfl) rfl ⟨hall, rfl⟩
  | got v k =>
    obtain ⟨hk1, hkn, hvb⟩ := HR.out v k hr
    rw [hr] at HF
    clear hr HR
    obtain ⟨x, y, rfl, hnc, hx, hbc⟩ : ∃ x y, p = some ⟨x, y, none⟩ ∧ n ≤ c ∧ x < w.heap.size ∧ ∀ j, j < n → w.cell? ⟨x, y + j, none⟩ = some (.int .u8 ((f j).toNat : Int)) := by
      rcases HB.out with ⟨x, y, h1, h2, h3, h4⟩ | ⟨h1, _⟩
      · exact ⟨x, y, h1, h2, h3, h4⟩
      · omega
    have HBC := Go.Lib.hid hbc
    have hk0 : ¬ (k : Int) ≤ 0 := by omega
    clear hbc
    by_cases hbig : most < (v : Int)
    · simp only [if_pos hbig]
      go_enter Try.func50, Try.ntmps50
      go_wp2_with fail
      refine HF.out.mono ?_
      rintro e w2 ⟨rfl, hc⟩
      have ha := hc.heap HA.out id; have hb2 := hc.heap HB2.out id
      have hcx := HAL.out.trans hc
      have HC2 := Go.Lib.hid hcx; have HB3 := Go.Lib.hid hb2
      have ha0 : w2.cell? ⟨w.heap.size, 0, none⟩ = some (.slice (some ⟨x, y, none⟩) n c) := (cell_of_heap ha 0).trans rfl
      have hb0 : w2.cell? ⟨w.heap.size + 1, 0, none⟩ = some (.slice none 0 0) := (cell_of_heap hb2 0).trans rfl
      have hb1 : w2.cell? ⟨w.heap.size + 1, 1, none⟩ = some (.bool false) := (cell_of_heap hb2 1).trans rfl
      have hf0 : w2.frozen? ⟨w.heap.size + 1, 0, none⟩ = false := frozen_of_heap hb2 0
      have hf1 : w2.frozen? ⟨w.heap.size + 1, 1, none⟩ = false := frozen_of_heap hb2 1
      clear ha hb2 hcx hc
      go_wp2_with fail
      have hfin := set_two HB3.out (.slice (some ⟨x, y, none⟩) n c) (.bool true)
      have hall := ch_two HC2.out (b := w.heap.size + 1) (fun h => by omega) (.slice (some ⟨x, y, none⟩) n c) (.bool true)
      generalize (w2.setCell ⟨w.heap.size + 1, 0, none⟩ (.slice (some ⟨x, y, none⟩) n c)).setCell ⟨w.heap.size + 1, 1, none⟩ (.bool true) = WF at *
      exact bodyPost_ret (res50 WF _ (some ⟨x, y, none⟩) n c true _ 140 hfin _ rfl rfl rfl) rfl ⟨hall, rfl⟩
    · simp only [if_neg hbig]
      have hkc : k ≤ c := by omega
      have hknI : (k : Int) ≤ (n : Int) := by omega
      have HKN := Go.Lib.hid hkn
      clear hkn
      go_enter Try.func50, Try.ntmps50
      go_wp2_with fail
      refine HF.out.mono ?_
      rintro e w2 ⟨rfl, hc⟩
      have ha := hc.heap HA.out id; have hb2 := hc.heap HB2.out id
      have hcx := HAL.out.trans hc
      have HC2 := Go.Lib.hid hcx; have HB3 := Go.Lib.hid hb2
      have ha0 : w2.cell? ⟨w.heap.size, 0, none⟩ = some (.slice (some ⟨x, y, none⟩) n c) := (cell_of_heap ha 0).trans rfl
      have hb0 : w2.cell? ⟨w.heap.size + 1, 0, none⟩ = some (.slice none 0 0) := (cell_of_heap hb2 0).trans rfl
      have hb1 : w2.cell? ⟨w.heap.size + 1, 1, none⟩ = some (.bool false) := (cell_of_heap hb2 1).trans rfl
      have hf0 : w2.frozen? ⟨w.heap.size + 1, 0, none⟩ = false := frozen_of_heap hb2 0
      have hf1 : w2.frozen? ⟨w.heap.size + 1, 1, none⟩ = false := frozen_of_heap hb2 1
      clear ha hb2 hcx hc
      go_wp2_with fail
      all_goals first
        | (have hfin := set_two HB3.out (.slice (some ⟨x, y + k, none⟩) (n - k) (c - k)) (.bool false)
           have hall := ch_two HC2.out (b := w.heap.size + 1) (fun h => by omega) (.slice (some ⟨x, y + k, none⟩) (n - k) (c - k)) (.bool false)
           generalize (w2.setCell ⟨w.heap.size + 1, 0, none⟩ (.slice (some ⟨x, y + k, none⟩) (n - k) (c - k))).setCell ⟨w.heap.size + 1, 1, none⟩ (.bool false) = WF at *
           exact bodyPost_ret (res50 WF _ (some ⟨x, y + k, none⟩) (n - k) (c - k) false _ 0 hfin _ rfl rfl rfl) rfl ⟨hall, HKN.out, some ⟨x, y + k, none⟩, c - k, rfl, .inl ⟨x, y + k, rfl, by omega, Nat.lt_of_lt_of_le hx hall.size, fun j hj => by rw [Nat.add_assoc]; exact hall.get (HBC.out (k + j) (by omega)) id⟩, fun ad e => by cases e; exact (show x = x0 from HBL.out ⟨x, y, none⟩ rfl)⟩)
        | (have hfin := set_two HB3.out (.slice (some ⟨x, y, none⟩) (n - k) 0) (.bool false)
           have hall := ch_two HC2.out (b := w.heap.size + 1) (fun h => by omega) (.slice (some ⟨x, y, none⟩) (n - k) 0) (.bool false)
           generalize (w2.setCell ⟨w.heap.size + 1, 0, none⟩ (.slice (some ⟨x, y, none⟩) (n - k) 0)).setCell ⟨w.heap.size + 1, 1, none⟩ (.bool false) = WF at *
           exact bodyPost_ret (res50 WF _ (some ⟨x, y, none⟩) (n - k) 0 false _ 0 hfin _ rfl rfl rfl) rfl ⟨hall, HKN.out, some ⟨x, y, none⟩, 0, rfl, .inr ⟨by omega, fun h => by cases h⟩, fun ad e => by cases e; exact (show x = x0 from HBL.out ⟨x, y, none⟩ rfl)⟩)
end Go.Proofs.Ytljllfdigfojdaa
