/- Equal, Clip, Open. -/
import Derived.Test.YtljllfdigfojdaaT7
namespace Go.Proofs.Ytljllfdigfojdaa
open Go Go.RowKit
attribute [local go_sem high] b_add b_xor b_and b_or b_shr b_shl not32 wrap_un beq32 neg32 b_and1 b_andC b_xor8 lowB_wrap xor_u8

/-- A slice of bytes that came from somewhere: n bytes of f. -/
def BytesAt (w : World) (p : Option Addr) (n c : Nat) (f : Nat → UInt8) : Prop :=
  (∃ x y, p = some ⟨x, y, none⟩ ∧ n ≤ c ∧ x < w.heap.size ∧ ∀ j, j < n → w.cell? ⟨x, y + j, none⟩ = some (.int .u8 ((f j).toNat : Int))) ∨ (n = 0 ∧ (p = none → c = 0))
theorem BytesAt.ch {w w' : World} {p : Option Addr} {n c : Nat} {f : Nat → UInt8} {S : Nat → Prop} (h : BytesAt w p n c f) (hc : Ch S w w') (hs : ∀ i, i < w.heap.size → ¬ S i) : BytesAt w' p n c f := by
  rcases h with ⟨x, y, h1, h2, h4, h3⟩ | h
  · exact .inl ⟨x, y, h1, h2, Nat.lt_of_lt_of_le h4 hc.size, fun j hj => hc.get (h3 j hj) (hs _ h4)⟩
  · exact .inr h
theorem BytesAt.at0 {w : World} {p : Option Addr} {n c : Nat} {f : Nat → UInt8} (h : BytesAt w p n c f) (hn : 0 < n) : ∃ x y, p = some ⟨x, y, none⟩ ∧ x < w.heap.size ∧ ∀ j, j < n → w.cell? ⟨x, y + j, none⟩ = some (.int .u8 ((f j).toNat : Int)) := by
  rcases h with ⟨x, y, h1, _, h4, h3⟩ | ⟨h, _⟩
  · exact ⟨x, y, h1, h4, h3⟩
  · omega
def bL (f : Nat → UInt8) (n : Nat) : List UInt8 := (List.range n).map f
def bS (f : Nat → UInt8) (n : Nat) : ByteArray := ⟨(bL f n).toArray⟩
theorem bL_len (f : Nat → UInt8) (n : Nat) : (bL f n).length = n := by simp [bL]
theorem conv_bytes {w : World} {p : Option Addr} {n c : Nat} {f : Nat → UInt8} (h : BytesAt w p n c f) : (convert 27 9 (.slice p n c)).run Try.prog w = .ok (.string (bS f n)) w := by
  rcases h with ⟨x, y, rfl, _, _, hb⟩ | ⟨rfl, _⟩
  · have hc := run_convert_bytes_back (P := Try.prog) w 27 9 5 ⟨x, y, none⟩ c (bL f n) Try.underlying27 Try.underlying5 Try.underlying9 (fun j hj => by
      rw [bL_len] at hj
      rw [show (⟨x, y, none⟩ : Addr).add j = ⟨x, y + j, none⟩ by simp [Addr.add]]
      rw [hb j hj]
      simp [bL])
    rw [bL_len] at hc
    exact hc
  · cases p with
    | none => simp [convert, run_underlying Try.underlying27, run_underlying Try.underlying9, run_underlying Try.underlying5, bS, bL, go_sem, Conv.bytesToString]; rfl
    | some a => exact run_convert_bytes_back (P := Try.prog) w 27 9 5 a c [] Try.underlying27 Try.underlying5 Try.underlying9 (fun j hj => by cases hj)
theorem bS_list (f : Nat → UInt8) (n : Nat) : (bS f n).toList = bL f n := by rw [ByteArray.toList_eq]; rfl
theorem own_bytes {w : World} {base n : Nat} {v : Value} {f : Nat → UInt8} (h : w.ownsRow base 5 1 v n (fL f n)) : ∃ p c, v = .slice p n c ∧ BytesAt w p n c f := by
  rcases h.2 with ⟨rfl, rfl⟩ | ⟨g, cap, cur, rfl, _, hg, hnc, _, _, htake⟩
  · exact ⟨none, 0, rfl, .inr ⟨rfl, fun _ => rfl⟩⟩
  · exact ⟨some ⟨g, 0, none⟩, cap, rfl, .inl ⟨g, 0, rfl, hnc, (Array.getElem?_eq_some_iff.1 hg).1, fun j hj => (cell_of_heap hg _).trans (by rw [Nat.zero_add]; exact fL_cur htake j hj)⟩⟩

set_option maxHeartbeats 400000 in
theorem equal_any (p q : Option Addr) (n m c d : Nat) (f g : Nat → UInt8) (w : World) (hp : BytesAt w p n c f) (hq : BytesAt w q m d g) :
    Calls Try.prog 91 #[.slice p n c, .slice q m d] w fun e w' => e = .returned (.bool (bL f n == bL g m)) ∧ w = w' := by
  have h1 := conv_bytes hp
  have h2 := conv_bytes hq
  clear hp hq
  go_enter Try.func91, Try.ntmps91
  go_wp2
  go_ret
  exact ⟨by rw [← bS_list, ← bS_list]; rfl, rfl⟩
set_option maxHeartbeats 400000 in
theorem clip_any (a : Addr) (n c : Nat) (w : World) (h : n ≤ c) :
    Calls Try.prog 92 #[.slice (some a) n c] w fun e w' => e = .returned (.slice (some a) n n) ∧ w = w' := by
  go_enter Try.func92, Try.ntmps92
  go_wp2
  go_ret
  exact ⟨rfl, rfl⟩
set_option maxRecDepth 100000 in
set_option maxHeartbeats 1000000 in
theorem open_short (p : Option Addr) (n c : Nat) (w : World) (hn : n < 4) :
    Calls Try.prog 72 #[.slice p n c] w fun e w' => e = .returned (.tuple #[.slice none 0 0, .int .i64 130]) ∧ w = w' := by
  have h : (n : Int) - 4 < 0 := by omega
  go_enter Try.func72, Try.ntmps72
  go_wp2
  refine bodyPost_ret (v := .tuple #[.slice none 0 0, .int .i64 130]) (by simp [results, Try.results72, go_sem]) rfl ⟨rfl, rfl⟩
/-- A single part. -/
theorem parts_one {w : World} {a x y n c : Nat} {f : Nat → UInt8} (ha : w.cell? ⟨a, 0, none⟩ = some (.slice (some ⟨x, y, none⟩) n c)) (hx : x < w.heap.size) (hb : ∀ j, j < n → w.cell? ⟨x, y + j, none⟩ = some (.int .u8 ((f j).toNat : Int))) : PartsAt w a 0 1 (fun _ => some ⟨x, y, none⟩) (fun _ => n) (fun _ => c) f := by
  refine ⟨fun i hi => ?_, fun i hi => ?_⟩
  · obtain rfl : i = 0 := by omega
    exact ha
  · obtain rfl : i = 0 := by omega
    exact ⟨x, y, .inl rfl, hx, fun j hj => by rw [show upto (fun _ => n) 0 + j = j by simp [upto]]; exact hb j hj⟩
theorem upto_one (n : Nat) : upto (fun _ => n) 1 = n := by simp [upto]

theorem wrap_sub4 (m : Nat) (h : m ≤ 1000000000000) : IntKind.i64.wrap (((m + 4 : Nat) : Int) - 4) = (m : Int) := by
  simp [IntKind.wrap, IntKind.bits, IntKind.signed]; omega
set_option maxRecDepth 100000 in
set_option maxHeartbeats 1000000 in
theorem open_long (x y m c : Nat) (g : Nat → UInt8) (w : World) (hm : m ≤ 100000000000) (hc : m + 4 ≤ c) (hxw : x < w.heap.size) (hb : ∀ j, j < m + 4 → w.cell? ⟨x, y + j, none⟩ = some (.int .u8 ((g j).toNat : Int))) :
    Calls Try.prog 72 #[.slice (some ⟨x, y, none⟩) (m + 4) c] w fun e w' => Ch (fun _ => False) w w' ∧
      ((bL (sealF g m) (m + 4) == bL g (m + 4)) = false ∧ e = .returned (.tuple #[.slice none 0 0, .int .i64 130]) ∨
       (bL (sealF g m) (m + 4) == bL g (m + 4)) = true ∧ ∃ h cur, e = .returned (.tuple #[.slice (some ⟨h, 0, none⟩) m m, .int .i64 0]) ∧ w.heap.size ≤ h ∧ w'.heap[h]? = some (.cells cur 5) ∧ ∀ j, j < m → cur[j]? = some (.int .u8 ((g j).toNat : Int))) := by
  have hal : Ch (fun _ => False) w (w.alloc (.cells #[.slice (some ⟨x, y, none⟩) m c] 27)) := (Ch.refl _ w).alloc _
  have HB := Go.Lib.hid hb
  have HS := Go.Lib.hid (show Calls Try.prog 68 #[.slice (some ⟨w.heap.size, 0, none⟩) 1 1] (w.alloc (.cells #[.slice (some ⟨x, y, none⟩) m c] 27)) _ from
    seal_any w.heap.size 0 1 1 _ _ _ _ g _ (.inl rfl) (parts_one (x := x) (y := y) (n := m) (c := c) (f := g) (cell_fresh w _ 27 0) (Nat.lt_of_lt_of_le hxw hal.size) (fun j hj => hal.get (hb j (by omega)) id)) (by omega) (by rw [upto_one]; omega))
  rw [upto_one] at HS
  have HAL := Go.Lib.hid hal
  have hw := wrap_sub4 m (by omega)
  clear hb hal
  go_enter Try.func72, Try.ntmps72
  go_wp2_with fail
  refine HS.out.mono ?_
  rintro e w2 ⟨v, rfl, ho, hc2⟩
  obtain ⟨q, d, rfl, hq⟩ := own_bytes ho
  have HO := Go.Lib.hid ho
  have HC2 := Go.Lib.hid (HAL.out.trans hc2)
  have HE := Go.Lib.hid (equal_any q (some ⟨x, y, none⟩) (m + 4) (m + 4) d c (sealF g m) g w2 hq (.inl ⟨x, y, rfl, hc, Nat.lt_of_lt_of_le hxw HC2.out.size, fun j hj => HC2.out.get (HB.out j hj) id⟩))
  clear ho hc2 HS HAL hq
  cases hb : (bL (sealF g m) (m + 4) == bL g (m + 4)) with
  | false =>
    rw [hb] at HE
    have HBB := Go.Lib.hid hb
    clear hb HO
    go_wp2_with (go_at_call 91; refine HE.out.mono ?_; rintro e w' ⟨rfl, rfl⟩)
    refine bodyPost_ret (v := .tuple #[.slice none 0 0, .int .i64 130]) (by simp [results, Try.results72, go_sem]) rfl ⟨HC2.out, .inl ⟨HBB.out, rfl⟩⟩
  | true =>
    rw [hb] at HE
    have hl : bL (sealF g m) (m + 4) = bL g (m + 4) := by simpa using hb
    have hg : ∀ j, j < m + 4 → sealF g m j = g j := fun j hj => by
      have := congrArg (fun l => l[j]?) hl
      simpa [bL, hj] using this
    rcases HO.out.2 with ⟨h0, h1⟩ | ⟨hb1, cap, cur, hv, hbase, hh, hnc, _, _, htake⟩
    · omega
    · cases hv
      have HH := Go.Lib.hid hh
      have HCU := Go.Lib.hid (fun j (hj : j < m) => show cur[j]? = some (.int .u8 ((g j).toNat : Int)) by rw [← hg j (by omega)]; exact fL_cur htake j (by omega))
      have HBA := Go.Lib.hid (show w.heap.size ≤ hb1 by simp at hbase; omega)
      have hnc' : m ≤ d := by omega
      have HBB := Go.Lib.hid hb
      clear hb HO hl hg hh hbase htake
      go_wp2_with (first | (go_at_call 91; refine HE.out.mono ?_; rintro e w' ⟨rfl, rfl⟩) | (go_at_call 92; refine (clip_any _ _ _ _ (by omega)).mono ?_; rintro e w' ⟨rfl, rfl⟩))
      refine bodyPost_ret (v := .tuple #[.slice (some ⟨hb1, 0, none⟩) m m, .int .i64 0]) (by simp [results, Try.results72, go_sem]) rfl ⟨HC2.out, .inr ⟨HBB.out, hb1, cur, rfl, HBA.out, HH.out, HCU.out⟩⟩
end Go.Proofs.Ytljllfdigfojdaa
