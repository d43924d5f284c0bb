import Derived.Test.YtdmeeghgbiffmaaDoorT12
namespace Go.Proofs.YtdmeeghgbiffmaaDoor
open Go.RowKit

def hexes : List UInt8 := [48, 49, 50, 51, 52, 53, 54, 55, 56, 57, 97, 98, 99, 100, 101, 102]
/-- What a digit stands for: -1: no digit. -/
def hx (c : UInt8) : Int := Lib.indexByte hexes c
theorem indexByte_lt (c : UInt8) (l : List UInt8) (h : l ≠ []) : Lib.indexByte l c < l.length := by
  induction l with
  | nil => exact absurd rfl h
  | cons b l ih =>
    unfold Lib.indexByte
    split
    · simp
    · split
      · simp; omega
      · rename_i h2
        by_cases e : l = []
        · subst e; exact absurd rfl h2
        · have := ih e; simp; omega
theorem hx_bounds (c : UInt8) : hx c = -1 ∨ ∃ v : Nat, v < 16 ∧ hx c = (v : Int) := by
  have h1 := Lib.indexByte_ge hexes c
  have h2 : hx c < 16 := indexByte_lt c hexes (by decide)
  unfold hx at h2 ⊢
  by_cases e : Lib.indexByte hexes c = -1
  · exact .inl e
  · exact .inr ⟨(Lib.indexByte hexes c).toNat, by omega, by omega⟩
theorem index_hex (c : UInt8) (w : World) (v : Int) (hv : hx c = v) :
    Calls Tryd.prog 50 #[.string ⟨#[48, 49, 50, 51, 52, 53, 54, 55, 56, 57, 97, 98, 99, 100, 101, 102]⟩, .int .u8 (c.toNat : Int)] w fun e w' => e = .returned (.int .i64 v) ∧ w' = w := by
  subst hv
  have h := index50 ⟨#[48, 49, 50, 51, 52, 53, 54, 55, 56, 57, 97, 98, 99, 100, 101, 102]⟩ (c.toNat : Int) w
  rw [Int.toNat_natCast, show c.toNat.toUInt8 = c from UInt8.ofNat_toNat] at h
  exact h
def byteAt (s : ByteArray) (i : Nat) : UInt8 := s.data.getD i 0
theorem index_str (s : ByteArray) (k : Nat) (hk : k < s.size) (w : World) : (Instr.index 9 (.string s) (.int .i64 (k : Int))).run Tryd.prog w = .ok (.int .u8 ((byteAt s k).toNat : Int)) w := by
  rw [run_index_string (P := Tryd.prog) w 9 s .i64 k Tryd.underlying9, dif_pos (by omega)]
  have e : s[(k : Int).toNat]'(by omega) = byteAt s k := by
    show s.data[k]'hk = s.data.getD k 0
    rw [Array.getD_eq_getD_getElem?, Array.getElem?_eq_getElem hk]; rfl
  rw [e]
theorem results_cell_slot {P : Program} {fn : Func} {p q : Tmp} {ty : TypeId} (h : fn.results = #[.cell p ty, .tmp q]) (tmps : Array Value) (w : World) (g : Nat) (t : TypeId) (cs : Array Value) (fr : Nat × Nat) (d : TypeDesc) (v : Value)
    (hp : tmps.getD p undef = .pointer (some ⟨g, 0, none⟩)) (hq : tmps.getD q undef = v) (hg : w.heap[g]? = some (.cells cs t fr))
    (hu : P.underlying ty = some d) (hd : (match d with | .struct _ | .array _ _ => true | _ => false) = true) (hi : (P.info? ty).map (·.size) = some cs.size) :
    (results fn tmps).run P w = .ok (.tuple #[.agg cs, v]) w := by
  have hp' : tmps[p]?.getD undef = .pointer (some ⟨g, 0, none⟩) := by simpa using hp
  have hq' : tmps[q]?.getD undef = v := by simpa using hq
  simp [results, h, hp', hq', asAddr, run_loadVar_row w g t ty cs fr d hg hu hd hi]

def vn (s : ByteArray) (i : Nat) : Nat := (hx (byteAt s i)).toNat
/-- The bytes that the first k signs make. -/
def pv (s : ByteArray) (k i : Nat) : Nat := if 2 * i + 1 < k then 16 * vn s (2 * i) + vn s (2 * i + 1) else if 2 * i < k then vn s (2 * i) else 0
/-- Are all signs digits. -/
def allHex (s : ByteArray) : Bool := s.size == 64 && (List.range 64).all fun i => decide (0 ≤ hx (byteAt s i))
def parsed (s : ByteArray) : Nat → UInt8 := fun i => if allHex s then UInt8.ofNat (pv s 64 i) else 0
def perr (s : ByteArray) : Int := if allHex s then 0 else 110
theorem vn_lt (s : ByteArray) (i : Nat) : vn s i < 16 := by
  unfold vn
  rcases hx_bounds (byteAt s i) with h | ⟨v, h1, h2⟩
  · rw [h]; decide
  · rw [h2]; omega
theorem pv_lt (s : ByteArray) (k i : Nat) : pv s k i < 256 := by
  have h1 := vn_lt s (2 * i)
  have h2 := vn_lt s (2 * i + 1)
  unfold pv
  split
  · omega
  · split <;> omega
theorem not_hex {s : ByteArray} {k : Nat} (hk : k < 64) (h : hx (byteAt s k) = -1) : allHex s = false := by
  unfold allHex
  rw [Bool.and_eq_false_iff]
  refine .inr ?_
  rw [List.all_eq_false]
  exact ⟨k, List.mem_range.2 hk, by rw [h]; decide⟩
theorem not_size {s : ByteArray} (h : s.size ≠ 64) : allHex s = false := by
  unfold allHex
  rw [Bool.and_eq_false_iff]
  exact .inl (by simpa using h)
theorem is_hex {s : ByteArray} (h : s.size = 64) (hh : ∀ i, i < 64 → 0 ≤ hx (byteAt s i)) : allHex s = true := by
  unfold allHex
  rw [Bool.and_eq_true]
  exact ⟨by simpa using h, List.all_eq_true.2 fun i hi => by simpa using hh i (List.mem_range.1 hi)⟩

theorem bor0 (v : Nat) (h : v < 16) : bits BinOp.or IntKind.u8 0 (v : Int) = (v : Int) := by
  revert v; decide
theorem bor1 (a v : Nat) (ha : a < 16) (h : v < 16) : bits BinOp.or IntKind.u8 ((a : Int) * 16) (v : Int) = ((16 * a + v : Nat) : Int) := by
  revert v; revert a; decide
theorem pv_even (s : ByteArray) (k i v : Nat) (hk : k % 2 = 0) (hv : vn s k = v) : (if i = k / 2 then (.int .u8 (v : Int) : Value) else .int .u8 (pv s k i : Nat)) = .int .u8 (pv s (k + 1) i : Nat) := by
  by_cases e : i = k / 2
  · subst e
    unfold pv
    rw [if_pos rfl, if_neg (by omega), if_pos (by omega), show 2 * (k / 2) = k by omega, hv]
  · rw [if_neg e]
    unfold pv
    by_cases h1 : 2 * i + 1 < k
    · rw [if_pos h1, if_pos (show 2 * i + 1 < k + 1 by omega)]
    · rw [if_neg h1, if_neg (show ¬ 2 * i + 1 < k + 1 by omega), if_neg (show ¬ 2 * i < k by omega), if_neg (show ¬ 2 * i < k + 1 by omega)]
theorem pv_odd (s : ByteArray) (k i a v : Nat) (hk : k % 2 = 1) (ha : vn s (k - 1) = a) (hv : vn s k = v) : (if i = k / 2 then (.int .u8 ((16 * a + v : Nat) : Int) : Value) else .int .u8 (pv s k i : Nat)) = .int .u8 (pv s (k + 1) i : Nat) := by
  by_cases e : i = k / 2
  · subst e
    unfold pv
    rw [if_pos rfl, if_pos (by omega), show 2 * (k / 2) + 1 = k by omega, show 2 * (k / 2) = k - 1 by omega, ha, hv]
  · rw [if_neg e]
    unfold pv
    by_cases h1 : 2 * i + 1 < k
    · rw [if_pos h1, if_pos (show 2 * i + 1 < k + 1 by omega)]
    · rw [if_neg h1, if_neg (show ¬ 2 * i + 1 < k + 1 by omega), if_neg (show ¬ 2 * i < k by omega), if_neg (show ¬ 2 * i < k + 1 by omega)]

set_option maxRecDepth 100000 in
set_option maxHeartbeats 400000 in
theorem parse_any (s : ByteArray) (w : World) :
    Calls Tryd.prog 24 #[.string s] w fun e w' => e = .returned (.tuple #[.agg (hv (parsed s)), .int .i64 (perr s)]) ∧ Ch (fun _ => False) w w' := by
  have hsz : s.size = 64 ∨ s.size ≠ 64 := by omega
  rcases hsz with hsz | hsz
  · have hsi : (s.size : Int) = 64 := by omega
    go_enter Tryd.func24, Tryd.ntmps24
    go_wp2_with fail
    generalize hW : (w.alloc _).alloc _ = W
    have hh0 : W.heap[w.heap.size]? = some (.cells (arr 32 fun _ => .int .u8 0) 31) := by
      rw [← hW]; exact (Below.heap_alloc _ _ _ (by simp)).trans (World.alloc_heap_new w _)
    have hh1 : W.heap[w.heap.size + 1]? = some (.cells (arr 32 fun i => .int .u8 (pv s 0 i : Nat)) 31) := by
      have h := World.alloc_heap_new (w.alloc (.cells (arr 32 fun _ => .int .u8 0) 31)) (.cells (arr 32 fun _ => .int .u8 0) 31)
      rw [World.size_alloc] at h
      rw [← hW]
      refine h.trans ?_
      rw [arr_congr (N := 32) (g := fun i => .int .u8 (pv s 0 i : Nat)) (g' := fun _ => .int .u8 0) (fun i _ => by unfold pv; rw [if_neg (by omega), if_neg (by omega)]; rfl)]
    have hC : Ch (fun _ => False) w W := by rw [← hW]; exact ((Ch.refl _ _).alloc _).alloc _
    have hs2 : W.heap.size = w.heap.size + 2 := by rw [← hW]; simp
    have HH0 := Go.Lib.hid hh0; have HH1 := Go.Lib.hid hh1; have HC := Go.Lib.hid hC
    clear hh0 hh1 hC hW
    go_loopw [5, 6, 13] (fun _ _ i wr => ∃ k : Nat, k ≤ 64 ∧ i = .int .i64 k ∧ (∀ j, j < k → 0 ≤ hx (byteAt s j)) ∧ wr.heap[w.heap.size + 1]? = some (.cells (arr 32 fun i => .int .u8 (pv s k i : Nat)) 31) ∧ Ch (fun j => j = w.heap.size + 1) W wr) (fun _ _ i _ => 64 - (intOf i).toNat)
    case atStart => exact ⟨0, by omega, rfl, fun j hj => absurd hj (by omega), HH1.out, Ch.refl _ _⟩
    case round =>
      obtain ⟨k, hk, rfl, hd, hr, hC⟩ := hrel
      have HR := Go.Lib.hid hr; have HCr := Go.Lib.hid hC; have HD := Go.Lib.hid hd
      have HH2 := Go.Lib.hid (hC.heap HH0.out (by omega))
      have HCw := Go.Lib.hid (HC.out.then hC (fun i hi h => by omega))
      clear hr hC hd
      by_cases hkN : k < 64
      · have hi := index_str s k (by omega)
        rcases hx_bounds (byteAt s k) with hx | ⟨v, hv, hx⟩
        · have hcall := Go.Lib.hid (fun w => index_hex (byteAt s k) w _ hx)
          have HE := Go.Lib.hid (not_hex hkN hx)
          clear hx
          go_wp2_with (first | (go_at_call 50; refine (hcall.out _).mono ?_; rintro e w1 ⟨rfl, rfl⟩) | refine wpList_store_row rfl 31 (.tmp 2) (.tmp 22) rfl w.heap.size (hv fun _ => 0) rfl rfl 31 (arr 32 fun _ => .int .u8 0) HH2.out (hv_info _) (by rw [arr_size]; exact (arr_size _ _).symm) (hv_all _) ?_)
          have e1 : parsed s = fun _ => 0 := by unfold parsed; rw [HE.out]; rfl
          have e2 : perr s = 110 := by unfold perr; rw [HE.out]; rfl
          refine bodyPost_ret (results_cell_slot (h := Tryd.results24) _ _ w.heap.size 31 _ (0, 0) _ (.int .i64 110) rfl rfl (heap_setRow HH2.out) Tryd.underlying31 rfl (hv_info _)) rfl ⟨by rw [e1, e2], ?_⟩
          exact HCw.out.setRow (fun h => absurd h (Nat.lt_irrefl _)) _
        · have hcall := Go.Lib.hid (fun w => index_hex (byteAt s k) w _ hx)
          have hvn : vn s k = v := by unfold vn; rw [hx]; rfl
          have hcell : wr.cell? ⟨w.heap.size + 1, k / 2, none⟩ = some (.int .u8 (pv s k (k / 2) : Nat)) := (cell_of_heap HR.out _).trans (arr_get 32 _ _ (by omega))
          have hfr : wr.frozen? ⟨w.heap.size + 1, k / 2, none⟩ = false := frozen_of_heap HR.out _
          have hvi : (v : Int) < 16 := by omega
          have HX := Go.Lib.hid (show 0 ≤ YtdmeeghgbiffmaaDoor.hx (byteAt s k) by rw [hx]; omega)
          clear hx
          rcases Nat.mod_two_eq_zero_or_one k with hk2 | hk2
          · have hp : pv s k (k / 2) = 0 := by unfold pv; rw [if_neg (by omega), if_neg (by omega)]
            rw [hp] at hcell
            go_wp2_with (go_at_call 50; refine (hcall.out _).mono ?_; rintro e w1 ⟨rfl, rfl⟩)
            go_roundw
            case rel =>
              refine ⟨k + 1, by omega, by go_num, fun j hj => ?_, ?_, Ch.setCell (S := fun j => j = w.heap.size + 1) HCr.out (p := ⟨w.heap.size + 1, k / 2, none⟩) (fun _ => rfl) _⟩
              · by_cases e : j = k
                · subst e; exact HX.out
                · exact HD.out j (by omega)
              · refine (heap_set HR.out (k / 2) _).trans ?_
                rw [bor0 v hv, arr_congr (fun i _ => pv_even s k i v hk2 hvn)]
            case measure => simp [intOf]; omega
          · have hp : pv s k (k / 2) = vn s (k - 1) := by unfold pv; rw [if_neg (by omega), if_pos (by omega), show 2 * (k / 2) = k - 1 by omega]
            rw [hp] at hcell
            obtain ⟨a, ha⟩ : ∃ a, vn s (k - 1) = a := ⟨_, rfl⟩
            have haa : a < 16 := ha ▸ vn_lt s (k - 1)
            have hai : (a : Int) < 16 := by omega
            rw [ha] at hcell
            go_wp2_with (go_at_call 50; refine (hcall.out _).mono ?_; rintro e w1 ⟨rfl, rfl⟩)
            go_roundw
            case rel =>
              refine ⟨k + 1, by omega, by go_num, fun j hj => ?_, ?_, Ch.setCell (S := fun j => j = w.heap.size + 1) HCr.out (p := ⟨w.heap.size + 1, k / 2, none⟩) (fun _ => rfl) _⟩
              · by_cases e : j = k
                · subst e; exact HX.out
                · exact HD.out j (by omega)
              · refine (heap_set HR.out (k / 2) _).trans ?_
                rw [bor1 a v haa hv, arr_congr (fun i _ => pv_odd s k i a v hk2 ha hvn)]
            case measure => simp [intOf]; omega
      · obtain rfl : k = 64 := by omega
        have HE := Go.Lib.hid (is_hex hsz HD.out)
        have hhv : (arr 32 fun i => (.int .u8 (pv s 64 i : Nat) : Value)) = hv (parsed s) := arr_congr (fun i _ => by
          unfold parsed
          rw [HE.out, if_pos rfl, UInt8.toNat_ofNat', Nat.mod_eq_of_lt (pv_lt s 64 i)])
        have HR' := Go.Lib.hid (show wr.heap[w.heap.size + 1]? = some (.cells (hv (parsed s)) 31) by rw [← hhv]; exact HR.out)
        clear hhv
        go_wp2_with (first | refine wpList_load_row rfl 31 (.tmp 4) rfl (w.heap.size + 1) rfl 31 _ (0, 0) _ HR'.out Tryd.underlying31 rfl (hv_info _) ?_ | refine wpList_store_row rfl 31 (.tmp 2) (.tmp 35) rfl w.heap.size (hv (parsed s)) rfl rfl 31 (arr 32 fun _ => .int .u8 0) HH2.out (hv_info _) (by rw [arr_size]; exact (arr_size _ _).symm) (hv_all _) ?_)
        have e2 : perr s = 0 := by unfold perr; rw [HE.out]; rfl
        refine bodyPost_ret (results_cell_slot (h := Tryd.results24) _ _ w.heap.size 31 _ (0, 0) _ (.int .i64 0) rfl rfl (heap_setRow HH2.out) Tryd.underlying31 rfl (hv_info _)) rfl ⟨by rw [e2], ?_⟩
        exact HCw.out.setRow (fun h => absurd h (Nat.lt_irrefl _)) _
  · have hsz' : ¬ (s.size : Int) = 64 := by omega
    go_enter Tryd.func24, Tryd.ntmps24
    go_wp2_with (refine wpList_store_row rfl 31 (.tmp 2) (.tmp 10) rfl w.heap.size (hv fun _ => 0) rfl rfl 31 (arr 32 fun _ => .int .u8 0) ((Below.heap_alloc _ _ _ (by simp)).trans (World.alloc_heap_new w _)) (hv_info _) (by rw [arr_size]; exact (arr_size _ _).symm) (hv_all _) ?_)
    have e1 : parsed s = fun _ => 0 := by unfold parsed; rw [not_size hsz]; rfl
    have e2 : perr s = 110 := by unfold perr; rw [not_size hsz]; rfl
    refine bodyPost_ret (results_cell_slot (h := Tryd.results24) _ _ w.heap.size 31 _ (0, 0) _ (.int .i64 110) rfl rfl (heap_setRow (t := 31) (fr := (0, 0)) (old := arr 32 fun _ => .int .u8 0) ((Below.heap_alloc _ _ _ (by simp)).trans (World.alloc_heap_new w _))) Tryd.underlying31 rfl (hv_info _)) rfl ⟨by rw [e1, e2], ?_⟩
    exact (((Ch.refl _ w).alloc _).alloc _).setRow (fun h => absurd h (Nat.lt_irrefl _)) _
end Go.Proofs.YtdmeeghgbiffmaaDoor
