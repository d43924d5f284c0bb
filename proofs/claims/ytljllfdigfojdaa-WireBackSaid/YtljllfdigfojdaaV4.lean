/- Which numbers may be laid; the writer's Number; Clone, All. -/
import Derived.Test.YtljllfdigfojdaaV3
namespace Go.Proofs.Ytljllfdigfojdaa
open Go Go.RowKit

def goodN (z : Int) : Prop := 0 ≤ z ∧ z ≤ 4611686018427387904
theorem noNumber_good (z : Int) (w : World) (h : goodN z) : Calls Try.prog 41 #[.int .i64 z] w fun e w' => e = .returned (.bool false) ∧ w = w' := by
  obtain ⟨h1, h2⟩ := h
  have h1' : ¬ z < 0 := by omega
  have h2' : ¬ 4611686018427387904 < z := by omega
  go_enter Try.func41, Try.ntmps41
  go_wp2
  go_ret
  exact ⟨rfl, rfl⟩
theorem noNumber_bad (z : Int) (w : World) (h : ¬ goodN z) : Calls Try.prog 41 #[.int .i64 z] w fun e w' => e = .returned (.bool true) ∧ w = w' := by
  by_cases h1 : z < 0
  · clear h
    go_enter Try.func41, Try.ntmps41
    go_wp2
    go_ret
    exact ⟨rfl, rfl⟩
  · have h2 : 4611686018427387904 < z := by
      refine Int.not_le.1 (fun h3 => h ⟨by omega, h3⟩)
    clear h
    go_enter Try.func41, Try.ntmps41
    go_wp2
    go_ret
    exact ⟨rfl, rfl⟩
set_option maxRecDepth 100000 in
theorem index_any (a off N cap : Nat) (sp : Option Addr) (z : Nat → Int) (w : World) (hsp : sp = some ⟨a, off, none⟩ ∨ N = 0) (hz : ∀ i, i < N → w.cell? ⟨a, off + i, none⟩ = some (.int .i64 (z i))) (hN : N ≤ 1000000000000) :
    Calls Try.prog 78 #[.slice sp N cap, .func (.func 41) #[] #[]] w fun e w' => w = w' ∧ ((e = .returned (.int .i64 (-1)) ∧ ∀ i, i < N → goodN (z i)) ∨ ∃ i : Nat, i < N ∧ ¬ goodN (z i) ∧ e = .returned (.int .i64 i)) := by
  have HSP := Go.Lib.hid hsp; have HZ := Go.Lib.hid hz
  clear hsp hz
  go_enter Try.func78, Try.ntmps78
  go_wp2_with fail
  go_loop [8] (fun ix => ∃ i : Nat, i ≤ N ∧ ix = .int .i64 i ∧ ∀ j, j < i → goodN (z j)) (fun ix => N - (intOf ix).toNat)
  case atStart => exact ⟨0, by omega, rfl, fun j hj => by omega⟩
  case round =>
    obtain ⟨i, hi, rfl, hg⟩ := hrel
    have HG := Go.Lib.hid hg
    clear hg
    by_cases hlt : i < N
    · obtain rfl := HSP.out.resolve_right (by omega)
      have hcell := HZ.out i hlt
      have HGZ := Go.Lib.hid (show goodN (z i) → ∀ j, j < i + 1 → goodN (z j) from fun h j hj => by
        by_cases e : j = i
        · subst e; exact h
        · exact HG.out j (by omega))
      have HBZ := Go.Lib.hid (show ¬ goodN (z i) → ∃ i : Nat, i < N ∧ ¬ goodN (z i) ∧ True from fun h => ⟨i, hlt, h, trivial⟩)
      by_cases hgi : goodN (z i)
      · have HN := Go.Lib.hid (fun W => noNumber_good (z i) W hgi)
        have HX := Go.Lib.hid (HGZ.out hgi)
        clear hgi HGZ HBZ
        generalize z i = zi at *
        go_wp2_with (go_at_call 41; refine (HN.out _).mono ?_; rintro e w' ⟨rfl, rfl⟩)
        go_round
        case rel => exact ⟨i + 1, by omega, by go_num, HX.out⟩
        case measure => simp [intOf]; omega
      · have HN := Go.Lib.hid (fun W => noNumber_bad (z i) W hgi)
        have HX := Go.Lib.hid (show i < N ∧ ¬ goodN (z i) from ⟨hlt, hgi⟩)
        clear hgi HGZ HBZ
        generalize hzi : z i = zi at *
        have HZI := Go.Lib.hid hzi
        clear hzi
        go_wp2_with (go_at_call 41; refine (HN.out _).mono ?_; rintro e w' ⟨rfl, rfl⟩)
        go_ret
        exact ⟨rfl, .inr ⟨i, HX.out.1, by rw [HZI.out]; exact HX.out.2, rfl⟩⟩
    · obtain rfl : i = N := by omega
      go_wp2_with fail
      go_ret
      exact ⟨rfl, .inl ⟨rfl, HG.out⟩⟩
theorem contains_good (a off N cap : Nat) (sp : Option Addr) (z : Nat → Int) (w : World) (hsp : sp = some ⟨a, off, none⟩ ∨ N = 0) (hz : ∀ i, i < N → w.cell? ⟨a, off + i, none⟩ = some (.int .i64 (z i))) (h : ∀ i, i < N → goodN (z i)) (hN : N ≤ 1000000000000) :
    Calls Try.prog 40 #[.slice sp N cap, .func (.func 41) #[] #[]] w fun e w' => e = .returned (.bool false) ∧ w = w' := by
  have HI := Go.Lib.hid (index_any a off N cap sp z w hsp hz hN); have HG := Go.Lib.hid h
  clear hsp hz h
  go_enter Try.func40, Try.ntmps40
  go_wp2_with fail
  refine HI.out.mono ?_
  rintro e w' ⟨rfl, ⟨rfl, _⟩ | ⟨i, h1, h2, _⟩⟩
  · go_wp2_with fail
    go_ret
    exact ⟨rfl, rfl⟩
  · exact absurd (HG.out i h1) h2
theorem contains_bad (a off N cap : Nat) (sp : Option Addr) (z : Nat → Int) (w : World) (hsp : sp = some ⟨a, off, none⟩ ∨ N = 0) (hz : ∀ i, i < N → w.cell? ⟨a, off + i, none⟩ = some (.int .i64 (z i))) (h : ∃ i, i < N ∧ ¬ goodN (z i)) (hN : N ≤ 1000000000000) :
    Calls Try.prog 40 #[.slice sp N cap, .func (.func 41) #[] #[]] w fun e w' => e = .returned (.bool true) ∧ w = w' := by
  have HI := Go.Lib.hid (index_any a off N cap sp z w hsp hz hN); have HG := Go.Lib.hid h
  clear hsp hz h
  go_enter Try.func40, Try.ntmps40
  go_wp2_with fail
  refine HI.out.mono ?_
  rintro e w' ⟨rfl, ⟨rfl, h⟩ | ⟨i, h1, h2, rfl⟩⟩
  · obtain ⟨i, h1, h2⟩ := HG.out
    exact absurd (h i h1) h2
  · have hi : (0 : Int) ≤ (i : Int) := by omega
    clear h2
    go_wp2_with fail
    go_ret
    exact ⟨rfl, rfl⟩
theorem good_nat (n : Nat) (h : n ≤ 4611686018427387904) : goodN (n : Int) := ⟨by omega, by omega⟩
/-- Numbers that may be laid. -/
theorem number_ok (b a off N cap k : Nat) (sp : Option Addr) (v : Value) (F : Nat → UInt8) (nums : Nat → Nat) (w : World) (hsp : sp = some ⟨a, off, none⟩ ∨ N = 0) (hw : WrAt w b v k F)
    (hnum : ∀ i, i < N → w.cell? ⟨a, off + i, none⟩ = some (.int .i64 (nums i : Int))) (ha : a ≠ b ∧ v.ownBlock ≠ some a) (hbig : ∀ i, i < N → nums i ≤ 4611686018427387904) (hk : k + 9 * N ≤ 1000000000000)
    (hF : ∀ i, i < N → ∀ j, j < numL (nums i) → F (k + upto (lenOf nums) i + j) = numB (nums i) j) :
    Calls Try.prog 15 #[.pointer (some ⟨b, 0, none⟩), .slice sp N cap] w fun e w' => e = .returned (.int .i64 0) ∧ ∃ v', WrAt w' b v' (k + upto (lenOf nums) N) F ∧ Gb b w w' v v' := by
  have HT := Go.Lib.hid (there_any w hw)
  have HC := Go.Lib.hid (contains_good a off N cap sp (fun i => nums i) w hsp hnum (fun i hi => good_nat _ (hbig i hi)) (by omega))
  have HL := Go.Lib.hid (lay64_any b a off N cap k sp v F nums w hsp hw hnum ha hbig hk hF)
  clear hsp hw hnum ha hbig hk hF
  go_enter Try.func15, Try.ntmps15
  go_wp2_with (first
    | (go_at_call 38; refine HT.out.mono ?_; rintro e w' ⟨rfl, rfl⟩)
    | (go_at_call 40; refine HC.out.mono ?_; rintro e w' ⟨rfl, rfl⟩)
    | (go_at_call 42; refine HL.out.mono ?_; rintro e w' ⟨rfl, v2, h1, h2⟩; have H1 := Go.Lib.hid h1; have H2 := Go.Lib.hid h2; clear h1 h2))
  go_ret
  exact ⟨rfl, v2, H1.out, H2.out⟩
theorem number_bad (b a off N cap k : Nat) (sp : Option Addr) (v : Value) (F : Nat → UInt8) (z : Nat → Int) (w : World) (hsp : sp = some ⟨a, off, none⟩ ∨ N = 0) (hw : WrAt w b v k F)
    (hz : ∀ i, i < N → w.cell? ⟨a, off + i, none⟩ = some (.int .i64 (z i))) (h : ∃ i, i < N ∧ ¬ goodN (z i)) (hN : N ≤ 1000000000000) :
    Calls Try.prog 15 #[.pointer (some ⟨b, 0, none⟩), .slice sp N cap] w fun e w' => e = .returned (.int .i64 2) ∧ w = w' := by
  have HT := Go.Lib.hid (there_any w hw)
  have HC := Go.Lib.hid (contains_bad a off N cap sp z w hsp hz h hN)
  clear hsp hw hz h
  go_enter Try.func15, Try.ntmps15
  go_wp2_with (first
    | (go_at_call 38; refine HT.out.mono ?_; rintro e w' ⟨rfl, rfl⟩)
    | (go_at_call 40; refine HC.out.mono ?_; rintro e w' ⟨rfl, rfl⟩))
  go_ret
  exact ⟨rfl, rfl⟩
/-- 'append([]byte{}, s...)'. -/
theorem wpList_append_fresh {w : World} {ops : Array Oper} {rest : List Oper} {o : Oper} {a : Act} {Q : Exit → Act → World → Prop} (hgd : o.guard = none) (s x : Operand)
    (ho : o.op = .call { callee := .builtin .append, args := #[s, x], argTypes := #[27, 27] }) (base g : Nat) (hs : a.eval s = .slice (some ⟨g, 0, none⟩) 0 0) (hg : w.heap[g]? = some (.cells #[] 5)) (hbg : base ≤ g) (hbase : base ≤ w.heap.size)
    (ad : Addr) (n c : Nat) (f : Nat → UInt8) (hx : a.eval x = .slice (some ad) n c) (hb : BytesAt w (some ad) n c f) (hn : n ≤ 10000000000000)
    (h : ∀ v' w', w'.ownsRow base 5 1 v' n (fL f n) → Ch (fun q => q = g) w w' → wpList Try.prog ops Q rest (a.put o.dst v') w') : wpList Try.prog ops Q (o :: rest) a w := by
  obtain ⟨i0, hi, hz0, hz1, hz2⟩ := info_parts info5
  have hnew : ∀ j u, (fL f n)[j]? = some u → w.cell? (ad.add j) = some u := fun j u hj => by
    obtain ⟨h1, rfl⟩ := fL_get _ _ j u hj
    obtain ⟨x, y, e, _, h2⟩ := hb.at0 (by omega)
    cases e
    rw [show (⟨x, y, none⟩ : Addr).add j = ⟨x, y + j, none⟩ by simp [Addr.add]]
    exact h2 j h1
  refine wpList_append_own _ hgd s x 27 ho base 5 i0 (.int .u8 0) 1 1 Try.underlying27 hi hz0 hz1 hz2 rfl (by decide) _ 0 [] hs ⟨rfl, .inr ⟨g, 0, #[], rfl, hbg, hg, by omega, by simp [maxLen], rfl, rfl⟩⟩ ad n c (fL f n) hx (by rw [fL_len]; omega) hnew (fL_one _ _) (by simp [maxLen]; omega) (by omega) hbase (fun v' w' h1 h2 _ => h v' w' (by simpa using h1) (Ch.grown (Ch.refl _ w) h2 (fun k e _ => by simpa [Value.ownBlock] using e.symm)))
theorem nil_eq (w : World) : (binOp .eql 27 (.slice none 0 0) (.slice none 0 0)).run Try.prog w = .ok (.bool true) w := by kernel_rfl
theorem some_eq (ad : Addr) (n c : Nat) (w : World) : (binOp .eql 27 (.slice (some ad) n c) (.slice none 0 0)).run Try.prog w = .ok (.bool false) w := by kernel_rfl
set_option maxRecDepth 100000 in
theorem clone_any (p : Option Addr) (n c : Nat) (f : Nat → UInt8) (w : World) (hb : BytesAt w p n c f) (hn : n ≤ 10000000000000) :
    Calls Try.prog 39 #[.slice p n c] w fun e w' => ∃ v', e = .returned v' ∧ w'.ownsRow w.heap.size 5 1 v' n (fL f n) ∧ Ch (fun _ => False) w w' := by
  cases p with
  | none =>
    obtain rfl : n = 0 := by
      rcases hb with ⟨x, y, e, _⟩ | h
      · cases e
      · exact h.1
    obtain rfl : c = 0 := by
      rcases hb with ⟨x, y, e, _⟩ | h
      · cases e
      · exact h.2 rfl
    clear hb
    have hne := nil_eq w
    go_enter Try.func39, Try.ntmps39
    go_wp2
    go_ret
    exact ⟨_, rfl, ⟨rfl, .inl ⟨rfl, rfl⟩⟩, Ch.refl _ _⟩
  | some ad =>
    have HB := Go.Lib.hid hb
    clear hb
    have hne := some_eq ad n c w
    go_enter Try.func39, Try.ntmps39
    go_wp2_with (at_builtin; refine wpList_append_fresh rfl (.tmp 5) (.tmp 6) rfl w.heap.size w.heap.size rfl (World.alloc_heap_new w _) (Nat.le_refl _) (by simp) ad n c f rfl (HB.out.ch ((Ch.refl (fun _ => False) w).alloc _) (fun _ _ => id)) hn ?_; intro v1 w1 ho1 hc1; have HO1 := Go.Lib.hid ho1; have HC1 := Go.Lib.hid (((Ch.refl (fun _ => False) w).alloc (.cells #[] 5)).then hc1 (fun i hi e => by omega)); clear ho1 hc1)
    go_ret
    exact ⟨_, rfl, HO1.out, HC1.out⟩
set_option maxRecDepth 100000 in
theorem all_any (b k : Nat) (v : Value) (F : Nat → UInt8) (w : World) (hw : WrAt w b v k F) (hk : k ≤ 10000000000000) :
    Calls Try.prog 13 #[.pointer (some ⟨b, 0, none⟩)] w fun e w' => ∃ v', e = .returned v' ∧ w'.ownsRow w.heap.size 5 1 v' k (fL F k) ∧ Ch (fun _ => False) w w' := by
  have HT := Go.Lib.hid (there_any w hw)
  obtain ⟨p, c, rfl, hb⟩ := own_bytes hw.own
  have hc : w.cell? ⟨b, 0, none⟩ = some (.slice p k c) := (cell_of_heap hw.row 0).trans rfl
  have HC := Go.Lib.hid (clone_any p k c F w hb hk)
  clear hw hb
  go_enter Try.func13, Try.ntmps13
  go_wp2_with (first
    | (go_at_call 38; refine HT.out.mono ?_; rintro e w' ⟨rfl, rfl⟩)
    | (go_at_call 39; refine HC.out.mono ?_; rintro e w' ⟨v', rfl, h1, h2⟩; have H1 := Go.Lib.hid h1; have H2 := Go.Lib.hid h2; clear h1 h2))
  go_ret
  exact ⟨_, rfl, H1.out, H2.out⟩
end Go.Proofs.Ytljllfdigfojdaa
