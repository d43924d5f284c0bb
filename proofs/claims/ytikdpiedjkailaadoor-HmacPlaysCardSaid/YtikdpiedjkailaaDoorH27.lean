/- Laws for HmacHolds: unequal arrays, steps, noughts behind a key. -/
import Derived.Test.YtikdpiedjkailaaDoorH24
import Derived.Test.YtikdpiedjkailaaDoorH21
namespace Go.Proofs.YtikdpiedjkailaaDoor
open Go Go.RowKit

theorem upto_200h (L : Nat → Nat) : ∀ N, (∀ i, i < N → L i ≤ 200) → upto L N ≤ 200 * N
  | 0, _ => Nat.zero_le _
  | N + 1, h => by
    have h1 := upto_200h L N (fun i hi => h i (by omega))
    have h2 := h N (by omega)
    show upto L N + L N ≤ _
    omega
theorem wp_neq {P : Program} {o : Oper} {a : Act} {w : World} {K : Act → World → Prop} {Q : Exit → Act → World → Prop} (x y : Operand) (t t2 : TypeId) (ho : o.op = .binOp .neq t x y t2)
    (R S : Array Value) (hx : a.eval x = .agg R) (hy : a.eval y = .agg S) (hg : P.eqGuardType P.depth t = false) {b : Bool} (he : (Op.equalIn 10000 t (.agg R) (.agg S)).run P w = .ok b w) (h : K (a.put o.dst (.bool !b)) w) : o.wp P a w K Q := by
  unfold Oper.wp execOp
  have h1 : (eqGuard .neq t x y (.agg R) (.agg S)).run P w = .ok () w := by
    simp [eqGuard, hg]
  have h2 : (binOp .neq t (.agg R) (.agg S)).run P w = .ok (.bool !b) w := by
    simp only [binOp, Op.equal, Sem.run_bind]
    rw [show (Op.equalIn Op.maxDepth t (.agg R) (.agg S)).run P w = .ok b w from he]
    rfl
  simp only [ho, hx, hy, Sem.run_bind, h1, h2, Result.andThen]
  exact h
/-- One part, whose bytes are said. -/
theorem part_one {W : World} {q : Option Addr} {n c : Nat} {f : Nat → UInt8} (h : BytesAt W q n c f) : PartsAt (W.alloc (.cells #[.slice q n c] 22)) W.heap.size 0 1 (fun _ => q) (fun _ => n) (fun _ => c) f :=
  parts_of (fun i hi => by
    obtain rfl : i = 0 := by omega
    exact cell_fresh _ _ 22 0) (fun i hi => by
    obtain rfl : i = 0 := by omega
    have := h.ch ((Ch.refl (fun _ => False) W).alloc (.cells #[.slice q n c] 22)) (fun _ _ h => h)
    simpa [upto] using this)

theorem step_load {W : World} {B : Nat} {s : ByteArray} {n : Nat} (h : W.heap[B]? = some (.cells #[.string s, .int .u64 (u64n n)] 44)) : (loadVar 44 ⟨B, 0, none⟩).run Tryd.prog W = .ok (.agg #[.string s, .int .u64 (u64n n)]) W :=
  run_loadVar_part (P := Tryd.prog) W ⟨B, 0, none⟩ 44 #[.string s, .int .u64 (u64n n)] _ (fun j v hj => by
    rw [add_at, cell_of_heap h]
    simpa using hj) Tryd.underlying44 rfl (by kernel_rfl)
theorem steps_one {W : World} {g : Nat} {s : ByteArray} {n : Nat} (h : W.heap[g]? = some (.cells #[.string s, .int .u64 (u64n n)] 44)) : StepsAt W g 0 1 (fun _ => s) (fun _ => n) := by
  intro i hi
  obtain rfl : i = 0 := by omega
  exact ⟨cell_of_heap h 0, cell_of_heap h 1⟩
def nm2 (sa sb : ByteArray) : Nat → ByteArray := fun i => if i = 0 then sa else sb
def nu2 (na nb : Nat) : Nat → Nat := fun i => if i = 0 then na else nb
theorem steps_two {W : World} {g : Nat} {sa sb : ByteArray} {na nb : Nat} (h : W.heap[g]? = some (.cells #[.string sa, .int .u64 (u64n na), .string sb, .int .u64 (u64n nb)] 44)) : StepsAt W g 0 2 (nm2 sa sb) (nu2 na nb) := by
  intro i hi
  obtain rfl | rfl : i = 0 ∨ i = 1 := by omega
  · exact ⟨cell_of_heap h 0, cell_of_heap h 1⟩
  · exact ⟨cell_of_heap h 2, cell_of_heap h 3⟩
theorem child_one_is (key : Nat → UInt8) (n : Nat) (nm : Nat → ByteArray) (nu : Nat → Nat) : childB key n 1 nm nu = expB (kb key n) (nameS (nm 0) (nu 0)) := by
  unfold childB
  rw [if_neg (by omega), show keyF key n nm nu 1 = expB (kb (keyF key n nm nu 0) (keyL n 0)) (nameS (nm 0) (nu 0)) from rfl, show keyF key n nm nu 0 = key from rfl]
  unfold keyL
  rw [if_pos rfl]
theorem child_two_is (key : Nat → UInt8) (n : Nat) (nm : Nat → ByteArray) (nu : Nat → Nat) : childB key n 2 nm nu = expB (kb (expB (kb key n) (nameS (nm 0) (nu 0))) 32) (nameS (nm 1) (nu 1)) := by
  unfold childB
  rw [if_neg (by omega), show keyF key n nm nu 2 = expB (kb (keyF key n nm nu 1) (keyL n 1)) (nameS (nm 1) (nu 1)) from rfl, show keyF key n nm nu 1 = expB (kb (keyF key n nm nu 0) (keyL n 0)) (nameS (nm 0) (nu 0)) from rfl, show keyF key n nm nu 0 = key from rfl]
  unfold keyL
  rw [if_pos rfl, if_neg (by omega)]
theorem child_step (key : Nat → UInt8) (nk : Nat) (sa sb : ByteArray) (na nb : Nat) : childB (childB key nk 1 (fun _ => sa) (fun _ => na)) 32 1 (fun _ => sb) (fun _ => nb) = childB key nk 2 (nm2 sa sb) (nu2 na nb) := by
  rw [child_one_is, child_one_is, child_two_is, show nm2 sa sb 0 = sa from rfl, show nm2 sa sb 1 = sb from rfl, show nu2 na nb 0 = na from rfl, show nu2 na nb 1 = nb from rfl]
theorem nm2_le (sa sb : ByteArray) (ha : sa.size ≤ 100000000) (hb : sb.size ≤ 100000000) (i : Nat) (_ : i < 2) : (nm2 sa sb i).size ≤ 100000000 := by
  unfold nm2; split
  · exact ha
  · exact hb
theorem wpList_neq {P : Program} {ops : Array Oper} {rest : List Oper} {o : Oper} {a : Act} {w : World} {Q : Exit → Act → World → Prop} (hgd : o.guard = none) (x y : Operand) (t t2 : TypeId) (ho : o.op = .binOp .neq t x y t2)
    (R S : Array Value) (hx : a.eval x = .agg R) (hy : a.eval y = .agg S) (hg : P.eqGuardType P.depth t = false) {b : Bool} (he : (Op.equalIn 10000 t (.agg R) (.agg S)).run P w = .ok b w) (h : wpList P ops Q rest (a.put o.dst (.bool !b)) w) : wpList P ops Q (o :: rest) a w :=
  wpList_plain hgd fun _ hK => wp_neq x y t t2 ho R S hx hy hg he (hK _ _ h)

theorem run_append_row_zeros {P : Program} (w : World) (base : Nat) (t tn ty e : TypeId) (i : TypeInfo) (kq kn : IntKind) (ht : P.underlying t = some (.slice e)) (htn : P.underlying tn = some (.int kn)) (hi : P.info? e = some i) (hz : i.zero = some (.int .u8 0))
    (hsize : i.size = 1) (hby : i.bytes = 1) (g cap : Nat) (cur : Array Value) (n : Nat) (xs : List Value) (hown : w.ownsRow base e 1 (.slice (some ⟨g, 0, none⟩) n cap) n xs) (k : Nat) (hbg : base ≤ g) (hg : w.heap[g]? = some (.cells cur e (0, 0))) (hnc : n ≤ cap) (hcm : cap ≤ maxLen) (hcs : cur.size = cap * 1) (htake : cur.toList.take (n * 1) = xs)
    (h63 : n + k ≤ maxLen) (hbytes : n + k ≤ 140737488355328) (hbase : base ≤ w.heap.size) :
    ∃ v' w', (Builtin.append_ #[t, tn] ty #[.slice (some ⟨g, 0, none⟩) n cap, .int kq k]).run P w = .ok v' w' ∧ w'.ownsRow base e 1 v' (n + k) (xs ++ List.replicate k (.int .u8 0)) ∧ w.grownBy w' (some g) := by
  have hlen : (xs ++ List.replicate k (Value.int .u8 0)).length = (n + k) * 1 := by rw [List.length_append, hown.1, List.length_replicate]; omega
  by_cases hroom : n + k ≤ cap
  · have hfit : n * 1 + (List.replicate k (Value.int .u8 0)).length ≤ cur.size := by rw [List.length_replicate, hcs]; omega
    have hst := run_storeCells_at P g (n * 1) e (List.replicate k (Value.int .u8 0)) 0 cur w hg (by simpa using hfit) (fun u hu => by obtain ⟨_, rfl⟩ := List.mem_replicate.1 hu; rfl)
    simp only [Nat.add_zero] at hst
    have hw : IntKind.i64.wrap (k : Int) = k := by rw [IntKind.wrap_i64]; omega
    have hneg : ¬ ((k : Int) < 0) := by omega
    have h48i : ¬ (281474976710656 < (k : Int) * (i.bytes : Int)) := by rw [hby]; omega
    refine ⟨.slice (some ⟨g, 0, none⟩) (n + k) cap, w.setRow g (cur.toList.take (n * 1) ++ List.replicate k (Value.int .u8 0) ++ cur.toList.drop (n * 1 + (List.replicate k (Value.int .u8 0)).length)).toArray, ?_, ?_, ?_⟩
    · by_cases hk : k = 0
      · subst hk
        have hw0 : IntKind.i64.wrap 0 = 0 := by decide
        simp at hst
        simp [Builtin.append_, run_underlying ht, run_underlying htn, sizeOf, typeInfo, zeroValue, hi, hz, hsize, hby, asInt, asIntOf, Addr.add_lit, hw0, hnc, hst]
      · have hns : ¬ (k * i.size = 0) := by rw [hsize]; omega
        simp [Builtin.append_, run_underlying ht, run_underlying htn, sizeOf, typeInfo, zeroValue, hi, hz, hsize, asInt, asIntOf, hw, hneg, h48i, hroom, hk, zeroCells_one, Addr.add_lit] at hst ⊢
        rw [hst]; rfl
    · refine ⟨hlen, .inr ⟨g, cap, _, rfl, hbg, setRow_heap w g cur _ e _ hg, hroom, hcm, ?_, ?_⟩⟩
      · simp only [List.size_toArray, List.length_append, List.length_take, List.length_drop, Array.length_toList]
        omega
      · rw [htake, ← hlen]
        exact List.take_left
    · exact ⟨rfl, rfl, rfl, by simp, fun k' _ hk' => setRow_other w g k' _ (fun e => hk' (by simp [Value.ownBlock, e]))⟩
  · have hk : 0 < k := by omega
    have holds : ∀ j u, xs[j]? = some u → w.cell? ((⟨g, 0, none⟩ : Addr).add j) = some u := hown.cells (g := g) rfl
    have hfo := run_firstCells_some (P := P) w.drew i.size n ⟨g, 0, none⟩ n cap xs (by rw [hsize]; exact hown.1) (by simpa using holds)
    have hr := Go.Lib.run_append_grow_zeros (P := P) w t tn ty e i (.int .u8 0) kq kn ht htn hi hz (some ⟨g, 0, none⟩) n cap xs hfo k hk (by omega) (by omega) (by omega) (by rw [hby]; omega) (by rw [hby]; exact growslice_fits (by omega) (by omega))
    refine ⟨_, _, hr, ⟨hlen, .inr ⟨w.heap.size, _, _, rfl, hbase, heap_alloc_new w.drew _, grownCap_ge w (n + k) cap e, grownCap_le_maxLen w (n + k) cap e h63, ?_, ?_⟩⟩, ⟨rfl, rfl, rfl, by simp, fun k' hk' _ => heap_alloc_old w.drew _ hk'⟩⟩
    · have := grownCap_ge w (n + k) cap e
      have hx := hown.1
      simp only [Array.size_append, List.size_toArray, zeroCells_one, List.length_replicate]
      omega
    · simp only [zeroCells_one, Array.toList_append, List.append_assoc]
      rw [← List.append_assoc, ← hlen]
      exact List.take_left
theorem run_append_zeros_any {P : Program} (w : World) (base : Nat) (t tn ty e : TypeId) (i : TypeInfo) (kq kn : IntKind) (ht : P.underlying t = some (.slice e)) (htn : P.underlying tn = some (.int kn)) (hi : P.info? e = some i) (hz : i.zero = some (.int .u8 0))
    (hsize : i.size = 1) (hby : i.bytes = 1) (v : Value) (n : Nat) (xs : List Value) (hown : w.ownsRow base e 1 v n xs) (k : Nat)
    (h63 : n + k ≤ maxLen) (hbytes : n + k ≤ 140737488355328) (hbase : base ≤ w.heap.size) :
    ∃ v' w', (Builtin.append_ #[t, tn] ty #[v, .int kq k]).run P w = .ok v' w' ∧ w'.ownsRow base e 1 v' (n + k) (xs ++ List.replicate k (.int .u8 0)) ∧ w.grownBy w' v.ownBlock := by
  by_cases h0 : 0 < n
  · exact run_append_own_zeros w base t tn ty e i kq kn ht htn hi hz hsize hby v n xs hown k h0 h63 hbytes hbase
  · obtain rfl : n = 0 := by omega
    have hxs : xs = [] := by have := hown.1; simp at this; exact this
    subst hxs
    rcases hown.2 with ⟨rfl, _⟩ | ⟨g, cap, cur, rfl, hbg, hg, hnc, hcm, hcs, htake⟩
    · by_cases hk0 : k = 0
      · subst hk0
        have hw0 : IntKind.i64.wrap 0 = 0 := by decide
        exact ⟨.slice none 0 0, w, by simp [Builtin.append_, run_underlying ht, run_underlying htn, sizeOf, typeInfo, zeroValue, hi, hz, hsize, hby, asInt, asIntOf, hw0], ⟨by simp, .inl ⟨rfl, rfl⟩⟩, ⟨rfl, rfl, rfl, Nat.le_refl _, fun _ _ _ => rfl⟩⟩
      · have hfo := run_firstCells_none (P := P) w.drew i.size 0 0 0
        have hr := Go.Lib.run_append_grow_zeros (P := P) w t tn ty e i (.int .u8 0) kq kn ht htn hi hz none 0 0 [] hfo k (by omega) (by omega) (by omega) (by omega) (by rw [hby]; omega) (by rw [hby]; exact growslice_fits (by omega) (by omega))
        have hge := grownCap_ge w (0 + k) 0 e
        refine ⟨_, _, hr, ⟨by simp, .inr ⟨w.heap.size, _, _, rfl, hbase, heap_alloc_new w.drew _, hge, grownCap_le_maxLen w (0 + k) 0 e h63, ?_, ?_⟩⟩, ⟨rfl, rfl, rfl, by simp, fun k' hk' _ => heap_alloc_old w.drew _ hk'⟩⟩
        · simp only [Array.size_append, List.size_toArray, zeroCells_one, List.length_replicate, List.length_nil]
          omega
        · simp [zeroCells_one]
    · exact run_append_row_zeros w base t tn ty e i kq kn ht htn hi hz hsize hby g cap cur 0 [] hown k hbg hg hnc hcm hcs htake h63 hbytes hbase
/-- 'append(s, make([]byte, k)...)', s of one's own. -/
theorem wpList_append_zeros {w : World} {ops : Array Oper} {rest : List Oper} {o : Oper} {a : Act} {Q : Exit → Act → World → Prop} (hgd : o.guard = none) (s x : Operand)
    (ho : o.op = .call { callee := .builtin .append, args := #[s, x], argTypes := #[22, 3] }) (base : Nat) (v : Value) (n : Nat) (xs : List Value) (hs : a.eval s = v) (hown : w.ownsRow base 5 1 v n xs) (k : Nat) (hx : a.eval x = .int .i64 (k : Int)) (hk : n + k ≤ 10000000000) (hbase : base ≤ w.heap.size)
    (h : ∀ v' w', w'.ownsRow base 5 1 v' (n + k) (xs ++ List.replicate k (.int .u8 0)) → w.grownBy w' v.ownBlock → wpList Tryd.prog ops Q rest (a.put o.dst v') w') : wpList Tryd.prog ops Q (o :: rest) a w := by
  obtain ⟨i0, hi, hz0, hz1, hz2⟩ := info_parts info5
  refine wpList_plain hgd fun K hK => ?_
  obtain ⟨v', w', hr, h2, h3⟩ := run_append_zeros_any (P := Tryd.prog) w base 22 3 o.type 5 i0 .i64 .i64 Tryd.underlying22 Tryd.underlying3 hi hz0 hz1 hz2 v n xs hown k (by simp [maxLen]; omega) (by omega) hbase
  unfold Oper.wp
  simp [execOp, ho, resolve, invoke, builtin, hs, hx, hr, Result.andThen]
  exact hK _ _ (h v' w' h2 h3)
theorem rep_fL (k : Nat) : List.replicate k (Value.int .u8 0) = fL (fun _ => 0) k := by
  apply List.ext_getElem?
  intro j
  by_cases h : j < k
  · rw [fL_at _ k j h, List.getElem?_replicate, if_pos h]; rfl
  · rw [List.getElem?_eq_none (by simp; omega), List.getElem?_eq_none (by rw [fL_len]; omega)]
def padZ (key : Nat → UInt8) (n : Nat) : Nat → UInt8 := fun j => if j < n then key j else 0
theorem fL_padZ (key : Nat → UInt8) (n k : Nat) : fL key n ++ List.replicate k (Value.int .u8 0) = fL (padZ key n) (n + k) := by
  rw [rep_fL]
  exact fL_append (padZ key n) key (fun _ => 0) n k (fun j h => by unfold padZ; rw [if_pos h]) (fun j h => by unfold padZ; rw [if_neg (by omega)])
theorem kb_padZ (key : Nat → UInt8) (n k : Nat) (h : n + k ≤ 64) : kb (padZ key n) (n + k) = kb key n := by
  funext i
  have h64 : n ≤ 64 := by omega
  unfold kb
  rw [if_pos h, if_pos h64]
  unfold padZ
  by_cases hi : i < n
  · rw [if_pos (show i < n + k by omega)]
  · rw [if_neg hi]
    split <;> rfl
theorem kb_hash (key : Nat → UInt8) (n : Nat) (h : 64 < n) : kb (hashB key n) 32 = kb key n := by
  funext i
  unfold kb
  rw [if_pos (show 32 ≤ 64 by omega), if_neg (show ¬ n ≤ 64 by omega)]
end Go.Proofs.YtikdpiedjkailaaDoor
