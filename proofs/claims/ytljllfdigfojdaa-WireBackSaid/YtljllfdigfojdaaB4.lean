/- The frames of texts, one behind the other, and cut. -/
import Derived.Test.YtljllfdigfojdaaW2
import Derived.Test.YtljllfdigfojdaaL6
import Derived.Test.YtljllfdigfojdaaB2
import Derived.Laws.AppendOwn
namespace Go.Proofs.Ytljllfdigfojdaa
open Go Go.RowKit

theorem sealF_congr {f g : Nat → UInt8} {n : Nat} (h : ∀ j, j < n → f j = g j) (j : Nat) : sealF f n j = sealF g n j := by
  unfold sealF
  by_cases hj : j < n
  · rw [if_pos hj, if_pos hj, h j hj]
  · rw [if_neg hj, if_neg hj]
    unfold sumF
    rw [cw_congr _ n h]
theorem bL_congr {f g : Nat → UInt8} {n : Nat} (h : ∀ j, j < n → f j = g j) : bL f n = bL g n := by
  unfold bL; exact List.map_congr_left (fun j hj => h j (List.mem_range.1 hj))
/-- Bytes that begin with a frame: the frame is split off. -/
theorem split_full {f X : Nat → UInt8} {n m : Nat} (hm : m ≤ 100) (hn : frL m ≤ n) (hf : ∀ j, j < frL m → f j = frB X m j) : splitR f n = .inl (numL (m + 4), m) := by
  have hl : frL m = numL (m + 4) + (m + 4) := rfl
  have hr : rdN f n = .got (m + 4) (numL (m + 4)) := rd_num (by omega) (by omega) (fun j hj => by rw [hf j (by omega), frB_num X m j hj])
  have ho : outS f n = .got (m + 4) (numL (m + 4)) := by
    unfold outS
    rw [hr]
    simp only
    rw [if_neg (by omega), if_neg (by omega)]
  have hs : ∀ j, j < m + 4 → f (numL (m + 4) + j) = sealF X m j := fun j hj => by
    rw [hf _ (by omega), frB_seal]
  have h1 : bL (sealF (fun j => f (numL (m + 4) + j)) m) (m + 4) = bL (fun j => f (numL (m + 4) + j)) (m + 4) := by
    rw [bL_congr (g := sealF X m) (fun j hj => hs j hj)]
    refine bL_congr fun j hj => ?_
    rw [sealF_congr (g := sealF X m) (fun i hi => hs i (by omega)) j, seal_idem]
  unfold splitR
  rw [ho]
  simp only [Nat.add_sub_cancel]
  rw [if_pos (by unfold sumOK; rw [h1]; simp)]
/-- Bytes that begin with a part of a frame: none is split off. -/
theorem split_part {f X : Nat → UInt8} {n m : Nat} (hm : m ≤ 100) (hn : n < frL m) (hf : ∀ j, j < n → f j = frB X m j) : splitR f n = .inr 0 := by
  have hl : frL m = numL (m + 4) + (m + 4) := rfl
  have hn1 : numL (m + 4) = 1 := by unfold numL; rw [if_pos (by omega)]
  have ho : outS f n = .lack := by
    by_cases h0 : n = 0
    · subst h0
      unfold outS rdN
      rfl
    · have hr : rdN f n = .got (m + 4) (numL (m + 4)) := rd_num (by omega) (by omega) (fun j hj => by rw [hf j (by omega), frB_num X m j hj])
      unfold outS
      rw [hr]
      simp only
      rw [if_neg (by omega), if_pos (by omega)]
  unfold splitR
  rw [ho]
theorem split_nil (f : Nat → UInt8) : splitR f 0 = .inr 0 := by
  unfold splitR outS rdN
  rfl
/-- How long the frames of the first texts are together. -/
def ends (len : Nat → Nat) : Nat → Nat := upto (fun i => frL (len i))
theorem ends_at (len : Nat → Nat) (i : Nat) : ends len (i + 1) = ends len i + frL (len i) := rfl
theorem ends_le (len : Nat → Nat) {a b : Nat} (h : a ≤ b) : ends len a ≤ ends len b := upto_le _ h
theorem seq_frames {F : Nat → UInt8} {cut T M : Nat} {off kk mm len : Nat → Nat} {X : Nat → Nat → UInt8} (hq : FrSeq F cut T off kk mm) (hlen : ∀ i, i < M → len i ≤ 100) (hcut : cut ≤ ends len M)
    (hF : ∀ i j, i < M → j < frL (len i) → F (ends len i + j) = frB (X i) (len i) j) :
    (∀ t, t ≤ T → t ≤ M ∧ off t = ends len t) ∧ (∀ t, t < T → kk t = numL (len t + 4) ∧ mm t = len t) ∧ (T = M ∨ cut < ends len (T + 1)) ∧ ends len T ≤ cut := by
  have key : ∀ t, t ≤ T → t ≤ M ∧ off t = ends len t ∧ (∀ i, i < t → kk i = numL (len i + 4) ∧ mm i = len i) := by
    intro t
    induction t with
    | zero => exact fun _ => ⟨Nat.zero_le _, hq.zero, fun i hi => by omega⟩
    | succ t ih =>
      intro ht
      obtain ⟨h1, h2, h3⟩ := ih (by omega)
      obtain ⟨hs, hoff, hle, _⟩ := hq.step t (by omega)
      have hle2 := hq.le t (by omega)
      rw [h2] at hs
      have htM : t < M := by
        rcases Nat.lt_or_ge t M with h | h
        · exact h
        · obtain rfl : t = M := by omega
          rw [show cut - ends len t = 0 by omega, split_nil] at hs
          cases hs
      have hfull : ends len (t + 1) ≤ cut := by
        rcases Nat.lt_or_ge cut (ends len (t + 1)) with h | h
        · rw [ends_at] at h
          rw [split_part (hlen t htM) (X := X t) (by omega) (fun j hj => by show F (ends len t + j) = _; exact hF t j htM (by omega))] at hs
          cases hs
        · exact h
      rw [ends_at] at hfull
      rw [split_full (hlen t htM) (X := X t) (by omega) (fun j hj => by show F (ends len t + j) = _; exact hF t j htM hj)] at hs
      obtain ⟨hk, hm⟩ : numL (len t + 4) = kk t ∧ len t = mm t := by
        have h9 := Prod.mk.inj (Sum.inl.inj hs); exact ⟨h9.1, h9.2⟩
      refine ⟨htM, ?_, fun i hi => ?_⟩
      · rw [hoff, ends_at, h2, ← hk, ← hm]; unfold frL; omega
      · by_cases e : i = t
        · subst e; exact ⟨hk.symm, hm.symm⟩
        · exact h3 i (by omega)
  obtain ⟨h1, h2, h3⟩ := key T (Nat.le_refl _)
  have hT := hq.le T (Nat.le_refl _)
  refine ⟨fun t ht => ⟨(key t ht).1, (key t ht).2.1⟩, h3, ?_, by omega⟩
  rcases Nat.lt_or_ge T M with h | h
  · right
    rcases Nat.lt_or_ge cut (ends len (T + 1)) with h4 | h4
    · exact h4
    · exfalso
      rw [ends_at] at h4
      obtain ⟨no, hd⟩ := hq.done
      rw [h2, split_full (hlen T h) (X := X T) (by omega) (fun j hj => by show F (ends len T + j) = _; exact hF T j h hj)] at hd
      cases hd
  · left; omega
end Go.Proofs.Ytljllfdigfojdaa
/- Rows of calls of one's own; what was laid, in order. -/
namespace Go.Proofs.Ytljllfdigfojdaa
open Go Go.RowKit

theorem own_chG {e : TypeId} {w w' : World} {Z z k : Nat} {v : Value} {xs : List Value} {S : Nat → Prop} (h : w.ownsRow Z e z v k xs) (hc : Ch S w w') (hs : ∀ q, v.ownBlock = some q → ¬ S q) : w'.ownsRow Z e z v k xs := by
  refine ⟨h.1, ?_⟩
  rcases h.2 with hn | ⟨g, cap, cur, rfl, h1, h2, h3⟩
  · exact .inl hn
  · exact .inr ⟨g, cap, cur, rfl, h1, hc.heap h2 (hs g rfl), h3⟩
/-- Where a row lies to which one element was put behind. -/
theorem append_whereG {w : World} {t ty e : TypeId} {i0 : TypeInfo} {z : Value} {size bytes : Nat} (ht : Try.prog.underlying t = some (.slice e)) (hi : Try.prog.info? e = some i0) (hz0 : i0.zero = some z) (hz1 : i0.size = size) (hz2 : i0.bytes = bytes) (hsz : 0 < size) (hbs : bytes ≤ 200) {base : Nat} {v : Value} {k : Nat} {xs : List Value} (hown : w.ownsRow base e size v k xs)
    (ad : Addr) (c : Nat) (news : List Value) (hl : news.length = size) (hnews : ∀ j u, news[j]? = some u → w.cell? (ad.add j) = some u) (h1 : ∀ u ∈ news, u.oneCell' = true) (hk : k ≤ 1000000) {v' : Value} {w' : World}
    (hr : (Builtin.append_ #[t, t] ty #[v, .slice (some ad) 1 c]).run Try.prog w = .ok v' w') : ∀ g, v'.ownBlock = some g → v.ownBlock = some g ∨ w.heap.size ≤ g := by
  have hb1 : (k + 1) * bytes ≤ 200000200 := by
    have : (k + 1) * bytes ≤ 1000001 * 200 := Nat.mul_le_mul (by omega) hbs
    omega
  rcases hown.2 with ⟨rfl, rfl⟩ | ⟨g, cap, cur, rfl, hbg, hg, hnc, hcm, hcs, htake⟩
  · have hr2 := run_append_nil (P := Try.prog) w t ty e i0 z ht hi hz0 ad 1 c news (by rw [hz1]; omega) hnews (by decide) (by simp [maxLen]) (by rw [hz2]; omega)
    rw [hr2] at hr
    cases hr
    intro g hg
    cases hg
    exact .inr (Nat.le_refl _)
  · by_cases hroom : k + 1 ≤ cap
    · obtain ⟨w2, hr2, _⟩ := run_append_fits (P := Try.prog) w base t ty e i0 size ht hi hz1 g k cap xs hown ad 1 c news (by omega) hnews h1 hroom
      rw [hr2] at hr
      cases hr
      exact fun _ h => .inl h
    · have hr2 := run_append_grow (P := Try.prog) w t ty e i0 z ht hi hz0 ⟨g, 0, none⟩ k cap xs (by rw [hz1]; exact hown.1) (hown.cells (g := g) rfl) ad 1 c news (by rw [hz1]; omega) hnews (by omega) (by simp [maxLen]; omega) (growslice_fits (by omega) (by rw [hz2]; omega))
      rw [hr2] at hr
      cases hr
      intro g' hg'
      cases hg'
      exact .inr (Nat.le_refl _)
theorem info35m : (Try.prog.info? 35).map (fun i => (i.zero, i.size, i.bytes)) = some (some (.agg #[.int .i64 0, .slice none 0 0, .slice none 0 0, .slice none 0 0, .string { data := #[] }]), 5, 96) := by kernel_rfl
theorem info3m : (Try.prog.info? 3).map (fun i => (i.zero, i.size, i.bytes)) = some (some (.int .i64 0), 1, 8) := by kernel_rfl
/-- 'append(s, x)', x one element in a row of its own. -/
theorem wpList_append_one {t e : TypeId} {z : Value} {size bytes : Nat} (ht : Try.prog.underlying t = some (.slice e)) (hif : (Try.prog.info? e).map (fun i => (i.zero, i.size, i.bytes)) = some (some z, size, bytes)) (hzs : z.cells.size = size) (hsz : 0 < size) (hbs : bytes ≤ 200)
    {w : World} {ops : Array Oper} {rest : List Oper} {o : Oper} {a : Act} {Q : Exit → Act → World → Prop} (hgd : o.guard = none) (s x : Operand)
    (ho : o.op = .call { callee := .builtin .append, args := #[s, x], argTypes := #[t, t] }) (base : Nat) (v : Value) (k : Nat) (xs : List Value) (hs : a.eval s = v) (hown : w.ownsRow base e size v k xs)
    (b c : Nat) (news : List Value) (hx : a.eval x = .slice (some ⟨b, 0, none⟩) 1 c) (hl : news.length = size) (hb : ∀ j u, news[j]? = some u → w.cell? ((⟨b, 0, none⟩ : Addr).add j) = some u) (h1 : ∀ u ∈ news, u.oneCell' = true) (hk : k ≤ 1000000) (hbase : base ≤ w.heap.size)
    (h : ∀ v' w', w'.ownsRow base e size v' (k + 1) (xs ++ news) → Gw w w' v v' → wpList Try.prog ops Q rest (a.put o.dst v') w') : wpList Try.prog ops Q (o :: rest) a w := by
  obtain ⟨i0, hi, hz0, hz1, hz2⟩ := info_parts hif
  have hb1 : (k + 1) * bytes ≤ 200000200 := by
    have : (k + 1) * bytes ≤ 1000001 * 200 := Nat.mul_le_mul (by omega) hbs
    omega
  refine wpList_plain hgd fun K hK => ?_
  obtain ⟨v', w', hr, h2, h3, _⟩ := run_append_own (P := Try.prog) w base t o.type e i0 z size bytes ht hi hz0 hz1 hz2 hzs hsz v k xs hown ⟨b, 0, none⟩ 1 c news (by omega) hb h1 (by simp [maxLen]; omega) (by omega) hbase
  have h4 := append_whereG ht hi hz0 hz1 hz2 hsz hbs hown ⟨b, 0, none⟩ c news hl hb h1 hk hr
  unfold Oper.wp
  simp [execOp, ho, resolve, invoke, builtin, hs, hx, hr, Result.andThen]
  exact hK _ _ (h v' w' h2 ⟨Ch.grown (Ch.refl _ w) h3 (fun k e _ => e), h4⟩)
/-- How many calls were laid without an error, and these, one behind the other. -/
def cntK (ok : Nat → Bool) : Nat → Nat
  | 0 => 0
  | i + 1 => if ok i then cntK ok i + 1 else cntK ok i
def doneL (X : Nat → ActV) (ok : Nat → Bool) : Nat → List Value
  | 0 => []
  | i + 1 => if ok i then doneL X ok i ++ (X i).cells.toList else doneL X ok i
theorem doneL_len (X : Nat → ActV) (ok : Nat → Bool) : ∀ n, (doneL X ok n).length = cntK ok n * 5
  | 0 => rfl
  | n + 1 => by
    unfold doneL cntK
    have ih := doneL_len X ok n
    split
    · rw [List.length_append, ih]; simp [ActV.cells]; omega
    · exact ih
theorem cntK_le (ok : Nat → Bool) : ∀ n, cntK ok n ≤ n
  | 0 => Nat.le_refl _
  | n + 1 => by
    have ih := cntK_le ok n
    unfold cntK; split <;> omega
theorem cntK_mono (ok : Nat → Bool) {a : Nat} : ∀ b, a ≤ b → cntK ok a ≤ cntK ok b
  | 0, h => by obtain rfl : a = 0 := by omega
               exact Nat.le_refl _
  | b + 1, h => by
    by_cases e : a = b + 1
    · subst e; exact Nat.le_refl _
    · have ih := cntK_mono ok b (show a ≤ b by omega)
      have : cntK ok b ≤ cntK ok (b + 1) := by
        show _ ≤ (if ok b then cntK ok b + 1 else cntK ok b)
        split <;> omega
      omega
theorem doneL_at (X : Nat → ActV) (ok : Nat → Bool) : ∀ n i, i < n → ok i = true → ∀ j u, (X i).cells[j]? = some u → (doneL X ok n)[cntK ok i * 5 + j]? = some u
  | 0, i, h, _, _, _, _ => by omega
  | n + 1, i, h, hk, j, u, hu => by
    have hj5 : j < 5 := by have := (Array.getElem?_eq_some_iff.1 hu).1; simpa [ActV.cells] using this
    have hl := doneL_len X ok n
    unfold doneL
    by_cases e : i = n
    · subst e
      rw [if_pos hk, List.getElem?_append_right (by omega), hl, show cntK ok i * 5 + j - cntK ok i * 5 = j by omega, Array.getElem?_toList]
      exact hu
    · have ih := doneL_at X ok n i (by omega) hk j u hu
      split
      · have hb := (List.getElem?_eq_some_iff.1 ih).1
        rw [List.getElem?_append_left hb]; exact ih
      · exact ih
/-- From place j on: the next call that was laid; nothing was laid between. -/
theorem next_ok (ok : Nat → Bool) (LA : Nat → Nat) (N : Nat) (hz : ∀ i, i < N → ok i = false → LA i = 0) : ∀ r j, N - j = r → j ≤ N → ∃ i, j ≤ i ∧ i ≤ N ∧ cntK ok i = cntK ok j ∧ upto LA i = upto LA j ∧ (i < N → ok i = true)
  | 0, j, h, hj => ⟨j, Nat.le_refl _, hj, rfl, rfl, fun h => by omega⟩
  | r + 1, j, h, hj => by
    cases hk : ok j with
    | true => exact ⟨j, Nat.le_refl _, hj, rfl, rfl, fun _ => hk⟩
    | false =>
      obtain ⟨i, h1, h2, h3, h4, h5⟩ := next_ok ok LA N hz r (j + 1) (by omega) (by omega)
      refine ⟨i, by omega, h2, ?_, ?_, h5⟩
      · rw [h3]; show (if ok j then _ else _) = _; rw [hk]; rfl
      · rw [h4, upto_at, hz j (by omega) hk]; omega
end Go.Proofs.Ytljllfdigfojdaa
