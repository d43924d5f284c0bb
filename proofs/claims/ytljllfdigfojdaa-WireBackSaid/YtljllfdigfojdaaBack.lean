/- Arguments that are slices of strings. -/
import Derived.Test.YtljllfdigfojdaaLaw2
import Derived.Test.YtljllfdigfojdaaLaw0
import Derived.Test.YtljllfdigfojdaaB5
namespace Go.Proofs.Ytljllfdigfojdaa
open Go.ChangeShapes Go.WideShapes Go.ChangeAt Go.RowKit

/-- A slice of strings. -/
def TextsAt (w : World) (tp : Option Addr) (M : Nat) (S : Nat → ByteArray) : Prop :=
  (∃ a o, tp = some ⟨a, o, none⟩ ∧ a < w.heap.size ∧ ∀ i, i < M → w.cell? ⟨a, o + i, none⟩ = some (.string (S i))) ∨ M = 0
set_option maxRecDepth 100000 in
theorem open_texts {H : Type} {enc : TypeId × Value → H} {W : World} {b0 : Nat} {v : Value} {d : DataW H} {p : List MemPlace} (hval : Value.okWide Try.prog W .any b0 89 v) (h : DataW.Trod enc Try.prog W 0 (fun _ => true) true 89 v d p) :
    ∃ (tp : Option Addr) (M tcap : Nat) (S : Nat → ByteArray), v = .slice tp M tcap ∧ TextsAt W tp M S := by
  obtain ⟨a1, len, cap, rfl⟩ := okWide_slice Try.underlying89 hval
  obtain ⟨fuel, hf⟩ := h
  unfold TextsAt
  rcases Go.Deep.open_slice1 Try.underlying89 cells9' hf with ⟨hcs, hx⟩ | ⟨a, len', cap', m, n, V, D, Pl, hcs, _, hl, hm, hmm, hx0, hx⟩
  · simp [Value.cells] at hcs
    obtain ⟨rfl, rfl, rfl⟩ := hcs
    exact ⟨none, 0, 0, fun _ => ⟨#[]⟩, rfl, .inr rfl⟩
  · simp [Value.cells] at hcs
    obtain ⟨rfl, rfl, rfl⟩ := hcs
    simp only [if_true] at hmm
    obtain ⟨B, hB⟩ := Go.Deep.choose_lt (α := ByteArray) (p := fun i b => V i = .string b) (fun i (hi : i < m) => by
      obtain ⟨b, h1, h2⟩ := DataW.trod_string Try.underlying9 (hx i hi).2
      exact ⟨b, by simpa using h1⟩)
    refine ⟨some a, len, cap, B, rfl, ?_⟩
    by_cases h0 : len = 0
    · exact .inr h0
    · left
      obtain ⟨ab, ao, spot⟩ := a
      have hspot : spot = none := by simpa [Addr.add] using World.cell?_spot (hx 0 (by omega)).1
      subst hspot
      refine ⟨ab, ao, rfl, cell_lt (hx 0 (by omega)).1, fun j hj => ?_⟩
      rw [← add_at, ← hB j (by omega)]
      exact (hx j (by omega)).1
end Go.Proofs.Ytljllfdigfojdaa
/- For all calls of a writer, all texts and all places to cut WireBack returns true, and its arguments read behind the call as they read before. No condition. -/
namespace Go.Proofs.Ytljllfdigfojdaa
namespace wireBack
open Go.ChangeShapes Go.WideShapes Go.ChangeAt Go.RowKit

set_option maxRecDepth 100000 in
theorem lifted (os : Os) (started : os.Started) (H : Type) (enc : TypeId × Value → H) :
    ReturnsInHanded {} Try.checked os 8 .any (Rows.wireBackSpec.pre6 enc Try.prog Try.f8 Rows.wireBackRow.domain false) (Rows.wireBackSpec.post enc Try.prog Try.f8 false true false false) := by
  refine returnsInHanded_of_change (C := Try.checked) own started (by kernel_rfl) Try.func8
    (ChangeSpec.witness6 (enc := enc) (C := Try.checked) false ⟨#[], #[.slice none 0 0, .slice none 0 0, .int .i64 0], []⟩ 8 (by kernel_rfl) (by kernel_rfl) (by kernel_rfl) (by kernel_rfl)) ?_
  intro W base args ds gs before hval0 hW hcnd _
  have hval : ∀ (j : Nat) t v, Try.f8.params[j]? = some t → args[j]? = some v → Value.okWide Try.prog W .any base t v := hval0
  have hW' := hW
  obtain ⟨p, q, hA0, hV, rfl, hfz, hnd⟩ := hW
  have hA : DataW.TrodAll enc Try.prog W 0 (fun _ => true) true Try.f8.params.toList args.toList ds p := hA0
  rw [Try.params8] at hA hval
  obtain ⟨v0, vs0, d0, ds0, p0, q0, hargs, rfl, rfl, h0, r0⟩ := trodAll_cons hA
  obtain ⟨v1, vs1, d1, ds1, p1, q1, rfl, rfl, rfl, h1, r1⟩ := trodAll_cons r0
  obtain ⟨v2, vs2, d2, ds2, p2, q2, rfl, rfl, rfl, h2, r2⟩ := trodAll_cons r1
  obtain ⟨rfl, rfl, rfl⟩ := trodAll_nil r2
  obtain rfl : args = #[v0, v1, v2] := by cases args; simp_all
  obtain ⟨rfl, rfl⟩ := trodVars_none hV
  have hk0 := h0
  obtain ⟨sp0, N0, cap0, X0, rfl, hN0, hX0⟩ := open_acts (hval 0 22 v0 rfl rfl) h0
  have hk1 := h1
  obtain ⟨tp1, M1, tcap1, S1, rfl, hT1⟩ := open_texts (hval 1 89 v1 rfl rfl) h1
  obtain ⟨x2, rfl, rfl, rfl, hw2⟩ := open_int Try.underlying3 (hval 2 3 v2 rfl rfl) h2
  clear hA0 hval0
  simp only [List.append_nil] at hW'
  have walk : Calls Try.prog 8 #[.slice sp0 N0 cap0, .slice tp1 M1 tcap1, .int .i64 x2] W fun e w' => e = .returned (.bool true) ∧ Ch (fun _ => False) W w' :=
    back_law sp0 N0 cap0 X0 tp1 M1 tcap1 S1 x2 W hX0 hN0 hT1
  refine walk.mono fun e W' ⟨he, hg⟩ => ?_
  subst he
  exact ⟨_, rfl, post_of_ch2 (pv := []) hW' (fun _ _ _ => trodAll_cons_mk (shut_bool Try.underlying4 _) trodAll_mk0)
    (trodAll_cons_mk (Below.trod laidOut (by kernel_rfl) (of_decide_eq_true (by kernel_rfl)) hk0 hg.below (fun x hx => hW'.lt x (by simp [hx]))) (trodAll_cons_mk (Below.trod laidOut (by kernel_rfl) (of_decide_eq_true (by kernel_rfl)) hk1 hg.below (fun x hx => hW'.lt x (by simp [hx]))) (trodAll_cons_mk (shut_int Try.underlying3 hw2) trodAll_mk0)))
    rfl hg⟩
end wireBack
theorem wireBack_holds : Rows.WireBackSaid :=
  OpenClaim.holds_of_wide 8 Try.f8 rfl rfl rfl rfl rfl rfl rfl ⟨rfl, rfl, rfl, rfl, rfl⟩ rfl rfl rfl rfl rfl (by kernel_rfl) Try.func8 (by kernel_rfl)
    (of_decide_eq_true (by kernel_rfl)) (by unfold Func.isWrapper; first | (rw [if_pos (by decide +kernel)]; kernel_rfl) | (rw [if_neg (by decide +kernel)]; exact ⟨rfl, rfl⟩))
    (fun os started H enc _ => wireBack.lifted os started H enc)
end Go.Proofs.Ytljllfdigfojdaa
