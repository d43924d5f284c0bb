import Derived.Test.YtikdpiedjkailaaDoorT4
import Derived.Test.YtikdpiedjkailaaDoorAny
import Derived.Test.YtikdpiedjkailaaDoorRound
namespace Go.Proofs.YtikdpiedjkailaaDoor
open Go.RowKit
attribute [local go_sem high] b_add b_xor b_and b_or b_shr b_shl not32 wrap_un beq32
attribute [local go_sem] Oper.semAt_some

set_option maxHeartbeats 400000 in
theorem words_any (p : Option Addr) (w : World) :
    Calls Tryd.prog 65 #[.pointer p] w fun e w' => e = .returned (.func (.func 67) #[] #[.pointer (some ⟨w.heap.size, 0, none⟩)]) ∧ w' = w.alloc (.cells #[.pointer p] 109) := by
  go_enter Tryd.func65, Tryd.ntmps65
  go_wp2
  go_ret
  exact ⟨rfl, rfl⟩

theorem turned_post (ns : List Int) (a : Nat) (w : World) (hl : ns.length ≤ 10) (hr : ∀ i, i < ns.length → w.cell? ⟨a, i, none⟩ = some (.int .i64 (ns.getD i 0)))
    (hb : ∀ i, i < ns.length → 1 ≤ ns.getD i 0 ∧ ns.getD i 0 ≤ 31) (h0 : 0 < ns.length) : Calls Tryd.prog 64 #[.slice (some ⟨a, 0, none⟩) ns.length ns.length] w fun e w' =>
    ∃ bp, e = .returned (.func (.func 66) #[] #[.pointer (some ⟨bp, 0, none⟩)]) ∧ IsTurn w' (.func (.func 66) #[] #[.pointer (some ⟨bp, 0, none⟩)]) ns bp a ∧ w.heap.size ≤ bp ∧ w.heap.size < w'.heap.size ∧ Ch (fun _ => False) w w' := by
  refine (turned_any _ _ _ w).mono ?_
  rintro e w' ⟨rfl, rfl⟩
  have hc : Ch (fun _ => False) w (w.alloc (.cells #[.slice (some ⟨a, 0, none⟩) ns.length ns.length] 116)) := (Ch.refl _ w).alloc _
  exact ⟨_, rfl, ⟨rfl, hl, by go_simp, fun i hi => hc.get (hr i hi) id, hb⟩, Nat.le_refl _, by simp, hc⟩

set_option maxHeartbeats 2000000 in
theorem into_any (b : Nat) (s : St) (m : Nat → BitVec 32) (k : Nat → BitVec 32) (w : World) (hring : Ring w b m) (hk : ∀ t, t < 64 → w.cell? ⟨0, t, none⟩ = some (wv (k t))) (hb0 : b ≠ 0) :
    Calls Tryd.prog 61 #[.pointer (some ⟨b, 0, none⟩), s.val] w fun e w' => e = .returned (s.plus (turns k m s 64)).val ∧ Rch (fun _ => False) b w w' ∧ ∃ m', Ring w' b m' := by
  have Hring := Go.Lib.hid hring; clear hring
  have Hk := Go.Lib.hid hk; clear hk
  unfold St.val St.cells
  refine (callsIn_wide (n := 0)).1 (callsIn_of_wp_marks Tryd.func61 rfl trivial (wpIn_wide.2 ?_))
  simp only [Tryd.ntmps61, List.size_toArray, List.length_cons, List.length_nil, Nat.reduceAdd, Nat.reduceSub, Array.replicate_succ,
     Array.replicate_zero, List.push_toArray, List.append_toArray, List.nil_append, List.cons_append]
  go_wp2_with fail
  go_step3
  go_wp2_with fail
  refine (turned_post [6, 11, 25] _ _ (by decide) ?_ (by decide) (by decide)).mono ?_
  · intro i hi; match i, hi with | 0, _ => go_simp | 1, _ => go_simp | 2, _ => go_simp
  rintro e w1 ⟨p1, rfl, hU, b1, b2, hC1⟩
  have HU := Go.Lib.hid hU; clear hU
  have HA1 : Hid (Ch (fun _ => False) ((w.alloc (.cells #[wv s.a, wv s.b, wv s.c, wv s.d, wv s.e, wv s.f, wv s.g, wv s.h] 81)).alloc (.cells #[.int .u32 0, .int .u32 0, .int .u32 0, .int .u32 0, .int .u32 0, .int .u32 0, .int .u32 0, .int .u32 0] 81)) w1) :=
    ((Ch.refl _ _).alloc _).then hC1 (fun _ _ h => h)
  go_wp2_with fail
  refine (turned_post [2, 13, 22] _ _ (by decide) ?_ (by decide) (by decide)).mono ?_
  · intro i hi; match i, hi with | 0, _ => go_simp | 1, _ => go_simp | 2, _ => go_simp
  rintro e w2 ⟨p2, rfl, hL, c1, c2, hC2⟩
  have HL := Go.Lib.hid hL; clear hL
  have HA2 : Hid (Ch (fun _ => False) w1 w2) := ((Ch.refl _ _).alloc _).then hC2 (fun _ _ h => h)
  go_wp2_with fail
  have hA := HA1.out.trans HA2.out
  have HS0 : Hid (∀ j, j < 8 → w2.cell? ⟨w.heap.size, j, none⟩ = some (wv (s.word j))) := fun j hj => hA.get (by
    have h : ((w.alloc (.cells #[wv s.a, wv s.b, wv s.c, wv s.d, wv s.e, wv s.f, wv s.g, wv s.h] 81)).cell? ⟨w.heap.size, j, none⟩) = some (wv (s.word j)) := by
      rw [cell_fresh]
      match j, hj with | 0, _ => rfl | 1, _ => rfl | 2, _ => rfl | 3, _ => rfl | 4, _ => rfl | 5, _ => rfl | 6, _ => rfl | 7, _ => rfl
    exact ((Ch.refl (fun _ => False) _).alloc _).get h id) id
  have HR0 : Hid (∀ j, j < 8 → w2.cell? ⟨w.heap.size + 1, j, none⟩ = some (.int .u32 0) ∧ w2.frozen? ⟨w.heap.size + 1, j, none⟩ = false) := fun j hj => by
    have h := cell_fresh (w.alloc (.cells #[wv s.a, wv s.b, wv s.c, wv s.d, wv s.e, wv s.f, wv s.g, wv s.h] 81)) #[.int .u32 0, .int .u32 0, .int .u32 0, .int .u32 0, .int .u32 0, .int .u32 0, .int .u32 0, .int .u32 0] 81 j
    have h2 := frozen_fresh (w.alloc (.cells #[wv s.a, wv s.b, wv s.c, wv s.d, wv s.e, wv s.f, wv s.g, wv s.h] 81)) #[.int .u32 0, .int .u32 0, .int .u32 0, .int .u32 0, .int .u32 0, .int .u32 0, .int .u32 0, .int .u32 0] 81 j
    rw [World.size_alloc] at h h2
    have h3 : (#[.int .u32 0, .int .u32 0, .int .u32 0, .int .u32 0, .int .u32 0, .int .u32 0, .int .u32 0, .int .u32 0] : Array Value)[j]? = some (.int .u32 0) := by
      match j, hj with | 0, _ => rfl | 1, _ => rfl | 2, _ => rfl | 3, _ => rfl | 4, _ => rfl | 5, _ => rfl | 6, _ => rfl | 7, _ => rfl
    rw [h3] at h
    exact ⟨hA.get h id, (hA.frozen (cell_lt h) id).trans h2⟩
  have HC : Hid (Ch (fun _ => False) w w2) := ((Ch.refl _ w).alloc _).alloc _ |>.then hA (fun _ _ h => h)
  simp only [World.size_alloc] at b1 b2 c1 c2
  have hp1 : p1 < w1.heap.size := cell_lt HU.out.box
  have hp2 : p2 < w2.heap.size := cell_lt HL.out.box
  clear hA hC1 hC2
  refine wp_region_any (by kernel_rfl) ?_
  generalize hwx : ({ (w2.alloc (.cells #[.func (.func 66) #[] #[.pointer (some ⟨p1, 0, none⟩)]] 111)).alloc (.cells #[.func (.func 66) #[] #[.pointer (some ⟨p2, 0, none⟩)]] 111) with drawn := ((w2.alloc (.cells #[.func (.func 66) #[] #[.pointer (some ⟨p1, 0, none⟩)]] 111)).alloc (.cells #[.func (.func 66) #[] #[.pointer (some ⟨p2, 0, none⟩)]] 111)).drawn + 1 } : World) = wx
  generalize hax : Act.mk _ _ = ax
  have h3 : gt ax 3 = .pointer (some ⟨w.heap.size, 0, none⟩) := by rw [← hax]; rfl
  have hs : ∀ j, j < 8 → wx.cell? ⟨w.heap.size, j, none⟩ = some (wv (s.word j)) := fun j hj => by
    rw [← hwx]; exact (((Ch.refl (fun _ => False) w2).alloc _).alloc _).drew.get (HS0.out j hj) id
  have hsz : ax.tmps.size = 125 := by rw [← hax]; rfl
  have H3 := Go.Lib.hid h3; have Hs := Go.Lib.hid hs; have Hsz := Go.Lib.hid hsz; have Hax := Go.Lib.hid hax; have Hwx := Go.Lib.hid hwx
  clear h3 hs hsz hax hwx
  refine wpAny_inv (Inv8 ax wx w.heap.size s.word) ?_ ?_ _ _ _ _ rfl (by decide) ?_
  · intro L a w' i hI hr
    obtain ⟨h1, o, ho, hall⟩ := mem_ready.1 hr
    have hlt : i < 32 := (Array.getElem?_eq_some_iff.1 ho).1
    have hun : lg L i = false := by
      have := hI.lsize
      have h2 : i < L.size := by omega
      unfold lg; simp [h2] at h1 ⊢; exact h1
    have h3 := H3.out
    have hs := Hs.out
    have hsplit : i = 0 ∨ i = 1 ∨ i = 2 ∨ i = 3 ∨ i = 4 ∨ i = 5 ∨ i = 6 ∨ i = 7 ∨ i = 8 ∨ i = 9 ∨ i = 10 ∨ i = 11 ∨ i = 12 ∨ i = 13 ∨ i = 14 ∨ i = 15 ∨ i = 16 ∨ i = 17 ∨ i = 18 ∨ i = 19 ∨ i = 20 ∨ i = 21 ∨ i = 22 ∨ i = 23 ∨ i = 24 ∨ i = 25 ∨ i = 26 ∨ i = 27 ∨ i = 28 ∨ i = 29 ∨ i = 30 ∨ i = 31 := by omega
    clear hlt h1 hr
    rcases hsplit with rfl | rfl | rfl | rfl | rfl | rfl | rfl | rfl | rfl | rfl | rfl | rfl | rfl | rfl | rfl | rfl | rfl | rfl | rfl | rfl | rfl | rfl | rfl | rfl | rfl | rfl | rfl | rfl | rfl | rfl | rfl | rfl
    · refine wpOp_step (o := _) rfl (fun K' hK' => ?_)
      have f := hI.fixed 3 (by omega) (by omega)
      rw [h3] at f
      unfold gt at f
      go_simp
      exact hK' _ _ (hI.put_addr 0 (by omega))
    · refine wpOp_step (o := _) rfl (fun K' hK' => ?_)
      simp at ho
      have e := hall ⟨0, .data⟩ (by rw [← ho]; simp) rfl
      have f := hI.addr 0 (by omega) (by unfold lg; simpa using e)
      have c := hI.ch.get (hs 0 (by omega)) id
      unfold gt at f
      clear ho hall
      go_simp
      exact hK' _ _ (hI.put_load 0 (by omega))
    · refine wpOp_step (o := _) rfl (fun K' hK' => ?_)
      have f := hI.fixed 3 (by omega) (by omega)
      rw [h3] at f
      unfold gt at f
      go_simp
      exact hK' _ _ (hI.put_addr 1 (by omega))
    · refine wpOp_step (o := _) rfl (fun K' hK' => ?_)
      simp at ho
      have e := hall ⟨2, .data⟩ (by rw [← ho]; simp) rfl
      have f := hI.addr 1 (by omega) (by unfold lg; simpa using e)
      have c := hI.ch.get (hs 1 (by omega)) id
      unfold gt at f
      clear ho hall
      go_simp
      exact hK' _ _ (hI.put_load 1 (by omega))
    · refine wpOp_step (o := _) rfl (fun K' hK' => ?_)
      have f := hI.fixed 3 (by omega) (by omega)
      rw [h3] at f
      unfold gt at f
      go_simp
      exact hK' _ _ (hI.put_addr 2 (by omega))
    · refine wpOp_step (o := _) rfl (fun K' hK' => ?_)
      simp at ho
      have e := hall ⟨4, .data⟩ (by rw [← ho]; simp) rfl
      have f := hI.addr 2 (by omega) (by unfold lg; simpa using e)
      have c := hI.ch.get (hs 2 (by omega)) id
      unfold gt at f
      clear ho hall
      go_simp
      exact hK' _ _ (hI.put_load 2 (by omega))
    · refine wpOp_step (o := _) rfl (fun K' hK' => ?_)
      have f := hI.fixed 3 (by omega) (by omega)
      rw [h3] at f
      unfold gt at f
      go_simp
      exact hK' _ _ (hI.put_addr 3 (by omega))
    · refine wpOp_step (o := _) rfl (fun K' hK' => ?_)
      simp at ho
      have e := hall ⟨6, .data⟩ (by rw [← ho]; simp) rfl
      have f := hI.addr 3 (by omega) (by unfold lg; simpa using e)
      have c := hI.ch.get (hs 3 (by omega)) id
      unfold gt at f
      clear ho hall
      go_simp
      exact hK' _ _ (hI.put_load 3 (by omega))
    · refine wpOp_step (o := _) rfl (fun K' hK' => ?_)
      have f := hI.fixed 3 (by omega) (by omega)
      rw [h3] at f
      unfold gt at f
      go_simp
      exact hK' _ _ (hI.put_addr 4 (by omega))
    · refine wpOp_step (o := _) rfl (fun K' hK' => ?_)
      simp at ho
      have e := hall ⟨8, .data⟩ (by rw [← ho]; simp) rfl
      have f := hI.addr 4 (by omega) (by unfold lg; simpa using e)
      have c := hI.ch.get (hs 4 (by omega)) id
      unfold gt at f
      clear ho hall
      go_simp
      exact hK' _ _ (hI.put_load 4 (by omega))
    · refine wpOp_step (o := _) rfl (fun K' hK' => ?_)
      have f := hI.fixed 3 (by omega) (by omega)
      rw [h3] at f
      unfold gt at f
      go_simp
      exact hK' _ _ (hI.put_addr 5 (by omega))
    · refine wpOp_step (o := _) rfl (fun K' hK' => ?_)
      simp at ho
      have e := hall ⟨10, .data⟩ (by rw [← ho]; simp) rfl
      have f := hI.addr 5 (by omega) (by unfold lg; simpa using e)
      have c := hI.ch.get (hs 5 (by omega)) id
      unfold gt at f
      clear ho hall
      go_simp
      exact hK' _ _ (hI.put_load 5 (by omega))
    · refine wpOp_step (o := _) rfl (fun K' hK' => ?_)
      have f := hI.fixed 3 (by omega) (by omega)
      rw [h3] at f
      unfold gt at f
      go_simp
      exact hK' _ _ (hI.put_addr 6 (by omega))
    · refine wpOp_step (o := _) rfl (fun K' hK' => ?_)
      simp at ho
      have e := hall ⟨12, .data⟩ (by rw [← ho]; simp) rfl
      have f := hI.addr 6 (by omega) (by unfold lg; simpa using e)
      have c := hI.ch.get (hs 6 (by omega)) id
      unfold gt at f
      clear ho hall
      go_simp
      exact hK' _ _ (hI.put_load 6 (by omega))
    · refine wpOp_step (o := _) rfl (fun K' hK' => ?_)
      have f := hI.fixed 3 (by omega) (by omega)
      rw [h3] at f
      unfold gt at f
      go_simp
      exact hK' _ _ (hI.put_addr 7 (by omega))
    · refine wpOp_step (o := _) rfl (fun K' hK' => ?_)
      simp at ho
      have e := hall ⟨14, .data⟩ (by rw [← ho]; simp) rfl
      have f := hI.addr 7 (by omega) (by unfold lg; simpa using e)
      have c := hI.ch.get (hs 7 (by omega)) id
      unfold gt at f
      clear ho hall
      go_simp
      exact hK' _ _ (hI.put_load 7 (by omega))
    · refine wpOp_step (o := _) rfl (fun K' hK' => ?_)
      go_simp
      exact hK' _ _ (hI.put_box 0 (by omega) hun)
    · refine wpOp_step (o := _) rfl (fun K' hK' => ?_)
      go_simp
      exact hK' _ _ (hI.put_box 1 (by omega) hun)
    · refine wpOp_step (o := _) rfl (fun K' hK' => ?_)
      go_simp
      exact hK' _ _ (hI.put_box 2 (by omega) hun)
    · refine wpOp_step (o := _) rfl (fun K' hK' => ?_)
      go_simp
      exact hK' _ _ (hI.put_box 3 (by omega) hun)
    · refine wpOp_step (o := _) rfl (fun K' hK' => ?_)
      go_simp
      exact hK' _ _ (hI.put_box 4 (by omega) hun)
    · refine wpOp_step (o := _) rfl (fun K' hK' => ?_)
      go_simp
      exact hK' _ _ (hI.put_box 5 (by omega) hun)
    · refine wpOp_step (o := _) rfl (fun K' hK' => ?_)
      go_simp
      exact hK' _ _ (hI.put_box 6 (by omega) hun)
    · refine wpOp_step (o := _) rfl (fun K' hK' => ?_)
      go_simp
      exact hK' _ _ (hI.put_box 7 (by omega) hun)
    · refine wpOp_step (o := _) rfl (fun K' hK' => ?_)
      simp at ho
      have e := hall ⟨16, .data⟩ (by rw [← ho]; simp) rfl
      have e2 := hall ⟨1, .data⟩ (by rw [← ho]; simp) rfl
      have e3 : lg L (16 + 0) = true := by unfold lg; simpa using e
      have f2 := hI.load 0 (by omega) (by unfold lg; simpa using e2)
      obtain ⟨B, hB, _⟩ := hI.box
      obtain ⟨f, g, _⟩ := hB 0 (by omega) e3
      have c : w'.cell? ⟨B 0, 0, none⟩ = some (if lg L (24 + 0) = true then wv (s.word 0) else .int .u32 0) := by simp [World.cell?, g]
      have z : w'.frozen? ⟨B 0, 0, none⟩ = false := by simp [World.frozen?, g]
      have f' := f
      unfold gt at f f2
      clear ho hall
      go_simp
      exact hK' _ _ (hI.put_store 0 (by omega) e3 _ f')
    · refine wpOp_step (o := _) rfl (fun K' hK' => ?_)
      simp at ho
      have e := hall ⟨17, .data⟩ (by rw [← ho]; simp) rfl
      have e2 := hall ⟨3, .data⟩ (by rw [← ho]; simp) rfl
      have e3 : lg L (16 + 1) = true := by unfold lg; simpa using e
      have f2 := hI.load 1 (by omega) (by unfold lg; simpa using e2)
      obtain ⟨B, hB, _⟩ := hI.box
      obtain ⟨f, g, _⟩ := hB 1 (by omega) e3
      have c : w'.cell? ⟨B 1, 0, none⟩ = some (if lg L (24 + 1) = true then wv (s.word 1) else .int .u32 0) := by simp [World.cell?, g]
      have z : w'.frozen? ⟨B 1, 0, none⟩ = false := by simp [World.frozen?, g]
      have f' := f
      unfold gt at f f2
      clear ho hall
      go_simp
      exact hK' _ _ (hI.put_store 1 (by omega) e3 _ f')
    · refine wpOp_step (o := _) rfl (fun K' hK' => ?_)
      simp at ho
      have e := hall ⟨18, .data⟩ (by rw [← ho]; simp) rfl
      have e2 := hall ⟨5, .data⟩ (by rw [← ho]; simp) rfl
      have e3 : lg L (16 + 2) = true := by unfold lg; simpa using e
      have f2 := hI.load 2 (by omega) (by unfold lg; simpa using e2)
      obtain ⟨B, hB, _⟩ := hI.box
      obtain ⟨f, g, _⟩ := hB 2 (by omega) e3
      have c : w'.cell? ⟨B 2, 0, none⟩ = some (if lg L (24 + 2) = true then wv (s.word 2) else .int .u32 0) := by simp [World.cell?, g]
      have z : w'.frozen? ⟨B 2, 0, none⟩ = false := by simp [World.frozen?, g]
      have f' := f
      unfold gt at f f2
      clear ho hall
      go_simp
      exact hK' _ _ (hI.put_store 2 (by omega) e3 _ f')
    · refine wpOp_step (o := _) rfl (fun K' hK' => ?_)
      simp at ho
      have e := hall ⟨19, .data⟩ (by rw [← ho]; simp) rfl
      have e2 := hall ⟨7, .data⟩ (by rw [← ho]; simp) rfl
      have e3 : lg L (16 + 3) = true := by unfold lg; simpa using e
      have f2 := hI.load 3 (by omega) (by unfold lg; simpa using e2)
      obtain ⟨B, hB, _⟩ := hI.box
      obtain ⟨f, g, _⟩ := hB 3 (by omega) e3
      have c : w'.cell? ⟨B 3, 0, none⟩ = some (if lg L (24 + 3) = true then wv (s.word 3) else .int .u32 0) := by simp [World.cell?, g]
      have z : w'.frozen? ⟨B 3, 0, none⟩ = false := by simp [World.frozen?, g]
      have f' := f
      unfold gt at f f2
      clear ho hall
      go_simp
      exact hK' _ _ (hI.put_store 3 (by omega) e3 _ f')
    · refine wpOp_step (o := _) rfl (fun K' hK' => ?_)
      simp at ho
      have e := hall ⟨20, .data⟩ (by rw [← ho]; simp) rfl
      have e2 := hall ⟨9, .data⟩ (by rw [← ho]; simp) rfl
      have e3 : lg L (16 + 4) = true := by unfold lg; simpa using e
      have f2 := hI.load 4 (by omega) (by unfold lg; simpa using e2)
      obtain ⟨B, hB, _⟩ := hI.box
      obtain ⟨f, g, _⟩ := hB 4 (by omega) e3
      have c : w'.cell? ⟨B 4, 0, none⟩ = some (if lg L (24 + 4) = true then wv (s.word 4) else .int .u32 0) := by simp [World.cell?, g]
      have z : w'.frozen? ⟨B 4, 0, none⟩ = false := by simp [World.frozen?, g]
      have f' := f
      unfold gt at f f2
      clear ho hall
      go_simp
      exact hK' _ _ (hI.put_store 4 (by omega) e3 _ f')
    · refine wpOp_step (o := _) rfl (fun K' hK' => ?_)
      simp at ho
      have e := hall ⟨21, .data⟩ (by rw [← ho]; simp) rfl
      have e2 := hall ⟨11, .data⟩ (by rw [← ho]; simp) rfl
      have e3 : lg L (16 + 5) = true := by unfold lg; simpa using e
      have f2 := hI.load 5 (by omega) (by unfold lg; simpa using e2)
      obtain ⟨B, hB, _⟩ := hI.box
      obtain ⟨f, g, _⟩ := hB 5 (by omega) e3
      have c : w'.cell? ⟨B 5, 0, none⟩ = some (if lg L (24 + 5) = true then wv (s.word 5) else .int .u32 0) := by simp [World.cell?, g]
      have z : w'.frozen? ⟨B 5, 0, none⟩ = false := by simp [World.frozen?, g]
      have f' := f
      unfold gt at f f2
      clear ho hall
      go_simp
      exact hK' _ _ (hI.put_store 5 (by omega) e3 _ f')
    · refine wpOp_step (o := _) rfl (fun K' hK' => ?_)
      simp at ho
      have e := hall ⟨22, .data⟩ (by rw [← ho]; simp) rfl
      have e2 := hall ⟨13, .data⟩ (by rw [← ho]; simp) rfl
      have e3 : lg L (16 + 6) = true := by unfold lg; simpa using e
      have f2 := hI.load 6 (by omega) (by unfold lg; simpa using e2)
      obtain ⟨B, hB, _⟩ := hI.box
      obtain ⟨f, g, _⟩ := hB 6 (by omega) e3
      have c : w'.cell? ⟨B 6, 0, none⟩ = some (if lg L (24 + 6) = true then wv (s.word 6) else .int .u32 0) := by simp [World.cell?, g]
      have z : w'.frozen? ⟨B 6, 0, none⟩ = false := by simp [World.frozen?, g]
      have f' := f
      unfold gt at f f2
      clear ho hall
      go_simp
      exact hK' _ _ (hI.put_store 6 (by omega) e3 _ f')
    · refine wpOp_step (o := _) rfl (fun K' hK' => ?_)
      simp at ho
      have e := hall ⟨23, .data⟩ (by rw [← ho]; simp) rfl
      have e2 := hall ⟨15, .data⟩ (by rw [← ho]; simp) rfl
      have e3 : lg L (16 + 7) = true := by unfold lg; simpa using e
      have f2 := hI.load 7 (by omega) (by unfold lg; simpa using e2)
      obtain ⟨B, hB, _⟩ := hI.box
      obtain ⟨f, g, _⟩ := hB 7 (by omega) e3
      have c : w'.cell? ⟨B 7, 0, none⟩ = some (if lg L (24 + 7) = true then wv (s.word 7) else .int .u32 0) := by simp [World.cell?, g]
      have z : w'.frozen? ⟨B 7, 0, none⟩ = false := by simp [World.frozen?, g]
      have f' := f
      unfold gt at f f2
      clear ho hall
      go_simp
      exact hK' _ _ (hI.put_store 7 (by omega) e3 _ f')
  · intro L a w3 hI hr
    have hall := all_listed' (by kernel_rfl) hI.lsize hr
    obtain ⟨B, hB, hBne, hC3, ha⟩ := hI.final Hsz.out hall
    clear hI hr hall
    subst ha
    rw [← Hax.out]
    simp only [List.setIfInBounds_toArray, List.set_cons_succ, List.set_cons_zero]
    go_wp2_with fail
    go_step3
    go_wp2_with fail
    refine (words_any _ _).mono ?_
    rintro e w4 ⟨rfl, rfl⟩
    go_wp2_with fail
    have hcx : Ch (fun _ => False) w2 wx := by rw [← Hwx.out]; exact (((Ch.refl _ _).alloc _).alloc _).drew
    have hszx : wx.heap.size = w2.heap.size + 2 := by rw [← Hwx.out]; simp
    have hcU : wx.cell? ⟨w2.heap.size, 0, none⟩ = some (.func (.func 66) #[] #[.pointer (some ⟨p1, 0, none⟩)]) := by
      rw [← Hwx.out]; exact ((Ch.refl (fun _ => False) _).alloc _).drew.get (cell_fresh w2 #[.func (.func 66) #[] #[.pointer (some ⟨p1, 0, none⟩)]] 111 0) id
    have hcL : wx.cell? ⟨w2.heap.size + 1, 0, none⟩ = some (.func (.func 66) #[] #[.pointer (some ⟨p2, 0, none⟩)]) := by
      have h := cell_fresh (w2.alloc (.cells #[.func (.func 66) #[] #[.pointer (some ⟨p1, 0, none⟩)]] 111)) #[.func (.func 66) #[] #[.pointer (some ⟨p2, 0, none⟩)]] 111 0
      rw [World.size_alloc] at h
      rw [← Hwx.out]; exact (Ch.refl (fun _ => False) _).drew.get h id
    obtain ⟨W4, hW4⟩ : ∃ W4, w3.alloc (.cells #[.pointer (some ⟨b, 0, none⟩)] 109) = W4 := ⟨_, rfl⟩
    have hc34 : Ch (fun _ => False) w3 W4 := by rw [← hW4]; exact (Ch.refl _ _).alloc _
    have hbx4 : W4.cell? ⟨w3.heap.size, 0, none⟩ = some (.pointer (some ⟨b, 0, none⟩)) := by rw [← hW4]; exact cell_fresh _ _ _ _
    have hsz4 : W4.heap.size = w3.heap.size + 1 := by rw [← hW4]; simp
    rw [hW4]
    clear hW4
    have hcx4 := hC3.trans hc34
    have hc24 := hcx.trans hcx4
    have HTU := Go.Lib.hid ((HU.out.ch HA2.out id id).ch hc24 id id)
    have HTL := Go.Lib.hid (HL.out.ch hc24 id id)
    have HcU := Go.Lib.hid (hcx4.get hcU id)
    have HcL := Go.Lib.hid (hcx4.get hcL id)
    have HK4 : Hid (∀ t, t < 64 → W4.cell? ⟨0, t, none⟩ = some (wv (k t))) := fun t ht => hc24.get (HC.out.get (Hk.out t ht) id) id
    have HS4 : Hid (∀ j, j < 8 → W4.cell? ⟨w.heap.size, j, none⟩ = some (wv (s.word j))) := fun j hj => hc24.get (HS0.out j hj) id
    have HR4 : Hid (∀ j, j < 8 → W4.cell? ⟨w.heap.size + 1, j, none⟩ = some (.int .u32 0) ∧ W4.frozen? ⟨w.heap.size + 1, j, none⟩ = false) := fun j hj =>
      ⟨hc24.get (HR0.out j hj).1 id, (hc24.frozen (cell_lt (HR0.out j hj).1) id).trans (HR0.out j hj).2⟩
    have HG4 : Hid (Ring W4 b m) := fun j hj => ⟨hc24.get (HC.out.get (Hring.out j hj).1 id) id, ((HC.out.trans hc24).frozen (cell_lt (Hring.out j hj).1) id).trans (Hring.out j hj).2⟩
    have HB4 : Hid (∀ j, j < 8 → W4.heap[B j]? = some (.cells #[wv (s.word j)] 79) ∧ w2.heap.size + 2 ≤ B j ∧ B j < w3.heap.size) := fun j hj =>
      ⟨hc34.obj (hB j hj).1 id, by have := (hB j hj).2; omega, (Array.getElem?_eq_some_iff.1 (hB j hj).1).1⟩
    have hbw : b < w.heap.size := cell_lt (Hring.out 0 (by decide)).1
    have HC4 : Hid (Rch (fun _ => False) b w W4) := Rch.of_ch (HC.out.trans hc24) hbw id
    have HBne := Go.Lib.hid hBne
    clear hcx hcU hcL hc34 hcx4 hc24 hB hBne hC3
    generalize haa : Act.mk _ _ = aa
    have Haa := Go.Lib.hid haa
    have hg : aa.eval (.tmp 40) = .func (.func 67) #[] #[.pointer (some ⟨w3.heap.size, 0, none⟩)] := by rw [← haa]; rfl
    clear haa
    refine range_words hg hbx4 HG4.out (by have := HB4.out 0 (by decide); omega) (fun i => ∃ j, j < 8 ∧ i = B j) (by rintro ⟨j, hj, rfl⟩; have := HB4.out j hj; have := cell_lt (HS0.out 0 (by decide)); simp at this; omega)
      (by rintro ⟨j, hj, e⟩; have := HB4.out j hj; omega) (by rintro i ⟨j, hj, rfl⟩; have := HB4.out j hj; omega)
      (fun t W => (∀ j, j < 8 → W.heap[B j]? = some (.cells #[wv ((turns k m s t).word j)] 79)) ∧ Rch (fun i => (∃ j, j < 8 ∧ i = B j) ∨ W4.heap.size ≤ i) b W4 W)
      (fun W => (∀ j, j < 8 → W.heap[B j]? = some (.cells #[wv ((turns k m s 64).word j)] 79)) ∧ Rch (fun i => (∃ j, j < 8 ∧ i = B j) ∨ W4.heap.size ≤ i) b W4 W)
      ?hI ?hIx ⟨fun j hj => (HB4.out j hj).1, Rch.refl _ _ _⟩
      (fun t => { tmps := (((aa.tmps.setIfInBounds 41 (.int .i64 (t : Int))).setIfInBounds 42 (wv (word m t))).setIfInBounds 15 (.int .i64 (t : Int))).setIfInBounds 16 (wv (word m t)), defers := [] }) ?has ?hbody ?hbody64 ?hstop
    case hI =>
      rintro t X Y ⟨hB, hR⟩ hr
      refine ⟨fun j hj => hr.ch.obj (hB j hj) (by have := HB4.out j hj; omega), hR.trans (hr.mono (fun i _ h => .inr h))⟩
    case hIx =>
      rintro X Y ⟨hB, hR⟩ hr
      refine ⟨fun j hj => hr.ch.obj (hB j hj) (by have := HB4.out j hj; omega), hR.trans (hr.mono (fun i _ h => .inr h))⟩
    case has =>
      intro l t W K hK
      rw [← Haa.out]
      rw [← Haa.out] at hK
      simp only [List.setIfInBounds_toArray, List.set_cons_succ, List.set_cons_zero] at hK
      gi_wp2
      exact hK
    case hbody =>
      rintro l t W ht ⟨hB, hR⟩
      have nS : ∀ i, i < w2.heap.size + 2 → i ≠ b → ¬ (i = b ∨ (∃ j, j < 8 ∧ i = B j) ∨ W4.heap.size ≤ i) := by
        rintro i h1 h2 (h | ⟨j, hj, rfl⟩ | h)
        · exact h2 h
        · have := HB4.out j hj; omega
        · have := HB4.out 0 (by decide); omega
      have HqU : Hid (∀ (n : Nat) (x : BitVec 32), Calls Tryd.prog 66 #[wv x, .pointer (some ⟨p1, 0, none⟩)] (W.drewN n) fun e w' => e = .returned (wv (sx x [6, 11, 25])) ∧ ∃ m, w' = W.drewN m) :=
        fun n x => quiet_q (((HTU.out.ch hR.ch (nS _ (by omega) (by omega)) (nS _ (by omega) (by omega))).drewN n).call x)
      have HqL : Hid (∀ (n : Nat) (x : BitVec 32), Calls Tryd.prog 66 #[wv x, .pointer (some ⟨p2, 0, none⟩)] (W.drewN n) fun e w' => e = .returned (wv (sx x [2, 13, 22])) ∧ ∃ m, w' = W.drewN m) :=
        fun n x => quiet_q (((HTL.out.ch hR.ch (nS _ (by omega) (by omega)) (nS _ (by omega) (by omega))).drewN n).call x)
      have cU : W.cell? ⟨w2.heap.size, 0, none⟩ = some (.func (.func 66) #[] #[.pointer (some ⟨p1, 0, none⟩)]) := hR.ch.get HcU.out (nS _ (by simp) (by simp; omega))
      have cL : W.cell? ⟨w2.heap.size + 1, 0, none⟩ = some (.func (.func 66) #[] #[.pointer (some ⟨p2, 0, none⟩)]) := hR.ch.get HcL.out (nS _ (by simp) (by simp; omega))
      have cK : W.cell? ⟨0, t, none⟩ = some (wv (k t)) := hR.ch.get (HK4.out t ht) (nS _ (by simp) (by simp; omega))
      have HX := Go.Lib.hid (show turns k m s (t + 1) = turn (turns k m s t) (k t) (word m t) from rfl)
      have hBb : ∀ j, j < 8 → W.cell? ⟨B j, 0, none⟩ = some (wv ((turns k m s t).word j)) := fun j hj => by simp [World.cell?, hB j hj]
      generalize hx : turns k m s t = x at *
      clear hx
      have d0 : W.cell? ⟨B 0, 0, none⟩ = some (wv x.a) := by have := hBb 0 (by omega); exact this
      have d1 : W.cell? ⟨B 1, 0, none⟩ = some (wv x.b) := by have := hBb 1 (by omega); exact this
      have d2 : W.cell? ⟨B 2, 0, none⟩ = some (wv x.c) := by have := hBb 2 (by omega); exact this
      have d3 : W.cell? ⟨B 3, 0, none⟩ = some (wv x.d) := by have := hBb 3 (by omega); exact this
      have d4 : W.cell? ⟨B 4, 0, none⟩ = some (wv x.e) := by have := hBb 4 (by omega); exact this
      have d5 : W.cell? ⟨B 5, 0, none⟩ = some (wv x.f) := by have := hBb 5 (by omega); exact this
      have d6 : W.cell? ⟨B 6, 0, none⟩ = some (wv x.g) := by have := hBb 6 (by omega); exact this
      have d7 : W.cell? ⟨B 7, 0, none⟩ = some (wv x.h) := by have := hBb 7 (by omega); exact this
      have HB := Go.Lib.hid hB; have HR := Go.Lib.hid hR
      clear hBb hB hR nS
      rw [← Haa.out]
      simp only [List.setIfInBounds_toArray, List.set_cons_succ, List.set_cons_zero]
      gi_wp2_with fail
      refine region_round (by kernel_rfl) (by kernel_rfl) (by kernel_rfl) ?_
      repeat (quiet_step ((go_at_call 66; (with_reducible exact HqU.out _ _))))
      refine wpQuiet_nil ?_
      intro _ hw'
      obtain ⟨q1, rfl⟩ := hw'
      gi_wp2_with fail
      refine region_round' q1 (by kernel_rfl) (by kernel_rfl) (by kernel_rfl) ?_
      repeat (quiet_step ((go_at_call 66; (with_reducible exact HqL.out _ _))))
      refine wpQuiet_nil ?_
      intro _ hw'
      obtain ⟨q2, rfl⟩ := hw'
      obtain ⟨W5, hW5⟩ : ∃ W5, W.drewN q2 = W5 := ⟨_, rfl⟩
      rw [hW5]
      have hB5 : ∀ j, j < 8 → W5.heap[B j]? = some (.cells #[wv (x.word j)] 79) := by rw [← hW5]; exact HB.out
      have e0 : W5.cell? ⟨B 0, 0, none⟩ = some (wv (x.word 0)) := by simp [World.cell?, hB5 0 (by omega)]
      have z0 : W5.frozen? ⟨B 0, 0, none⟩ = false := by simp [World.frozen?, hB5 0 (by omega)]
      have e1 := fun v0 => (pre1 hB5 HBne.out v0).1
      have z1 := fun v0 => (pre1 hB5 HBne.out v0).2
      have e2 := fun v0 v1 => (pre2 hB5 HBne.out v0 v1).1
      have z2 := fun v0 v1 => (pre2 hB5 HBne.out v0 v1).2
      have e3 := fun v0 v1 v2 => (pre3 hB5 HBne.out v0 v1 v2).1
      have z3 := fun v0 v1 v2 => (pre3 hB5 HBne.out v0 v1 v2).2
      have e4 := fun v0 v1 v2 v3 => (pre4 hB5 HBne.out v0 v1 v2 v3).1
      have z4 := fun v0 v1 v2 v3 => (pre4 hB5 HBne.out v0 v1 v2 v3).2
      have e5 := fun v0 v1 v2 v3 v4 => (pre5 hB5 HBne.out v0 v1 v2 v3 v4).1
      have z5 := fun v0 v1 v2 v3 v4 => (pre5 hB5 HBne.out v0 v1 v2 v3 v4).2
      have e6 := fun v0 v1 v2 v3 v4 v5 => (pre6 hB5 HBne.out v0 v1 v2 v3 v4 v5).1
      have z6 := fun v0 v1 v2 v3 v4 v5 => (pre6 hB5 HBne.out v0 v1 v2 v3 v4 v5).2
      have e7 := fun v0 v1 v2 v3 v4 v5 v6 => (pre7 hB5 HBne.out v0 v1 v2 v3 v4 v5 v6).1
      have z7 := fun v0 v1 v2 v3 v4 v5 v6 => (pre7 hB5 HBne.out v0 v1 v2 v3 v4 v5 v6).2
      have y0 : W5.cell? ⟨B 0, 0, none⟩ = some (wv x.a) := by rw [← hW5]; exact d0
      have y1 : W5.cell? ⟨B 1, 0, none⟩ = some (wv x.b) := by rw [← hW5]; exact d1
      have y2 : W5.cell? ⟨B 2, 0, none⟩ = some (wv x.c) := by rw [← hW5]; exact d2
      have y3 : W5.cell? ⟨B 3, 0, none⟩ = some (wv x.d) := by rw [← hW5]; exact d3
      have y4 : W5.cell? ⟨B 4, 0, none⟩ = some (wv x.e) := by rw [← hW5]; exact d4
      have y5 : W5.cell? ⟨B 5, 0, none⟩ = some (wv x.f) := by rw [← hW5]; exact d5
      have y6 : W5.cell? ⟨B 6, 0, none⟩ = some (wv x.g) := by rw [← hW5]; exact d6
      have y7 : W5.cell? ⟨B 7, 0, none⟩ = some (wv x.h) := by rw [← hW5]; exact d7
      have HW5 := Go.Lib.hid hW5
      have HB5 := Go.Lib.hid hB5
      clear hW5 hB5 d0 d1 d2 d3 d4 d5 d6 d7 cU cL cK
      gi_wp2
      obtain ⟨g1, g2⟩ := set8 (B := B) (fun j => wv (x.word j)) (fun j => wv ((turn x (k t) (word m t)).word j)) HB5.out HBne.out
      have hc5 : Ch (fun i => ∃ j, j < 8 ∧ i = B j) W W5 := by rw [← HW5.out]; exact (Ch.refl _ W).drewN q2
      have hcS := hc5.trans g2
      have hbW : b < W.heap.size := Nat.lt_of_lt_of_le (by have := HB4.out 0 (by decide); omega) HR.out.ch.size
      have hnb : ¬ ∃ j, j < 8 ∧ b = B j := by rintro ⟨j, hj, e⟩; have := HB4.out j hj; omega
      refine ⟨⟨by rw [HX.out]; exact g1, ?_⟩, hcS⟩
      rw [← hsz4]
      exact HR.out.trans ((Rch.of_ch hcS hbW hnb).mono (fun _ _ h => .inl h))
    case hbody64 =>
      rintro l W ⟨hB, hR⟩
      have HB := Go.Lib.hid hB; have HR := Go.Lib.hid hR
      clear hB hR
      rw [← Haa.out]
      simp only [List.setIfInBounds_toArray, List.set_cons_succ, List.set_cons_zero]
      gi_wp2
      exact ⟨⟨HB.out, by rw [← hsz4]; exact HR.out⟩, Ch.refl _ _⟩
    case hstop =>
      rintro D W ⟨hB, hR⟩ ⟨m', hm'⟩ hD hdef
      have nS : ∀ i, i < w2.heap.size + 2 → i ≠ b → ¬ (i = b ∨ (∃ j, j < 8 ∧ i = B j) ∨ W4.heap.size ≤ i) := by
        rintro i h1 h2 (h | ⟨j, hj, rfl⟩ | h)
        · exact h2 h
        · have := HB4.out j hj; omega
        · have := HB4.out 0 (by decide); omega
      have hRS : ∀ j, j < 8 → W.cell? ⟨w.heap.size + 1, j, none⟩ = some (.int .u32 0) := fun j hj => hR.ch.get (HR4.out j hj).1 (nS _ (by simp; omega) (by simp; omega))
      have hRF : ∀ j, j < 8 → W.frozen? ⟨w.heap.size + 1, j, none⟩ = false := fun j hj => (hR.ch.frozen (cell_lt (HR4.out j hj).1) (nS _ (by simp; omega) (by simp; omega))).trans (HR4.out j hj).2
      have hBb : ∀ j, j < 8 → W.cell? ⟨B j, 0, none⟩ = some (wv ((turns k m s 64).word j)) := fun j hj => by simp [World.cell?, hB j hj]
      generalize hx : turns k m s 64 = x at *
      have Hx := Go.Lib.hid hx
      clear hx
      have d0 : W.cell? ⟨B 0, 0, none⟩ = some (wv x.a) := by have := hBb 0 (by omega); exact this
      have d1 : W.cell? ⟨B 1, 0, none⟩ = some (wv x.b) := by have := hBb 1 (by omega); exact this
      have d2 : W.cell? ⟨B 2, 0, none⟩ = some (wv x.c) := by have := hBb 2 (by omega); exact this
      have d3 : W.cell? ⟨B 3, 0, none⟩ = some (wv x.d) := by have := hBb 3 (by omega); exact this
      have d4 : W.cell? ⟨B 4, 0, none⟩ = some (wv x.e) := by have := hBb 4 (by omega); exact this
      have d5 : W.cell? ⟨B 5, 0, none⟩ = some (wv x.f) := by have := hBb 5 (by omega); exact this
      have d6 : W.cell? ⟨B 6, 0, none⟩ = some (wv x.g) := by have := hBb 6 (by omega); exact this
      have d7 : W.cell? ⟨B 7, 0, none⟩ = some (wv x.h) := by have := hBb 7 (by omega); exact this
      have s0 : W.cell? ⟨w.heap.size, 0, none⟩ = some (wv s.a) := hR.ch.get (HS4.out 0 (by omega)) (nS _ (by simp; omega) (by simp; omega))
      have s1 : W.cell? ⟨w.heap.size, 1, none⟩ = some (wv s.b) := hR.ch.get (HS4.out 1 (by omega)) (nS _ (by simp; omega) (by simp; omega))
      have s2 : W.cell? ⟨w.heap.size, 2, none⟩ = some (wv s.c) := hR.ch.get (HS4.out 2 (by omega)) (nS _ (by simp; omega) (by simp; omega))
      have s3 : W.cell? ⟨w.heap.size, 3, none⟩ = some (wv s.d) := hR.ch.get (HS4.out 3 (by omega)) (nS _ (by simp; omega) (by simp; omega))
      have s4 : W.cell? ⟨w.heap.size, 4, none⟩ = some (wv s.e) := hR.ch.get (HS4.out 4 (by omega)) (nS _ (by simp; omega) (by simp; omega))
      have s5 : W.cell? ⟨w.heap.size, 5, none⟩ = some (wv s.f) := hR.ch.get (HS4.out 5 (by omega)) (nS _ (by simp; omega) (by simp; omega))
      have s6 : W.cell? ⟨w.heap.size, 6, none⟩ = some (wv s.g) := hR.ch.get (HS4.out 6 (by omega)) (nS _ (by simp; omega) (by simp; omega))
      have s7 : W.cell? ⟨w.heap.size, 7, none⟩ = some (wv s.h) := hR.ch.get (HS4.out 7 (by omega)) (nS _ (by simp; omega) (by simp; omega))
      have r0 := hRS 0 (by omega)
      have f0 := hRF 0 (by omega)
      have r1 := hRS 1 (by omega)
      have f1 := hRF 1 (by omega)
      have r2 := hRS 2 (by omega)
      have f2 := hRF 2 (by omega)
      have r3 := hRS 3 (by omega)
      have f3 := hRF 3 (by omega)
      have r4 := hRS 4 (by omega)
      have f4 := hRF 4 (by omega)
      have r5 := hRS 5 (by omega)
      have f5 := hRF 5 (by omega)
      have r6 := hRS 6 (by omega)
      have f6 := hRF 6 (by omega)
      have r7 := hRS 7 (by omega)
      have f7 := hRF 7 (by omega)
      have HB := Go.Lib.hid hB; have HR := Go.Lib.hid hR
      have HM := Go.Lib.hid hm'
      clear hBb hB hR nS hRS hRF hm'
      rw [← Haa.out]
      go_wp2
      try rw [Exit.noGoto_ret]
      have k0 : ((((((((W.setCell ⟨w.heap.size + 1, 0, none⟩ (.int .u32 (un (s.a + x.a)))).setCell ⟨w.heap.size + 1, 1, none⟩ (.int .u32 (un (s.b + x.b)))).setCell ⟨w.heap.size + 1, 2, none⟩ (.int .u32 (un (s.c + x.c)))).setCell ⟨w.heap.size + 1, 3, none⟩ (.int .u32 (un (s.d + x.d)))).setCell ⟨w.heap.size + 1, 4, none⟩ (.int .u32 (un (s.e + x.e)))).setCell ⟨w.heap.size + 1, 5, none⟩ (.int .u32 (un (s.f + x.f)))).setCell ⟨w.heap.size + 1, 6, none⟩ (.int .u32 (un (s.g + x.g)))).setCell ⟨w.heap.size + 1, 7, none⟩ (.int .u32 (un (s.h + x.h)))).cell? ⟨w.heap.size + 1, 0, none⟩ = some (.int .u32 (un (s.a + x.a))) := by go_simp
      have k1 : ((((((((W.setCell ⟨w.heap.size + 1, 0, none⟩ (.int .u32 (un (s.a + x.a)))).setCell ⟨w.heap.size + 1, 1, none⟩ (.int .u32 (un (s.b + x.b)))).setCell ⟨w.heap.size + 1, 2, none⟩ (.int .u32 (un (s.c + x.c)))).setCell ⟨w.heap.size + 1, 3, none⟩ (.int .u32 (un (s.d + x.d)))).setCell ⟨w.heap.size + 1, 4, none⟩ (.int .u32 (un (s.e + x.e)))).setCell ⟨w.heap.size + 1, 5, none⟩ (.int .u32 (un (s.f + x.f)))).setCell ⟨w.heap.size + 1, 6, none⟩ (.int .u32 (un (s.g + x.g)))).setCell ⟨w.heap.size + 1, 7, none⟩ (.int .u32 (un (s.h + x.h)))).cell? ⟨w.heap.size + 1, 1, none⟩ = some (.int .u32 (un (s.b + x.b))) := by go_simp
      have k2 : ((((((((W.setCell ⟨w.heap.size + 1, 0, none⟩ (.int .u32 (un (s.a + x.a)))).setCell ⟨w.heap.size + 1, 1, none⟩ (.int .u32 (un (s.b + x.b)))).setCell ⟨w.heap.size + 1, 2, none⟩ (.int .u32 (un (s.c + x.c)))).setCell ⟨w.heap.size + 1, 3, none⟩ (.int .u32 (un (s.d + x.d)))).setCell ⟨w.heap.size + 1, 4, none⟩ (.int .u32 (un (s.e + x.e)))).setCell ⟨w.heap.size + 1, 5, none⟩ (.int .u32 (un (s.f + x.f)))).setCell ⟨w.heap.size + 1, 6, none⟩ (.int .u32 (un (s.g + x.g)))).setCell ⟨w.heap.size + 1, 7, none⟩ (.int .u32 (un (s.h + x.h)))).cell? ⟨w.heap.size + 1, 2, none⟩ = some (.int .u32 (un (s.c + x.c))) := by go_simp
      have k3 : ((((((((W.setCell ⟨w.heap.size + 1, 0, none⟩ (.int .u32 (un (s.a + x.a)))).setCell ⟨w.heap.size + 1, 1, none⟩ (.int .u32 (un (s.b + x.b)))).setCell ⟨w.heap.size + 1, 2, none⟩ (.int .u32 (un (s.c + x.c)))).setCell ⟨w.heap.size + 1, 3, none⟩ (.int .u32 (un (s.d + x.d)))).setCell ⟨w.heap.size + 1, 4, none⟩ (.int .u32 (un (s.e + x.e)))).setCell ⟨w.heap.size + 1, 5, none⟩ (.int .u32 (un (s.f + x.f)))).setCell ⟨w.heap.size + 1, 6, none⟩ (.int .u32 (un (s.g + x.g)))).setCell ⟨w.heap.size + 1, 7, none⟩ (.int .u32 (un (s.h + x.h)))).cell? ⟨w.heap.size + 1, 3, none⟩ = some (.int .u32 (un (s.d + x.d))) := by go_simp
      have k4 : ((((((((W.setCell ⟨w.heap.size + 1, 0, none⟩ (.int .u32 (un (s.a + x.a)))).setCell ⟨w.heap.size + 1, 1, none⟩ (.int .u32 (un (s.b + x.b)))).setCell ⟨w.heap.size + 1, 2, none⟩ (.int .u32 (un (s.c + x.c)))).setCell ⟨w.heap.size + 1, 3, none⟩ (.int .u32 (un (s.d + x.d)))).setCell ⟨w.heap.size + 1, 4, none⟩ (.int .u32 (un (s.e + x.e)))).setCell ⟨w.heap.size + 1, 5, none⟩ (.int .u32 (un (s.f + x.f)))).setCell ⟨w.heap.size + 1, 6, none⟩ (.int .u32 (un (s.g + x.g)))).setCell ⟨w.heap.size + 1, 7, none⟩ (.int .u32 (un (s.h + x.h)))).cell? ⟨w.heap.size + 1, 4, none⟩ = some (.int .u32 (un (s.e + x.e))) := by go_simp
      have k5 : ((((((((W.setCell ⟨w.heap.size + 1, 0, none⟩ (.int .u32 (un (s.a + x.a)))).setCell ⟨w.heap.size + 1, 1, none⟩ (.int .u32 (un (s.b + x.b)))).setCell ⟨w.heap.size + 1, 2, none⟩ (.int .u32 (un (s.c + x.c)))).setCell ⟨w.heap.size + 1, 3, none⟩ (.int .u32 (un (s.d + x.d)))).setCell ⟨w.heap.size + 1, 4, none⟩ (.int .u32 (un (s.e + x.e)))).setCell ⟨w.heap.size + 1, 5, none⟩ (.int .u32 (un (s.f + x.f)))).setCell ⟨w.heap.size + 1, 6, none⟩ (.int .u32 (un (s.g + x.g)))).setCell ⟨w.heap.size + 1, 7, none⟩ (.int .u32 (un (s.h + x.h)))).cell? ⟨w.heap.size + 1, 5, none⟩ = some (.int .u32 (un (s.f + x.f))) := by go_simp
      have k6 : ((((((((W.setCell ⟨w.heap.size + 1, 0, none⟩ (.int .u32 (un (s.a + x.a)))).setCell ⟨w.heap.size + 1, 1, none⟩ (.int .u32 (un (s.b + x.b)))).setCell ⟨w.heap.size + 1, 2, none⟩ (.int .u32 (un (s.c + x.c)))).setCell ⟨w.heap.size + 1, 3, none⟩ (.int .u32 (un (s.d + x.d)))).setCell ⟨w.heap.size + 1, 4, none⟩ (.int .u32 (un (s.e + x.e)))).setCell ⟨w.heap.size + 1, 5, none⟩ (.int .u32 (un (s.f + x.f)))).setCell ⟨w.heap.size + 1, 6, none⟩ (.int .u32 (un (s.g + x.g)))).setCell ⟨w.heap.size + 1, 7, none⟩ (.int .u32 (un (s.h + x.h)))).cell? ⟨w.heap.size + 1, 6, none⟩ = some (.int .u32 (un (s.g + x.g))) := by go_simp
      have k7 : ((((((((W.setCell ⟨w.heap.size + 1, 0, none⟩ (.int .u32 (un (s.a + x.a)))).setCell ⟨w.heap.size + 1, 1, none⟩ (.int .u32 (un (s.b + x.b)))).setCell ⟨w.heap.size + 1, 2, none⟩ (.int .u32 (un (s.c + x.c)))).setCell ⟨w.heap.size + 1, 3, none⟩ (.int .u32 (un (s.d + x.d)))).setCell ⟨w.heap.size + 1, 4, none⟩ (.int .u32 (un (s.e + x.e)))).setCell ⟨w.heap.size + 1, 5, none⟩ (.int .u32 (un (s.f + x.f)))).setCell ⟨w.heap.size + 1, 6, none⟩ (.int .u32 (un (s.g + x.g)))).setCell ⟨w.heap.size + 1, 7, none⟩ (.int .u32 (un (s.h + x.h)))).cell? ⟨w.heap.size + 1, 7, none⟩ = some (.int .u32 (un (s.h + x.h))) := by go_simp
      obtain ⟨W7, hW7⟩ : ∃ W7, ((((((((W.setCell ⟨w.heap.size + 1, 0, none⟩ (.int .u32 (un (s.a + x.a)))).setCell ⟨w.heap.size + 1, 1, none⟩ (.int .u32 (un (s.b + x.b)))).setCell ⟨w.heap.size + 1, 2, none⟩ (.int .u32 (un (s.c + x.c)))).setCell ⟨w.heap.size + 1, 3, none⟩ (.int .u32 (un (s.d + x.d)))).setCell ⟨w.heap.size + 1, 4, none⟩ (.int .u32 (un (s.e + x.e)))).setCell ⟨w.heap.size + 1, 5, none⟩ (.int .u32 (un (s.f + x.f)))).setCell ⟨w.heap.size + 1, 6, none⟩ (.int .u32 (un (s.g + x.g)))).setCell ⟨w.heap.size + 1, 7, none⟩ (.int .u32 (un (s.h + x.h)))) = W7 := ⟨_, rfl⟩
      rw [hW7]
      have hc7 : Ch (fun i => i = w.heap.size + 1) W W7 := by rw [← hW7]; exact Ch.setCell (S := fun i => i = w.heap.size + 1) (Ch.setCell (S := fun i => i = w.heap.size + 1) (Ch.setCell (S := fun i => i = w.heap.size + 1) (Ch.setCell (S := fun i => i = w.heap.size + 1) (Ch.setCell (S := fun i => i = w.heap.size + 1) (Ch.setCell (S := fun i => i = w.heap.size + 1) (Ch.setCell (S := fun i => i = w.heap.size + 1) (Ch.setCell (S := fun i => i = w.heap.size + 1) (Ch.refl _ W) (p := ⟨w.heap.size + 1, 0, none⟩) (fun _ => rfl) _) (p := ⟨w.heap.size + 1, 1, none⟩) (fun _ => rfl) _) (p := ⟨w.heap.size + 1, 2, none⟩) (fun _ => rfl) _) (p := ⟨w.heap.size + 1, 3, none⟩) (fun _ => rfl) _) (p := ⟨w.heap.size + 1, 4, none⟩) (fun _ => rfl) _) (p := ⟨w.heap.size + 1, 5, none⟩) (fun _ => rfl) _) (p := ⟨w.heap.size + 1, 6, none⟩) (fun _ => rfl) _) (p := ⟨w.heap.size + 1, 7, none⟩) (fun _ => rfl) _
      rw [hW7] at k0 k1 k2 k3 k4 k5 k6 k7
      clear hW7 d0 d1 d2 d3 d4 d5 d6 d7 s0 s1 s2 s3 s4 s5 s6 s7 r0 r1 r2 r3 r4 r5 r6 r7 f0 f1 f2 f3 f4 f5 f6 f7
      have hwD : w.heap.size + 1 < D := by have := HB4.out 0 (by decide); omega
      have hdef7 : W7.heap[D]? = some (.deferred (some [])) := hc7.obj hdef (by omega)
      obtain ⟨W8, hW8⟩ : ∃ W8, W7.putObj D (.deferred none) = W8 := ⟨_, rfl⟩
      have l0 : W8.cell? ⟨w.heap.size + 1, 0, none⟩ = some (.int .u32 (un (s.a + x.a))) := by rw [← hW8]; exact (World.cell?_of_block (w := W7) (World.putObj_heap_other (by simp; omega))).trans k0
      have l1 : W8.cell? ⟨w.heap.size + 1, 1, none⟩ = some (.int .u32 (un (s.b + x.b))) := by rw [← hW8]; exact (World.cell?_of_block (w := W7) (World.putObj_heap_other (by simp; omega))).trans k1
      have l2 : W8.cell? ⟨w.heap.size + 1, 2, none⟩ = some (.int .u32 (un (s.c + x.c))) := by rw [← hW8]; exact (World.cell?_of_block (w := W7) (World.putObj_heap_other (by simp; omega))).trans k2
      have l3 : W8.cell? ⟨w.heap.size + 1, 3, none⟩ = some (.int .u32 (un (s.d + x.d))) := by rw [← hW8]; exact (World.cell?_of_block (w := W7) (World.putObj_heap_other (by simp; omega))).trans k3
      have l4 : W8.cell? ⟨w.heap.size + 1, 4, none⟩ = some (.int .u32 (un (s.e + x.e))) := by rw [← hW8]; exact (World.cell?_of_block (w := W7) (World.putObj_heap_other (by simp; omega))).trans k4
      have l5 : W8.cell? ⟨w.heap.size + 1, 5, none⟩ = some (.int .u32 (un (s.f + x.f))) := by rw [← hW8]; exact (World.cell?_of_block (w := W7) (World.putObj_heap_other (by simp; omega))).trans k5
      have l6 : W8.cell? ⟨w.heap.size + 1, 6, none⟩ = some (.int .u32 (un (s.g + x.g))) := by rw [← hW8]; exact (World.cell?_of_block (w := W7) (World.putObj_heap_other (by simp; omega))).trans k6
      have l7 : W8.cell? ⟨w.heap.size + 1, 7, none⟩ = some (.int .u32 (un (s.h + x.h))) := by rw [← hW8]; exact (World.cell?_of_block (w := W7) (World.putObj_heap_other (by simp; omega))).trans k7
      have hrun := run_takeDeferred (P := Tryd.prog) hdef7
      rw [hW8] at hrun
      refine ⟨by simp, .inl ⟨_, _, rfl, hrun, ?_⟩⟩
      have hbD : b < w.heap.size := hbw
      have hw8 : ∀ i, i ≠ D → W8.heap[i]? = W7.heap[i]? := fun i hi => by rw [← hW8]; exact World.putObj_heap_other hi
      refine ⟨.agg #[wv (s.a + x.a), wv (s.b + x.b), wv (s.c + x.c), wv (s.d + x.d), wv (s.e + x.e), wv (s.f + x.f), wv (s.g + x.g), wv (s.h + x.h)], ?run, ?post⟩
      case run =>
        clear hW8 hw8 hrun k0 k1 k2 k3 k4 k5 k6 k7
        simp [results, Tryd.results61, go_sem, l0, l1, l2, l3, l4, l5, l6, l7]
      case post =>
        refine ⟨by rw [Hx.out]; rfl, ?_, m', fun j hj => ?_⟩
        · have r1 := HC4.out.then HR.out (fun i hi => by
            rintro (⟨j, hj, rfl⟩ | h)
            · have := HB4.out j hj; omega
            · have := HB4.out 0 (by decide); omega)
          have hlt : w.heap.size + 1 < W.heap.size := by have := cell_lt (HR4.out 0 (by decide)).1; have := HR.out.ch.size; simp at *; omega
          have r2 := r1.then (Rch.of_ch hc7 (Nat.lt_of_lt_of_le hbD r1.ch.size) (by omega)) (fun i hi h => by omega)
          refine r2.then (S := fun _ => False) (T := fun i => i = D) ?_ (fun i hi h => by omega)
          rw [← hW8]
          exact Rch.putObj (b := b) (r := D) (S := fun i => i = D) W7 (fun _ => rfl) (by omega) _
        · obtain ⟨g1, g2⟩ := HM.out j hj
          have h1 := hc7.get g1 (by simp; omega)
          have h2 := (hc7.frozen (cell_lt g1) (by simp; omega)).trans g2
          exact ⟨(World.cell?_of_block (w := W7) (hw8 b (by omega))).trans h1, (World.frozen?_of_block (w := W7) (hw8 b (by omega))).trans h2⟩
  · exact Inv8.start _ _ _ _ Hsz.out
end Go.Proofs.YtikdpiedjkailaaDoor
