import Derived.Test.YtikdpiedjkailaaDoorT5
import Derived.Test.YtikdpiedjkailaaDoorBytes
namespace Go.Proofs.YtikdpiedjkailaaDoor
open Go.RowKit
attribute [local go_sem high] b_add b_xor b_and b_or b_shr b_shl not32 wrap_un beq32

theorem byte_u32 (c : UInt8) : IntKind.u32.wrap (c.toNat : Int) = un (BitVec.ofNat 32 c.toNat) := wrap32_nat _

set_option maxHeartbeats 400000 in
theorem lay_any (b i : Nat) (c : UInt8) (m : Nat → BitVec 32) (w : World) (hi : i < 64) (hr : Ring w b m) :
    Calls Tryd.prog 59 #[.pointer (some ⟨b, 0, none⟩), .int .i64 (i : Int), .int .u8 (c.toNat : Int)] w fun e w' => e = .returned (.tuple #[]) ∧ w' = w.setCell ⟨b, i / 4 % 16, none⟩ (wv (m (i / 4 % 16) <<< 8 ||| BitVec.ofNat 32 c.toNat)) := by
  obtain ⟨h1, h2⟩ := hr (i / 4 % 16) (by omega)
  have hb := byte_u32 c
  have h8 : (8 : Int).toNat = 8 := rfl
  clear hr
  go_enter Tryd.func59, Tryd.ntmps59
  go_wp2
  go_end0
  exact ⟨rfl, rfl⟩

theorem laid_ring {w : World} {b i : Nat} {c : UInt8} {m : Nat → BitVec 32} (h : Ring w b m) :
    Ring (w.setCell ⟨b, i / 4 % 16, none⟩ (wv (m (i / 4 % 16) <<< 8 ||| BitVec.ofNat 32 c.toNat))) b (laid m i c) := by
  intro j hj
  obtain ⟨h1, h2⟩ := h j hj
  refine ⟨?_, by rw [World.frozen?_setCell]; exact h2⟩
  unfold laid
  by_cases e : j = i / 4 % 16
  · rw [if_pos e, e]; exact World.cell?_setCell_same _ _ _ (h _ (by omega)).1
  · rw [if_neg e, World.cell?_setCell_other _ _ _ _ (fun h => e (by cases h; rfl))]; exact h1

theorem lay_at (b i : Nat) (x : Int) (c : UInt8) (m : Nat → BitVec 32) (w : World) (hx : x = (i : Int)) (hi : i < 64) (hr : Ring w b m) :
    Calls Tryd.prog 59 #[.pointer (some ⟨b, 0, none⟩), .int .i64 x, .int .u8 (c.toNat : Int)] w fun e w' => e = .returned (.tuple #[]) ∧ Ring w' b (laid m i c) ∧ Rch (fun _ => False) b w w' := by
  subst hx
  refine (lay_any b i c m w hi hr).mono ?_
  rintro e w' ⟨rfl, rfl⟩
  exact ⟨rfl, laid_ring hr, Rch.ring w 0 _ (by omega) _⟩

set_option maxHeartbeats 400000 in
theorem fill_any (b n : Nat) (w : World) (hn : n ≤ 1099511627776) (h : w.cell? ⟨b, 24, none⟩ = some (.int .i64 (n : Int))) :
    Calls Tryd.prog 60 #[.pointer (some ⟨b, 0, none⟩)] w fun e w' => e = .returned (.int .i64 ((n % 64 : Nat) : Int)) ∧ w = w' := by
  go_enter Tryd.func60, Tryd.ntmps60
  go_wp2
  go_ret
  exact ⟨rfl, rfl⟩

/-- The constants' table. -/
def KAt (w : World) : Prop := ∀ t, t < 64 → w.cell? ⟨0, t, none⟩ = some (wv (kt t))
/-- A sum under way at block b, behind n bytes of f. -/
structure RunAt (w : World) (b : Nat) (f : Nat → UInt8) (n : Nat) : Prop where
  ring : ∃ m, Ring w b m ∧ Part f (n / 64 * 64) (n % 64) m
  st : ∀ j, j < 8 → w.cell? ⟨b, 16 + j, none⟩ = some (wv ((stN f (n / 64)).word j)) ∧ w.frozen? ⟨b, 16 + j, none⟩ = false
  cnt : w.cell? ⟨b, 24, none⟩ = some (.int .i64 (n : Int))
  cntf : w.frozen? ⟨b, 24, none⟩ = false
  made : w.cell? ⟨b, 25, none⟩ = some (.bool true)
set_option maxHeartbeats 1000000 in
theorem read_bytes (b n len cap a off : Nat) (p : Option Addr) (f : Nat → UInt8) (w : World) (hp : p = some ⟨a, off, none⟩ ∨ len = 0) (hab : a ≠ b) (hb0 : b ≠ 0) (hn : n + len ≤ 1099511627776)
    (hR : RunAt w b f n) (hK : KAt w) (hg : ∀ i, i < len → w.cell? ⟨a, off + i, none⟩ = some (.int .u8 ((f (n + i)).toNat : Int))) :
    Calls Tryd.prog 46 #[.pointer (some ⟨b, 0, none⟩), .slice p len cap] w fun e w' => e = .returned (.tuple #[]) ∧ Ch (fun k => k = b) w w' ∧ RunAt w' b f (n + len) := by
  have HR := Go.Lib.hid hR; have HK := Go.Lib.hid hK; have HG := Go.Lib.hid hg; have HP := Go.Lib.hid hp
  clear hR hK hg hp
  go_enter Tryd.func46, Tryd.ntmps46
  go_wp2
  go_loopw [4, 7] (fun j i wr => ∃ t : Nat, t ≤ len ∧ i = .int .i64 t ∧ Ch (fun k => k = b) w wr ∧ RunAt wr b f (n + t)) (fun _ i _ => len - (intOf i).toNat)
  case atStart => exact ⟨0, Nat.zero_le _, rfl, Ch.refl _ _, HR.out⟩
  case round =>
    obtain ⟨t, ht, rfl, hC, hR⟩ := hrel
    have HC := Go.Lib.hid hC; clear hC
    by_cases hlt : t < len
    · obtain rfl : p = some ⟨a, off, none⟩ := HP.out.resolve_right (by omega)
      obtain ⟨⟨m, hring, hpart⟩, hst, hcnt, hcntf, hmade⟩ := hR
      have HRing := Go.Lib.hid hring; have HPart := Go.Lib.hid hpart; have HSt := Go.Lib.hid hst
      clear hring hpart hst
      have hg := HC.out.get (HG.out t hlt) (by simpa using hab)
      have HF := Go.Lib.hid (fun k => fill_any b (n + t) (wr.drewN k) (by omega) hcnt)
      go_upto_region 3 with (fail)
      refine wp_region_quiet_tail 9 (by kernel_rfl) (by kernel_rfl) ?_
      simp only [List.take_succ_cons, List.take_zero, List.drop_succ_cons, List.drop_zero]
      repeat (quiet_step ((go_at_call 60; (with_reducible exact quiet_q (v := .int .i64 (((n + t) % 64 : Nat) : Int)) (HF.out _)))))
      refine wpQuiet_nil ?_
      intro _ hw'
      obtain ⟨q1, rfl⟩ := hw'
      go_wp2_with fail
      have hl : Hid (Calls Tryd.prog 59 #[.pointer (some ⟨b, 0, none⟩), .int .i64 (((n : Int) + (t : Int)) % 64), .int .u8 ((f (n + t)).toNat : Int)] (wr.drewN q1) fun e w' => e = .returned (.tuple #[]) ∧ Ring w' b (laid m ((n + t) % 64) (f (n + t))) ∧ Rch (fun _ => False) b (wr.drewN q1) w') :=
        lay_at b ((n + t) % 64) _ _ m _ (by omega) (by omega) (fun j hj => HRing.out j hj)
      refine hl.out.mono ?_
      clear hl
      rintro e w2 ⟨rfl, hr2, hc2⟩
      have HR2 := Go.Lib.hid hr2
      have HC2 : Hid (Rch (fun _ => False) b wr w2) := (Rch.of_ch ((Ch.refl (fun _ => False) wr).drewN q1) (cell_lt hcnt) id).trans hc2
      clear hr2 hc2
      have hcnt2 := (HC2.out.cell 24 (by omega)).trans hcnt
      have hcntf2 := (HC2.out.froz 24).trans hcntf
      clear hcnt hcntf
      have hmade2 := (HC2.out.cell 25 (by omega)).trans hmade
      clear hmade
      go_upto_region 5 with (fail)
      obtain ⟨w3, hw3⟩ : ∃ w3, w2.setCell ⟨b, 24, none⟩ (.int .i64 ((n : Int) + (t : Int) + 1)) = w3 := ⟨_, rfl⟩
      rw [hw3]
      have hcnt3 : w3.cell? ⟨b, 24, none⟩ = some (.int .i64 ((n + t + 1 : Nat) : Int)) := by rw [← hw3]; exact World.cell?_setCell_same _ _ _ hcnt2
      have hother : ∀ o, o ≠ 24 → w3.cell? ⟨b, o, none⟩ = w2.cell? ⟨b, o, none⟩ := fun o ho => by rw [← hw3]; exact World.cell?_setCell_other _ _ _ _ (fun h => ho (by cases h; rfl))
      have hfroz : ∀ o, w3.frozen? ⟨b, o, none⟩ = w2.frozen? ⟨b, o, none⟩ := fun o => by rw [← hw3, World.frozen?_setCell]
      have hcntf3 := (hfroz 24).trans hcntf2
      have hmade3 := (hother 25 (by omega)).trans hmade2
      have HRing3 : Hid (Ring w3 b (laid m ((n + t) % 64) (f (n + t)))) := fun j hj => ⟨(hother j (by omega)).trans (HR2.out j hj).1, (hfroz j).trans (HR2.out j hj).2⟩
      have HSt3 : Hid (∀ j, j < 8 → w3.cell? ⟨b, 16 + j, none⟩ = some (wv ((stN f ((n + t) / 64)).word j)) ∧ w3.frozen? ⟨b, 16 + j, none⟩ = false) := fun j hj =>
        ⟨(hother _ (by omega)).trans ((HC2.out.cell _ (by omega)).trans (HSt.out j hj).1), (hfroz _).trans ((HC2.out.froz _).trans (HSt.out j hj).2)⟩
      have HC3 : Hid (Ch (fun k => k = b) w w3) := by
        rw [← hw3]
        exact Ch.setCell (S := fun k => k = b) (HC.out.trans (HC2.out.ch.mono (fun _ _ h => h.resolve_right id))) (p := ⟨b, 24, none⟩) (fun _ => rfl) _
      have HPart3 : Hid (Part f ((n + t) / 64 * 64) ((n + t) % 64 + 1) (laid m ((n + t) % 64) (f (n + t)))) := by
        have := HPart.out.step (by omega)
        rwa [show (n + t) / 64 * 64 + (n + t) % 64 = n + t by omega] at this
      have hb25 : b < w.heap.size := Nat.lt_of_lt_of_le (cell_lt HR.out.cnt) (Nat.le_refl _)
      clear hw3 hother hfroz hcnt2 hcntf2 hmade2 hg
      by_cases h64 : (n + t + 1) % 64 = 0
      · have hz : (((n : Int) + (t : Int) + 1) % 64 == 0) = true := by rw [beq_iff_eq]; omega
        have hl := Go.Lib.hid (fill_any b (n + t + 1) w3 (by omega) hcnt3)
        have HK3 : KAt w3 := fun k hk => HC3.out.get (HK.out k hk) (fun h => hb0 h.symm)
        obtain ⟨X, hX⟩ : ∃ X, X = (stN f ((n + t) / 64)).plus (turns kt (laid m ((n + t) % 64) (f (n + t))) (stN f ((n + t) / 64)) 64) := ⟨_, rfl⟩
        have HI : Hid (Calls Tryd.prog 61 #[.pointer (some ⟨b, 0, none⟩), (stN f ((n + t) / 64)).val] w3.drew fun e w' => e = .returned (.agg #[wv X.a, wv X.b, wv X.c, wv X.d, wv X.e, wv X.f, wv X.g, wv X.h]) ∧ Rch (fun _ => False) b w3.drew w' ∧ ∃ m', Ring w' b m') := by
          rw [hX]; exact into_any b (stN f ((n + t) / 64)) (laid m ((n + t) % 64) (f (n + t))) kt w3.drew (fun j hj => HRing3.out j hj) (fun k hk => HK3 k hk) hb0
        have HX := Go.Lib.hid hX
        clear hX
        clear HK3
        have s0 : w3.cell? ⟨b, 16, none⟩ = some (wv (stN f ((n + t) / 64)).a) := (HSt3.out 0 (by omega)).1
        have f0 : w3.frozen? ⟨b, 16, none⟩ = false := (HSt3.out 0 (by omega)).2
        have s1 : w3.cell? ⟨b, 17, none⟩ = some (wv (stN f ((n + t) / 64)).b) := (HSt3.out 1 (by omega)).1
        have f1 : w3.frozen? ⟨b, 17, none⟩ = false := (HSt3.out 1 (by omega)).2
        have s2 : w3.cell? ⟨b, 18, none⟩ = some (wv (stN f ((n + t) / 64)).c) := (HSt3.out 2 (by omega)).1
        have f2 : w3.frozen? ⟨b, 18, none⟩ = false := (HSt3.out 2 (by omega)).2
        have s3 : w3.cell? ⟨b, 19, none⟩ = some (wv (stN f ((n + t) / 64)).d) := (HSt3.out 3 (by omega)).1
        have f3 : w3.frozen? ⟨b, 19, none⟩ = false := (HSt3.out 3 (by omega)).2
        have s4 : w3.cell? ⟨b, 20, none⟩ = some (wv (stN f ((n + t) / 64)).e) := (HSt3.out 4 (by omega)).1
        have f4 : w3.frozen? ⟨b, 20, none⟩ = false := (HSt3.out 4 (by omega)).2
        have s5 : w3.cell? ⟨b, 21, none⟩ = some (wv (stN f ((n + t) / 64)).f) := (HSt3.out 5 (by omega)).1
        have f5 : w3.frozen? ⟨b, 21, none⟩ = false := (HSt3.out 5 (by omega)).2
        have s6 : w3.cell? ⟨b, 22, none⟩ = some (wv (stN f ((n + t) / 64)).g) := (HSt3.out 6 (by omega)).1
        have f6 : w3.frozen? ⟨b, 22, none⟩ = false := (HSt3.out 6 (by omega)).2
        have s7 : w3.cell? ⟨b, 23, none⟩ = some (wv (stN f ((n + t) / 64)).h) := (HSt3.out 7 (by omega)).1
        have f7 : w3.frozen? ⟨b, 23, none⟩ = false := (HSt3.out 7 (by omega)).2
        go_wp2_with (go_at_call 60; refine hl.out.mono ?_; rintro e w4 ⟨rfl, rfl⟩)
        go_region_with (go_at_call 61; refine HI.out.mono ?_; rintro e w5 ⟨rfl, h5, hm5⟩; have Hm5 := Go.Lib.hid hm5; have g0 := (h5.cell 16 (by omega)).trans s0; have z0 := (h5.froz 16).trans f0; have g1 := (h5.cell 17 (by omega)).trans s1; have z1 := (h5.froz 17).trans f1; have g2 := (h5.cell 18 (by omega)).trans s2; have z2 := (h5.froz 18).trans f2; have g3 := (h5.cell 19 (by omega)).trans s3; have z3 := (h5.froz 19).trans f3; have g4 := (h5.cell 20 (by omega)).trans s4; have z4 := (h5.froz 20).trans f4; have g5 := (h5.cell 21 (by omega)).trans s5; have z5 := (h5.froz 21).trans f5; have g6 := (h5.cell 22 (by omega)).trans s6; have z6 := (h5.froz 22).trans f6; have g7 := (h5.cell 23 (by omega)).trans s7; have z7 := (h5.froz 23).trans f7; have H5 := Go.Lib.hid h5; clear h5 hm5)
        have k0 : ((((((((w5.setCell ⟨b, 16, none⟩ (.int .u32 (un X.a))).setCell ⟨b, 17, none⟩ (.int .u32 (un X.b))).setCell ⟨b, 18, none⟩ (.int .u32 (un X.c))).setCell ⟨b, 19, none⟩ (.int .u32 (un X.d))).setCell ⟨b, 20, none⟩ (.int .u32 (un X.e))).setCell ⟨b, 21, none⟩ (.int .u32 (un X.f))).setCell ⟨b, 22, none⟩ (.int .u32 (un X.g))).setCell ⟨b, 23, none⟩ (.int .u32 (un X.h))).cell? ⟨b, 16, none⟩ = some (wv X.a) := by go_simp
        have k1 : ((((((((w5.setCell ⟨b, 16, none⟩ (.int .u32 (un X.a))).setCell ⟨b, 17, none⟩ (.int .u32 (un X.b))).setCell ⟨b, 18, none⟩ (.int .u32 (un X.c))).setCell ⟨b, 19, none⟩ (.int .u32 (un X.d))).setCell ⟨b, 20, none⟩ (.int .u32 (un X.e))).setCell ⟨b, 21, none⟩ (.int .u32 (un X.f))).setCell ⟨b, 22, none⟩ (.int .u32 (un X.g))).setCell ⟨b, 23, none⟩ (.int .u32 (un X.h))).cell? ⟨b, 17, none⟩ = some (wv X.b) := by go_simp
        have k2 : ((((((((w5.setCell ⟨b, 16, none⟩ (.int .u32 (un X.a))).setCell ⟨b, 17, none⟩ (.int .u32 (un X.b))).setCell ⟨b, 18, none⟩ (.int .u32 (un X.c))).setCell ⟨b, 19, none⟩ (.int .u32 (un X.d))).setCell ⟨b, 20, none⟩ (.int .u32 (un X.e))).setCell ⟨b, 21, none⟩ (.int .u32 (un X.f))).setCell ⟨b, 22, none⟩ (.int .u32 (un X.g))).setCell ⟨b, 23, none⟩ (.int .u32 (un X.h))).cell? ⟨b, 18, none⟩ = some (wv X.c) := by go_simp
        have k3 : ((((((((w5.setCell ⟨b, 16, none⟩ (.int .u32 (un X.a))).setCell ⟨b, 17, none⟩ (.int .u32 (un X.b))).setCell ⟨b, 18, none⟩ (.int .u32 (un X.c))).setCell ⟨b, 19, none⟩ (.int .u32 (un X.d))).setCell ⟨b, 20, none⟩ (.int .u32 (un X.e))).setCell ⟨b, 21, none⟩ (.int .u32 (un X.f))).setCell ⟨b, 22, none⟩ (.int .u32 (un X.g))).setCell ⟨b, 23, none⟩ (.int .u32 (un X.h))).cell? ⟨b, 19, none⟩ = some (wv X.d) := by go_simp
        have k4 : ((((((((w5.setCell ⟨b, 16, none⟩ (.int .u32 (un X.a))).setCell ⟨b, 17, none⟩ (.int .u32 (un X.b))).setCell ⟨b, 18, none⟩ (.int .u32 (un X.c))).setCell ⟨b, 19, none⟩ (.int .u32 (un X.d))).setCell ⟨b, 20, none⟩ (.int .u32 (un X.e))).setCell ⟨b, 21, none⟩ (.int .u32 (un X.f))).setCell ⟨b, 22, none⟩ (.int .u32 (un X.g))).setCell ⟨b, 23, none⟩ (.int .u32 (un X.h))).cell? ⟨b, 20, none⟩ = some (wv X.e) := by go_simp
        have k5 : ((((((((w5.setCell ⟨b, 16, none⟩ (.int .u32 (un X.a))).setCell ⟨b, 17, none⟩ (.int .u32 (un X.b))).setCell ⟨b, 18, none⟩ (.int .u32 (un X.c))).setCell ⟨b, 19, none⟩ (.int .u32 (un X.d))).setCell ⟨b, 20, none⟩ (.int .u32 (un X.e))).setCell ⟨b, 21, none⟩ (.int .u32 (un X.f))).setCell ⟨b, 22, none⟩ (.int .u32 (un X.g))).setCell ⟨b, 23, none⟩ (.int .u32 (un X.h))).cell? ⟨b, 21, none⟩ = some (wv X.f) := by go_simp
        have k6 : ((((((((w5.setCell ⟨b, 16, none⟩ (.int .u32 (un X.a))).setCell ⟨b, 17, none⟩ (.int .u32 (un X.b))).setCell ⟨b, 18, none⟩ (.int .u32 (un X.c))).setCell ⟨b, 19, none⟩ (.int .u32 (un X.d))).setCell ⟨b, 20, none⟩ (.int .u32 (un X.e))).setCell ⟨b, 21, none⟩ (.int .u32 (un X.f))).setCell ⟨b, 22, none⟩ (.int .u32 (un X.g))).setCell ⟨b, 23, none⟩ (.int .u32 (un X.h))).cell? ⟨b, 22, none⟩ = some (wv X.g) := by go_simp
        have k7 : ((((((((w5.setCell ⟨b, 16, none⟩ (.int .u32 (un X.a))).setCell ⟨b, 17, none⟩ (.int .u32 (un X.b))).setCell ⟨b, 18, none⟩ (.int .u32 (un X.c))).setCell ⟨b, 19, none⟩ (.int .u32 (un X.d))).setCell ⟨b, 20, none⟩ (.int .u32 (un X.e))).setCell ⟨b, 21, none⟩ (.int .u32 (un X.f))).setCell ⟨b, 22, none⟩ (.int .u32 (un X.g))).setCell ⟨b, 23, none⟩ (.int .u32 (un X.h))).cell? ⟨b, 23, none⟩ = some (wv X.h) := by go_simp
        obtain ⟨w6, hw6⟩ : ∃ w6, ((((((((w5.setCell ⟨b, 16, none⟩ (.int .u32 (un X.a))).setCell ⟨b, 17, none⟩ (.int .u32 (un X.b))).setCell ⟨b, 18, none⟩ (.int .u32 (un X.c))).setCell ⟨b, 19, none⟩ (.int .u32 (un X.d))).setCell ⟨b, 20, none⟩ (.int .u32 (un X.e))).setCell ⟨b, 21, none⟩ (.int .u32 (un X.f))).setCell ⟨b, 22, none⟩ (.int .u32 (un X.g))).setCell ⟨b, 23, none⟩ (.int .u32 (un X.h))) = w6 := ⟨_, rfl⟩
        have hC6 : Ch (fun k => k = b) w5 w6 := by rw [← hw6]; exact Ch.setCell (S := fun k => k = b) (Ch.setCell (S := fun k => k = b) (Ch.setCell (S := fun k => k = b) (Ch.setCell (S := fun k => k = b) (Ch.setCell (S := fun k => k = b) (Ch.setCell (S := fun k => k = b) (Ch.setCell (S := fun k => k = b) (Ch.setCell (S := fun k => k = b) (Ch.refl _ w5) (p := ⟨b, 16, none⟩) (fun _ => rfl) _) (p := ⟨b, 17, none⟩) (fun _ => rfl) _) (p := ⟨b, 18, none⟩) (fun _ => rfl) _) (p := ⟨b, 19, none⟩) (fun _ => rfl) _) (p := ⟨b, 20, none⟩) (fun _ => rfl) _) (p := ⟨b, 21, none⟩) (fun _ => rfl) _) (p := ⟨b, 22, none⟩) (fun _ => rfl) _) (p := ⟨b, 23, none⟩) (fun _ => rfl) _
        have hoth : ∀ o, (o < 16 ∨ 24 ≤ o) → w6.cell? ⟨b, o, none⟩ = w5.cell? ⟨b, o, none⟩ := fun o ho => by rw [← hw6, World.cell?_setCell_other _ _ _ _ (fun h => by cases h; omega), World.cell?_setCell_other _ _ _ _ (fun h => by cases h; omega), World.cell?_setCell_other _ _ _ _ (fun h => by cases h; omega), World.cell?_setCell_other _ _ _ _ (fun h => by cases h; omega), World.cell?_setCell_other _ _ _ _ (fun h => by cases h; omega), World.cell?_setCell_other _ _ _ _ (fun h => by cases h; omega), World.cell?_setCell_other _ _ _ _ (fun h => by cases h; omega), World.cell?_setCell_other _ _ _ _ (fun h => by cases h; omega)]
        have hfr : ∀ o, w6.frozen? ⟨b, o, none⟩ = w5.frozen? ⟨b, o, none⟩ := fun o => by rw [← hw6, World.frozen?_setCell, World.frozen?_setCell, World.frozen?_setCell, World.frozen?_setCell, World.frozen?_setCell, World.frozen?_setCell, World.frozen?_setCell, World.frozen?_setCell]
        rw [hw6] at k0 k1 k2 k3 k4 k5 k6 k7 ⊢
        have K6 : Hid (∀ j, j < 8 → w6.cell? ⟨b, 16 + j, none⟩ = some (wv (X.word j))) := fun j hj => by
          match j, hj with | 0, _ => exact k0 | 1, _ => exact k1 | 2, _ => exact k2 | 3, _ => exact k3 | 4, _ => exact k4 | 5, _ => exact k5 | 6, _ => exact k6 | 7, _ => exact k7
        have HF6 : Hid (∀ j, j < 8 → w6.frozen? ⟨b, 16 + j, none⟩ = false) := fun j hj => (hfr _).trans ((H5.out.froz _).trans (HSt3.out j hj).2)
        have HC6 : Hid (Ch (fun k => k = b) w w6) := (HC3.out.drew.trans (H5.out.ch.mono (fun _ _ h => h.resolve_right id))).trans hC6
        have c24 : w6.cell? ⟨b, 24, none⟩ = some (.int .i64 ((n + t + 1 : Nat) : Int)) := (hoth 24 (.inr (by omega))).trans ((H5.out.cell 24 (by omega)).trans hcnt3)
        have f24 : w6.frozen? ⟨b, 24, none⟩ = false := (hfr 24).trans ((H5.out.froz 24).trans hcntf3)
        have c25 : w6.cell? ⟨b, 25, none⟩ = some (.bool true) := (hoth 25 (.inr (by omega))).trans ((H5.out.cell 25 (by omega)).trans hmade3)
        obtain ⟨m', hm'⟩ := Hm5.out
        have HM6 : Hid (Ring w6 b m') := fun j hj => ⟨(hoth j (.inl hj)).trans (hm' j hj).1, (hfr j).trans (hm' j hj).2⟩
        have HX6 : Hid (X = stN f ((n + t) / 64 + 1)) := by
          rw [HX.out]
          show _ = press1 (stN f ((n + t) / 64)) (wordOf f (64 * ((n + t) / 64)))
          have hpart := HPart3.out
          rw [show (n + t) % 64 + 1 = 64 by omega, show (n + t) / 64 * 64 = 64 * ((n + t) / 64) by omega] at hpart
          unfold press1
          rw [turns_congr (fun k hk => hpart.full k hk)]
        clear hm' hC6 hoth hfr hw6 k0 k1 k2 k3 k4 k5 k6 k7 s0 s1 s2 s3 s4 s5 s6 s7 f0 f1 f2 f3 f4 f5 f6 f7 g0 g1 g2 g3 g4 g5 g6 g7 z0 z1 z2 z3 z4 z5 z6 z7 hcnt3 hcntf3 hmade3
        go_wp2
        go_roundw
        case rel =>
          refine ⟨t + 1, by omega, by go_num, HC6.out, ⟨⟨m', HM6.out, ?_⟩, ?_, c24, f24, c25⟩⟩
          · rw [show (n + (t + 1)) % 64 = 0 by omega]; exact Part.zero _ _ _
          · rw [show (n + (t + 1)) / 64 = (n + t) / 64 + 1 by omega, ← HX6.out]; exact fun j hj => ⟨K6.out j hj, HF6.out j hj⟩
        case measure => simp [intOf]; omega
      · have hz : (((n : Int) + (t : Int) + 1) % 64 == 0) = false := by rw [beq_eq_false_iff_ne]; omega
        have hl := Go.Lib.hid (fill_any b (n + t + 1) w3 (by omega) hcnt3)
        go_wp2_with (go_at_call 60; refine hl.out.mono ?_; rintro e w4 ⟨rfl, rfl⟩)
        go_roundw
        case rel =>
          refine ⟨t + 1, by omega, by go_num, HC3.out, ⟨⟨_, HRing3.out, ?_⟩, ?_, hcnt3, hcntf3, hmade3⟩⟩
          · rw [show (n + (t + 1)) / 64 = (n + t) / 64 by omega, show (n + (t + 1)) % 64 = (n + t) % 64 + 1 by omega]; exact HPart3.out
          · rw [show (n + (t + 1)) / 64 = (n + t) / 64 by omega]; exact HSt3.out
        case measure => simp [intOf]; omega
    · obtain rfl : t = len := by omega
      have HRR := Go.Lib.hid hR; clear hR
      go_wp2
      go_end0
      exact ⟨rfl, HC.out, HRR.out⟩
end Go.Proofs.YtikdpiedjkailaaDoor
