/- The reference's Sum. -/
import Derived.Test.YtikdpiedjkailaaDoorR5
namespace Go.Proofs.YtikdpiedjkailaaDoor
open Go.RowKit

theorem run_loadVar_part {P : Program} (w : World) (ad : Addr) (ty : TypeId) (cs : Array Value) (d : TypeDesc) (hg : ∀ j v, cs.toList[j]? = some v → w.cell? (ad.add j) = some v)
    (hu : P.underlying ty = some d) (hd : (match d with | .struct _ | .array _ _ => true | _ => false) = true) (hi : (P.info? ty).map (·.size) = some cs.size) :
    (loadVar ty ad).run P w = .ok (.agg cs) w := by
  have hl : (loadCells ad cs.toList.length).run P w = .ok cs.toList.toArray w := run_loadCells_list (P := P) w ad cs.toList hg
  cases hq : P.info? ty with
  | none => simp [hq] at hi
  | some i =>
    have hs : i.size = cs.size := by simpa [hq] using hi
    have hagg : (isAgg ty).run P w = .ok true w := by
      unfold isAgg
      rw [Sem.run_bind, run_underlying hu w]
      cases d <;> simp_all
    simp only [Array.length_toList, Array.toArray_toList] at hl
    simp [loadVar, Sem.run_bind, hagg, sizeOf, typeInfo, hq, hs, hl]
theorem wpQuiet_load {P : Program} {ops : Array Oper} {C : World → Prop} {Q : Act → Prop} {a : Act} {o : Oper} {rest : List Oper} (hgd : o.guard = none) (ty : TypeId) (x : Operand) (ho : o.op = .load ty x) (ad : Addr) (hx : a.eval x = .pointer (some ad)) (v : Value)
    (hl : ∀ w, C w → (loadVar ty ad).run P w = .ok v w) (h : wpQuiet P ops C Q rest (a.put o.dst v)) : wpQuiet P ops C Q (o :: rest) a := by
  unfold wpQuiet
  have hw : Region.wanted o (yielded ops a.tmps) = true := by simp [Region.wanted, hgd]
  rw [if_pos hw]
  refine ⟨v, fun w hC => ?_, h⟩
  simp only [Oper.quietAt, execOp, ho, hx, Instr.loadAt, Instr.sureAddr, Sem.run_bind, Sem.run_pure, Result.andThen_ok, hl w hC]
  exact ⟨rfl, rfl⟩

theorem fL_cur {cur : Array Value} {N : Nat} {F : Nat → UInt8} (h : cur.toList.take (N * 1) = fL F N) (j : Nat) (hj : j < N) : cur[j]? = some (.int .u8 ((F j).toNat : Int)) := by
  have e : (cur.toList.take (N * 1))[j]? = (fL F N)[j]? := by rw [h]
  rw [List.getElem?_take, if_pos (by omega)] at e
  have e2 : (fL F N)[j]? = some (.int .u8 ((F j).toNat : Int)) := by simp [fL, hj]
  rw [e2] at e
  simpa using e
theorem wordOf_at (F : Nat → UInt8) (i : Nat) : wordOf (fun j => F (64 * i + j)) 0 = wordOf F (64 * i) := by
  funext k
  unfold wordOf
  rw [beval_congr 4 (fun j _ => by show F (64 * i + (0 + 4 * k + j)) = F (64 * i + 4 * k + j); congr 1; omega)]
theorem hash_out (f : Nat → UInt8) (n : Nat) : outB (stN (padF f n) ((n + gap n + 8) / 64)) = hashB f n := rfl
theorem array_at (p : Option Addr) (cp : Nat) (w : World) : (Instr.arrayAt 65 (.slice p 64 cp)).run Tryd.prog w = .ok (.pointer p) w := by
  simp [Instr.arrayAt, run_underlying Tryd.underlying65]
theorem cells_size (T : St) : T.cells.size = 8 := by rw [cells_arr, arr_size]
theorem cells_info (T : St) : (Tryd.prog.info? 81).map (·.size) = some T.cells.size := by rw [cells_size]; exact info26
theorem cells_same (T S : St) : T.cells.size = S.cells.size := by rw [cells_size, cells_size]
def len4 : Value → Nat | .slice _ l _ => l | _ => 0

set_option maxRecDepth 100000 in
set_option maxHeartbeats 1000000 in
theorem rsum_any (p : Option Addr) (n c : Nat) (f : Nat → UInt8) (w : World) (hn : n ≤ 1000000000000) (hb : BytesAt w p n c f) :
    Calls Tryd.prog 25 #[.slice p n c] w fun e w' => e = .returned (.agg (hv (hashB f n))) ∧ Ch (fun _ => False) w w' := by
  have HF := Go.Lib.hid (fun W => rfirst_any W)
  have HP := Go.Lib.hid (fun (W : World) (h : Ch (fun _ => False) w W) => padded_any p n c f W hn (hb.ch h (fun _ _ => id)))
  have HQ := Go.Lib.hid (show n + gap n + 8 = 64 * ((n + gap n + 8) / 64) by have := gap_mod n; omega)
  rw [← hash_out]
  clear hb
  generalize padF f n = F at *
  generalize hq : (n + gap n + 8) / 64 = q at *
  clear hq
  have HT := Go.Lib.hid (fun W => told_any (stN F q) W)
  generalize hS0 : (#[wv st0.a, wv st0.b, wv st0.c, wv st0.d, wv st0.e, wv st0.f, wv st0.g, wv st0.h] : Array Value) = S0 at *
  have HS0 := Go.Lib.hid hS0
  have HS1 := Go.Lib.hid (show (Tryd.prog.info? 81).map (·.size) = some S0.size by rw [← hS0]; exact info26)
  have HS2 := Go.Lib.hid (show 8 = S0.size by rw [← hS0]; rfl)
  have HS3 := Go.Lib.hid (show S0.all (·.oneCell') = true by rw [← hS0]; exact st_cells_all st0)
  clear hS0
  go_enter Tryd.func25, Tryd.ntmps25
  go_wp2_with fail
  refine (HF.out _).mono ?_; rintro e w1 ⟨rfl, hw1⟩
  have hc1 : Ch (fun _ => False) w w1 := by rw [hw1]; exact ((Ch.refl _ w).alloc _).alloc _
  have hr1 : w1.heap[w.heap.size]? = some (.cells (arr 32 fun _ => .int .u8 0) 28) := by
    rw [hw1]; exact Ch.heap ((Ch.refl (fun _ => False) _).alloc _) (World.alloc_heap_new w _) id
  have HC1 := Go.Lib.hid hc1; have HR1 := Go.Lib.hid hr1
  clear hw1 hc1 hr1
  go_upto_region 2 with (refine wpList_store_row rfl 81 (.tmp 3) (.tmp 5) rfl w1.heap.size S0 rfl rfl 81 #[.int .u32 0, .int .u32 0, .int .u32 0, .int .u32 0, .int .u32 0, .int .u32 0, .int .u32 0, .int .u32 0] (World.alloc_heap_new w1 _) HS1.out HS2.out HS3.out ?_)
  generalize hW2 : (w1.alloc _).setRow w1.heap.size S0 = W2
  have hx2 : W2.heap[w1.heap.size]? = some (.cells S0 81) := by rw [← hW2]; exact heap_setRow (World.alloc_heap_new w1 _)
  have hc2 : Ch (fun _ => False) w1 W2 := by rw [← hW2]; exact ((Ch.refl _ _).alloc _).setRow (fun h => absurd h (Nat.lt_irrefl _)) _
  have HX2 := Go.Lib.hid hx2; have HR2 := Go.Lib.hid (hc2.heap HR1.out id); have HC2 := Go.Lib.hid (HC1.out.trans hc2)
  have hsx : w.heap.size < w1.heap.size := (Array.getElem?_eq_some_iff.1 HR1.out).1
  have HSX := Go.Lib.hid hsx
  have HS := Go.Lib.hid (show w1.heap.size < W2.heap.size from (Array.getElem?_eq_some_iff.1 hx2).1)
  clear hW2 hx2 hc2 hsx HR1 HC1
  generalize w1.heap.size = X at *
  go_wp2_with fail
  refine (HP.out _ HC2.out).mono ?_; rintro e w3 ⟨v, rfl, hown, hc3⟩
  rw [HQ.out] at hown
  have HX3 := Go.Lib.hid (hc3.heap HX2.out id); have HR3 := Go.Lib.hid (hc3.heap HR2.out id); have HC3 := Go.Lib.hid (HC2.out.trans hc3)
  have hq0 : 0 < q := by have := HQ.out; omega
  obtain ⟨hlen, h0 | ⟨g, cap, cur, rfl, hbg, hg, hnc, hcm, hcs, htake⟩⟩ := hown
  · exact absurd h0.2 (by omega)
  have HG := Go.Lib.hid hg
  have HCU := Go.Lib.hid (fun j (hj : j < 64 * q) => fL_cur htake j hj)
  have HGX := Go.Lib.hid (show g ≠ X by have := HS.out; omega)
  have HCAP := Go.Lib.hid hnc
  clear hlen hbg hg hcs htake hc3 HX2 HR2 HC2 HF HP hnc
  go_wp2_with fail
  go_loopw [4] (fun v wr => ∃ (i : Nat) (ad : Addr) (cp : Nat), i ≤ q ∧ v = .slice (some ad) (64 * (q - i)) cp ∧ (i < q → ad = ⟨g, 64 * i, none⟩ ∧ 64 * (q - i) ≤ cp) ∧ wr.heap[X]? = some (.cells (stN F i).cells 81) ∧ Ch (fun k => k = X) w3 wr) (fun v _ => len4 v)
  case atStart => exact ⟨0, _, cap, by omega, rfl, fun _ => ⟨rfl, HCAP.out⟩, by rw [← HS0.out] at HX3; exact HX3.out, Ch.refl _ _⟩
  case round =>
    obtain ⟨i, ad, cp, hi, rfl, had, hh, hC⟩ := hrel
    have HH := Go.Lib.hid hh; have HC := Go.Lib.hid hC
    clear hh hC
    by_cases hlt : i < q
    · obtain ⟨rfl, hcp⟩ := had hlt
      clear had
      have HPR := Go.Lib.hid (fun W => rpress_any (stN F i) (fun j => F (64 * i + j)) W)
      have HPE := Go.Lib.hid (show press1 (stN F i) (wordOf (fun j => F (64 * i + j)) 0) = stN F (i + 1) by rw [wordOf_at]; rfl)
      have HCB := Go.Lib.hid (fun j (hj : j < 64) (W : World) (h : Ch (fun k => k = X) w3 W) => (show W.cell? ⟨g, 64 * i + j, none⟩ = some (.int .u8 ((F (64 * i + j)).toNat : Int)) from (cell_of_heap (h.heap HG.out HGX.out) _).trans (HCU.out _ (by omega))))
      have hL : 64 ≤ 64 * (q - i) := by omega
      have HL1 := Go.Lib.hid (show 64 * (q - i) - 64 = 64 * (q - (i + 1)) by omega)
      have HO1 := Go.Lib.hid (show 64 * i + 64 = 64 * (i + 1) by omega)
      have HLQ := Go.Lib.hid (show 64 * (q - i) = 64 → i + 1 = q by omega)
      generalize hpp : press1 (stN F i) (wordOf (fun j => F (64 * i + j)) 0) = S' at *
      clear hpp
      generalize stN F i = T at *
      generalize hLL : 64 * (q - i) = L at *
      generalize 64 * i = o at *
      clear hLL
      have c0 : wr.cell? ⟨X, 0, none⟩ = some (wv T.a) := cell_of_heap HH.out 0
      have c1 : wr.cell? ⟨X, 1, none⟩ = some (wv T.b) := cell_of_heap HH.out 1
      have c2 : wr.cell? ⟨X, 2, none⟩ = some (wv T.c) := cell_of_heap HH.out 2
      have c3 : wr.cell? ⟨X, 3, none⟩ = some (wv T.d) := cell_of_heap HH.out 3
      have c4 : wr.cell? ⟨X, 4, none⟩ = some (wv T.e) := cell_of_heap HH.out 4
      have c5 : wr.cell? ⟨X, 5, none⟩ = some (wv T.f) := cell_of_heap HH.out 5
      have c6 : wr.cell? ⟨X, 6, none⟩ = some (wv T.g) := cell_of_heap HH.out 6
      have c7 : wr.cell? ⟨X, 7, none⟩ = some (wv T.h) := cell_of_heap HH.out 7
      have l0 : (0 : Int) < (L : Int) := by omega
      have l1 : (64 : Int) ≤ (L : Int) := by omega
      have l2 : (64 : Int) ≤ (cp : Int) := by omega
      have l3 : 64 ≤ cp := by omega
      go_upto_region 5 with (fail)
      refine wp_region_quiet_tail 5 (by kernel_rfl) (by kernel_rfl) ?_
      simp only [List.take_succ_cons, List.take_zero, List.drop_succ_cons, List.drop_zero]
      have hcv := fun (W : World) => array_at (some ⟨g, o, none⟩) cp W
      repeat (quiet_step (fail))
      clear hcv
      refine wpQuiet_load rfl 65 (.tmp 16) rfl ⟨g, o, none⟩ rfl (.agg (arr 64 fun j => .int .u8 ((F (o + j)).toNat : Int))) (fun W hW => ?_) ?_
      · obtain ⟨q0, rfl⟩ := hW
        refine run_loadVar_part _ _ 65 _ _ (fun j v hv => ?_) Tryd.underlying65 rfl (by rw [arr_size]; exact info22)
        have hj : j < 64 := by
          have := (List.getElem?_eq_some_iff.1 hv).1
          rw [Array.length_toList, arr_size] at this; exact this
        rw [Array.getElem?_toList, arr_get _ _ _ hj] at hv
        cases hv
        rw [show (⟨g, o, none⟩ : Addr).add j = ⟨g, o + j, none⟩ by simp [Addr.add]]
        exact HCB.out j hj _ (HC.out.drewN q0)
      refine wpQuiet_nil ?_
      intro _ hw'
      obtain ⟨q1, rfl⟩ := hw'
      have HC1 := Go.Lib.hid (HC.out.drewN q1)
      have HH1 := Go.Lib.hid (show (wr.drewN q1).heap[X]? = some (.cells T.cells 81) from HH.out)
      clear c0 c1 c2 c3 c4 c5 c6 c7 HH HC
      generalize wr.drewN q1 = wq at *
      go_wp2_with fail
      refine (HPR.out _).mono ?_; rintro e w4 ⟨rfl, hw4⟩
      have HC4 := Go.Lib.hid (HC1.out.then hw4 (fun _ _ h => h.elim)); have HH4 := Go.Lib.hid (hw4.heap HH1.out id)
      clear hw4 HC1 HH1 HPR
      have hsv : S'.val = .agg S'.cells := rfl
      rw [hsv]
      have HP1 := Go.Lib.hid (cells_info S')
      have HP2 := Go.Lib.hid (cells_same T S')
      have HP3 := Go.Lib.hid (st_cells_all S')
      have HP4 := Go.Lib.hid (show S'.cells = (stN F (i + 1)).cells by rw [HPE.out])
      clear hsv HPE
      generalize S'.cells = pc at *
      go_upto_region 4 with (refine wpList_store_row rfl 81 (.tmp 3) (.tmp 18) rfl X pc rfl rfl 81 T.cells HH4.out HP1.out HP2.out HP3.out ?_)
      have HH5 := Go.Lib.hid (show (w4.setRow X pc).heap[X]? = some (.cells (stN F (i + 1)).cells 81) by rw [← HP4.out]; exact heap_setRow HH4.out)
      have HC5 := Go.Lib.hid (HC4.out.setRow (fun _ => rfl) pc)
      clear HH4 HC4
      generalize w4.setRow X pc = w5 at *
      by_cases h64 : cp = 64
      · subst h64
        go_wp2_with fail
        go_roundw
        case rel => exact ⟨i + 1, _, 0, by omega, by rw [show 64 * (q - (i + 1)) = 0 by have := HL1.out; omega], fun h => absurd h (by have := HLQ.out; omega), HH5.out, HC5.out⟩
        case measure => simp [len4]; omega
      · go_wp2_with fail
        go_roundw
        case rel => exact ⟨i + 1, _, cp - 64, by omega, by rw [HL1.out], fun h => ⟨by rw [← HO1.out], by have := HL1.out; omega⟩, HH5.out, HC5.out⟩
        case measure => simp [len4]; omega
    · obtain rfl : i = q := by omega
      clear had hlt
      rw [Nat.sub_self, Nat.mul_zero]
      have HRR := Go.Lib.hid (HC.out.heap HR3.out (by have := HSX.out; omega))
      have HCC := Go.Lib.hid (HC3.out.then HC.out (fun i hi h => by have := HSX.out; omega))
      generalize hTT : stN F i = T at *
      have HTE := Go.Lib.hid hTT
      clear hTT
      have hx : wr.heap[X]? = some (.cells T.cells 81) := HH.out
      have HP1 := Go.Lib.hid (cells_info T)
      have hT : ∀ W, Calls Tryd.prog 38 #[.agg T.cells] W fun e w' => e = .returned (.agg (hv (outB T))) ∧ Ch (fun _ => False) W w' := fun W => HT.out W
      have HTT := Go.Lib.hid hT
      have HX := Go.Lib.hid hx
      clear hx hT HT HH HC
      generalize T.cells = pc at *
      go_wp2_with (refine wpList_load_row rfl 81 (.tmp 3) rfl X rfl 81 pc (0, 0) _ HX.out Tryd.underlying81 rfl HP1.out ?_)
      refine (HTT.out _).mono ?_; rintro e w4 ⟨rfl, hw4⟩
      have HR4 := Go.Lib.hid (hw4.heap HRR.out id); have HC4 := Go.Lib.hid (HCC.out.trans hw4)
      clear hw4
      have hvi := hv_info (outB T)
      have hvs : (arr 32 fun _ => (.int .u8 0 : Value)).size = (hv (outB T)).size := by rw [arr_size]; exact (arr_size _ _).symm
      have hva := hv_all (outB T)
      have HV1 := Go.Lib.hid hvi; have HV2 := Go.Lib.hid hvs; have HV3 := Go.Lib.hid hva
      clear hvi hvs hva
      generalize hRR : hv (outB T) = R at *
      have HRE := Go.Lib.hid hRR
      clear hRR
      go_wp2_with (refine wpList_store_row rfl 28 (.tmp 2) (.tmp 20) rfl w.heap.size R rfl rfl 28 _ HR4.out HV1.out HV2.out HV3.out ?_)
      refine bodyPost_ret (results_cell_row (h := Tryd.results25) _ _ w.heap.size 28 R (0, 0) _ rfl (heap_setRow HR4.out) Tryd.underlying28 rfl HV1.out) rfl ⟨?_, ?_⟩
      · rw [HTE.out, HRE.out]
      · exact HC4.out.setRow (fun h => absurd h (Nat.lt_irrefl _)) _
end Go.Proofs.YtikdpiedjkailaaDoor
