/- hmac.Child. -/
import Derived.Test.YtikdpiedjkailaaDoorH14
namespace Go.Proofs.YtikdpiedjkailaaDoor
open Go Go.RowKit

def nameS (s : ByteArray) (N : Nat) : ByteArray := bS (catB (s.size + 1) (catB s.size (byteAt s) fun _ => 0) (numB N)) (s.size + 9)
theorem bS_of (x : ByteArray) (f : Nat → UInt8) (n : Nat) (hs : x.size = n) (h : ∀ j, j < n → byteAt x j = f j) : x = bS f n := by
  have e : x.data = (bS f n).data := by
    apply Array.ext
    · have : (bS f n).data.size = n := bS_size f n
      rw [this]; exact hs
    · intro i h1 h2
      have hi : i < n := by have : x.data.size = n := hs; omega
      have h3 := h i hi
      have h4 := bS_at f n i hi
      unfold byteAt at h3 h4
      rw [Array.getD_eq_getD_getElem?, Array.getElem?_eq_getElem h1] at h3
      rw [Array.getD_eq_getD_getElem?, Array.getElem?_eq_getElem h2] at h4
      simp at h3 h4
      rw [h3, h4]
  cases x; cases hb : bS f n; rw [hb] at e; simpa using e
theorem name_is (s : ByteArray) (N : Nat) (w : World) (hs : s.size ≤ 1000000000) :
    Calls Tryd.prog 32 #[.agg #[.string s, .int .u64 (u64n N)]] w fun e w' => e = .returned (.string (nameS s N)) ∧ Ch (fun _ => False) w w' :=
  (name_any s N w hs).mono fun _ _ ⟨x, h1, h2, h3, h4⟩ => ⟨by rw [h1, bS_of x _ _ h2 h3]; rfl, h4⟩
theorem nameS_size (s : ByteArray) (N : Nat) : (nameS s N).size = s.size + 9 := bS_size _ _

/-- The steps of a slice. -/
def StepsAt (w : World) (a off N : Nat) (nm : Nat → ByteArray) (nu : Nat → Nat) : Prop :=
  ∀ i, i < N → w.cell? ⟨a, off + i * 2, none⟩ = some (.string (nm i)) ∧ w.cell? ⟨a, off + i * 2 + 1, none⟩ = some (.int .u64 (u64n (nu i)))
def keyL (n i : Nat) : Nat := if i = 0 then n else 32
/-- The key behind so many steps. -/
def keyF (key : Nat → UInt8) (n : Nat) (nm : Nat → ByteArray) (nu : Nat → Nat) : Nat → Nat → UInt8
  | 0 => key
  | i + 1 => expB (kb (keyF key n nm nu i) (keyL n i)) (nameS (nm i) (nu i))
def childB (key : Nat → UInt8) (n N : Nat) (nm : Nat → ByteArray) (nu : Nat → Nat) : Nat → UInt8 := if N = 0 then hashB key n else keyF key n nm nu N

theorem array_at28 (g o c : Nat) (w : World) : (Instr.arrayAt 28 (.slice (some ⟨g, o, none⟩) 32 c)).run Tryd.prog w = .ok (.pointer (some ⟨g, o, none⟩)) w := by
  simp [Instr.arrayAt, run_underlying Tryd.underlying28]

set_option maxRecDepth 100000 in
set_option maxHeartbeats 4000000 in
theorem child_some (p : Option Addr) (n c : Nat) (key : Nat → UInt8) (a off N cap : Nat) (nm : Nat → ByteArray) (nu : Nat → Nat) (w : World) (hn : n ≤ 1000000000) (hkey : BytesAt w p n c key) (hN0 : 0 < N) (hN : N ≤ 1000000)
    (hst : StepsAt w a off N nm nu) (hnm : ∀ i, i < N → (nm i).size ≤ 100000000) (hK : KAt w) :
    Calls Tryd.prog 18 #[.slice p n c, .slice (some ⟨a, off, none⟩) N cap] w fun e w' => e = .returned (.agg (hv (childB key n N nm nu))) ∧ Ch (fun _ => False) w w' := by
  have HK := Go.Lib.hid hK; have HKEY := Go.Lib.hid hkey; have HST := Go.Lib.hid hst; have HNM := Go.Lib.hid hnm
  have hz : ((N : Int) == 0) = false := by rw [beq_eq_false_iff_ne]; omega
  have hw0 : 0 < w.heap.size := cell_lt (hK 0 (by omega))
  have hCB : childB key n N nm nu = keyF key n nm nu N := by unfold childB; rw [if_neg (by omega)]
  rw [hCB]
  clear hK hkey hst hnm hCB
  go_enter Tryd.func18, Tryd.ntmps18
  go_wp2_with fail
  generalize hW2 : World.alloc (World.alloc w _) _ = W2
  have hc2 : Ch (fun _ => False) w W2 := by rw [← hW2]; exact ((Ch.refl _ w).alloc _).alloc _
  have hR2 : W2.heap[w.heap.size]? = some (.cells (hv fun _ => 0) 28) := by rw [← hW2]; exact ((Ch.refl (fun _ => False) _).alloc _).heap (World.alloc_heap_new w _) id
  have hC2 : W2.heap[w.heap.size + 1]? = some (.cells (hv fun _ => 0) 28) := by rw [← hW2, ← World.size_alloc w (.cells (hv fun _ => 0) 28)]; exact World.alloc_heap_new (w.alloc _) _
  have HC2 := Go.Lib.hid hc2; have HR2 := Go.Lib.hid hR2; have HX2 := Go.Lib.hid hC2
  clear hW2 hc2 hR2 hC2
  go_loopw [0, 18] (fun kv0 ix wr => ∃ i : Nat, i ≤ N ∧ ix = .int .i64 i ∧ ∃ kv : Value, kv = kv0 ∧ (∃ G : Nat → UInt8, wr.heap[w.heap.size + 1]? = some (.cells (hv G) 28) ∧ ((i = 0 ∧ kv = Value.slice p n c) ∨ (0 < i ∧ kv = Value.slice (some ⟨w.heap.size + 1, 0, none⟩) 32 32 ∧ G = keyF key n nm nu i))) ∧ wr.heap[w.heap.size]? = some (.cells (hv fun _ => 0) 28) ∧ Ch (fun _ => False) w wr) (fun _ ix _ => N - (intOf ix).toNat)
  case atStart => exact ⟨0, by omega, rfl, _, rfl, ⟨_, HX2.out, .inl ⟨rfl, rfl⟩⟩, HR2.out, HC2.out⟩
  case round =>
    obtain ⟨i, hi, rfl, kv, rfl, ⟨G, hG, hkv⟩, hRr, hCr⟩ := hrel
    have hkb : ∃ q cq, kv = .slice q (keyL n i) cq ∧ BytesAt wr q (keyL n i) cq (keyF key n nm nu i) := by
      rcases hkv with ⟨rfl, rfl⟩ | ⟨h0, rfl, rfl⟩
      · exact ⟨p, c, rfl, HKEY.out.ch hCr (fun _ _ h => h)⟩
      · have e : keyL n i = 32 := by unfold keyL; rw [if_neg (by omega)]
        rw [e]
        exact ⟨_, 32, rfl, .inl ⟨_, 0, rfl, Nat.le_refl _, fun j hj => by rw [Nat.zero_add]; exact (cell_of_heap hG _).trans (arr_get 32 _ j hj)⟩⟩
    have HCr := Go.Lib.hid hCr; have HRr := Go.Lib.hid hRr; have HG := Go.Lib.hid hG
    by_cases hiN : i < N
    · obtain ⟨q, cq, rfl, hq⟩ := hkb
      have HQ := Go.Lib.hid hq
      obtain ⟨hs0, hs1⟩ := HST.out i hiN
      have hcs0 := hCr.get hs0 id
      have hcs1 := hCr.get hs1 id
      have HNi := Go.Lib.hid (HNM.out i hiN)
      have HKF := Go.Lib.hid (show keyF key n nm nu (i + 1) = expB (kb (keyF key n nm nu i) (keyL n i)) (nameS (nm i) (nu i)) from rfl)
      have hkl : keyL n i ≤ 1000000000 := by unfold keyL; split <;> omega
      clear hq hs0 hs1 hCr hRr hG hkv
      generalize keyF key n nm nu i = K0 at *
      generalize hK1 : keyF key n nm nu (i + 1) = K1 at *
      have HK1 := Go.Lib.hid hK1
      clear hK1
      generalize keyL n i = L at *
      have HNA := Go.Lib.hid (fun W => name_is (nm i) (nu i) W (by have := HNi.out; omega))
      have hnz : (nameS (nm i) (nu i)).size ≤ 1000000000 := by rw [nameS_size]; have := HNi.out; omega
      generalize nameS (nm i) (nu i) = ns at *
      generalize nm i = sx at *
      generalize u64n (nu i) = nx at *
      have HEX := Go.Lib.hid (fun W (hc : Ch (fun _ => False) wr W) => expand_any q L cq K0 ns 32 W (by omega) (HQ.out.ch hc (fun _ _ h => h)) hkl hnz (HK.out.ch (HCr.out.trans hc) id))
      rw [show (((32 : Nat)) : Int) = 32 from rfl, ← HKF.out] at HEX
      go_wp2_with fail
      refine (HNA.out _).mono ?_
      rintro e w3 ⟨rfl, hc3⟩
      have HC3 := Go.Lib.hid (((Ch.refl _ wr).alloc _).trans hc3)
      clear hc3
      go_wp2_with fail
      refine (HEX.out _ HC3.out).mono ?_
      rintro e w4 ⟨q2, c2, rfl, hb2, hc4⟩
      obtain ⟨x, y, rfl, _, hb⟩ := hb2.resolve_right (by rintro ⟨_, h, _⟩; exact absurd h (by decide))
      have HC4 := Go.Lib.hid (HC3.out.trans hc4)
      have hcv := fun W => array_at28 x y c2 W
      have HLX : Hid ((loadVar 28 ⟨x, y, none⟩).run Tryd.prog w4 = .ok (.agg (hv K1)) w4) := Go.Lib.hid (run_loadVar_part _ _ 28 _ _ (fun j v hv' => by
        have hj : j < 32 := by
          have := (List.getElem?_eq_some_iff.1 hv').1
          rw [Array.length_toList, show (hv K1).size = 32 from arr_size _ _] at this; exact this
        have e : (hv K1)[j]? = some v := by simpa using hv'
        rw [show (hv K1)[j]? = some (.int .u8 ((K1 j).toNat : Int)) from arr_get 32 _ j hj] at e
        rw [← Option.some.inj e, show (⟨x, y, none⟩ : Addr).add j = ⟨x, y + j, none⟩ by simp [Addr.add]]
        exact hb j hj) Tryd.underlying28 rfl (hv_info K1))
      have HG4 := Go.Lib.hid (HC4.out.heap HG.out id); have HR4 := Go.Lib.hid (HC4.out.heap HRr.out id); have HCC := Go.Lib.hid (HCr.out.trans HC4.out)
      have HHI := Go.Lib.hid (hv_info K1); have HHA := Go.Lib.hid (hv_all K1)
      have HHZ := Go.Lib.hid (show (hv G).size = (hv K1).size by rw [show (hv G).size = 32 from arr_size _ _]; exact (arr_size _ _).symm)
      generalize hRV : hv K1 = RV at *
      have HRV := Go.Lib.hid hRV
      clear hb2 hb hc4 hRV
      go_wp2_with (first | (refine wpList_load_at rfl 28 (.tmp 30) rfl ⟨x, y, none⟩ rfl (.agg RV) HLX.out ?_) | (refine wpList_store_row rfl 28 (.tmp 5) (.tmp 31) rfl (w.heap.size + 1) RV rfl rfl 28 (hv G) HG4.out HHI.out HHZ.out HHA.out ?_))
      have hcs : Ch (fun k => k = w.heap.size + 1) w4 (w4.setRow (w.heap.size + 1) RV) := Ch.setRow (S := fun k => k = w.heap.size + 1) (Ch.refl _ w4) (fun _ => rfl) _
      have HG5 := Go.Lib.hid (heap_setRow (cells := RV) HG4.out)
      have HR5 := Go.Lib.hid (hcs.heap HR4.out (by omega))
      have HC5 := Go.Lib.hid (HCC.out.then hcs (fun i hi h => by omega))
      clear hcs
      go_roundw
      case rel => exact ⟨i + 1, by omega, by go_num, _, rfl, ⟨K1, by rw [HRV.out]; exact HG5.out, .inr ⟨by omega, rfl, HK1.out.symm⟩⟩, HR5.out, HC5.out⟩
      case measure => simp [intOf]; omega
    · obtain rfl : i = N := by omega
      obtain ⟨rfl, rfl⟩ : kv = Value.slice (some ⟨w.heap.size + 1, 0, none⟩) 32 32 ∧ G = keyF key n nm nu i := by
        rcases hkv with ⟨h0, _⟩ | ⟨_, h1, h2⟩
        · omega
        · exact ⟨h1, h2⟩
      have HLX := Go.Lib.hid (hash_load hG)
      have HHI := Go.Lib.hid (hv_info (keyF key n nm nu i)); have HHA := Go.Lib.hid (hv_all (keyF key n nm nu i))
      have HHZ := Go.Lib.hid (show (hv fun _ => 0).size = (hv (keyF key n nm nu i)).size by rw [show (hv fun _ => 0).size = 32 from arr_size _ _]; exact (arr_size _ _).symm)
      clear hkb hCr hRr hG hkv
      generalize hRV : hv (keyF key n nm nu i) = RV at *
      have HRV := Go.Lib.hid hRV
      clear hRV
      go_wp2_with (first | (refine wpList_load_at rfl 28 (.tmp 5) rfl ⟨w.heap.size + 1, 0, none⟩ rfl (.agg RV) HLX.out ?_) | (refine wpList_store_row rfl 28 (.tmp 4) (.tmp 34) rfl w.heap.size RV rfl rfl 28 (hv fun _ => 0) HRr.out HHI.out HHZ.out HHA.out ?_))
      refine bodyPost_ret (results_cell_row (h := Tryd.results18) _ _ w.heap.size 28 _ (0, 0) _ rfl (heap_setRow HRr.out) Tryd.underlying28 rfl HHI.out) rfl ⟨by rw [HRV.out], ?_⟩
      exact HCr.out.setRow (fun h => absurd h (Nat.lt_irrefl _)) _

set_option maxRecDepth 100000 in
set_option maxHeartbeats 1000000 in
theorem child_none (p : Option Addr) (n c cap : Nat) (key : Nat → UInt8) (q : Option Addr) (w : World) (hn : n ≤ 1000000000) (hkey : BytesAt w p n c key) (hK : KAt w) :
    Calls Tryd.prog 18 #[.slice p n c, .slice q 0 cap] w fun e w' => e = .returned (.agg (hv (hashB key n))) ∧ Ch (fun _ => False) w w' := by
  have hal : Ch (fun _ => False) w (w.alloc (.cells (hv fun _ => 0) 28)) := (Ch.refl _ w).alloc _
  have hsz : (w.alloc (.cells (hv fun _ => 0) 28)).heap.size = w.heap.size + 1 := World.size_alloc _ _
  have HS := sum_any (w.alloc (.cells (hv fun _ => 0) 28)).heap.size 0 1 1 (some ⟨(w.alloc (.cells (hv fun _ => 0) 28)).heap.size, 0, none⟩) (fun _ => p) (fun _ => n) (fun _ => c) key ((w.alloc (.cells (hv fun _ => 0) 28)).alloc (.cells #[.slice p n c] 22)) (.inl rfl) (by omega) (by simp [upto]; omega)
      (parts_of (fun i hi => by
        obtain rfl : i = 0 := by omega
        exact cell_fresh _ _ 22 0) (fun i hi => by
        obtain rfl : i = 0 := by omega
        have := (hkey.ch hal (fun _ _ h => h)).ch ((Ch.refl (fun _ => False) _).alloc (.cells #[.slice p n c] 22)) (fun _ _ h => h)
        simpa [upto] using this)) (hK.ch (hal.alloc _) id)
  rw [show upto (fun _ => n) 1 = n from Nat.zero_add _, hsz] at HS
  have HS := Go.Lib.hid HS; have HAL := Go.Lib.hid hal; have HH := Go.Lib.hid (World.alloc_heap_new w (.cells (hv fun _ => 0) 28))
  have HHI := Go.Lib.hid (hv_info (hashB key n)); have HHA := Go.Lib.hid (hv_all (hashB key n))
  have HHZ := Go.Lib.hid (show (hv fun _ => 0).size = (hv (hashB key n)).size by rw [show (hv fun _ => 0).size = 32 from arr_size _ _]; exact (arr_size _ _).symm)
  generalize hv (hashB key n) = RV at *
  clear hkey hK hal hsz
  go_enter Tryd.func18, Tryd.ntmps18
  go_wp2_with fail
  refine HS.out.mono ?_
  rintro e w2 ⟨rfl, hc2⟩
  have HH2 := Go.Lib.hid (hc2.heap (((Ch.refl (fun _ => False) _).alloc _).heap HH.out id) id)
  have HC2 := Go.Lib.hid ((HAL.out.alloc _).trans hc2)
  clear hc2 HS
  go_wp2_with (refine wpList_store_row rfl 28 (.tmp 4) (.tmp 15) rfl w.heap.size RV rfl rfl 28 (hv fun _ => 0) HH2.out HHI.out HHZ.out HHA.out ?_)
  refine bodyPost_ret (results_cell_row (h := Tryd.results18) _ _ w.heap.size 28 _ (0, 0) _ rfl (heap_setRow HH2.out) Tryd.underlying28 rfl HHI.out) rfl ⟨rfl, ?_⟩
  exact HC2.out.setRow (fun h => absurd h (Nat.lt_irrefl _)) _
end Go.Proofs.YtikdpiedjkailaaDoor
