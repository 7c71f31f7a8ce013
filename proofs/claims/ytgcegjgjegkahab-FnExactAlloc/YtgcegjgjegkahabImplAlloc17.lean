/- impl.Alloc. Conditions: ints of 64 bits; at most 2^22 words and kids. -/
import Derived.Test.YtgcegjgjegkahabAllocP17
import Derived.Deep.Cut
namespace Go.Proofs.Ytgcegjgjegkahab
open Go.ChangeShapes Go.WideShapes Go.ChangeAt Go.RowKit

set_option maxRecDepth 100000 in
set_option maxHeartbeats 4000000 in
theorem impl_alloc (h : Hp) (f : Bool) (t : Int) (ks : List Int) (v u : Value) (w : World) (hv : Rd w v h.ws) (hu : Rd w u ks) (hbig : Small64 h.ws) (hl : h.ws.length ≤ 4194304) (hkl : ks.length ≤ 4194304) :
    Calls Try.prog 22 #[heapV v h, .bool f, .int .i64 t, u] w (AllocRet w h f t ks) := by
  have HHB : Hid (∀ wq, Below w.heap.size w wq → Calls Try.prog 56 #[heapV v h] wq (BlocksRet wq.heap.size wq h)) := fun wq hq => impl_heapblocks h v wq (hv.below hq) hbig
  have HCP : Hid (∀ wq, Below w.heap.size w wq → Calls Try.prog 66 #[heapV v h] wq (HeapRet wq.heap.size wq h)) := fun wq hq => impl_copyheap h v wq (hv.below hq) hl
  have HV := hid17 hv
  have HU := hid17 hu
  have HOK : Hid (∀ wq, Calls Try.prog 64 #[bhV f t (ks.length : Nat)] wq fun e w' => e = .returned (.bool (bhOk t (ks.length : Nat))) ∧ Below wq.heap.size wq w') := fun wq => impl_bhok f t (ks.length : Nat) wq
  have HSRT : Hid (∀ L, blocksB h = some L → (L ++ [h.next]).Pairwise (· < ·) ∧ L.length ≤ 6000) := fun L hL => next_sorted hL
  have HHF : Hid (∀ L, blocksB h = some L → (1 ≤ h.half ∧ h.half ≤ 3000) ∧ (h.ws.length : Int) = 2 * h.half ∧ (h.base = 0 ∨ h.base = h.half) ∧ h.base ≤ h.next ∧ h.next ≤ h.base + h.half) := fun L hL => by
    have hh : halvesB h = true := by
      cases h1 : halvesB h with
      | true => rfl
      | false => rw [blocks_nohalf h1] at hL; cases hL
    exact halves_iff.1 hh
  obtain ⟨POST, hPO⟩ : ∃ P, P = AllocRet w h f t ks := ⟨_, rfl⟩
  rw [← hPO]
  have HP := hid17 hPO
  clear hPO hbig
  have HNOT : Hid (∀ u' wq, Below w.heap.size w wq → Own wq w.heap.size u' h.ws → doneB h t ks = false → POST (.returned (.tuple #[heapV u' h, .int .i64 0, .bool false])) wq) := fun u' wq hq ho hd => by
    rw [HP.out]
    refine ⟨u', ?_, ?_, hq⟩
    · rw [allocHp, allocAt, hd]; rfl
    · rw [allocHp, hd]; exact ho
  have HYES : Hid (∀ u' wq, Below w.heap.size w wq → Own wq w.heap.size u' (putH h f t ks).ws → doneB h t ks = true → POST (.returned (.tuple #[heapV u' (putH h f t ks), .int .i64 h.next, .bool true])) wq) := fun u' wq hq ho hd => by
    rw [HP.out]
    refine ⟨u', ?_, ?_, hq⟩
    · rw [allocHp, allocAt, hd]; rfl
    · rw [allocHp, hd]; exact ho
  have HD0 : Hid (blocksB h = none → doneB h t ks = false) := fun hb => by rw [doneB, mayB, hb]; rfl
  have HD1 : Hid (∀ L, blocksB h = some L → mayB h t ks = (bhOk t (ks.length : Nat) && allB (L ++ [h.next]) ks)) := fun L hb => by rw [mayB, hb]
  have HD2 : Hid (doneB h t ks = (mayB h t ks && roomB h ks)) := rfl
  have HRM : Hid (roomB h ks = !decide (h.half - (h.next - h.base) < 1 + (ks.length : Nat))) := rfl
  have HPUT : Hid (putH h f t ks = ⟨putW h.ws h.next.toNat (hdW f t (ks.length : Nat)) ks, h.half, h.base, h.next + (1 + (ks.length : Nat))⟩) := rfl
  obtain ⟨ws, half, base, next⟩ := h
  obtain ⟨p, cap, rfl, -⟩ := id hv.shape
  obtain ⟨pu, cu, rfl, -⟩ := id hu.shape
  obtain ⟨A, hA⟩ : ∃ A, A = ((w.alloc (hpO (.slice p ws.length cap) ⟨ws, half, base, next⟩)).alloc (.cells #[.slice none 0 0, .int .i64 0, .int .i64 0, .int .i64 0] 27)).alloc (.cells #[.bool f, .int .i64 t, .int .i64 (ks.length : Nat)] 61) := ⟨_, rfl⟩
  have HA : Hid (Below w.heap.size w A ∧ A.heap.size = w.heap.size + 3 ∧ BoxAt A w.heap.size (.slice p ws.length cap) ⟨ws, half, base, next⟩ ∧ A.heap[w.heap.size + 1]? = some (.cells #[.slice none 0 0, .int .i64 0, .int .i64 0, .int .i64 0] 27 (0, 0)) ∧ A.heap[w.heap.size + 2]? = some (.cells #[.bool f, .int .i64 t, .int .i64 (ks.length : Nat)] 61 (0, 0))) := by
    show _ ∧ _ ∧ _ ∧ _ ∧ _
    rw [hA]
    refine ⟨(((Below.refl _ _).alloc (Nat.le_refl _) _).alloc (by simp) _).alloc (by simp; omega) _, by simp, ?_, ?_, ?_⟩
    · exact (Below.heap_alloc _ _ _ (by simp; omega)).trans ((Below.heap_alloc _ _ _ (by simp)).trans (heap_alloc_last _ _))
    · refine (Below.heap_alloc _ _ _ (by simp)).trans ?_
      have := heap_alloc_last (w.alloc (hpO (.slice p ws.length cap) ⟨ws, half, base, next⟩)) (.cells #[.slice none 0 0, .int .i64 0, .int .i64 0, .int .i64 0] 27)
      simpa using this
    · have := heap_alloc_last ((w.alloc (hpO (.slice p ws.length cap) ⟨ws, half, base, next⟩)).alloc (.cells #[.slice none 0 0, .int .i64 0, .int .i64 0, .int .i64 0] 27)) (.cells #[.bool f, .int .i64 t, .int .i64 (ks.length : Nat)] 61)
      simpa using this
  -- what stands of the call's own boxes in any later world
  have HCE : Hid (∀ wq, Below A.heap.size A wq → (wq.cell? ⟨w.heap.size, 0, none⟩ = some (.slice p ws.length cap) ∧ wq.cell? ⟨w.heap.size, 1, none⟩ = some (.int .i64 half) ∧ wq.cell? ⟨w.heap.size, 2, none⟩ = some (.int .i64 base) ∧ wq.cell? ⟨w.heap.size, 3, none⟩ = some (.int .i64 next)) ∧ (wq.cell? ⟨w.heap.size + 2, 0, none⟩ = some (.bool f) ∧ wq.cell? ⟨w.heap.size + 2, 1, none⟩ = some (.int .i64 t) ∧ wq.cell? ⟨w.heap.size + 2, 2, none⟩ = some (.int .i64 (ks.length : Nat))) ∧ wq.heap[w.heap.size + 1]? = some (.cells #[.slice none 0 0, .int .i64 0, .int .i64 0, .int .i64 0] 27 (0, 0))) := fun wq hq =>
    ⟨(HA.out.2.2.1.below hq HA.out.2.2.1.lt).cells, bh_cells ((hq.block _ (by have := HA.out.2.1; omega)).trans HA.out.2.2.2.2), (hq.block _ (by have := HA.out.2.1; omega)).trans HA.out.2.2.2.1⟩
  have HAW := hid17 (show w.heap.size ≤ A.heap.size from HA.out.1.size)
  clear hv hu hl
  go_enter Try.func22, Try.ntmps22
  go_upto_region 2 with fail
  rw [← hA]
  clear hA
  obtain ⟨⟨c0, c1, c2, c3⟩, -, -⟩ := HCE.out A (Below.refl _ _)
  go_wp2_with fail
  clear c0 c1 c2 c3
  refine (HHB.out A HA.out.1).mono ?_
  rintro e w1 ⟨ub, L, b, rfl, ho, hb, hT, hF⟩
  have HB1 := hid17 hb
  have HO1 := hid17 ho
  clear hb ho
  cases b with
  | false =>
    have HE : Hid (doneB ⟨ws, half, base, next⟩ t ks = false) := HD0.out (hF rfl)
    clear hT hF
    obtain ⟨⟨c0, c1, c2, c3⟩, -, -⟩ := HCE.out w1 HB1.out
    go_wp2_with fail
    clear c0 c1 c2 c3
    refine (HCP.out w1 (HA.out.1.trans (HB1.out.mono HAW.out))).mono ?_
    rintro e wy ⟨uy, rfl, hoy, hby⟩
    obtain ⟨py, cy, rfl, -⟩ := hoy.rd.shape
    have HBy := hid17 (show Below A.heap.size A wy from HB1.out.trans (hby.mono HB1.out.size))
    have HOy := hid17 (show Own wy w.heap.size (.slice py ws.length cy) ws from hoy.mono (Nat.le_trans HAW.out HB1.out.size))
    have HNy : Hid ((Value.slice py ws.length cy).ownBlock ≠ some (w.heap.size + 1)) := fun hh => by have := (hoy.lt _ hh).1; have := HB1.out.size; have := HA.out.2.1; omega
    clear hoy hby
    have r1 := (HCE.out wy HBy.out).2.2
    have b0 := cell_of_row wy _ 0 _ _ _ r1
    have b1 := cell_of_row wy _ 1 _ _ _ r1
    have b2 := cell_of_row wy _ 2 _ _ _ r1
    have b3 := cell_of_row wy _ 3 _ _ _ r1
    have g0 := frozen_of_row wy _ 0 _ _ r1
    have g1 := frozen_of_row wy _ 1 _ _ r1
    have g2 := frozen_of_row wy _ 2 _ _ r1
    have g3 := frozen_of_row wy _ 3 _ _ r1
    clear r1
    go_wp2_with fail
    refine bodyPost_ret (v := .tuple #[heapV (.slice py ws.length cy) ⟨ws, half, base, next⟩, .int .i64 0, .bool false]) (by rw [results_cell_tmp2H (p := 8) (q := 9) (r := 10) (ty := 27) (by kernel_rfl)]; simp [go_sem, b0, b1, b2, b3]) rfl ?_
    have hle : w.heap.size ≤ w.heap.size + 1 := by omega
    exact HNOT.out _ _ (((((HA.out.1.trans (HBy.out.mono HAW.out)).setCell hle _).setCell hle _).setCell hle _).setCell hle _) (ownsRow_setCell_other (ownsRow_setCell_other (ownsRow_setCell_other (ownsRow_setCell_other HOy.out HNy.out _) HNy.out _) HNy.out _) HNy.out _) HE.out
  | true =>
    have HBL : Hid (blocksB ⟨ws, half, base, next⟩ = some L) := hT rfl
    clear hT hF
    have HMB := hid17 (HD1.out L HBL.out)
    have HSR := hid17 (HSRT.out L HBL.out)
    have HH := hid17 (HHF.out L HBL.out)
    clear HD0 HD1 HSRT HHF HHB HBL
    obtain ⟨-, ⟨e0, e1, e2⟩, -⟩ := HCE.out w1 HB1.out
    go_wp2_with fail
    clear e0 e1 e2
    refine (HOK.out w1).mono ?_
    rintro e w2 ⟨rfl, hb2⟩
    have HB2 := hid17 (show Below A.heap.size A w2 from HB1.out.trans (hb2.mono HB1.out.size))
    have HO2 := hid17 (show Own w2 A.heap.size ub L from HO1.out.below hb2)
    clear hb2 HB1 HO1
    cases hok : bhOk t (ks.length : Nat) with
    | false =>
      have HE : Hid (doneB ⟨ws, half, base, next⟩ t ks = false) := by show _ = _; rw [HD2.out, HMB.out, hok]; rfl
      obtain ⟨⟨c0, c1, c2, c3⟩, -, -⟩ := HCE.out w2 HB2.out
      go_wp2_with fail
      clear c0 c1 c2 c3
      refine (HCP.out w2 (HA.out.1.trans (HB2.out.mono HAW.out))).mono ?_
      rintro e wy ⟨uy, rfl, hoy, hby⟩
      obtain ⟨py, cy, rfl, -⟩ := hoy.rd.shape
      have HBy := hid17 (show Below A.heap.size A wy from HB2.out.trans (hby.mono HB2.out.size))
      have HOy := hid17 (show Own wy w.heap.size (.slice py ws.length cy) ws from hoy.mono (Nat.le_trans HAW.out HB2.out.size))
      have HNy : Hid ((Value.slice py ws.length cy).ownBlock ≠ some (w.heap.size + 1)) := fun hh => by have := (hoy.lt _ hh).1; have := HB2.out.size; have := HA.out.2.1; omega
      clear hoy hby
      have r1 := (HCE.out wy HBy.out).2.2
      have b0 := cell_of_row wy _ 0 _ _ _ r1
      have b1 := cell_of_row wy _ 1 _ _ _ r1
      have b2 := cell_of_row wy _ 2 _ _ _ r1
      have b3 := cell_of_row wy _ 3 _ _ _ r1
      have g0 := frozen_of_row wy _ 0 _ _ r1
      have g1 := frozen_of_row wy _ 1 _ _ r1
      have g2 := frozen_of_row wy _ 2 _ _ r1
      have g3 := frozen_of_row wy _ 3 _ _ r1
      clear r1
      go_wp2_with fail
      refine bodyPost_ret (v := .tuple #[heapV (.slice py ws.length cy) ⟨ws, half, base, next⟩, .int .i64 0, .bool false]) (by rw [results_cell_tmp2H (p := 8) (q := 9) (r := 10) (ty := 27) (by kernel_rfl)]; simp [go_sem, b0, b1, b2, b3]) rfl ?_
      have hle : w.heap.size ≤ w.heap.size + 1 := by omega
      exact HNOT.out _ _ (((((HA.out.1.trans (HBy.out.mono HAW.out)).setCell hle _).setCell hle _).setCell hle _).setCell hle _) (ownsRow_setCell_other (ownsRow_setCell_other (ownsRow_setCell_other (ownsRow_setCell_other HOy.out HNy.out _) HNy.out _) HNy.out _) HNy.out _) HE.out
    | true =>
      obtain ⟨i0, hi, hz0, hz1, hz2⟩ := info_parts int_info
      have HN1 : Hid (∀ k, k < A.heap.size → some k ≠ ub.ownBlock) := fun k hk h => by have := (HO2.out.lt _ h.symm).1; omega
      have HS2 := hid17 (show A.heap.size ≤ w2.heap.size from HB2.out.size)
      have HLL := hid17 (show L.length ≤ 6000 from HSR.out.2)
      obtain ⟨⟨c0, c1, c2, c3⟩, -, -⟩ := HCE.out w2 HB2.out
      go_wp2_with (at_builtin; refine wpList_wanted rfl ?_; refine wpList_append_any _ rfl (.tmp 34) (.tmp 37) 22 rfl A.heap.size 3 i0 (.int .i64 0) 1 8 Try.underlying22 hi hz0 hz1 hz2 rfl (by decide) ub L.length (L.map (Value.int .i64)) rfl (World.ownsRow.alloc HO2.out _) (some ⟨w2.heap.size, 0, none⟩) 1 1 [.int .i64 next] rfl rfl (by simp) (one_new w2 _ _) (by simp [Value.oneCell']) (by have := HLL.out; unfold maxLen; omega) (by have := HLL.out; omega) (by have := HS2.out; simp; omega) ?_; intro v' w3 hown3 hg3; have R := own_push HO2.out HB2.out HS2.out hown3.out hg3.out; have HR : Hid (Own w3 A.heap.size v' (L ++ [next]) ∧ Below A.heap.size A w3) := R; clear R hown3 hg3)
      clear c0 c1 c2 c3
      have HB3 := hid17 HR.out.2
      have hk20 : ks.length ≤ 20 := by unfold bhOk at hok; simp at hok; omega
      have ht01 : 0 ≤ t ∧ t ≤ 3000 := by unfold bhOk at hok; simp at hok; omega
      have HK := hid17 hk20
      have HT := hid17 ht01
      refine (impl_areheld (L ++ [next]) ks v' (.slice pu ks.length cu) w3 HR.out.1.rd (HU.out.below (HA.out.1.trans (HB3.out.mono HAW.out))) (by rw [List.length_append]; have := HLL.out; simp; omega) (by omega) HSR.out.1).mono ?_
      clear hk20 ht01
      rintro e w4 ⟨rfl, hb4⟩
      have HB4 := hid17 (show Below A.heap.size A w4 from HB3.out.trans (hb4.mono HB3.out.size))
      clear hb4 HR HB3 HO2
      cases hal : allB (L ++ [next]) ks with
      | false =>
        have HE : Hid (doneB ⟨ws, half, base, next⟩ t ks = false) := by show _ = _; rw [HD2.out, HMB.out, hok, hal]; rfl
        obtain ⟨⟨c0, c1, c2, c3⟩, -, -⟩ := HCE.out w4 HB4.out
        go_wp2_with fail
        clear c0 c1 c2 c3
        refine (HCP.out w4 (HA.out.1.trans (HB4.out.mono HAW.out))).mono ?_
        rintro e wy ⟨uy, rfl, hoy, hby⟩
        obtain ⟨py, cy, rfl, -⟩ := hoy.rd.shape
        have HBy := hid17 (show Below A.heap.size A wy from HB4.out.trans (hby.mono HB4.out.size))
        have HOy := hid17 (show Own wy w.heap.size (.slice py ws.length cy) ws from hoy.mono (Nat.le_trans HAW.out HB4.out.size))
        have HNy : Hid ((Value.slice py ws.length cy).ownBlock ≠ some (w.heap.size + 1)) := fun hh => by have := (hoy.lt _ hh).1; have := HB4.out.size; have := HA.out.2.1; omega
        clear hoy hby
        have r1 := (HCE.out wy HBy.out).2.2
        have b0 := cell_of_row wy _ 0 _ _ _ r1
        have b1 := cell_of_row wy _ 1 _ _ _ r1
        have b2 := cell_of_row wy _ 2 _ _ _ r1
        have b3 := cell_of_row wy _ 3 _ _ _ r1
        have g0 := frozen_of_row wy _ 0 _ _ r1
        have g1 := frozen_of_row wy _ 1 _ _ r1
        have g2 := frozen_of_row wy _ 2 _ _ r1
        have g3 := frozen_of_row wy _ 3 _ _ r1
        clear r1
        go_wp2_with fail
        refine bodyPost_ret (v := .tuple #[heapV (.slice py ws.length cy) ⟨ws, half, base, next⟩, .int .i64 0, .bool false]) (by rw [results_cell_tmp2H (p := 8) (q := 9) (r := 10) (ty := 27) (by kernel_rfl)]; simp [go_sem, b0, b1, b2, b3]) rfl ?_
        have hle : w.heap.size ≤ w.heap.size + 1 := by omega
        exact HNOT.out _ _ (((((HA.out.1.trans (HBy.out.mono HAW.out)).setCell hle _).setCell hle _).setCell hle _).setCell hle _) (ownsRow_setCell_other (ownsRow_setCell_other (ownsRow_setCell_other (ownsRow_setCell_other HOy.out HNy.out _) HNy.out _) HNy.out _) HNy.out _) HE.out
      | true =>
        have HDN : Hid (doneB ⟨ws, half, base, next⟩ t ks = roomB ⟨ws, half, base, next⟩ ks) := by show _ = _; rw [HD2.out, HMB.out, hok, hal]; rfl
        clear HMB HD2
        have HW4 := hid17 (show Below w.heap.size w w4 from HA.out.1.trans (HB4.out.mono HAW.out))
        obtain ⟨m, hm, hmb, hmd⟩ : ∃ m : Int, (m = 0 ∨ m = 1) ∧ m * half = base ∧ (if base = 0 then (0 : Int) else 1) = m := by
          have h9 := HH.out
          by_cases hb0 : base = 0
          · exact ⟨0, Or.inl rfl, by omega, by rw [if_pos hb0]⟩
          · exact ⟨1, Or.inr rfl, by omega, by rw [if_neg hb0]⟩
        have HM := hid17 (show (m = 0 ∨ m = 1) ∧ m * half = base ∧ (if base = 0 then (0 : Int) else 1) = m from ⟨hm, hmb, hmd⟩)
        clear hm hmb hmd
        have HNW := hid17 (impl_newwork ⟨ws, half, base, next⟩ (.slice p ws.length cap) w4 (HV.out.below HW4.out) (by have := HH.out; show ws.length ≤ _; omega) (by show base = 0 ∨ base ≠ 0 ∧ True; by_cases hb0 : base = 0; exact Or.inl hb0; exact Or.inr ⟨hb0, trivial⟩) (by have := HH.out; show -1000000 ≤ next ∧ next ≤ 1000000 ∧ -1000000 ≤ base ∧ base ≤ 1000000; omega))
        obtain ⟨⟨c0, c1, c2, c3⟩, -, -⟩ := HCE.out w4 HB4.out
        go_wp2_with fail
        clear c0 c1 c2 c3
        refine HNW.out.mono ?_
        rintro e w5 ⟨H, u5, rfl, hH, hwk, ho5, hno, hb5⟩
        replace hwk : WorkAt w5 H 0 (if base = 0 then 0 else 1) u5 half (next - base) := hwk
        rw [HM.out.2.2] at hwk
        replace ho5 : Own w5 w4.heap.size u5 ws := ho5
        obtain ⟨g, c5, rfl⟩ := own_some ho5 (by have := HH.out; omega)
        have HB5 := hid17 hb5
        have HWK := hid17 hwk
        have HO5 := hid17 ho5
        have HHH := hid17 hH
        have HGH : Hid (g ≠ H) := fun h => hno (by rw [h]; rfl)
        have HGL : Hid (w4.heap.size ≤ g) := (ho5.lt g rfl).1
        clear hwk ho5 hno hb5 hH HNW
        have HA5 := hid17 (show Below A.heap.size A w5 from HB4.out.trans (HB5.out.mono HB4.out.size))
        obtain ⟨-, ⟨e0, e1, e2⟩, -⟩ := HCE.out w5 HA5.out
        go_wp2_with fail
        clear e0 e1 e2
        have hu5 := HH.out
        refine (impl_put17 f t ks (.slice pu ks.length cu) H g c5 m half (next - base) ws w4 w5 HB5.out HHH.out HWK.out HO5.out HGH.out (HU.out.below HW4.out) HT.out.1 HT.out.2 HK.out HM.out.1 hu5.1.1 hu5.1.2 (by omega) (by omega) hu5.2.1).mono ?_
        clear hu5
        rintro e w6 (⟨hr, rfl, hwk, ho6, hb6⟩ | ⟨hr, pl, hpl, rfl, hwk, ho6, hb6⟩)
        · have HE : Hid (doneB ⟨ws, half, base, next⟩ t ks = false) := by show _ = _; rw [HDN.out, HRM.out, decide_eq_true (by omega)]; rfl
          have HWK6 := hid17 hwk
          have HO6 := hid17 ho6
          have HB6 := hid17 hb6
          clear hwk ho6 hb6 hr
          go_wp2_with fail
          have hu5 := HH.out
          have hmb := HM.out.2.1
          refine (impl_done17 H g c5 m half (next - base) ws w4 w6 HB6.out HHH.out HWK6.out HO6.out HGH.out HM.out.1 hu5.1.1 hu5.1.2 (by omega) (by omega)).mono ?_
          rintro e w7 ⟨rfl, ho7, hb7⟩
          rw [hmb, show base + (next - base) = next by omega]
          clear hu5 hmb
          have HO7 := hid17 (show Own w7 w.heap.size (.slice (some ⟨g, 0, none⟩) ws.length c5) ws from ho7.mono HW4.out.size)
          have HB7 := hid17 (show Below A.heap.size A w7 from HB4.out.trans (hb7.mono HB4.out.size))
          have HN7 : Hid ((Value.slice (some ⟨g, 0, none⟩) ws.length c5).ownBlock ≠ some (w.heap.size + 1)) := fun hh => by have := (ho7.lt _ hh).1; have := HB4.out.size; have := HA.out.2.1; omega
          clear ho7 hb7
          have r1 := (HCE.out w7 HB7.out).2.2
          have b0 := cell_of_row w7 _ 0 _ _ _ r1
          have b1 := cell_of_row w7 _ 1 _ _ _ r1
          have b2 := cell_of_row w7 _ 2 _ _ _ r1
          have b3 := cell_of_row w7 _ 3 _ _ _ r1
          have g0 := frozen_of_row w7 _ 0 _ _ r1
          have g1 := frozen_of_row w7 _ 1 _ _ r1
          have g2 := frozen_of_row w7 _ 2 _ _ r1
          have g3 := frozen_of_row w7 _ 3 _ _ r1
          clear r1
          go_wp2_with fail
          refine bodyPost_ret (v := .tuple #[heapV (.slice (some ⟨g, 0, none⟩) ws.length c5) ⟨ws, half, base, next⟩, .int .i64 0, .bool false]) (by rw [results_cell_tmp2H (p := 8) (q := 9) (r := 10) (ty := 27) (by kernel_rfl)]; simp [go_sem, b0, b1, b2, b3]) rfl ?_
          have hle : w.heap.size ≤ w.heap.size + 1 := by omega
          exact HNOT.out _ _ (((((HA.out.1.trans (HB7.out.mono HAW.out)).setCell hle _).setCell hle _).setCell hle _).setCell hle _) (ownsRow_setCell_other (ownsRow_setCell_other (ownsRow_setCell_other (ownsRow_setCell_other HO7.out HN7.out _) HN7.out _) HN7.out _) HN7.out _) HE.out
        · have HE : Hid (doneB ⟨ws, half, base, next⟩ t ks = true) := by show _ = _; rw [HDN.out, HRM.out, decide_eq_false (by omega)]; rfl
          have hu5 := HH.out
          have hmb := HM.out.2.1
          have hpn : (pl : Int) = next := by omega
          have hpt : next.toNat = pl := by omega
          have hlen : (putW ws pl (hdW f t (ks.length : Nat)) ks).length = ws.length := putW_len (by omega)
          have HLN := hid17 hlen
          have HPL := hid17 hpn
          have HPT : Hid ((putH ⟨ws, half, base, next⟩ f t ks) = ⟨putW ws pl (hdW f t (ks.length : Nat)) ks, half, base, next + (1 + (ks.length : Nat))⟩) := by show _ = _; rw [HPUT.out, hpt]
          have hrm : next - base + (1 + (ks.length : Nat)) ≤ half := by omega
          have HRR := hid17 hrm
          have HWK6 := hid17 hwk
          have HO6 := hid17 ho6
          have HB6 := hid17 hb6
          clear hwk ho6 hb6 hr hu5 hmb hpn hpt hlen hrm
          generalize hq : putW ws pl (hdW f t (ks.length : Nat)) ks = qs at HLN HPT HO6
          clear hq hpl
          go_wp2_with fail
          have hu5 := HH.out
          have hmb := HM.out.2.1
          have hrm := HRR.out
          have hln := HLN.out
          have hd := impl_done17 H g c5 m half (next - base + (1 + (ks.length : Nat))) qs w4 w6 HB6.out HHH.out (by rw [hln]; exact HWK6.out) (by rw [hln]; exact HO6.out) HGH.out HM.out.1 hu5.1.1 hu5.1.2 (by omega) (by omega)
          rw [hmb, hln, show base + (next - base + (1 + ((ks.length : Nat) : Int))) = next + (1 + ((ks.length : Nat) : Int)) by omega] at hd
          refine hd.mono ?_
          clear hd hu5 hmb hrm hln
          rintro e w7 ⟨rfl, ho7, hb7⟩
          have HO7 := hid17 (show Own w7 w.heap.size (.slice (some ⟨g, 0, none⟩) ws.length c5) qs from ho7.mono HW4.out.size)
          have HB7 := hid17 (show Below A.heap.size A w7 from HB4.out.trans (hb7.mono HB4.out.size))
          have HN7 : Hid ((Value.slice (some ⟨g, 0, none⟩) ws.length c5).ownBlock ≠ some (w.heap.size + 1)) := fun hh => by have := (ho7.lt _ hh).1; have := HB4.out.size; have := HA.out.2.1; omega
          clear ho7 hb7
          have HYY : Hid (∀ wq, Below w.heap.size w wq → Own wq w.heap.size (.slice (some ⟨g, 0, none⟩) ws.length c5) qs → POST (.returned (.tuple #[heapV (.slice (some ⟨g, 0, none⟩) ws.length c5) ⟨qs, half, base, next + (1 + (ks.length : Nat))⟩, .int .i64 (pl : Int), .bool true])) wq) := fun wq h1 h2 => by
            have h3 := HYES.out (.slice (some ⟨g, 0, none⟩) ws.length c5) wq h1 (by rw [HPT.out]; exact h2) HE.out
            rw [HPT.out] at h3
            rw [HPL.out]
            exact h3
          clear HPT HE HPL
          have r1 := (HCE.out w7 HB7.out).2.2
          have b0 := cell_of_row w7 _ 0 _ _ _ r1
          have b1 := cell_of_row w7 _ 1 _ _ _ r1
          have b2 := cell_of_row w7 _ 2 _ _ _ r1
          have b3 := cell_of_row w7 _ 3 _ _ _ r1
          have g0 := frozen_of_row w7 _ 0 _ _ r1
          have g1 := frozen_of_row w7 _ 1 _ _ r1
          have g2 := frozen_of_row w7 _ 2 _ _ r1
          have g3 := frozen_of_row w7 _ 3 _ _ r1
          clear r1
          go_wp2_with fail
          refine bodyPost_ret (v := .tuple #[heapV (.slice (some ⟨g, 0, none⟩) ws.length c5) ⟨qs, half, base, next + (1 + (ks.length : Nat))⟩, .int .i64 (pl : Int), .bool true]) (by rw [results_cell_tmp2H (p := 8) (q := 9) (r := 10) (ty := 27) (by kernel_rfl)]; simp [go_sem, b0, b1, b2, b3]) rfl ?_
          have hle : w.heap.size ≤ w.heap.size + 1 := by omega
          exact HYY.out _ (((((HA.out.1.trans (HB7.out.mono HAW.out)).setCell hle _).setCell hle _).setCell hle _).setCell hle _) (ownsRow_setCell_other (ownsRow_setCell_other (ownsRow_setCell_other (ownsRow_setCell_other HO7.out HN7.out _) HN7.out _) HN7.out _) HN7.out _)
end Go.Proofs.Ytgcegjgjegkahab
