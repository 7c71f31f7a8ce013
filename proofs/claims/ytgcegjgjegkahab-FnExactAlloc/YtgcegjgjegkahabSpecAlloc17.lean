/- spec.Alloc. Conditions: ints of 64 bits; at most 2^22 words and kids. Written by wip/tools/mkspecalloc17.py. -/
import Derived.Test.YtgcegjgjegkahabSpecPut17
import Derived.Test.YtgcegjgjegkahabPutOkP
namespace Go.Proofs.Ytgcegjgjegkahab
open Go.ChangeShapes Go.WideShapes Go.ChangeAt Go.RowKit

theorem alloc_box {w : World} {v : Value} {h : Hp} (ob : Obj) (ho : ob = hpO v h) : BoxAt (w.alloc ob) w.heap.size v h := by subst ho; exact heap_alloc_last _ _
set_option maxRecDepth 100000 in
set_option maxHeartbeats 8000000 in
theorem spec_alloc (h : Hp) (f : Bool) (t : Int) (ks : List Int) (v u : Value) (w : World) (hv : Rd w v h.ws) (hu : Rd w u ks) (hbig : Small64 h.ws) (hkb : Small64 ks) (hl : h.ws.length ≤ 4194304) (hkl : ks.length ≤ 4194304) :
    Calls Try.prog 20 #[heapV v h, .bool f, .int .i64 t, u] w (AllocRet w h f t ks) := by
  have HHO : Hid (∀ wq, Below w.heap.size w wq → Calls Try.prog 10 #[heapV v h] wq fun e w' => e = .returned (.bool (hpOkB h)) ∧ Below wq.heap.size wq w') := fun wq hq => spec_heapok h v wq (hv.below hq) hl (fun j => (hbig j).2)
  have HCP : Hid (∀ wq, Below w.heap.size w wq → Calls Try.prog 62 #[heapV v h] wq (HeapRet wq.heap.size wq h)) := fun wq hq => spec_copy17 h v wq (hv.below hq) hl
  have HIN : Hid (∀ wq, Calls Try.prog 52 #[.int .i64 t, .int .i64 0, .int .i64 3000] wq fun e w' => e = .returned (.bool (decide (0 ≤ t) && decide (t ≤ 3000))) ∧ w' = wq) := fun wq => in17 t 0 3000 _ rfl wq
  have HU := hid17 hu
  have HSML := hid17 (show Small64 h.ws from hbig)
  have HSMK := hid17 (show Small64 ks from hkb)
  have HHF : Hid (∀ L, blocksB h = some L → (1 ≤ h.half ∧ h.half ≤ 3000) ∧ (h.ws.length : Int) = 2 * h.half ∧ (h.base = 0 ∨ h.base = h.half) ∧ h.base ≤ h.next ∧ h.next ≤ h.base + h.half) := fun L hL => by
    have hh : halvesB h = true := by
      cases h1 : halvesB h with
      | true => rfl
      | false => rw [blocks_nohalf h1] at hL; cases hL
    exact halves_iff.1 hh
  have HSM : Hid (hpOkB h = true → ∃ L, blocksB h = some L) := fun hh => ok_some hh
  have HNN : Hid (hpOkB h = false → blocksB h = none) := fun hh => ok_none hh
  obtain ⟨POST, hPO⟩ : ∃ P, P = AllocRet w h f t ks := ⟨_, rfl⟩
  rw [← hPO]
  have HP := hid17 hPO
  clear hPO hbig hkb
  have HNOT : Hid (∀ u' wq, Below w.heap.size w wq → Own wq w.heap.size u' h.ws → doneB h t ks = false → POST (.returned (.tuple #[heapV u' h, .int .i64 0, .bool false])) wq) := fun u' wq hq ho hd => by
    rw [HP.out]
    refine ⟨u', ?_, ?_, hq⟩
    · rw [allocHp, allocAt, hd]; rfl
    · rw [allocHp, hd]; exact ho
  have HYES : Hid (∀ u' wq, Below w.heap.size w wq → Own wq w.heap.size u' (putH h f t ks).ws → doneB h t ks = true → POST (.returned (.tuple #[heapV u' (putH h f t ks), .int .i64 h.next, .bool true])) wq) := fun u' wq hq ho hd => by
    rw [HP.out]
    refine ⟨u', ?_, ?_, hq⟩
    · rw [allocHp, allocAt, hd]; rfl
    · rw [allocHp, hd]; exact ho
  have HD0 : Hid (blocksB h = none → doneB h t ks = false) := fun hb => by rw [doneB, mayB, hb]; rfl
  have HD1 : Hid (∀ L, blocksB h = some L → mayB h t ks = (bhOk t (ks.length : Nat) && allB (L ++ [h.next]) ks)) := fun L hb => by rw [mayB, hb]
  have HD2 : Hid (doneB h t ks = (mayB h t ks && roomB h ks)) := rfl
  have HRM : Hid (roomB h ks = !decide (h.half - (h.next - h.base) < 1 + (ks.length : Nat))) := rfl
  have HBH : Hid (bhOk t (ks.length : Nat) = ((decide (0 ≤ t) && decide (t < 3001)) && (decide (0 ≤ ((ks.length : Nat) : Int)) && decide (((ks.length : Nat) : Int) < 21)))) := rfl
  obtain ⟨ws, half, base, next⟩ := h
  have HL := hid17 (show ws.length ≤ 4194304 from hl)
  obtain ⟨p, cap, rfl, -⟩ := id hv.shape
  obtain ⟨pu, cu, rfl, -⟩ := id hu.shape
  obtain ⟨A, hA⟩ : ∃ A, A = (w.alloc (hpO (.slice p ws.length cap) ⟨ws, half, base, next⟩)).alloc (.cells #[.slice none 0 0, .int .i64 0, .int .i64 0, .int .i64 0] 27) := ⟨_, rfl⟩
  have HA : Hid (Below w.heap.size w A ∧ A.heap.size = w.heap.size + 2 ∧ BoxAt A w.heap.size (.slice p ws.length cap) ⟨ws, half, base, next⟩ ∧ A.heap[w.heap.size + 1]? = some (.cells #[.slice none 0 0, .int .i64 0, .int .i64 0, .int .i64 0] 27 (0, 0))) := by
    show _ ∧ _ ∧ _ ∧ _
    rw [hA]
    refine ⟨((Below.refl _ _).alloc (Nat.le_refl _) _).alloc (by simp) _, by simp, (Below.heap_alloc _ _ _ (by simp)).trans (heap_alloc_last _ _), ?_⟩
    have := heap_alloc_last (w.alloc (hpO (.slice p ws.length cap) ⟨ws, half, base, next⟩)) (.cells #[.slice none 0 0, .int .i64 0, .int .i64 0, .int .i64 0] 27)
    simpa using this
  have HCE : Hid (∀ wq, Below A.heap.size A wq → (wq.cell? ⟨w.heap.size, 0, none⟩ = some (.slice p ws.length cap) ∧ wq.cell? ⟨w.heap.size, 1, none⟩ = some (.int .i64 half) ∧ wq.cell? ⟨w.heap.size, 2, none⟩ = some (.int .i64 base) ∧ wq.cell? ⟨w.heap.size, 3, none⟩ = some (.int .i64 next)) ∧ wq.heap[w.heap.size + 1]? = some (.cells #[.slice none 0 0, .int .i64 0, .int .i64 0, .int .i64 0] 27 (0, 0))) := fun wq hq =>
    ⟨(HA.out.2.2.1.below hq HA.out.2.2.1.lt).cells, (hq.block _ (by have := HA.out.2.1; omega)).trans HA.out.2.2.2⟩
  have HAW := hid17 (show w.heap.size ≤ A.heap.size from HA.out.1.size)
  clear hv hu hl
  go_enter Try.func20, Try.ntmps20
  go_upto_region 1 with fail
  rw [← hA]
  clear hA
  obtain ⟨⟨c0, c1, c2, c3⟩, -⟩ := HCE.out A (Below.refl _ _)
  go_wp2_with fail
  clear c0 c1 c2 c3
  refine (HHO.out A HA.out.1).mono ?_
  rintro e w1 ⟨rfl, hb⟩
  have HB1 := hid17 hb
  clear hb
  cases hok : hpOkB ⟨ws, half, base, next⟩ with
  | false =>
    have HE : Hid (doneB ⟨ws, half, base, next⟩ t ks = false) := HD0.out (HNN.out hok)
    obtain ⟨⟨c0, c1, c2, c3⟩, -⟩ := HCE.out w1 HB1.out
    go_wp2_with fail
    clear c0 c1 c2 c3
    refine (HCP.out w1 (HA.out.1.trans (HB1.out.mono HAW.out))).mono ?_
    rintro e wy ⟨uy, rfl, hoy, hby⟩
    obtain ⟨py, cy, rfl, -⟩ := hoy.rd.shape
    have HBy := hid17 (show Below A.heap.size A wy from HB1.out.trans (hby.mono HB1.out.size))
    have HOy := hid17 (show Own wy w.heap.size (.slice py ws.length cy) ws from hoy.mono (Nat.le_trans HAW.out HB1.out.size))
    have HNy : Hid ((Value.slice py ws.length cy).ownBlock ≠ some (w.heap.size + 1)) := fun hh => by have := (hoy.lt _ hh).1; have := HB1.out.size; have := HA.out.2.1; omega
    clear hoy hby
    have r1 := (HCE.out wy HBy.out).2
    have b0 := cell_of_row wy _ 0 _ _ _ r1
    have b1 := cell_of_row wy _ 1 _ _ _ r1
    have b2 := cell_of_row wy _ 2 _ _ _ r1
    have b3 := cell_of_row wy _ 3 _ _ _ r1
    have g0 := frozen_of_row wy _ 0 _ _ r1
    have g1 := frozen_of_row wy _ 1 _ _ r1
    have g2 := frozen_of_row wy _ 2 _ _ r1
    have g3 := frozen_of_row wy _ 3 _ _ r1
    clear r1
    go_wp2_with fail
    refine bodyPost_ret (v := .tuple #[heapV (.slice py ws.length cy) ⟨ws, half, base, next⟩, .int .i64 0, .bool false]) (by rw [results_cell_tmp2H (p := 8) (q := 9) (r := 10) (ty := 27) (by kernel_rfl)]; simp [go_sem, b0, b1, b2, b3]) rfl ?_
    have hle : w.heap.size ≤ w.heap.size + 1 := by omega
    exact HNOT.out _ _ (((((HA.out.1.trans (HBy.out.mono HAW.out)).setCell hle _).setCell hle _).setCell hle _).setCell hle _) (ownsRow_setCell_other (ownsRow_setCell_other (ownsRow_setCell_other (ownsRow_setCell_other HOy.out HNy.out _) HNy.out _) HNy.out _) HNy.out _) HE.out
  | true =>
    obtain ⟨L, hbl⟩ := HSM.out hok
    have HBL := hid17 hbl
    have HMB := hid17 (HD1.out L hbl)
    have HH := hid17 (HHF.out L hbl)
    clear HSM HNN HD0 HD1 HHF hbl hok
    go_wp2_with fail
    refine (HIN.out w1).mono ?_
    rintro e w2 ⟨rfl, hw2⟩
    subst w2
    cases hin : decide (0 ≤ t) && decide (t ≤ 3000) with
    | false =>
      have HE : Hid (doneB ⟨ws, half, base, next⟩ t ks = false) := by
        show _ = _
        have : bhOk t (ks.length : Nat) = false := by
          rw [HBH.out]
          cases h1 : decide (0 ≤ t) with
          | false => rfl
          | true =>
            rw [h1, Bool.true_and, decide_eq_false_iff_not] at hin
            rw [decide_eq_false (by omega)]; rfl
        rw [HD2.out, HMB.out, this]; rfl
      obtain ⟨⟨c0, c1, c2, c3⟩, -⟩ := HCE.out w1 HB1.out
      go_wp2_with fail
      clear c0 c1 c2 c3
      refine (HCP.out w1 (HA.out.1.trans (HB1.out.mono HAW.out))).mono ?_
      rintro e wy ⟨uy, rfl, hoy, hby⟩
      obtain ⟨py, cy, rfl, -⟩ := hoy.rd.shape
      have HBy := hid17 (show Below A.heap.size A wy from HB1.out.trans (hby.mono HB1.out.size))
      have HOy := hid17 (show Own wy w.heap.size (.slice py ws.length cy) ws from hoy.mono (Nat.le_trans HAW.out HB1.out.size))
      have HNy : Hid ((Value.slice py ws.length cy).ownBlock ≠ some (w.heap.size + 1)) := fun hh => by have := (hoy.lt _ hh).1; have := HB1.out.size; have := HA.out.2.1; omega
      clear hoy hby
      have r1 := (HCE.out wy HBy.out).2
      have b0 := cell_of_row wy _ 0 _ _ _ r1
      have b1 := cell_of_row wy _ 1 _ _ _ r1
      have b2 := cell_of_row wy _ 2 _ _ _ r1
      have b3 := cell_of_row wy _ 3 _ _ _ r1
      have g0 := frozen_of_row wy _ 0 _ _ r1
      have g1 := frozen_of_row wy _ 1 _ _ r1
      have g2 := frozen_of_row wy _ 2 _ _ r1
      have g3 := frozen_of_row wy _ 3 _ _ r1
      clear r1
      go_wp2_with fail
      refine bodyPost_ret (v := .tuple #[heapV (.slice py ws.length cy) ⟨ws, half, base, next⟩, .int .i64 0, .bool false]) (by rw [results_cell_tmp2H (p := 8) (q := 9) (r := 10) (ty := 27) (by kernel_rfl)]; simp [go_sem, b0, b1, b2, b3]) rfl ?_
      have hle : w.heap.size ≤ w.heap.size + 1 := by omega
      exact HNOT.out _ _ (((((HA.out.1.trans (HBy.out.mono HAW.out)).setCell hle _).setCell hle _).setCell hle _).setCell hle _) (ownsRow_setCell_other (ownsRow_setCell_other (ownsRow_setCell_other (ownsRow_setCell_other HOy.out HNy.out _) HNy.out _) HNy.out _) HNy.out _) HE.out
    | true =>
      have ht : 0 ≤ t ∧ t ≤ 3000 := by simpa using hin
      have HT := hid17 ht
      by_cases hk : (20 : Int) < (ks.length : Nat)
      case pos =>
        have HE : Hid (doneB ⟨ws, half, base, next⟩ t ks = false) := by
          show _ = _
          have : bhOk t (ks.length : Nat) = false := by
            rw [HBH.out, decide_eq_false (p := ((ks.length : Nat) : Int) < 21) (by omega), Bool.and_false, Bool.and_false]
          rw [HD2.out, HMB.out, this]; rfl
        clear ht
        obtain ⟨⟨c0, c1, c2, c3⟩, -⟩ := HCE.out w1 HB1.out
        go_wp2_with fail
        clear c0 c1 c2 c3
        refine (HCP.out w1 (HA.out.1.trans (HB1.out.mono HAW.out))).mono ?_
        rintro e wy ⟨uy, rfl, hoy, hby⟩
        obtain ⟨py, cy, rfl, -⟩ := hoy.rd.shape
        have HBy := hid17 (show Below A.heap.size A wy from HB1.out.trans (hby.mono HB1.out.size))
        have HOy := hid17 (show Own wy w.heap.size (.slice py ws.length cy) ws from hoy.mono (Nat.le_trans HAW.out HB1.out.size))
        have HNy : Hid ((Value.slice py ws.length cy).ownBlock ≠ some (w.heap.size + 1)) := fun hh => by have := (hoy.lt _ hh).1; have := HB1.out.size; have := HA.out.2.1; omega
        clear hoy hby
        have r1 := (HCE.out wy HBy.out).2
        have b0 := cell_of_row wy _ 0 _ _ _ r1
        have b1 := cell_of_row wy _ 1 _ _ _ r1
        have b2 := cell_of_row wy _ 2 _ _ _ r1
        have b3 := cell_of_row wy _ 3 _ _ _ r1
        have g0 := frozen_of_row wy _ 0 _ _ r1
        have g1 := frozen_of_row wy _ 1 _ _ r1
        have g2 := frozen_of_row wy _ 2 _ _ r1
        have g3 := frozen_of_row wy _ 3 _ _ r1
        clear r1
        go_wp2_with fail
        refine bodyPost_ret (v := .tuple #[heapV (.slice py ws.length cy) ⟨ws, half, base, next⟩, .int .i64 0, .bool false]) (by rw [results_cell_tmp2H (p := 8) (q := 9) (r := 10) (ty := 27) (by kernel_rfl)]; simp [go_sem, b0, b1, b2, b3]) rfl ?_
        have hle : w.heap.size ≤ w.heap.size + 1 := by omega
        exact HNOT.out _ _ (((((HA.out.1.trans (HBy.out.mono HAW.out)).setCell hle _).setCell hle _).setCell hle _).setCell hle _) (ownsRow_setCell_other (ownsRow_setCell_other (ownsRow_setCell_other (ownsRow_setCell_other HOy.out HNy.out _) HNy.out _) HNy.out _) HNy.out _) HE.out
      have hkn : ks.length ≤ 20 := by omega
      have HKN := hid17 hkn
      have HDN : Hid (doneB ⟨ws, half, base, next⟩ t ks = (allB (L ++ [next]) ks && roomB ⟨ws, half, base, next⟩ ks)) := by
        show _ = _
        have : bhOk t (ks.length : Nat) = true := by
          rw [HBH.out, decide_eq_true ht.1, decide_eq_true (p := t < 3001) (by omega), decide_eq_true (p := (0 : Int) ≤ (ks.length : Nat)) (by omega), decide_eq_true (p := ((ks.length : Nat) : Int) < 21) (by omega)]; rfl
        rw [HD2.out, HMB.out, this, Bool.true_and]
      clear hkn HD2 HMB HBH ht hin HIN HHO
      obtain ⟨⟨c0, c1, c2, c3⟩, -⟩ := HCE.out w1 HB1.out
      go_wp2_with fail
      clear c0 c1 c2 c3
      refine (HCP.out w1 (HA.out.1.trans (HB1.out.mono HAW.out))).mono ?_
      rintro e w3 ⟨uy, rfl, hoy, hby⟩
      obtain ⟨py, cy, rfl, -⟩ := hoy.rd.shape
      have HW1 := hid17 (show Below w.heap.size w w1 from HA.out.1.trans (HB1.out.mono HAW.out))
      obtain ⟨g, cg, hsl⟩ := own_some hoy (by have := HH.out; show 0 < ws.length; omega)
      rw [hsl] at hoy ⊢
      clear hsl
      have HO3 := hid17 hoy
      have HB3 := hid17 hby
      clear hoy hby
      have hu5 := HH.out
      have HPUT := hid17 (spec_put17 half base next ws f t ks (.slice pu ks.length cu) g cg w1 w3 HB3.out HO3.out (HU.out.below HW1.out) HT.out.1 HT.out.2 HKN.out hu5.1.1 hu5.1.2 (by omega) (by omega) (by omega) (by omega) hu5.2.1)
      clear hu5
      go_wp2_with fail
      refine HPUT.out.mono ?_
      clear HPUT
      rintro e w4 (⟨hr, rfl, ho4, hb4⟩ | ⟨hr, rfl, ho4, hb4⟩)
      · have HE : Hid (doneB ⟨ws, half, base, next⟩ t ks = false) := by show _ = _; rw [HDN.out, HRM.out, decide_eq_true (by omega)]; simp
        have HO4 := hid17 ho4
        have HB4 := hid17 (show Below A.heap.size A w4 from HB1.out.trans (hb4.mono HB1.out.size))
        clear ho4 hb4 hr
        go_upto_region 4 with fail
        obtain ⟨W5, hW5⟩ : ∃ W5, W5 = w4.alloc (hpO (.slice (some ⟨g, 0, none⟩) ws.length cg) ⟨ws, half, base, next⟩) := ⟨_, rfl⟩
        have HB5 : Hid (Below A.heap.size A W5) := by show Below _ _ _; rw [hW5]; exact HB4.out.alloc HB4.out.size _
        rw [← hW5]
        clear hW5
        obtain ⟨⟨c0, c1, c2, c3⟩, -⟩ := HCE.out W5 HB5.out
        go_wp2_with fail
        clear c0 c1 c2 c3
        refine (HCP.out W5 (HA.out.1.trans (HB5.out.mono HAW.out))).mono ?_
        rintro e wy ⟨uy, rfl, hoy, hby⟩
        obtain ⟨py, cy, rfl, -⟩ := hoy.rd.shape
        have HBy := hid17 (show Below A.heap.size A wy from HB5.out.trans (hby.mono HB5.out.size))
        have HOy := hid17 (show Own wy w.heap.size (.slice py ws.length cy) ws from hoy.mono (Nat.le_trans HAW.out HB5.out.size))
        have HNy : Hid ((Value.slice py ws.length cy).ownBlock ≠ some (w.heap.size + 1)) := fun hh => by have := (hoy.lt _ hh).1; have := HB5.out.size; have := HA.out.2.1; omega
        clear hoy hby
        have r1 := (HCE.out wy HBy.out).2
        have b0 := cell_of_row wy _ 0 _ _ _ r1
        have b1 := cell_of_row wy _ 1 _ _ _ r1
        have b2 := cell_of_row wy _ 2 _ _ _ r1
        have b3 := cell_of_row wy _ 3 _ _ _ r1
        have g0 := frozen_of_row wy _ 0 _ _ r1
        have g1 := frozen_of_row wy _ 1 _ _ r1
        have g2 := frozen_of_row wy _ 2 _ _ r1
        have g3 := frozen_of_row wy _ 3 _ _ r1
        clear r1
        go_wp2_with fail
        refine bodyPost_ret (v := .tuple #[heapV (.slice py ws.length cy) ⟨ws, half, base, next⟩, .int .i64 0, .bool false]) (by rw [results_cell_tmp2H (p := 8) (q := 9) (r := 10) (ty := 27) (by kernel_rfl)]; simp [go_sem, b0, b1, b2, b3]) rfl ?_
        have hle : w.heap.size ≤ w.heap.size + 1 := by omega
        exact HNOT.out _ _ (((((HA.out.1.trans (HBy.out.mono HAW.out)).setCell hle _).setCell hle _).setCell hle _).setCell hle _) (ownsRow_setCell_other (ownsRow_setCell_other (ownsRow_setCell_other (ownsRow_setCell_other HOy.out HNy.out _) HNy.out _) HNy.out _) HNy.out _) HE.out
      · have hfit : next.toNat + 1 + ks.length ≤ ws.length := by have := HH.out; omega
        have hpd : putH ⟨ws, half, base, next⟩ f t ks = ⟨putW ws next.toNat (hdW f t (ks.length : Nat)) ks, half, base, next + (1 + (ks.length : Nat))⟩ := rfl
        have hpk := put_ok (f := f) HBL.out HT.out.1 HT.out.2 HKN.out hr
        have hhd : -9223372036854775808 ≤ hdW f t (ks.length : Nat) ∧ hdW f t (ks.length : Nat) ≤ 9223372036854775807 := by
          have := HT.out; have := HKN.out; unfold hdW; cases f <;> simp <;> omega
        have hsm := putW_small hfit HSML.out HSMK.out hhd
        have hlen : (putW ws next.toNat (hdW f t (ks.length : Nat)) ks).length = ws.length := putW_len hfit
        have HDM : Hid (doneB ⟨ws, half, base, next⟩ t ks = allB (L ++ [next]) ks) := by show _ = _; rw [HDN.out, HRM.out, decide_eq_false hr]; simp
        rw [hpd] at ho4 hpk HYES ⊢
        clear hpd hfit hhd HSML HSMK HDN HRM hr
        generalize hq : putW ws next.toNat (hdW f t (ks.length : Nat)) ks = qs at ho4 hpk hsm hlen HYES ⊢
        clear hq
        have HO4 := hid17 (show Own w4 w1.heap.size (.slice (some ⟨g, 0, none⟩) ws.length cg) qs from ho4)
        have HOKQ := hid17 hpk
        have HSMQ := hid17 (show Small64 qs from hsm)
        have HLQ := hid17 hlen
        have HB4 := hid17 (show Below A.heap.size A w4 from HB1.out.trans (hb4.mono HB1.out.size))
        clear ho4 hpk hsm hlen hb4
        generalize hnx : next + (1 + ((ks.length : Nat) : Int)) = nx at HOKQ HYES ⊢
        clear hnx
        go_upto_region 4 with fail
        obtain ⟨W5, hW5⟩ : ∃ W5, W5 = w4.alloc (hpO (.slice (some ⟨g, 0, none⟩) ws.length cg) ⟨qs, half, base, nx⟩) := ⟨_, rfl⟩
        have HB5 : Hid (Below A.heap.size A W5 ∧ Own W5 w1.heap.size (.slice (some ⟨g, 0, none⟩) ws.length cg) qs ∧ BoxAt W5 w4.heap.size (.slice (some ⟨g, 0, none⟩) ws.length cg) ⟨qs, half, base, nx⟩) := by
          show _ ∧ _ ∧ _
          rw [hW5]
          exact ⟨HB4.out.alloc HB4.out.size _, HO4.out.below (new_below _ _), heap_alloc_last _ _⟩
        rw [← hW5]
        clear hW5
        obtain ⟨e0, e1, e2, e3⟩ := HB5.out.2.2.cells
        go_wp2_with fail
        clear e0 e1 e2 e3
        refine (spec_heapok ⟨qs, half, base, nx⟩ (.slice (some ⟨g, 0, none⟩) ws.length cg) W5 HB5.out.2.1.rd (by show qs.length ≤ _; rw [HLQ.out]; exact HL.out) (fun j => (HSMQ.out j).2)).mono ?_
        rintro e w6 ⟨rfl, hb6⟩
        rw [HOKQ.out]
        have HB6 := hid17 (show Below A.heap.size A w6 from HB5.out.1.trans (hb6.mono HB5.out.1.size))
        have HX6 := hid17 (HB5.out.2.2.below hb6 HB5.out.2.2.lt)
        have HO6 := hid17 (show Own w6 w.heap.size (.slice (some ⟨g, 0, none⟩) ws.length cg) qs from (HB5.out.2.1.below hb6).mono HW1.out.size)
        have HN6 : Hid ((Value.slice (some ⟨g, 0, none⟩) ws.length cg).ownBlock ≠ some (w.heap.size + 1)) := fun hh => by have := (HB5.out.2.1.lt _ hh).1; have := HB1.out.size; have := HA.out.2.1; omega
        clear hb6
        cases hal : allB (L ++ [next]) ks with
        | false =>
          have HE : Hid (doneB ⟨ws, half, base, next⟩ t ks = false) := by show _ = _; rw [HDM.out, hal]
          obtain ⟨⟨c0, c1, c2, c3⟩, -⟩ := HCE.out w6 HB6.out
          go_wp2_with fail
          clear c0 c1 c2 c3
          refine (HCP.out w6 (HA.out.1.trans (HB6.out.mono HAW.out))).mono ?_
          rintro e wy ⟨uy, rfl, hoy, hby⟩
          obtain ⟨py, cy, rfl, -⟩ := hoy.rd.shape
          have HBy := hid17 (show Below A.heap.size A wy from HB6.out.trans (hby.mono HB6.out.size))
          have HOy := hid17 (show Own wy w.heap.size (.slice py ws.length cy) ws from hoy.mono (Nat.le_trans HAW.out HB6.out.size))
          have HNy : Hid ((Value.slice py ws.length cy).ownBlock ≠ some (w.heap.size + 1)) := fun hh => by have := (hoy.lt _ hh).1; have := HB6.out.size; have := HA.out.2.1; omega
          clear hoy hby
          have r1 := (HCE.out wy HBy.out).2
          have b0 := cell_of_row wy _ 0 _ _ _ r1
          have b1 := cell_of_row wy _ 1 _ _ _ r1
          have b2 := cell_of_row wy _ 2 _ _ _ r1
          have b3 := cell_of_row wy _ 3 _ _ _ r1
          have g0 := frozen_of_row wy _ 0 _ _ r1
          have g1 := frozen_of_row wy _ 1 _ _ r1
          have g2 := frozen_of_row wy _ 2 _ _ r1
          have g3 := frozen_of_row wy _ 3 _ _ r1
          clear r1
          go_wp2_with fail
          refine bodyPost_ret (v := .tuple #[heapV (.slice py ws.length cy) ⟨ws, half, base, next⟩, .int .i64 0, .bool false]) (by rw [results_cell_tmp2H (p := 8) (q := 9) (r := 10) (ty := 27) (by kernel_rfl)]; simp [go_sem, b0, b1, b2, b3]) rfl ?_
          have hle : w.heap.size ≤ w.heap.size + 1 := by omega
          exact HNOT.out _ _ (((((HA.out.1.trans (HBy.out.mono HAW.out)).setCell hle _).setCell hle _).setCell hle _).setCell hle _) (ownsRow_setCell_other (ownsRow_setCell_other (ownsRow_setCell_other (ownsRow_setCell_other HOy.out HNy.out _) HNy.out _) HNy.out _) HNy.out _) HE.out
        | true =>
          have HE : Hid (doneB ⟨ws, half, base, next⟩ t ks = true) := by show _ = _; rw [HDM.out, hal]
          obtain ⟨e0, e1, e2, e3⟩ := HX6.out.cells
          have r1 := (HCE.out w6 HB6.out).2
          have b0 := cell_of_row w6 _ 0 _ _ _ r1
          have b1 := cell_of_row w6 _ 1 _ _ _ r1
          have b2 := cell_of_row w6 _ 2 _ _ _ r1
          have b3 := cell_of_row w6 _ 3 _ _ _ r1
          have g0 := frozen_of_row w6 _ 0 _ _ r1
          have g1 := frozen_of_row w6 _ 1 _ _ r1
          have g2 := frozen_of_row w6 _ 2 _ _ r1
          have g3 := frozen_of_row w6 _ 3 _ _ r1
          clear r1
          go_wp2_with fail
          refine bodyPost_ret (v := .tuple #[heapV (.slice (some ⟨g, 0, none⟩) ws.length cg) ⟨qs, half, base, nx⟩, .int .i64 next, .bool true]) (by rw [results_cell_tmp2H (p := 8) (q := 9) (r := 10) (ty := 27) (by kernel_rfl)]; simp [go_sem, b0, b1, b2, b3]) rfl ?_
          have hle : w.heap.size ≤ w.heap.size + 1 := by omega
          exact HYES.out _ _ (((((HA.out.1.trans (HB6.out.mono HAW.out)).setCell hle _).setCell hle _).setCell hle _).setCell hle _) (ownsRow_setCell_other (ownsRow_setCell_other (ownsRow_setCell_other (ownsRow_setCell_other HO6.out HN6.out _) HN6.out _) HN6.out _) HN6.out _) HE.out
end Go.Proofs.Ytgcegjgjegkahab
