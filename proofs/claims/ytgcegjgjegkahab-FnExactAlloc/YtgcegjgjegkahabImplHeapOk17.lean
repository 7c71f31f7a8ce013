/- impl.heapBlocks, impl.HeapOk, impl.Room. Conditions: ints of 64 bits; at most 2^22 words. -/
import Derived.Test.YtgcegjgjegkahabInUse17
import Derived.Test.YtgcegjgjegkahabHeapOpen
namespace Go.Proofs.Ytgcegjgjegkahab
open Go.ChangeShapes Go.WideShapes Go.ChangeAt Go.RowKit

/-- What heapBlocks answers. -/
def BlocksRet (B : Nat) (w : World) (h : Hp) (e : Ending) (w' : World) : Prop :=
  ∃ u L b, e = .returned (.tuple #[u, .bool b]) ∧ Own w' B u L ∧ Below B w w' ∧ (b = true → blocksB h = some L) ∧ (b = false → blocksB h = none)
theorem blocks_nohalf {h : Hp} (hh : halvesB h = false) : blocksB h = none := by unfold blocksB; rw [if_neg (by rw [hh]; decide)]



set_option maxRecDepth 100000 in
set_option maxHeartbeats 1000000 in
theorem impl_heapblocks (h : Hp) (v : Value) (w : World) (hv : Rd w v h.ws) (hbig : Small64 h.ws) :
    Calls Try.prog 56 #[heapV v h] w (BlocksRet w.heap.size w h) := by
  obtain ⟨ws, half, base, next⟩ := h
  obtain ⟨p, cap, rfl, hc⟩ := hv.shape
  have HC : Hid (∀ j, j < ws.length → ∃ b off, p = some ⟨b, off, none⟩ ∧ w.cell? ⟨b, off + j, none⟩ = some (.int .i64 (ws.getD j 0))) := hc
  have HV : Hid (Rd w (.slice p ws.length cap) ws) := hv
  have HBIG : Hid (∀ j, -9223372036854775808 ≤ ws.getD j 0 ∧ ws.getD j 0 ≤ 9223372036854775807) := hbig
  clear hc hv hbig
  obtain ⟨POST, hPOST⟩ : ∃ P, P = BlocksRet w.heap.size w ⟨ws, half, base, next⟩ := ⟨_, rfl⟩
  rw [← hPOST]
  have HP : Hid (POST = BlocksRet w.heap.size w ⟨ws, half, base, next⟩) := hPOST
  clear hPOST
  have HBAD : Hid (∀ wq, Below w.heap.size w wq → blocksB ⟨ws, half, base, next⟩ = none → POST (.returned (.tuple #[.slice none 0 0, .bool false])) wq) := fun wq hq hn => by
    rw [HP.out]; exact ⟨_, [], false, rfl, World.ownsRow_nil _ _ _ _, hq, (fun h => by cases h), fun _ => hn⟩
  obtain ⟨A, hA⟩ : ∃ A, A = w.alloc (hpO (.slice p ws.length cap) ⟨ws, half, base, next⟩) := ⟨_, rfl⟩
  obtain ⟨sA, bA, rA⟩ := box_new w (.slice p ws.length cap) ⟨ws, half, base, next⟩ hA
  have HA : Hid (A.heap.size = w.heap.size + 1 ∧ Below w.heap.size w A ∧ BoxAt A w.heap.size (.slice p ws.length cap) ⟨ws, half, base, next⟩) := ⟨sA, bA, rA⟩
  have HHV : Hid (Calls Try.prog 81 #[heapV (.slice p ws.length cap) ⟨ws, half, base, next⟩] A fun e w' => e = .returned (.bool (halvesB ⟨ws, half, base, next⟩)) ∧ Below A.heap.size A w') := impl_halves _ _ A (HV.out.below bA)
  clear sA bA rA
  cases hh : halvesB ⟨ws, half, base, next⟩ with
  | false =>
    rw [hh] at HHV
    have HE : Hid (∀ wq, Below w.heap.size w wq → POST (.returned (.tuple #[.slice none 0 0, .bool false])) wq) := fun wq hq => HBAD.out wq hq (blocks_nohalf hh)
    clear hh
    go_enter Try.func56, Try.ntmps56
    go_wp2_with fail
    rw [← hA]
    clear hA
    refine HHV.out.mono ?_
    rintro e w1 ⟨rfl, hb1⟩
    have HB1 : Hid (Below w.heap.size w w1) := HA.out.2.1.trans (hb1.mono HA.out.2.1.size)
    clear hb1
    go_wp2_with fail
    exact HE.out _ HB1.out
  | true =>
    rw [hh] at HHV
    obtain ⟨b0, n0, hb0, hn0, hbn, hnl, hl6, _⟩ := halves_nat hh
    simp only at hb0 hn0 hnl hl6
    subst hb0
    subst hn0
    have HBLK : Hid (blocksB ⟨ws, half, b0, n0⟩ = (match placesL ws b0 n0 with | none => none | some L => if L.all (fun p => allB L (kidsW ws p.toNat)) then some L else none : Option (List Int))) := blocks_half hh rfl rfl
    clear hh
    go_enter Try.func56, Try.ntmps56
    go_wp2_with fail
    rw [← hA]
    clear hA
    refine HHV.out.mono ?_
    rintro e w1 ⟨rfl, hb1⟩
    have HB1 : Hid (Below w.heap.size w w1 ∧ BoxAt w1 w.heap.size (.slice p ws.length cap) ⟨ws, half, b0, n0⟩) := ⟨HA.out.2.1.trans (hb1.mono HA.out.2.1.size), HA.out.2.2.below hb1 HA.out.2.2.lt⟩
    obtain ⟨c0, c1, c2, c3⟩ := HB1.out.2.cells
    clear hb1 HHV
    go_wp2_with fail
    refine (impl_inuse ws half b0 n0 (.slice p ws.length cap) w1 (HV.out.below HB1.out.1) hl6 hnl hbn (fun j => (HBIG.out j).1) (fun j => (HBIG.out j).2)).mono ?_
    rintro e w2 ⟨u, L, b, rfl, ho, hb, hL6, hT, hF⟩
    have HB2 : Hid (Below w.heap.size w w2) := HB1.out.1.trans (hb.mono HB1.out.1.size)
    have HX2 : Hid (BoxAt w2 w.heap.size (.slice p ws.length cap) ⟨ws, half, b0, n0⟩) := HB1.out.2.below hb HB1.out.2.lt
    have HO2 : Hid (Own w2 w1.heap.size u L) := ho
    have HWW : Hid (w.heap.size ≤ w1.heap.size) := HB1.out.1.size
    clear hb ho c0 c1 c2 c3
    cases b with
    | false =>
      have HE : Hid (POST (.returned (.tuple #[.slice none 0 0, .bool false])) w2) := HBAD.out w2 HB2.out (by rw [HBLK.out, hF rfl])
      clear hT hF
      go_wp2_with fail
      exact HE.out
    | true =>
      have HPP : Hid (placesL ws b0 n0 = some L) := hT rfl
      clear hT hF
      obtain ⟨pu, cu, eu, hcu⟩ := HO2.out.rd.shape
      have HOX : Hid (Own w2 w1.heap.size u L) := HO2.out
      have HU : Hid (u = .slice pu L.length cu) := eu
      subst eu
      have HCU : Hid (∀ j, j < L.length → ∃ b off, pu = some ⟨b, off, none⟩ ∧ w2.cell? ⟨b, off + j, none⟩ = some (.int .i64 (L.getD j 0))) := hcu
      clear hcu
      have HPF : Hid (L.length ≤ n0 - b0 ∧ (∀ x ∈ L, (b0 : Int) ≤ x ∧ x < n0 ∧ blockB ws x.toNat n0 = true) ∧ L.Pairwise (· < ·)) := places_facts (n0 - b0) ws b0 n0 L (Nat.le_refl _) hbn HPP.out
      have HRU : Hid (Rd w2 (.slice pu L.length cu) L) := HO2.out.rd
      have HKX : Hid (∀ wq, Below w2.heap.size w2 wq → BoxAt wq w.heap.size (.slice p ws.length cap) ⟨ws, half, b0, n0⟩) := fun wq hq => HX2.out.below hq HX2.out.lt
      have HYES : Hid (∀ wq, Below w2.heap.size w2 wq → (L.all (fun p => allB L (kidsW ws p.toNat))) = true → POST (.returned (.tuple #[.slice pu L.length cu, .bool true])) wq) := fun wq hq hb => by
        rw [HP.out]
        exact ⟨_, L, true, rfl, (HOX.out.below hq).mono HWW.out, HB2.out.trans (hq.mono HB2.out.size), (fun _ => by rw [HBLK.out, HPP.out]; exact if_pos hb), (fun h => by cases h)⟩
      have HNOT : Hid (∀ wq, Below w2.heap.size w2 wq → (L.all (fun p => allB L (kidsW ws p.toNat))) = false → POST (.returned (.tuple #[.slice none 0 0, .bool false])) wq) := fun wq hq hb =>
        HBAD.out wq (HB2.out.trans (hq.mono HB2.out.size)) (by rw [HBLK.out, HPP.out]; exact if_neg (by rw [hb]; decide))
      clear HBAD HBLK HPP HO2 HOX HU HP
      go_wp2_with fail
      go_loopw [20] (fun i wr => ∃ k : Nat, i = .int .i64 k ∧ k ≤ L.length ∧ Below w2.heap.size w2 wr ∧ ∀ j, j < k → allB L (kidsW ws (L.getD j 0).toNat) = true) (fun i _ => L.length - (intOf i).toNat)
      case atStart => exact ⟨0, rfl, by omega, Below.refl _ _, fun j hj => by omega⟩
      case round =>
        obtain ⟨k, rfl, hk, hbel, hall⟩ := hrel
        have HB : Hid (Below w2.heap.size w2 wr) := hbel
        have HALL : Hid (∀ j, j < k → allB L (kidsW ws (L.getD j 0).toNat) = true) := hall
        obtain ⟨c0, c1, c2, c3⟩ := (HKX.out wr hbel).cells
        clear hbel hall
        by_cases hlt : (k : Int) < L.length
        case neg =>
          have HE : Hid (POST (.returned (.tuple #[.slice pu L.length cu, .bool true])) wr) := HYES.out wr HB.out (by
            rw [List.all_eq_true]
            intro x hx
            obtain ⟨i, hi, rfl⟩ := List.getElem_of_mem hx
            have := HALL.out i (by omega)
            rwa [getD_int L i hi] at this)
          go_wp2_with fail
          exact HE.out
        have hk' : k < L.length := by omega
        have hx := HPF.out.2.1 (L.getD k 0) (by rw [getD_int L k hk']; exact List.getElem_mem hk')
        obtain ⟨pn, hpn⟩ : ∃ q : Nat, (q : Int) = L.getD k 0 := ⟨(L.getD k 0).toNat, by omega⟩
        rw [← hpn, Int.toNat_natCast] at hx
        have hpl : pn < ws.length := by omega
        have HBK : Hid (blockB ws pn n0 = true) := hx.2.2
        obtain ⟨ub, uo, rfl, hcu⟩ := HCU.out k hk'
        rw [← hpn] at hcu
        have d1 := cell_later HB.out hcu
        have HPN : Hid (L.getD k 0 = (pn : Int)) := hpn.symm
        have HKID : Hid (∀ wq, Below w2.heap.size w2 wq → Calls Try.prog 61 #[.slice p ws.length cap, .int .i64 pn] wq fun e w' => ∃ u, e = .returned u ∧ Rd w' u (kidsW ws pn) ∧ Below w2.heap.size w2 w') := fun wq hq =>
          (impl_kidsat ws _ pn n0 wq (HV.out.below (HB2.out.trans (hq.mono HB2.out.size))) HBK.out hnl hl6 (HBIG.out pn).1 (HBIG.out pn).2).mono (fun e w' h => by
            obtain ⟨u, h1, h2, h3⟩ := h
            exact ⟨u, h1, h2, hq.trans (h3.mono hq.size)⟩)
        have hkl := (kids_len HBK.out hnl)
        have hkm : (kidsW ws pn).length ≤ 4194304 := by omega
        have HHELD : Hid (∀ u wq, Below w2.heap.size w2 wq → Rd wq u (kidsW ws pn) → Calls Try.prog 65 #[.slice (some ⟨ub, uo, none⟩) L.length cu, u] wq fun e w' => e = .returned (.bool (allB L (kidsW ws pn))) ∧ Below w2.heap.size w2 w') := fun u wq hq hu =>
          (impl_areheld L (kidsW ws pn) _ u wq (HRU.out.below hq) hu (by have := HPF.out.1; omega) hkm HPF.out.2.2).mono (fun e w' h => ⟨h.1, hq.trans (h.2.mono hq.size)⟩)
        have HNO : Hid (allB L (kidsW ws pn) = false → (L.all (fun p => allB L (kidsW ws p.toNat))) = false) := fun h1 => by
          refine all_no (x := L.getD k 0) (by rw [getD_int L k hk']; exact List.getElem_mem hk') ?_
          rw [HPN.out, Int.toNat_natCast]; exact h1
        clear hx hcu hpn hkl
        go_wp2_with fail
        refine (HKID.out wr HB.out).mono ?_
        rintro e w3 ⟨uk, rfl, hr3, hb3⟩
        have HB3 : Hid (Below w2.heap.size w2 w3) := hb3
        have HHE := HHELD.out uk w3 hb3 hr3
        clear hr3 hb3
        go_wp2_with fail
        refine HHE.mono ?_
        rintro e w4 ⟨rfl, hb4⟩
        have HB4 : Hid (Below w2.heap.size w2 w4) := hb4
        clear hb4 HHE
        cases hal : allB L (kidsW ws pn) with
        | true =>
          go_wp2_with fail
          go_roundw
          case rel =>
            refine ⟨k + 1, by go_num, by omega, HB4.out, fun j hj => ?_⟩
            by_cases hjk : j = k
            · subst hjk; rw [HPN.out, Int.toNat_natCast]; exact hal
            · exact HALL.out j (by omega)
          case measure => simp [intOf]; omega
        | false =>
          have HE : Hid (POST (.returned (.tuple #[.slice none 0 0, .bool false])) w4) := HNOT.out w4 HB4.out (HNO.out hal)
          go_wp2_with fail
          exact HE.out

theorem impl_heapok (h : Hp) (v : Value) (w : World) (hv : Rd w v h.ws) (hbig : Small64 h.ws) :
    Calls Try.prog 12 #[heapV v h] w fun e w' => e = .returned (.bool (hpOkB h)) ∧ Below w.heap.size w w' := by
  have HC : Hid (∀ wq, Below w.heap.size w wq → Calls Try.prog 56 #[heapV v h] wq fun e w' => ∃ u, e = .returned (.tuple #[u, .bool (hpOkB h)]) ∧ Below w.heap.size w w') := fun wq hq =>
    (impl_heapblocks h v wq (hv.below hq) hbig).mono (fun e w' hr => by
      obtain ⟨u, L, b, rfl, _, hb, hT, hF⟩ := hr
      refine ⟨u, ?_, hq.trans (hb.mono hq.size)⟩
      unfold hpOkB
      cases b with
      | true => rw [hT rfl]; rfl
      | false => rw [hF rfl]; rfl)
  obtain ⟨ws, half, base, next⟩ := h
  obtain ⟨p, cap, rfl, -⟩ := hv.shape
  clear hv hbig
  go_enter Try.func12, Try.ntmps12
  go_wp2_with fail
  refine (HC.out _ (new_below _ _)).mono ?_
  rintro e w1 ⟨u, rfl, hb1⟩
  have HB1 : Hid (Below w.heap.size w w1) := hb1
  clear hb1
  go_wp2_with fail
  go_ret
  exact ⟨rfl, HB1.out⟩
end Go.Proofs.Ytgcegjgjegkahab
