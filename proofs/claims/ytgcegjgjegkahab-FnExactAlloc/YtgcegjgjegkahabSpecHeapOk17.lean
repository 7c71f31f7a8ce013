/- spec.HeapOk, spec.Room. Conditions: the ints are of 64 bits. -/
import Derived.Test.YtgcegjgjegkahabSpecPlaces17
import Derived.Deep.QuietTactic
import Derived.BigQuiet
namespace Go.Proofs.Ytgcegjgjegkahab
open Go.ChangeShapes Go.WideShapes Go.ChangeAt Go.RowKit

theorem belowDrew {B : Nat} {a w : World} (h : Below B a w) (n : Nat) : Below B a (w.drewN n) := ⟨h.os, h.tape, h.output, h.size, h.block⟩
/-- The kids of a block lie within the words. -/
theorem kids_len {ws : List Int} {p n : Nat} (hb : blockB ws p n = true) (hn : n ≤ ws.length) : (kidsW ws p).length = (manyW (ws.getD p 0)).toNat ∧ p + (manyW (ws.getD p 0)).toNat < n := by
  unfold blockB at hb
  rw [Bool.and_eq_true, decide_eq_true_eq] at hb
  have := many_nonneg (ws.getD p 0)
  refine ⟨?_, by omega⟩
  unfold kidsW
  rw [List.length_take, List.length_drop]
  omega
theorem kids_at {ws : List Int} {p n k : Nat} (hb : blockB ws p n = true) (hn : n ≤ ws.length) (hk : k < (manyW (ws.getD p 0)).toNat) : (kidsW ws p).getD k 0 = ws.getD (p + 1 + k) 0 := by
  have h := (kids_len hb hn).2
  unfold kidsW
  rw [List.getD_eq_getElem?_getD, List.getElem?_take_of_lt hk, List.getElem?_drop, ← List.getD_eq_getElem?_getD]
theorem allB_yes {L xs : List Int} (h : ∀ i, i < xs.length → thereB L (xs.getD i 0) = true) : allB L xs = true := by
  unfold allB
  rw [List.all_eq_true]
  intro x hx
  obtain ⟨i, hi, rfl⟩ := List.getElem_of_mem hx
  have := h i hi
  rwa [getD_int xs i hi] at this
theorem allB_no {L xs : List Int} (i : Nat) (hi : i < xs.length) (h : thereB L (xs.getD i 0) = false) : allB L xs = false := by
  rw [getD_int xs i hi] at h
  exact all_no (List.getElem_mem hi) h

/-- A heap whose halves are right, in naturals. -/
theorem halves_nat {h : Hp} (hh : halvesB h = true) : ∃ b n : Nat, h.base = b ∧ h.next = n ∧ b ≤ n ∧ n ≤ h.ws.length ∧ h.ws.length ≤ 6000 ∧ (n : Int) ≤ h.base + h.half := by
  obtain ⟨h1, h2, h3, h4, h5⟩ := halves_iff.1 hh
  exact ⟨h.base.toNat, h.next.toNat, by omega, by omega, by omega, by omega, by omega, by omega⟩
theorem ok_no {h : Hp} (hh : halvesB h = false) : hpOkB h = false := by unfold hpOkB blocksB; rw [if_neg (by rw [hh]; decide)]; rfl
theorem blocks_half {h : Hp} {b n : Nat} (hh : halvesB h = true) (hb : h.base = b) (hn : h.next = n) :
    blocksB h = match placesL h.ws b n with | none => none | some L => if L.all (fun p => allB L (kidsW h.ws p.toNat)) then some L else none := by
  unfold blocksB
  rw [if_pos hh, hb, hn, Int.toNat_natCast, Int.toNat_natCast]
  rfl

set_option maxRecDepth 100000 in
set_option maxHeartbeats 2000000 in
theorem spec_heapok (h : Hp) (v : Value) (w : World) (hv : Rd w v h.ws) (hl : h.ws.length ≤ 4194304) (hbig : ∀ j, h.ws.getD j 0 ≤ 9223372036854775807) :
    Calls Try.prog 10 #[heapV v h] w fun e w' => e = .returned (.bool (hpOkB h)) ∧ Below w.heap.size w w' := by
  obtain ⟨ws, half, base, next⟩ := h
  obtain ⟨p, cap, rfl, hc⟩ := hv.shape
  obtain ⟨POST, hPOST⟩ : ∃ P : Ending → World → Prop, P = fun e w' => e = .returned (.bool (hpOkB ⟨ws, half, base, next⟩)) ∧ Below w.heap.size w w' := ⟨_, rfl⟩
  rw [← hPOST]
  have HP : Hid (POST = fun e w' => e = .returned (.bool (hpOkB ⟨ws, half, base, next⟩)) ∧ Below w.heap.size w w') := hPOST
  clear hPOST
  have HIN : Hid (∀ k a b wq, Calls Try.prog 52 #[.int .i64 k, .int .i64 a, .int .i64 b] wq fun e w' => e = .returned (.bool (decide (a ≤ k) && decide (k ≤ b))) ∧ w' = wq) := fun k a b wq => in17 k a b _ rfl wq
  have HNO : Hid (halvesB ⟨ws, half, base, next⟩ = false → POST (.returned (.bool false)) (w.alloc (hpO (.slice p ws.length cap) ⟨ws, half, base, next⟩))) := fun hh => by
    rw [HP.out]; exact ⟨by rw [ok_no hh], new_below _ _⟩
  by_cases h1 : 1 ≤ half ∧ half ≤ 3000
  case neg =>
    have HE : Hid (POST (.returned (.bool false)) (w.alloc (hpO (.slice p ws.length cap) ⟨ws, half, base, next⟩))) := HNO.out (by
      cases hh : halvesB ⟨ws, half, base, next⟩ with
      | true => exact absurd (halves_iff.1 hh).1 h1
      | false => rfl)
    have hd : (decide (1 ≤ half) && decide (half ≤ 3000)) = false := by
      rw [Bool.and_eq_false_iff, decide_eq_false_iff_not, decide_eq_false_iff_not]; omega
    have HI1 : Hid (∀ wq, Calls Try.prog 52 #[.int .i64 half, .int .i64 1, .int .i64 3000] wq fun e w' => e = .returned (.bool false) ∧ w' = wq) := fun wq => by have := HIN.out half 1 3000 wq; rw [hd] at this; exact this
    clear hd hc hv
    go_enter Try.func10, Try.ntmps10
    go_wp2_with (go_at_call 52; refine (HI1.out _).mono ?_; rintro e wz ⟨rfl, hwz⟩; subst wz)
    exact HE.out
  have h1a := h1.1
  have h1b := h1.2
  have HI1 : Hid (∀ wq, Calls Try.prog 52 #[.int .i64 half, .int .i64 1, .int .i64 3000] wq fun e w' => e = .returned (.bool true) ∧ w' = wq) := fun wq => by have := HIN.out half 1 3000 wq; rw [decide_eq_true h1a, decide_eq_true h1b] at this; exact this
  by_cases h2 : (ws.length : Int) = 2 * half
  case neg =>
    have HE : Hid (POST (.returned (.bool false)) (w.alloc (hpO (.slice p ws.length cap) ⟨ws, half, base, next⟩))) := HNO.out (by
      cases hh : halvesB ⟨ws, half, base, next⟩ with
      | true => exact absurd (halves_iff.1 hh).2.1 h2
      | false => rfl)
    have hd : ((ws.length : Int) != 2 * half) = true := by rw [bne_iff_ne]; exact h2
    clear hc hv
    go_enter Try.func10, Try.ntmps10
    go_wp2_with (go_at_call 52; refine (HI1.out _).mono ?_; rintro e wz ⟨rfl, hwz⟩; subst wz)
    exact HE.out
  have h2a : ((ws.length : Int) != 2 * half) = false := by rw [h2, bne_self_eq_false]
  by_cases h3 : base = 0 ∨ base = half
  case neg =>
    have HE : Hid (POST (.returned (.bool false)) (w.alloc (hpO (.slice p ws.length cap) ⟨ws, half, base, next⟩))) := HNO.out (by
      cases hh : halvesB ⟨ws, half, base, next⟩ with
      | true => exact absurd (halves_iff.1 hh).2.2.1 h3
      | false => rfl)
    have hd : (base != 0) = true := by rw [bne_iff_ne]; omega
    have hd2 : (base != half) = true := by rw [bne_iff_ne]; omega
    clear hc hv
    go_enter Try.func10, Try.ntmps10
    go_wp2_with (go_at_call 52; refine (HI1.out _).mono ?_; rintro e wz ⟨rfl, hwz⟩; subst wz)
    exact HE.out
  have h3a : (base != 0) = true ∧ (base != half) = false ∨ (base != 0) = false := by
    rcases h3 with rfl | rfl
    · exact .inr (by decide)
    · left; exact ⟨by rw [bne_iff_ne]; omega, bne_self_eq_false _⟩
  have h3c : 0 ≤ base ∧ base ≤ 3000 := by omega
  have HI2 : Hid (∀ wq, Calls Try.prog 52 #[.int .i64 next, .int .i64 base, .int .i64 (base + half)] wq fun e w' => e = .returned (.bool (decide (base ≤ next) && decide (next ≤ base + half))) ∧ w' = wq) := fun wq => HIN.out next base (base + half) wq
  by_cases h4 : base ≤ next ∧ next ≤ base + half
  case neg =>
    have HE : Hid (POST (.returned (.bool false)) (w.alloc (hpO (.slice p ws.length cap) ⟨ws, half, base, next⟩))) := HNO.out (by
      cases hh : halvesB ⟨ws, half, base, next⟩ with
      | true => exact absurd (halves_iff.1 hh).2.2.2 h4
      | false => rfl)
    have hd : (decide (base ≤ next) && decide (next ≤ base + half)) = false := by
      rw [Bool.and_eq_false_iff, decide_eq_false_iff_not, decide_eq_false_iff_not]; omega
    rw [hd] at HI2
    clear hd hc hv
    rcases h3a with ⟨e1, e2⟩ | e1
    · go_enter Try.func10, Try.ntmps10
      go_wp2_with fail
      refine (HI1.out _).mono ?_
      rintro e wz ⟨rfl, hwz⟩
      subst wz
      go_wp2_with fail
      refine (HI2.out _).mono ?_
      rintro e wz ⟨rfl, hwz⟩
      subst wz
      go_wp2_with fail
      exact HE.out
    · go_enter Try.func10, Try.ntmps10
      go_wp2_with fail
      refine (HI1.out _).mono ?_
      rintro e wz ⟨rfl, hwz⟩
      subst wz
      go_wp2_with fail
      refine (HI2.out _).mono ?_
      rintro e wz ⟨rfl, hwz⟩
      subst wz
      go_wp2_with fail
      exact HE.out
  have HI2 : Hid (∀ wq, Calls Try.prog 52 #[.int .i64 next, .int .i64 base, .int .i64 (base + half)] wq fun e w' => e = .returned (.bool true) ∧ w' = wq) := fun wq => by have := HI2.out wq; rw [decide_eq_true h4.1, decide_eq_true h4.2] at this; exact this
  have hhalf : halvesB ⟨ws, half, base, next⟩ = true := halves_iff.2 ⟨h1, h2, h3, h4⟩
  obtain ⟨b0, n0, hb0, hn0, hbn, hnl, hl6, _⟩ := halves_nat hhalf
  simp only at hb0 hn0 hnl hl6
  subst hb0
  subst hn0
  have HBLK : Hid (hpOkB ⟨ws, half, b0, n0⟩ = (match placesL ws b0 n0 with | none => none | some L => if L.all (fun p => allB L (kidsW ws p.toNat)) then some L else none : Option (List Int)).isSome) := by
    show _ = _
    unfold hpOkB
    rw [blocks_half hhalf rfl rfl]
  obtain ⟨A, hA⟩ : ∃ A, A = w.alloc (hpO (.slice p ws.length cap) ⟨ws, half, b0, n0⟩) := ⟨_, rfl⟩
  obtain ⟨sA, bA, rA⟩ := box_new w (.slice p ws.length cap) ⟨ws, half, b0, n0⟩ hA
  have HA : Hid (A.heap.size = w.heap.size + 1 ∧ Below w.heap.size w A ∧ BoxAt A w.heap.size (.slice p ws.length cap) ⟨ws, half, b0, n0⟩) := ⟨sA, bA, rA⟩
  have HPL : Hid (Calls Try.prog 53 #[heapV (.slice p ws.length cap) ⟨ws, half, b0, n0⟩] A (PlacesRet A.heap.size A (placesL ws b0 n0))) :=
    spec_places17 ws half b0 n0 (.slice p ws.length cap) A (hv.below bA) hl6 hnl hbn hbig
  have HC : Hid (∀ j, j < ws.length → ∃ b off, p = some ⟨b, off, none⟩ ∧ w.cell? ⟨b, off + j, none⟩ = some (.int .i64 (ws.getD j 0))) := hc
  clear sA bA rA hhalf HNO HIN h1 h3 h4 hc hv hl
  have H3 : Hid (((b0 : Int) != 0) = true ∧ ((b0 : Int) != half) = false ∨ ((b0 : Int) != 0) = false) := h3a
  clear h3a
  rcases H3.out with ⟨e1, e2⟩ | e1
  case' inl =>
    go_enter Try.func10, Try.ntmps10
    go_wp2_with fail
    refine (HI1.out _).mono ?_
    rintro e wz ⟨rfl, hwz⟩
    subst wz
    go_wp2_with fail
    refine (HI2.out _).mono ?_
    rintro e wz ⟨rfl, hwz⟩
    subst wz
    go_wp2_with fail
  case' inr =>
    go_enter Try.func10, Try.ntmps10
    go_wp2_with fail
    refine (HI1.out _).mono ?_
    rintro e wz ⟨rfl, hwz⟩
    subst wz
    go_wp2_with fail
    refine (HI2.out _).mono ?_
    rintro e wz ⟨rfl, hwz⟩
    subst wz
    go_wp2_with fail
  all_goals
    rw [← hA]
    clear hA
    refine (HPL.out).mono ?_
    rintro e w2 ⟨u, L, b, rfl, ho, hb, hL6, hT, hF⟩
    have HB2 : Hid (Below w.heap.size w w2) := HA.out.2.1.trans (hb.mono HA.out.2.1.size)
    have HX2 : Hid (BoxAt w2 w.heap.size (.slice p ws.length cap) ⟨ws, half, b0, n0⟩) := HA.out.2.2.below hb HA.out.2.2.lt
    have HO2 : Hid (Own w2 A.heap.size u L) := ho
    clear hb ho
    cases b with
    | false =>
      have HE : Hid (POST (.returned (.bool false)) w2) := by
        show POST _ _
        rw [HP.out]
        exact ⟨by rw [HBLK.out, hF rfl]; rfl, HB2.out⟩
      clear hT hF
      go_wp2_with fail
      exact HE.out
    | true =>
      have HPP : Hid (placesL ws b0 n0 = some L) := hT rfl
      clear hT hF
      obtain ⟨pu, cu, rfl, hcu⟩ := HO2.out.rd.shape
      have HCU : Hid (∀ j, j < L.length → ∃ b off, pu = some ⟨b, off, none⟩ ∧ w2.cell? ⟨b, off + j, none⟩ = some (.int .i64 (L.getD j 0))) := hcu
      clear hcu
      have HPF : Hid (L.length ≤ n0 - b0 ∧ (∀ x ∈ L, (b0 : Int) ≤ x ∧ x < n0 ∧ blockB ws x.toNat n0 = true)) := by
        have := places_facts (n0 - b0) ws b0 n0 L (Nat.le_refl _) hbn HPP.out
        exact ⟨this.1, this.2.1⟩
      have hL6' : L.length ≤ 6000 := hL6
      have HRU : Hid (Rd w2 (.slice pu L.length cu) L) := HO2.out.rd
      have HKX : Hid (∀ wq, Below w2.heap.size w2 wq → BoxAt wq w.heap.size (.slice p ws.length cap) ⟨ws, half, b0, n0⟩) := fun wq hq => HX2.out.below hq HX2.out.lt
      have HBIG : Hid (∀ j, ws.getD j 0 ≤ 9223372036854775807) := hbig
      have HEND : Hid (∀ wq b, Below w2.heap.size w2 wq → (b = (L.all (fun p => allB L (kidsW ws p.toNat)))) → POST (.returned (.bool b)) wq) := fun wq b hq hb => by
        rw [HP.out]
        refine ⟨?_, HB2.out.trans (hq.mono HB2.out.size)⟩
        rw [HBLK.out, HPP.out, hb]
        cases hc : L.all (fun p => allB L (kidsW ws p.toNat)) <;> simp [hc]
      clear HI1 HI2 H3 HBLK HPL HPP HO2 h2 h2a hbig HP h1a h1b h3c
      go_wp2_with fail
      go_loopw [5] (fun i wr => ∃ k : Nat, i = .int .i64 k ∧ k ≤ L.length ∧ Below w2.heap.size w2 wr ∧ ∀ j, j < k → allB L (kidsW ws (L.getD j 0).toNat) = true) (fun i _ => L.length - (intOf i).toNat)
      case atStart => exact ⟨0, rfl, by omega, Below.refl _ _, fun j hj => by omega⟩
      case round =>
        obtain ⟨k, rfl, hk, hbel, hall⟩ := hrel
        have HB : Hid (Below w2.heap.size w2 wr) := hbel
        have HALL : Hid (∀ j, j < k → allB L (kidsW ws (L.getD j 0).toNat) = true) := hall
        obtain ⟨c0, c1, c2, c3⟩ := (HKX.out wr hbel).cells
        clear hbel hall
        by_cases hlt : (k : Int) < L.length
        case neg =>
          have HE : Hid (POST (.returned (.bool true)) wr) := HEND.out wr true HB.out (by
            rw [eq_comm, List.all_eq_true]
            intro x hx
            obtain ⟨i, hi, rfl⟩ := List.getElem_of_mem hx
            have := HALL.out i (by omega)
            rwa [getD_int L i hi] at this)
          go_wp2_with fail
          exact HE.out
        have hk' : k < L.length := by omega
        have hx := HPF.out.2 (L.getD k 0) (by rw [getD_int L k hk']; exact List.getElem_mem hk')
        obtain ⟨pn, hpn⟩ : ∃ q : Nat, (q : Int) = L.getD k 0 := ⟨(L.getD k 0).toNat, by omega⟩
        rw [← hpn, Int.toNat_natCast] at hx
        have hpl : pn < ws.length := by omega
        have HBK : Hid (blockB ws pn n0 = true) := hx.2.2
        obtain ⟨ub, uo, rfl, hcu⟩ := HCU.out k hk'
        obtain ⟨wb, wo, rfl, hcw⟩ := HC.out pn hpl
        rw [← hpn] at hcu
        have d1 := cell_later HB.out hcu
        have d2 := cell_later (HB2.out.trans (HB.out.mono HB2.out.size)) hcw
        have hkl := kids_len hx.2.2 hnl
        have hw0 : 0 ≤ ws.getD pn 0 := by
          have := HBK.out
          unfold blockB at this
          rw [Bool.and_eq_true] at this
          exact (head_iff.1 this.1).1
        have hw1 := HBIG.out pn
        have HKA : Hid (∀ t, t < (manyW (ws.getD pn 0)).toNat → (kidsW ws pn).getD t 0 = ws.getD (pn + 1 + t) 0) := fun t ht => kids_at HBK.out hnl ht
        generalize hwv : ws.getD pn 0 = wv at d2 hw0 hw1 hkl HKA
        obtain ⟨mn, hmn⟩ : ∃ t : Nat, (t : Int) = manyW wv := ⟨(manyW wv).toNat, by have := many_nonneg wv; omega⟩
        rw [← hmn, Int.toNat_natCast] at hkl HKA
        have hm64 : mn < 64 := by have := many_lt wv; omega
        have HPN : Hid (L.getD k 0 = (pn : Int)) := hpn.symm
        have HKL : Hid ((kidsW ws pn).length = mn ∧ pn + mn < n0) := hkl
        have hpm := hkl.2
        have HOF : Hid (∀ wq, Calls Try.prog 54 #[.int .i64 wv] wq fun e w' => e = .returned (.tuple #[.bool (funW wv), .int .i64 (tagW wv), .int .i64 (mn : Int)]) ∧ w' = wq) := fun wq => by have := spec_of17 wv wq hw0 hw1; rw [← hmn] at this; exact this
        clear hx hcu hcw hpn hwv hmn hkl hw0 hw1
        go_wp2_with fail
        go_quiet ((go_at_call 54; exact Calls.quiet_of_same (HOF.out _)))
        obtain ⟨W3, hW3⟩ : ∃ W, W = wr.drewN nq := ⟨_, rfl⟩
        have HB3 : Hid (Below w2.heap.size w2 W3) := by show Below _ _ _; rw [hW3]; exact belowDrew HB.out _
        rw [← hW3]
        clear hW3 c0 c1 c2 c3 d1 d2
        go_wp2_with fail
        go_loopw [9] (fun i wr => ∃ t : Nat, i = .int .i64 ((1 + t : Nat) : Int) ∧ t ≤ mn ∧ Below w2.heap.size w2 wr ∧ ∀ j, j < t → thereB L (ws.getD (pn + 1 + j) 0) = true) (fun i _ => mn + 1 - (intOf i).toNat)
        case atStart => exact ⟨0, rfl, by omega, HB3.out, fun j hj => by omega⟩
        case round =>
          obtain ⟨t, rfl, ht, hbel, hall⟩ := hrel
          have HB4 : Hid (Below w2.heap.size w2 wr) := hbel
          have HALL4 : Hid (∀ j, j < t → thereB L (ws.getD (pn + 1 + j) 0) = true) := hall
          obtain ⟨c0, c1, c2, c3⟩ := (HKX.out wr hbel).cells
          clear hbel hall
          by_cases htm : ((1 + t : Nat) : Int) ≤ mn
          case neg =>
            have HE : Hid (allB L (kidsW ws pn) = true) := allB_yes (fun i hi => by
              have := HKL.out.1
              rw [HKA.out i (by omega)]; exact HALL4.out i (by omega))
            go_wp2_with fail
            go_roundw
            case rel =>
              refine ⟨k + 1, by go_num, by omega, HB4.out, fun j hj => ?_⟩
              by_cases hjk : j = k
              · subst hjk; rw [HPN.out, Int.toNat_natCast]; exact HE.out
              · exact HALL.out j (by omega)
            case measure => simp [intOf]; omega
          have htm' : t < mn := by omega
          obtain ⟨ub', uo', eu, hcu⟩ := HCU.out k hk'
          injection eu with eu
          injection eu with eu1 eu2
          subst eu1
          subst eu2
          rw [HPN.out] at hcu
          obtain ⟨q, hq⟩ : ∃ q, q = pn + 1 + t := ⟨_, rfl⟩
          have hwr : IntKind.i64.wrap ((pn : Int) + (1 + (t : Int))) = (q : Int) := by rw [IntKind.wrap_i64]; omega
          have hpl2 : q < ws.length := by omega
          obtain ⟨wb', wo', ew, hcw⟩ := HC.out q hpl2
          injection ew with ew
          injection ew with ew1 ew2
          subst ew1
          subst ew2
          have d1 := cell_later HB4.out hcu
          have d2 := cell_later (HB2.out.trans (HB4.out.mono HB2.out.size)) hcw
          have HQ : Hid (q = pn + 1 + t) := hq
          have hth := spec_there L (.slice (some ⟨ub, uo, none⟩) L.length cu) (ws.getD q 0)
          generalize hwv : ws.getD q 0 = wv2 at d2 hth
          have HWV : Hid (ws.getD (pn + 1 + t) 0 = wv2) := by show _ = _; rw [← hq]; exact hwv
          have HTH : Hid (∀ n, Calls Try.prog 55 #[.slice (some ⟨ub, uo, none⟩) L.length cu, .int .i64 wv2] (wr.drewN n) fun e w' => e = .returned (.bool (thereB L wv2)) ∧ w' = wr.drewN n) := fun n => hth _ (HRU.out.below (belowDrew HB4.out n)) (by omega)
          clear hcu hcw hwv hth hq
          cases hb : thereB L wv2 with
          | true =>
            rw [hb] at HTH
            go_wp2_with fail
            go_quiet ((go_at_call 55; exact Calls.quiet_of_same (HTH.out _)))
            obtain ⟨W5, hW5⟩ : ∃ W, W = wr.drewN nq := ⟨_, rfl⟩
            have HB5 : Hid (Below w2.heap.size w2 W5) := by show Below _ _ _; rw [hW5]; exact belowDrew HB4.out _
            rw [← hW5]
            clear hW5
            go_wp2_with fail
            go_roundw
            case rel =>
              refine ⟨t + 1, by go_num, by omega, HB5.out, fun j hj => ?_⟩
              by_cases hjk : j = t
              · subst hjk; rw [HWV.out]; exact hb
              · exact HALL4.out j (by omega)
            case measure => simp [intOf]; omega
          | false =>
            rw [hb] at HTH
            have HE : Hid (∀ n, POST (.returned (.bool false)) (wr.drewN n)) := fun n => HEND.out _ false (belowDrew HB4.out n) (by
              have h1 : allB L (kidsW ws pn) = false := allB_no t (by have := HKL.out.1; omega) (by rw [HKA.out t htm', HWV.out]; exact hb)
              refine (all_no (x := L.getD k 0) (by rw [getD_int L k hk']; exact List.getElem_mem hk') ?_).symm
              rw [HPN.out, Int.toNat_natCast]; exact h1)
            go_wp2_with fail
            go_quiet ((go_at_call 55; exact Calls.quiet_of_same (HTH.out _)))
            go_wp2_with fail
            exact HE.out _
end Go.Proofs.Ytgcegjgjegkahab
