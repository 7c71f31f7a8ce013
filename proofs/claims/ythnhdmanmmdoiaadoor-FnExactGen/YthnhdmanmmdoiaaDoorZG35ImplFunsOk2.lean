/- (funLook).placesOk and impl.FunsOk at every list of functions. Condition: the table of names reads as its text lays it. -/
import Derived.Test.YthnhdmanmmdoiaaDoorZG24SpecIn13
namespace Go.Proofs.YthnhdmanmmdoiaaDoor
open Go.ChangeShapes Go.WideShapes Go.ChangeAt Go.RowKit

set_option maxRecDepth 100000 in
set_option maxHeartbeats 8000000 in
theorem places_ok (nf : Nat) (kid : Nat → Fu) (i : Nat) (hi : i < nf) (w : World) (b o cl : Nat) (pu : Option Addr) (cu : Nat) (hF : FunsAt w nf kid i b o cl pu cu) (ht : NameTab w) (R : Bool) (hR : R = true ↔ PlacesP nf kid i) :
    Calls Tryd.prog 38 #[.agg #[.slice (some ⟨b, o, none⟩) nf cl, .int .i64 i]] w fun e w' => e = .returned (.bool R) ∧ Below w.heap.size w w' := by
  obtain ⟨W, hW⟩ : ∃ W, W = w.alloc (.cells #[.slice (some ⟨b, o, none⟩) nf cl, .int .i64 i] 79) := ⟨_, rfl⟩
  obtain ⟨K, hK⟩ : ∃ K, K = w.heap.size := ⟨_, rfl⟩
  have nb1 : Below w.heap.size w W := by rw [hW]; exact newb w _
  have HBL : Hid (Below w.heap.size w W) := nb1
  have hbx : W.heap[K]? = some (.cells #[.slice (some ⟨b, o, none⟩) nf cl, .int .i64 i] 79 (0, 0)) := by rw [hW, hK]; exact heap_alloc_new w _
  have k0 : W.cell? ⟨K, 0, none⟩ = some (.slice (some ⟨b, o, none⟩) nf cl) := cell_of_row W K 0 _ _ _ hbx
  have k1 : W.cell? ⟨K, 1, none⟩ = some (.int .i64 i) := cell_of_row W K 1 _ _ _ hbx
  have HKC : Hid (∀ wx, Below W.heap.size W wx → wx.cell? ⟨K, 0, none⟩ = some (.slice (some ⟨b, o, none⟩) nf cl) ∧ wx.cell? ⟨K, 1, none⟩ = some (.int .i64 i)) := fun wx h => ⟨keeps h _ _ k0, keeps h _ _ k1⟩
  have HF : Hid (FunsAt W nf kid i b o cl pu cu) := hF.below nb1
  have HT : Hid (NameTab W) := ht.below nb1
  have f1 := HF.out.sl
  have hi' : (i : Int) < nf := by omega
  have hln := hF.ln
  have HR : Hid (R = true ↔ PlacesP nf kid i) := hR
  have HWW : Hid (W = w.alloc (.cells #[.slice (some ⟨b, o, none⟩) nf cl, .int .i64 i] 79) ∧ K = w.heap.size) := ⟨hW, hK⟩
  clear hW hK hbx nb1 hF ht hR
  unfold maxLen at hln
  have hlm := hln.1
  have hnm := hln.2
  clear hln
  have HOP : Hid (∀ j, j < (kid i).len → ∃ g q, pu = some ⟨g, q, none⟩ ∧ HeadO W g (q + j * 3) ((kid i).op j)) := HF.out.op
  generalize hL : (kid i).len = L at *
  have HLL : Hid ((kid i).len = L) := hL
  clear hL
  by_cases hx : 1 ≤ L ∧ L ≤ 3000
  · have HX : Hid (1 ≤ L ∧ L ≤ 3000) := hx
    have hx1 : ¬ (L : Int) < 1 := by omega
    have hx2 : ¬ (3000 : Int) < L := by omega
    obtain ⟨l, hl⟩ : ∃ l, L = l + 1 := ⟨L - 1, by omega⟩
    obtain ⟨g, q, hp, hh⟩ := HOP.out l (by omega)
    subst hp
    obtain ⟨d0, d1, d2⟩ := hh
    have HE : Hid (∀ w, Calls Tryd.prog 52 #[.agg #[.int .i64 ((kid i).op l).c, .int .i64 ((kid i).op l).n, .int .i64 ((kid i).op l).m]] w fun e w' => e = .returned (.bool (endB ((kid i).op l).c)) ∧ Below w.heap.size w w') := fun w => is_end _ _ _ w
    have HEP : Hid (PlacesP nf kid i → endB ((kid i).op l).c = true) := fun h => by
      have := h.2.1
      rw [HLL.out, hl] at this
      exact this
    have HYE : Hid (endB ((kid i).op l).c = true → (∀ k, k < L → opOkF nf kid i ((kid i).op k) = true) → PlacesP nf kid i) := fun he hops => by
      unfold PlacesP
      rw [HLL.out, hl]
      rw [hl] at hops HX
      exact ⟨HX.out, he, hops⟩
    clear hx
    subst hl
    have HOK : Hid (∀ (t : O3) w1, Below W.heap.size W w1 → Calls Tryd.prog 53 #[.agg #[.slice (some ⟨b, o, none⟩) nf cl, .int .i64 i], .agg #[.int .i64 t.c, .int .i64 t.n, .int .i64 t.m]] w1 fun e w' => e = .returned (.bool (opOkF nf kid i t)) ∧ Below w1.heap.size w1 w') :=
      fun t w1 h1 => op_ok13 nf kid i hi t.c t.n t.m w1 b o cl (some ⟨g, q, none⟩) cu (HF.out.below h1) (HT.out.below h1)
    clear HF HT
    generalize ((kid i).op l).n = ln at *
    generalize ((kid i).op l).m = lm at *
    cases hb : endB ((kid i).op l).c with
    | false =>
      have HR2 : Hid (R = false) := bool_no HR.out (fun h => by have := HEP.out h; rw [hb] at this; cases this)
      rw [hb] at HE
      clear hb
      generalize ((kid i).op l).c = lc at *
      go_enter Tryd.func38, Tryd.ntmps38
      go_upto_region 1 with fail
      rw [← HWW.out.1, ← HWW.out.2]
      go_wp2_with fail
      refine (HE.out _).mono ?_
      rintro e w1 ⟨rfl, hb1⟩
      have HB1 : Hid (Below w.heap.size w w1) := HBL.out.trans (hb1.mono HBL.out.size)
      clear hb1
      go_wp2_with fail
      go_ret
      exact ⟨by rw [HR2.out]; rfl, HB1.out⟩
    | true =>
      have HYE2 : Hid ((∀ k, k < l + 1 → opOkF nf kid i ((kid i).op k) = true) → R = true) := fun h => bool_yes HR.out (HYE.out hb h)
      rw [hb] at HE
      clear hb HYE HEP
      generalize ((kid i).op l).c = lc at *
      go_enter Tryd.func38, Tryd.ntmps38
      go_upto_region 1 with fail
      rw [← HWW.out.1, ← HWW.out.2]
      go_wp2_with fail
      refine (HE.out _).mono ?_
      rintro e w1 ⟨rfl, hb1⟩
      have HB1 : Hid (Below W.heap.size W w1) := hb1
      clear hb1 d0 d1 d2 k0 k1 f1
      go_wp2_with fail
      go_loopw [33] (fun x wr => ∃ k : Nat, x = .int .i64 k ∧ k ≤ l + 1 ∧ (∀ j, j < k → opOkF nf kid i ((kid i).op j) = true) ∧ Below W.heap.size W wr) (fun x _ => l + 1 - (intOf x).toNat)
      case atStart => exact ⟨0, rfl, Nat.zero_le _, fun j hj => absurd hj (Nat.not_lt_zero _), HB1.out⟩
      case round =>
        obtain ⟨k, rfl, hk, hdone, hbel⟩ := hrel
        have HBR : Hid (Below W.heap.size W wr) := hbel
        have HDN : Hid (∀ j, j < k → opOkF nf kid i ((kid i).op j) = true) := hdone
        clear hbel hdone
        by_cases hlt : (k : Int) < (l + 1 : Nat)
        · have hlt' : k < l + 1 := by omega
          obtain ⟨g2, q2, hp2, hh2⟩ := HOP.out k hlt'
          injection hp2 with hp2
          injection hp2 with e1 e2 _
          subst e1 e2
          obtain ⟨d0, d1, d2⟩ := hh2.below HBR.out
          obtain ⟨V, hV⟩ : ∃ V, V = wr.alloc (.cells #[.int .i64 ((kid i).op k).c, .int .i64 ((kid i).op k).n, .int .i64 ((kid i).op k).m] 68) := ⟨_, rfl⟩
          have bV : Below W.heap.size W V := by rw [hV]; exact HBR.out.trans ((newb wr _).mono HBR.out.size)
          have HBV : Hid (Below W.heap.size W V) := bV
          have hv : V.heap[wr.heap.size]? = some (.cells #[.int .i64 ((kid i).op k).c, .int .i64 ((kid i).op k).n, .int .i64 ((kid i).op k).m] 68 (0, 0)) := by rw [hV]; exact heap_alloc_new wr _
          obtain ⟨k0, k1⟩ := HKC.out V bV
          have v0 : V.cell? ⟨wr.heap.size, 0, none⟩ = some (.int .i64 ((kid i).op k).c) := cell_of_row V _ 0 _ _ _ hv
          have v1 : V.cell? ⟨wr.heap.size, 1, none⟩ = some (.int .i64 ((kid i).op k).n) := cell_of_row V _ 1 _ _ _ hv
          have v2 : V.cell? ⟨wr.heap.size, 2, none⟩ = some (.int .i64 ((kid i).op k).m) := cell_of_row V _ 2 _ _ _ hv
          have HVV : Hid (V = wr.alloc (.cells #[.int .i64 ((kid i).op k).c, .int .i64 ((kid i).op k).n, .int .i64 ((kid i).op k).m] 68)) := hV
          have HCL := HOK.out ((kid i).op k) V bV
          have HC2 : Hid (Calls Tryd.prog 53 #[.agg #[.slice (some ⟨b, o, none⟩) nf cl, .int .i64 i], .agg #[.int .i64 ((kid i).op k).c, .int .i64 ((kid i).op k).n, .int .i64 ((kid i).op k).m]] V fun e w' => e = .returned (.bool (opOkF nf kid i ((kid i).op k))) ∧ Below V.heap.size V w') := HCL
          clear HCL hv hV bV hh2
          cases hok : opOkF nf kid i ((kid i).op k) with
          | false =>
            rw [hok] at HC2
            have HR2 : Hid (R = false) := bool_no HR.out (fun h => by have := h.2.2 k (by rw [HLL.out]; exact hlt'); rw [hok] at this; cases this)
            clear hok
            go_upto_region 7 with fail
            rw [← HVV.out]
            go_wp2_with fail
            refine HC2.out.mono ?_
            rintro e w2 ⟨rfl, hb2⟩
            have HB2 : Hid (Below w.heap.size w w2) := HBL.out.trans ((HBV.out.trans (hb2.mono HBV.out.size)).mono HBL.out.size)
            clear hb2
            go_wp2_with fail
            go_ret
            exact ⟨by rw [HR2.out]; rfl, HB2.out⟩
          | true =>
            rw [hok] at HC2
            have HD2 : Hid (∀ j, j < k + 1 → opOkF nf kid i ((kid i).op j) = true) := fun j hj => by
              rcases Nat.lt_or_ge j k with h | h
              · exact HDN.out j h
              · obtain rfl : j = k := by omega
                exact hok
            clear hok
            go_upto_region 7 with fail
            rw [← HVV.out]
            go_wp2_with fail
            refine HC2.out.mono ?_
            rintro e w2 ⟨rfl, hb2⟩
            have HB2 : Hid (Below W.heap.size W w2) := HBV.out.trans (hb2.mono HBV.out.size)
            clear hb2
            go_wp2_with fail
            go_roundw
            case rel => exact ⟨k + 1, by go_num, by omega, HD2.out, HB2.out⟩
            case measure => simp [intOf]; omega
        · have hke : k = l + 1 := by omega
          subst hke
          have HR2 : Hid (R = true) := HYE2.out HDN.out
          go_wp2_with fail
          go_ret
          exact ⟨by rw [HR2.out]; rfl, HBL.out.trans (HBR.out.mono HBL.out.size)⟩
  · have HR2 : Hid (R = false) := bool_no HR.out (fun h => hx (by have := h.1; rw [HLL.out] at this; exact this))
    by_cases hx1 : (L : Int) < 1
    · clear hx HOP
      go_enter Tryd.func38, Tryd.ntmps38
      go_upto_region 1 with fail
      rw [← HWW.out.1, ← HWW.out.2]
      go_wp2_with fail
      go_ret
      exact ⟨by rw [HR2.out]; rfl, HBL.out⟩
    · have hx2 : (3000 : Int) < L := by omega
      clear hx HOP
      go_enter Tryd.func38, Tryd.ntmps38
      go_upto_region 1 with fail
      rw [← HWW.out.1, ← HWW.out.2]
      go_wp2_with fail
      go_ret
      exact ⟨by rw [HR2.out]; rfl, HBL.out⟩
end Go.Proofs.YthnhdmanmmdoiaaDoor

/- impl.FunsOk at every list of functions. Condition: the table of names reads as its text lays it. -/
namespace Go.Proofs.YthnhdmanmmdoiaaDoor
open Go.ChangeShapes Go.WideShapes Go.ChangeAt Go.RowKit

set_option maxRecDepth 100000 in
set_option maxHeartbeats 8000000 in
theorem impl_funs_ok (nf : Nat) (kid : Nat → Fu) (w : World) (v : Value) (hv : Fl w nf kid v) (ht : NameTab w) (R : Bool) (hR : R = true ↔ FunsP nf kid) :
    Calls Tryd.prog 21 #[v] w fun e w' => e = .returned (.bool R) ∧ Below w.heap.size w w' := by
  have HR : Hid (R = true ↔ FunsP nf kid) := hR
  have HT : Hid (∀ wx, Below w.heap.size w wx → NameTab wx) := fun wx h => ht.below h
  clear hR ht
  by_cases hx : 1 ≤ nf ∧ nf ≤ 60
  · obtain ⟨b, o, cl, e, hall⟩ := hv.all_at hx.1
    subst e
    have HALL : Hid (∀ i, i < nf → ∃ pu cu, FunsAt w nf kid i b o cl pu cu) := hall
    obtain ⟨pu0, cu0, hF0⟩ := hall 0 (by omega)
    have c0 := hF0.fr 0 (by omega)
    simp only [Nat.zero_mul, Nat.add_zero] at c0
    have hn0 : (0 : Int) < nf := by omega
    have hx1 : ¬ (nf : Int) < 1 := by omega
    have hx2 : ¬ (60 : Int) < nf := by omega
    clear hv hall hF0
    by_cases h0 : (kid 0).fr = 0
    · have HFR0 : Hid ((kid 0).fr = 0) := h0
      rw [h0] at c0
      clear h0
      go_enter Tryd.func21, Tryd.ntmps21
      go_wp2_with fail
      go_loopw [23] (fun x wr => ∃ k : Nat, x = .int .i64 k ∧ k ≤ nf ∧ (∀ j, j < k → belB (kid j).fr 21 = true ∧ PlacesP nf kid j) ∧ Below w.heap.size w wr) (fun x _ => nf - (intOf x).toNat)
      case atStart => exact ⟨0, rfl, Nat.zero_le _, fun j hj => absurd hj (Nat.not_lt_zero _), Below.refl _ _⟩
      case round =>
        obtain ⟨k, rfl, hk, hdone, hbel⟩ := hrel
        have HBL : Hid (Below w.heap.size w wr) := hbel
        have HDN : Hid (∀ j, j < k → belB (kid j).fr 21 = true ∧ PlacesP nf kid j) := hdone
        clear hbel hdone c0
        by_cases hlt : (k : Int) < nf
        · have hlt' : k < nf := by omega
          obtain ⟨pu, cu, hF⟩ := HALL.out k hlt'
          have f0 := (hF.below HBL.out).fr k hlt'
          have f1 := (hF.below HBL.out).sl
          obtain ⟨V, hV⟩ : ∃ V, V = (wr.alloc (.cells #[.int .i64 (kid k).fr, .slice pu (kid k).len cu] 54)).alloc (.cells #[.slice (some ⟨b, o, none⟩) nf cl, .int .i64 k] 79) := ⟨_, rfl⟩
          obtain ⟨G, hG⟩ : ∃ G, G = wr.heap.size := ⟨_, rfl⟩
          have bV : Below wr.heap.size wr V := by rw [hV]; exact (newb wr _).trans ((newb _ _).mono (by simp))
          have HBV : Hid (Below w.heap.size w V) := HBL.out.trans (bV.mono HBL.out.size)
          have hbx : V.heap[G]? = some (.cells #[.int .i64 (kid k).fr, .slice pu (kid k).len cu] 54 (0, 0)) := by
            rw [hV, hG, Below.heap_alloc _ _ _ (by simp)]; exact heap_alloc_new wr _
          have hby : V.heap[G + 1]? = some (.cells #[.slice (some ⟨b, o, none⟩) nf cl, .int .i64 k] 79 (0, 0)) := by
            rw [hV, hG]
            have := heap_alloc_new (wr.alloc (.cells #[.int .i64 (kid k).fr, .slice pu (kid k).len cu] 54)) (.cells #[.slice (some ⟨b, o, none⟩) nf cl, .int .i64 k] 79)
            simpa using this
          have g0 : V.cell? ⟨G, 0, none⟩ = some (.int .i64 (kid k).fr) := cell_of_row V G 0 _ _ _ hbx
          have g1 : V.cell? ⟨G + 1, 0, none⟩ = some (.slice (some ⟨b, o, none⟩) nf cl) := cell_of_row V (G + 1) 0 _ _ _ hby
          have g2 : V.cell? ⟨G + 1, 1, none⟩ = some (.int .i64 k) := cell_of_row V (G + 1) 1 _ _ _ hby
          have HVV : Hid (V = (wr.alloc (.cells #[.int .i64 (kid k).fr, .slice pu (kid k).len cu] 54)).alloc (.cells #[.slice (some ⟨b, o, none⟩) nf cl, .int .i64 k] 79) ∧ G = wr.heap.size) := ⟨hV, hG⟩
          have HPL : Hid (∀ B, (B = true ↔ PlacesP nf kid k) → Calls Tryd.prog 38 #[.agg #[.slice (some ⟨b, o, none⟩) nf cl, .int .i64 k]] V fun e w' => e = .returned (.bool B) ∧ Below V.heap.size V w') :=
            fun B hB => places_ok nf kid k hlt' V b o cl pu cu (hF.below HBV.out) (HT.out V HBV.out) B hB
          have HIB : Hid (∀ w, Calls Tryd.prog 37 #[.int .i64 (kid k).fr, .int .i64 21] w fun e w' => e = .returned (.bool (belB (kid k).fr 21)) ∧ w' = w) := fun w => is_below _ _ _ rfl w
          clear hbx hby hV hG bV hF
          generalize (kid k).len = L at *
          cases hb1 : belB (kid k).fr 21 with
          | false =>
            have HR2 : Hid (R = false) := bool_no HR.out (fun h => by have := (h.2.2 k hlt').1; rw [hb1] at this; cases this)
            rw [hb1] at HIB
            clear hb1 HPL
            generalize (kid k).fr = F at *
            go_upto_region 7 with fail
            rw [← HVV.out.1, ← HVV.out.2]
            go_wp2_with (go_at_call 37; refine (HIB.out _).mono ?_; rintro e w1 ⟨rfl, rfl⟩)
            go_ret
            exact ⟨by rw [HR2.out]; rfl, HBV.out⟩
          | true =>
            have HFRK : Hid (belB (kid k).fr 21 = true) := hb1
            rw [hb1] at HIB
            clear hb1
            by_cases hpl : PlacesP nf kid k
            · have HP : Hid (Calls Tryd.prog 38 #[.agg #[.slice (some ⟨b, o, none⟩) nf cl, .int .i64 k]] V fun e w' => e = .returned (.bool true) ∧ Below V.heap.size V w') := HPL.out true ⟨fun _ => hpl, fun _ => rfl⟩
              have HD2 : Hid (∀ j, j < k + 1 → belB (kid j).fr 21 = true ∧ PlacesP nf kid j) := fun j hj => by
                rcases Nat.lt_or_ge j k with h | h
                · exact HDN.out j h
                · obtain rfl : j = k := by omega
                  exact ⟨HFRK.out, hpl⟩
              clear hpl HPL HFRK
              generalize (kid k).fr = F at *
              go_upto_region 7 with fail
              rw [← HVV.out.1, ← HVV.out.2]
              go_wp2_with (go_at_call 37; refine (HIB.out _).mono ?_; rintro e w1 ⟨rfl, hw1⟩; obtain rfl : V = w1 := hw1.symm)
              refine HP.out.mono ?_
              rintro e w2 ⟨rfl, hb2⟩
              have HB2 : Hid (Below w.heap.size w w2) := HBV.out.trans (hb2.mono HBV.out.size)
              clear hb2
              go_wp2_with fail
              go_roundw
              case rel => exact ⟨k + 1, by go_num, by omega, HD2.out, HB2.out⟩
              case measure => simp [intOf]; omega
            · have HP : Hid (Calls Tryd.prog 38 #[.agg #[.slice (some ⟨b, o, none⟩) nf cl, .int .i64 k]] V fun e w' => e = .returned (.bool false) ∧ Below V.heap.size V w') := HPL.out false ⟨fun h => (by cases h), fun h => absurd h hpl⟩
              have HR2 : Hid (R = false) := bool_no HR.out (fun h => hpl (h.2.2 k hlt').2)
              clear hpl HPL HFRK
              generalize (kid k).fr = F at *
              go_upto_region 7 with fail
              rw [← HVV.out.1, ← HVV.out.2]
              go_wp2_with (go_at_call 37; refine (HIB.out _).mono ?_; rintro e w1 ⟨rfl, hw1⟩; obtain rfl : V = w1 := hw1.symm)
              refine HP.out.mono ?_
              rintro e w2 ⟨rfl, hb2⟩
              have HB2 : Hid (Below w.heap.size w w2) := HBV.out.trans (hb2.mono HBV.out.size)
              clear hb2
              go_wp2_with fail
              go_ret
              exact ⟨by rw [HR2.out]; rfl, HB2.out⟩
        · have hke : k = nf := by omega
          subst hke
          have HR2 : Hid (R = true) := bool_yes HR.out ⟨hx, HFR0.out, HDN.out⟩
          go_wp2_with fail
          go_ret
          exact ⟨by rw [HR2.out]; rfl, HBL.out⟩
    · have HR2 : Hid (R = false) := bool_no HR.out (fun h => h0 h.2.1)
      have g0 : ((kid 0).fr != 0) = true := by simpa using h0
      clear h0
      generalize (kid 0).fr = F at *
      go_enter Tryd.func21, Tryd.ntmps21
      go_wp2_with fail
      go_ret
      exact ⟨by rw [HR2.out]; rfl, Below.refl _ _⟩
  · obtain ⟨p, cap, e, hm, -⟩ := hv.at
    subst e
    unfold maxLen at hm
    have HR2 : Hid (R = false) := bool_no HR.out (fun h => hx h.1)
    by_cases hx1 : (nf : Int) < 1
    · clear hx
      go_enter Tryd.func21, Tryd.ntmps21
      go_wp2_with fail
      go_ret
      exact ⟨by rw [HR2.out]; rfl, Below.refl _ _⟩
    · have hx2 : (60 : Int) < nf := by omega
      clear hx
      go_enter Tryd.func21, Tryd.ntmps21
      go_wp2_with fail
      go_ret
      exact ⟨by rw [HR2.out]; rfl, Below.refl _ _⟩
end Go.Proofs.YthnhdmanmmdoiaaDoor
