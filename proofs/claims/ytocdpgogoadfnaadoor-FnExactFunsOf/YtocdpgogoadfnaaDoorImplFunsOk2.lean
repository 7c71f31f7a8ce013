/- impl.FunsOk at every list of functions. Condition: the table of names reads as its text lays it. -/
import Derived.Test.YtocdpgogoadfnaaDoorImplFunsOk
namespace Go.Proofs.YtocdpgogoadfnaaDoor
open Go.ChangeShapes Go.WideShapes Go.ChangeAt Go.RowKit

set_option maxRecDepth 100000 in
set_option maxHeartbeats 8000000 in
theorem impl_funs_ok (nf : Nat) (kid : Nat → Fu) (w : World) (v : Value) (hv : Fl w nf kid v) (ht : NameTab w) (R : Bool) (hR : R = true ↔ FunsP nf kid) :
    Calls Tryd.prog 22 #[v] w fun e w' => e = .returned (.bool R) ∧ Below w.heap.size w w' := by
  have HR : Hid (R = true ↔ FunsP nf kid) := hR
  have HT : Hid (∀ wx, Below w.heap.size w wx → NameTab wx) := fun wx h => ht.below h
  clear hR ht
  by_cases hx : 1 ≤ nf ∧ nf ≤ 60
  · obtain ⟨b, o, cl, e, hall⟩ := hv.all_at hx.1
    subst e
    have HALL : Hid (∀ i, i < nf → ∃ pu cu, FunsAt w nf kid i b o cl pu cu) := hall
    obtain ⟨pu0, cu0, hF0⟩ := hall 0 (by omega)
    have c0 := hF0.fr 0 (by omega)
    simp only [Nat.zero_mul, Nat.add_zero] at c0
    have hn0 : (0 : Int) < nf := by omega
    have hx1 : ¬ (nf : Int) < 1 := by omega
    have hx2 : ¬ (60 : Int) < nf := by omega
    clear hv hall hF0
    by_cases h0 : (kid 0).fr = 0
    · have HFR0 : Hid ((kid 0).fr = 0) := h0
      rw [h0] at c0
      clear h0
      go_enter Tryd.func22, Tryd.ntmps22
      go_wp2_with fail
      go_loopw [23] (fun x wr => ∃ k : Nat, x = .int .i64 k ∧ k ≤ nf ∧ (∀ j, j < k → belB (kid j).fr 21 = true ∧ PlacesP nf kid j) ∧ Below w.heap.size w wr) (fun x _ => nf - (intOf x).toNat)
      case atStart => exact ⟨0, rfl, Nat.zero_le _, fun j hj => absurd hj (Nat.not_lt_zero _), Below.refl _ _⟩
      case round =>
        obtain ⟨k, rfl, hk, hdone, hbel⟩ := hrel
        have HBL : Hid (Below w.heap.size w wr) := hbel
        have HDN : Hid (∀ j, j < k → belB (kid j).fr 21 = true ∧ PlacesP nf kid j) := hdone
        clear hbel hdone c0
        by_cases hlt : (k : Int) < nf
        · have hlt' : k < nf := by omega
          obtain ⟨pu, cu, hF⟩ := HALL.out k hlt'
          have f0 := (hF.below HBL.out).fr k hlt'
          have f1 := (hF.below HBL.out).sl
          obtain ⟨V, hV⟩ : ∃ V, V = (wr.alloc (.cells #[.int .i64 (kid k).fr, .slice pu (kid k).len cu] 45)).alloc (.cells #[.slice (some ⟨b, o, none⟩) nf cl, .int .i64 k] 65) := ⟨_, rfl⟩
          obtain ⟨G, hG⟩ : ∃ G, G = wr.heap.size := ⟨_, rfl⟩
          have bV : Below wr.heap.size wr V := by rw [hV]; exact (newb wr _).trans ((newb _ _).mono (by simp))
          have HBV : Hid (Below w.heap.size w V) := HBL.out.trans (bV.mono HBL.out.size)
          have hbx : V.heap[G]? = some (.cells #[.int .i64 (kid k).fr, .slice pu (kid k).len cu] 45 (0, 0)) := by
            rw [hV, hG, Below.heap_alloc _ _ _ (by simp)]; exact heap_alloc_new wr _
          have hby : V.heap[G + 1]? = some (.cells #[.slice (some ⟨b, o, none⟩) nf cl, .int .i64 k] 65 (0, 0)) := by
            rw [hV, hG]
            have := heap_alloc_new (wr.alloc (.cells #[.int .i64 (kid k).fr, .slice pu (kid k).len cu] 45)) (.cells #[.slice (some ⟨b, o, none⟩) nf cl, .int .i64 k] 65)
            simpa using this
          have g0 : V.cell? ⟨G, 0, none⟩ = some (.int .i64 (kid k).fr) := cell_of_row V G 0 _ _ _ hbx
          have g1 : V.cell? ⟨G + 1, 0, none⟩ = some (.slice (some ⟨b, o, none⟩) nf cl) := cell_of_row V (G + 1) 0 _ _ _ hby
          have g2 : V.cell? ⟨G + 1, 1, none⟩ = some (.int .i64 k) := cell_of_row V (G + 1) 1 _ _ _ hby
          have HVV : Hid (V = (wr.alloc (.cells #[.int .i64 (kid k).fr, .slice pu (kid k).len cu] 45)).alloc (.cells #[.slice (some ⟨b, o, none⟩) nf cl, .int .i64 k] 65) ∧ G = wr.heap.size) := ⟨hV, hG⟩
          have HPL : Hid (∀ B, (B = true ↔ PlacesP nf kid k) → Calls Tryd.prog 36 #[.agg #[.slice (some ⟨b, o, none⟩) nf cl, .int .i64 k]] V fun e w' => e = .returned (.bool B) ∧ Below V.heap.size V w') :=
            fun B hB => places_ok nf kid k hlt' V b o cl pu cu (hF.below HBV.out) (HT.out V HBV.out) B hB
          have HIB : Hid (∀ w, Calls Tryd.prog 35 #[.int .i64 (kid k).fr, .int .i64 21] w fun e w' => e = .returned (.bool (belB (kid k).fr 21)) ∧ w' = w) := fun w => is_below _ _ _ rfl w
          clear hbx hby hV hG bV hF
          generalize (kid k).len = L at *
          cases hb1 : belB (kid k).fr 21 with
          | false =>
            have HR2 : Hid (R = false) := bool_no HR.out (fun h => by have := (h.2.2 k hlt').1; rw [hb1] at this; cases this)
            rw [hb1] at HIB
            clear hb1 HPL
            generalize (kid k).fr = F at *
            go_upto_region 7 with fail
            rw [← HVV.out.1, ← HVV.out.2]
            go_wp2_with (go_at_call 35; refine (HIB.out _).mono ?_; rintro e w1 ⟨rfl, rfl⟩)
            go_ret
            exact ⟨by rw [HR2.out]; rfl, HBV.out⟩
          | true =>
            have HFRK : Hid (belB (kid k).fr 21 = true) := hb1
            rw [hb1] at HIB
            clear hb1
            by_cases hpl : PlacesP nf kid k
            · have HP : Hid (Calls Tryd.prog 36 #[.agg #[.slice (some ⟨b, o, none⟩) nf cl, .int .i64 k]] V fun e w' => e = .returned (.bool true) ∧ Below V.heap.size V w') := HPL.out true ⟨fun _ => hpl, fun _ => rfl⟩
              have HD2 : Hid (∀ j, j < k + 1 → belB (kid j).fr 21 = true ∧ PlacesP nf kid j) := fun j hj => by
                rcases Nat.lt_or_ge j k with h | h
                · exact HDN.out j h
                · obtain rfl : j = k := by omega
                  exact ⟨HFRK.out, hpl⟩
              clear hpl HPL HFRK
              generalize (kid k).fr = F at *
              go_upto_region 7 with fail
              rw [← HVV.out.1, ← HVV.out.2]
              go_wp2_with (go_at_call 35; refine (HIB.out _).mono ?_; rintro e w1 ⟨rfl, hw1⟩; obtain rfl : V = w1 := hw1.symm)
              refine HP.out.mono ?_
              rintro e w2 ⟨rfl, hb2⟩
              have HB2 : Hid (Below w.heap.size w w2) := HBV.out.trans (hb2.mono HBV.out.size)
              clear hb2
              go_wp2_with fail
              go_roundw
              case rel => exact ⟨k + 1, by go_num, by omega, HD2.out, HB2.out⟩
              case measure => simp [intOf]; omega
            · have HP : Hid (Calls Tryd.prog 36 #[.agg #[.slice (some ⟨b, o, none⟩) nf cl, .int .i64 k]] V fun e w' => e = .returned (.bool false) ∧ Below V.heap.size V w') := HPL.out false ⟨fun h => (by cases h), fun h => absurd h hpl⟩
              have HR2 : Hid (R = false) := bool_no HR.out (fun h => hpl (h.2.2 k hlt').2)
              clear hpl HPL HFRK
              generalize (kid k).fr = F at *
              go_upto_region 7 with fail
              rw [← HVV.out.1, ← HVV.out.2]
              go_wp2_with (go_at_call 35; refine (HIB.out _).mono ?_; rintro e w1 ⟨rfl, hw1⟩; obtain rfl : V = w1 := hw1.symm)
              refine HP.out.mono ?_
              rintro e w2 ⟨rfl, hb2⟩
              have HB2 : Hid (Below w.heap.size w w2) := HBV.out.trans (hb2.mono HBV.out.size)
              clear hb2
              go_wp2_with fail
              go_ret
              exact ⟨by rw [HR2.out]; rfl, HB2.out⟩
        · have hke : k = nf := by omega
          subst hke
          have HR2 : Hid (R = true) := bool_yes HR.out ⟨hx, HFR0.out, HDN.out⟩
          go_wp2_with fail
          go_ret
          exact ⟨by rw [HR2.out]; rfl, HBL.out⟩
    · have HR2 : Hid (R = false) := bool_no HR.out (fun h => h0 h.2.1)
      have g0 : ((kid 0).fr != 0) = true := by simpa using h0
      clear h0
      generalize (kid 0).fr = F at *
      go_enter Tryd.func22, Tryd.ntmps22
      go_wp2_with fail
      go_ret
      exact ⟨by rw [HR2.out]; rfl, Below.refl _ _⟩
  · obtain ⟨p, cap, e, hm, -⟩ := hv.at
    subst e
    unfold maxLen at hm
    have HR2 : Hid (R = false) := bool_no HR.out (fun h => hx h.1)
    by_cases hx1 : (nf : Int) < 1
    · clear hx
      go_enter Tryd.func22, Tryd.ntmps22
      go_wp2_with fail
      go_ret
      exact ⟨by rw [HR2.out]; rfl, Below.refl _ _⟩
    · have hx2 : (60 : Int) < nf := by omega
      clear hx
      go_enter Tryd.func22, Tryd.ntmps22
      go_wp2_with fail
      go_ret
      exact ⟨by rw [HR2.out]; rfl, Below.refl _ _⟩
end Go.Proofs.YtocdpgogoadfnaaDoor
