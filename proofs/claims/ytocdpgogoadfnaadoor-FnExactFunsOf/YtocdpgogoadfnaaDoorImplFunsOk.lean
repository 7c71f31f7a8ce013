/- (funLook).placesOk and impl.FunsOk at every list of functions. Condition: the table of names reads as its text lays it. -/
import Derived.Test.YtocdpgogoadfnaaDoorFunsRow
namespace Go.Proofs.YtocdpgogoadfnaaDoor
open Go.ChangeShapes Go.WideShapes Go.ChangeAt Go.RowKit

set_option maxRecDepth 100000 in
set_option maxHeartbeats 8000000 in
theorem places_ok (nf : Nat) (kid : Nat → Fu) (i : Nat) (hi : i < nf) (w : World) (b o cl : Nat) (pu : Option Addr) (cu : Nat) (hF : FunsAt w nf kid i b o cl pu cu) (ht : NameTab w) (R : Bool) (hR : R = true ↔ PlacesP nf kid i) :
    Calls Tryd.prog 36 #[.agg #[.slice (some ⟨b, o, none⟩) nf cl, .int .i64 i]] w fun e w' => e = .returned (.bool R) ∧ Below w.heap.size w w' := by
  obtain ⟨W, hW⟩ : ∃ W, W = w.alloc (.cells #[.slice (some ⟨b, o, none⟩) nf cl, .int .i64 i] 65) := ⟨_, rfl⟩
  obtain ⟨K, hK⟩ : ∃ K, K = w.heap.size := ⟨_, rfl⟩
  have nb1 : Below w.heap.size w W := by rw [hW]; exact newb w _
  have HBL : Hid (Below w.heap.size w W) := nb1
  have hbx : W.heap[K]? = some (.cells #[.slice (some ⟨b, o, none⟩) nf cl, .int .i64 i] 65 (0, 0)) := by rw [hW, hK]; exact heap_alloc_new w _
  have k0 : W.cell? ⟨K, 0, none⟩ = some (.slice (some ⟨b, o, none⟩) nf cl) := cell_of_row W K 0 _ _ _ hbx
  have k1 : W.cell? ⟨K, 1, none⟩ = some (.int .i64 i) := cell_of_row W K 1 _ _ _ hbx
  have HKC : Hid (∀ wx, Below W.heap.size W wx → wx.cell? ⟨K, 0, none⟩ = some (.slice (some ⟨b, o, none⟩) nf cl) ∧ wx.cell? ⟨K, 1, none⟩ = some (.int .i64 i)) := fun wx h => ⟨keeps h _ _ k0, keeps h _ _ k1⟩
  have HF : Hid (FunsAt W nf kid i b o cl pu cu) := hF.below nb1
  have HT : Hid (NameTab W) := ht.below nb1
  have f1 := HF.out.sl
  have hi' : (i : Int) < nf := by omega
  have hln := hF.ln
  have HR : Hid (R = true ↔ PlacesP nf kid i) := hR
  have HWW : Hid (W = w.alloc (.cells #[.slice (some ⟨b, o, none⟩) nf cl, .int .i64 i] 65) ∧ K = w.heap.size) := ⟨hW, hK⟩
  clear hW hK hbx nb1 hF ht hR
  unfold maxLen at hln
  have hlm := hln.1
  have hnm := hln.2
  clear hln
  have HOP : Hid (∀ j, j < (kid i).len → ∃ g q, pu = some ⟨g, q, none⟩ ∧ HeadO W g (q + j * 3) ((kid i).op j)) := HF.out.op
  generalize hL : (kid i).len = L at *
  have HLL : Hid ((kid i).len = L) := hL
  clear hL
  by_cases hx : 1 ≤ L ∧ L ≤ 3000
  · have HX : Hid (1 ≤ L ∧ L ≤ 3000) := hx
    have hx1 : ¬ (L : Int) < 1 := by omega
    have hx2 : ¬ (3000 : Int) < L := by omega
    obtain ⟨l, hl⟩ : ∃ l, L = l + 1 := ⟨L - 1, by omega⟩
    obtain ⟨g, q, hp, hh⟩ := HOP.out l (by omega)
    subst hp
    obtain ⟨d0, d1, d2⟩ := hh
    have HE : Hid (∀ w, Calls Tryd.prog 45 #[.agg #[.int .i64 ((kid i).op l).c, .int .i64 ((kid i).op l).n, .int .i64 ((kid i).op l).m]] w fun e w' => e = .returned (.bool (endB ((kid i).op l).c)) ∧ Below w.heap.size w w') := fun w => is_end _ _ _ w
    have HEP : Hid (PlacesP nf kid i → endB ((kid i).op l).c = true) := fun h => by
      have := h.2.1
      rw [HLL.out, hl] at this
      exact this
    have HYE : Hid (endB ((kid i).op l).c = true → (∀ k, k < L → opOkF nf kid i ((kid i).op k) = true) → PlacesP nf kid i) := fun he hops => by
      unfold PlacesP
      rw [HLL.out, hl]
      rw [hl] at hops HX
      exact ⟨HX.out, he, hops⟩
    clear hx
    subst hl
    have HOK : Hid (∀ (t : O3) w1, Below W.heap.size W w1 → Calls Tryd.prog 46 #[.agg #[.slice (some ⟨b, o, none⟩) nf cl, .int .i64 i], .agg #[.int .i64 t.c, .int .i64 t.n, .int .i64 t.m]] w1 fun e w' => e = .returned (.bool (opOkF nf kid i t)) ∧ Below w1.heap.size w1 w') :=
      fun t w1 h1 => op_ok13 nf kid i hi t.c t.n t.m w1 b o cl (some ⟨g, q, none⟩) cu (HF.out.below h1) (HT.out.below h1)
    clear HF HT
    generalize ((kid i).op l).n = ln at *
    generalize ((kid i).op l).m = lm at *
    cases hb : endB ((kid i).op l).c with
    | false =>
      have HR2 : Hid (R = false) := bool_no HR.out (fun h => by have := HEP.out h; rw [hb] at this; cases this)
      rw [hb] at HE
      clear hb
      generalize ((kid i).op l).c = lc at *
      go_enter Tryd.func36, Tryd.ntmps36
      go_upto_region 1 with fail
      rw [← HWW.out.1, ← HWW.out.2]
      go_wp2_with fail
      refine (HE.out _).mono ?_
      rintro e w1 ⟨rfl, hb1⟩
      have HB1 : Hid (Below w.heap.size w w1) := HBL.out.trans (hb1.mono HBL.out.size)
      clear hb1
      go_wp2_with fail
      go_ret
      exact ⟨by rw [HR2.out]; rfl, HB1.out⟩
    | true =>
      have HYE2 : Hid ((∀ k, k < l + 1 → opOkF nf kid i ((kid i).op k) = true) → R = true) := fun h => bool_yes HR.out (HYE.out hb h)
      rw [hb] at HE
      clear hb HYE HEP
      generalize ((kid i).op l).c = lc at *
      go_enter Tryd.func36, Tryd.ntmps36
      go_upto_region 1 with fail
      rw [← HWW.out.1, ← HWW.out.2]
      go_wp2_with fail
      refine (HE.out _).mono ?_
      rintro e w1 ⟨rfl, hb1⟩
      have HB1 : Hid (Below W.heap.size W w1) := hb1
      clear hb1 d0 d1 d2 k0 k1 f1
      go_wp2_with fail
      go_loopw [33] (fun x wr => ∃ k : Nat, x = .int .i64 k ∧ k ≤ l + 1 ∧ (∀ j, j < k → opOkF nf kid i ((kid i).op j) = true) ∧ Below W.heap.size W wr) (fun x _ => l + 1 - (intOf x).toNat)
      case atStart => exact ⟨0, rfl, Nat.zero_le _, fun j hj => absurd hj (Nat.not_lt_zero _), HB1.out⟩
      case round =>
        obtain ⟨k, rfl, hk, hdone, hbel⟩ := hrel
        have HBR : Hid (Below W.heap.size W wr) := hbel
        have HDN : Hid (∀ j, j < k → opOkF nf kid i ((kid i).op j) = true) := hdone
        clear hbel hdone
        by_cases hlt : (k : Int) < (l + 1 : Nat)
        · have hlt' : k < l + 1 := by omega
          obtain ⟨g2, q2, hp2, hh2⟩ := HOP.out k hlt'
          injection hp2 with hp2
          injection hp2 with e1 e2 _
          subst e1 e2
          obtain ⟨d0, d1, d2⟩ := hh2.below HBR.out
          obtain ⟨V, hV⟩ : ∃ V, V = wr.alloc (.cells #[.int .i64 ((kid i).op k).c, .int .i64 ((kid i).op k).n, .int .i64 ((kid i).op k).m] 47) := ⟨_, rfl⟩
          have bV : Below W.heap.size W V := by rw [hV]; exact HBR.out.trans ((newb wr _).mono HBR.out.size)
          have HBV : Hid (Below W.heap.size W V) := bV
          have hv : V.heap[wr.heap.size]? = some (.cells #[.int .i64 ((kid i).op k).c, .int .i64 ((kid i).op k).n, .int .i64 ((kid i).op k).m] 47 (0, 0)) := by rw [hV]; exact heap_alloc_new wr _
          obtain ⟨k0, k1⟩ := HKC.out V bV
          have v0 : V.cell? ⟨wr.heap.size, 0, none⟩ = some (.int .i64 ((kid i).op k).c) := cell_of_row V _ 0 _ _ _ hv
          have v1 : V.cell? ⟨wr.heap.size, 1, none⟩ = some (.int .i64 ((kid i).op k).n) := cell_of_row V _ 1 _ _ _ hv
          have v2 : V.cell? ⟨wr.heap.size, 2, none⟩ = some (.int .i64 ((kid i).op k).m) := cell_of_row V _ 2 _ _ _ hv
          have HVV : Hid (V = wr.alloc (.cells #[.int .i64 ((kid i).op k).c, .int .i64 ((kid i).op k).n, .int .i64 ((kid i).op k).m] 47)) := hV
          have HCL := HOK.out ((kid i).op k) V bV
          have HC2 : Hid (Calls Tryd.prog 46 #[.agg #[.slice (some ⟨b, o, none⟩) nf cl, .int .i64 i], .agg #[.int .i64 ((kid i).op k).c, .int .i64 ((kid i).op k).n, .int .i64 ((kid i).op k).m]] V fun e w' => e = .returned (.bool (opOkF nf kid i ((kid i).op k))) ∧ Below V.heap.size V w') := HCL
          clear HCL hv hV bV hh2
          cases hok : opOkF nf kid i ((kid i).op k) with
          | false =>
            rw [hok] at HC2
            have HR2 : Hid (R = false) := bool_no HR.out (fun h => by have := h.2.2 k (by rw [HLL.out]; exact hlt'); rw [hok] at this; cases this)
            clear hok
            go_upto_region 7 with fail
            rw [← HVV.out]
            go_wp2_with fail
            refine HC2.out.mono ?_
            rintro e w2 ⟨rfl, hb2⟩
            have HB2 : Hid (Below w.heap.size w w2) := HBL.out.trans ((HBV.out.trans (hb2.mono HBV.out.size)).mono HBL.out.size)
            clear hb2
            go_wp2_with fail
            go_ret
            exact ⟨by rw [HR2.out]; rfl, HB2.out⟩
          | true =>
            rw [hok] at HC2
            have HD2 : Hid (∀ j, j < k + 1 → opOkF nf kid i ((kid i).op j) = true) := fun j hj => by
              rcases Nat.lt_or_ge j k with h | h
              · exact HDN.out j h
              · obtain rfl : j = k := by omega
                exact hok
            clear hok
            go_upto_region 7 with fail
            rw [← HVV.out]
            go_wp2_with fail
            refine HC2.out.mono ?_
            rintro e w2 ⟨rfl, hb2⟩
            have HB2 : Hid (Below W.heap.size W w2) := HBV.out.trans (hb2.mono HBV.out.size)
            clear hb2
            go_wp2_with fail
            go_roundw
            case rel => exact ⟨k + 1, by go_num, by omega, HD2.out, HB2.out⟩
            case measure => simp [intOf]; omega
        · have hke : k = l + 1 := by omega
          subst hke
          have HR2 : Hid (R = true) := HYE2.out HDN.out
          go_wp2_with fail
          go_ret
          exact ⟨by rw [HR2.out]; rfl, HBL.out.trans (HBR.out.mono HBL.out.size)⟩
  · have HR2 : Hid (R = false) := bool_no HR.out (fun h => hx (by have := h.1; rw [HLL.out] at this; exact this))
    by_cases hx1 : (L : Int) < 1
    · clear hx HOP
      go_enter Tryd.func36, Tryd.ntmps36
      go_upto_region 1 with fail
      rw [← HWW.out.1, ← HWW.out.2]
      go_wp2_with fail
      go_ret
      exact ⟨by rw [HR2.out]; rfl, HBL.out⟩
    · have hx2 : (3000 : Int) < L := by omega
      clear hx HOP
      go_enter Tryd.func36, Tryd.ntmps36
      go_upto_region 1 with fail
      rw [← HWW.out.1, ← HWW.out.2]
      go_wp2_with fail
      go_ret
      exact ⟨by rw [HR2.out]; rfl, HBL.out⟩
end Go.Proofs.YtocdpgogoadfnaaDoor
