/- spec.FunsOk at every list of functions. No conditions. -/
import Derived.Test.YtocdpgogoadfnaaDoorFunsRow
import Derived.Test.YtocdpgogoadfnaaDoorSpecOp13
namespace Go.Proofs.YtocdpgogoadfnaaDoor
open Go.ChangeShapes Go.WideShapes Go.ChangeAt Go.RowKit

set_option maxRecDepth 100000 in
set_option maxHeartbeats 8000000 in
theorem spec_funs_ok (nf : Nat) (kid : Nat → Fu) (w : World) (v : Value) (hv : Fl w nf kid v) (R : Bool) (hR : R = true ↔ FunsP nf kid) :
    Calls Tryd.prog 19 #[v] w fun e w' => e = .returned (.bool R) ∧ Below w.heap.size w w' := by
  have HR : Hid (R = true ↔ FunsP nf kid) := hR
  have HV : Hid (Fl w nf kid v) := hv
  clear hR
  have HI0 : Hid (∀ w B, B = (decide (1 ≤ nf) && decide (nf ≤ 60)) → Calls Tryd.prog 32 #[.int .i64 nf, .int .i64 1, .int .i64 60] w fun e w' => e = .returned (.bool B) ∧ w' = w) := fun w B hB => spec_in13 _ _ _ _ (hB.trans (by congr 1 <;> exact decide_eq_decide.2 (by omega))) w
  by_cases hx : 1 ≤ nf ∧ nf ≤ 60
  · obtain ⟨b, o, cl, e, hall⟩ := hv.all_at hx.1
    subst e
    have HI : Hid (∀ w, Calls Tryd.prog 32 #[.int .i64 nf, .int .i64 1, .int .i64 60] w fun e w' => e = .returned (.bool true) ∧ w' = w) := fun w => HI0.out w true (by rw [decide_eq_true hx.1, decide_eq_true hx.2]; rfl)
    have HALL : Hid (∀ i, i < nf → ∃ pu cu, FunsAt w nf kid i b o cl pu cu) := hall
    obtain ⟨pu0, cu0, hF0⟩ := hall 0 (by omega)
    have c0 := hF0.fr 0 (by omega)
    simp only [Nat.zero_mul, Nat.add_zero] at c0
    have hnf := hF0.ln.2
    have hn0 : (0 : Int) < nf := by omega
    unfold maxLen at hnf
    clear HI0 hv hall hF0
    by_cases h0 : (kid 0).fr = 0
    · have HFR0 : Hid ((kid 0).fr = 0) := h0
      rw [h0] at c0
      clear h0
      go_enter Tryd.func19, Tryd.ntmps19
      go_wp2_with (go_at_call 32; refine (HI.out _).mono ?_; rintro e w1 ⟨rfl, hw1⟩; obtain rfl : w = w1 := hw1.symm)
      go_loopw [3] (fun x wr => ∃ k : Nat, x = .int .i64 k ∧ k ≤ nf ∧ (∀ j, j < k → belB (kid j).fr 21 = true ∧ PlacesP nf kid j) ∧ Below w.heap.size w wr) (fun x _ => nf - (intOf x).toNat)
      case atStart => exact ⟨0, rfl, Nat.zero_le _, fun j hj => absurd hj (Nat.not_lt_zero _), Below.refl _ _⟩
      case round =>
        obtain ⟨k, rfl, hk, hdone, hbel⟩ := hrel
        have HBL : Hid (Below w.heap.size w wr) := hbel
        have HDN : Hid (∀ j, j < k → belB (kid j).fr 21 = true ∧ PlacesP nf kid j) := hdone
        clear hbel hdone c0 HI
        by_cases hlt : (k : Int) < nf
        · have hlt' : k < nf := by omega
          obtain ⟨pu, cu, hF⟩ := HALL.out k hlt'
          have HF : Hid (FunsAt wr nf kid k b o cl pu cu) := hF.below HBL.out
          have f0 := HF.out.fr k hlt'
          have f1 := HF.out.sl
          have hln := hF.ln.1
          unfold maxLen at hln
          clear hF
          have HI1 : Hid (∀ w B, B = belB (kid k).fr 21 → Calls Tryd.prog 32 #[.int .i64 (kid k).fr, .int .i64 0, .int .i64 20] w fun e w' => e = .returned (.bool B) ∧ w' = w) := fun w B hB => spec_in13 _ _ _ _ (hB.trans (in_bel _ 21).symm) w
          have HI2 : Hid (∀ w B, B = (decide (1 ≤ (kid k).len) && decide ((kid k).len ≤ 3000)) → Calls Tryd.prog 32 #[.int .i64 ((kid k).len : Int), .int .i64 1, .int .i64 3000] w fun e w' => e = .returned (.bool B) ∧ w' = w) := fun w B hB => spec_in13 _ _ _ _ (hB.trans (by congr 1 <;> exact decide_eq_decide.2 (by omega))) w
          have tok1 : True := trivial
          cases hb1 : belB (kid k).fr 21 with
          | false =>
            have HR2 : Hid (R = false) := bool_no HR.out (fun h => by have := (h.2.2 k hlt').1; rw [hb1] at this; cases this)
            have HA : Hid (∀ w, Calls Tryd.prog 32 #[.int .i64 (kid k).fr, .int .i64 0, .int .i64 20] w fun e w' => e = .returned (.bool false) ∧ w' = w) := fun w => HI1.out w false hb1.symm
            clear hb1 HI1 HI2 tok1
            go_wp2_with (go_at_call 32; refine (HA.out _).mono ?_; rintro e w1 ⟨rfl, rfl⟩)
            go_ret
            exact ⟨by rw [HR2.out]; rfl, HBL.out⟩
          | true =>
            have HFRK : Hid (belB (kid k).fr 21 = true) := hb1
            have HA : Hid (∀ w, Calls Tryd.prog 32 #[.int .i64 (kid k).fr, .int .i64 0, .int .i64 20] w fun e w' => e = .returned (.bool true) ∧ w' = w) := fun w => HI1.out w true hb1.symm
            clear hb1 HI1
            by_cases hx2 : 1 ≤ (kid k).len ∧ (kid k).len ≤ 3000
            · have HBB : Hid (∀ w, Calls Tryd.prog 32 #[.int .i64 ((kid k).len : Int), .int .i64 1, .int .i64 3000] w fun e w' => e = .returned (.bool true) ∧ w' = w) := fun w => HI2.out w true (by rw [decide_eq_true hx2.1, decide_eq_true hx2.2]; rfl)
              have HX2 : Hid (1 ≤ (kid k).len ∧ (kid k).len ≤ 3000) := hx2
              have hl1 := hx2.1
              have hl2 := hx2.2
              have HOP : Hid (∀ j, j < (kid k).len → ∃ g q, pu = some ⟨g, q, none⟩ ∧ HeadO wr g (q + j * 3) ((kid k).op j)) := HF.out.op
              have HSP : Hid (∀ c n m w1, Below wr.heap.size wr w1 → Calls Tryd.prog 33 #[.slice (some ⟨b, o, none⟩) nf cl, .int .i64 k, .agg #[.int .i64 c, .int .i64 n, .int .i64 m]] w1 fun e w' => e = .returned (.bool (opOkF nf kid k ⟨c, n, m⟩)) ∧ Below w1.heap.size w1 w') :=
                fun c n m w1 h1 => spec_op13 nf kid k hlt' HFRK.out c n m w1 _ (HV.out.below (HBL.out.trans (h1.mono HBL.out.size)))
              obtain ⟨wf, rfl⟩ : ∃ x, x = wr := ⟨_, rfl⟩
              clear HI2 hx2
              generalize hL : (kid k).len = L at *
              have HLL : Hid ((kid k).len = L) := hL
              clear hL
              go_wp2_with (go_at_call 32; first | (clear tok1; refine (HA.out _).mono ?_; rintro e w1 ⟨rfl, hw1⟩; obtain rfl : wf = w1 := hw1.symm) | (refine (HBB.out _).mono ?_; rintro e w1 ⟨rfl, hw1⟩; obtain rfl : wf = w1 := hw1.symm))
              go_loopw [5] (fun x wi => ∃ j : Nat, x = .int .i64 j ∧ j ≤ L ∧ (∀ q, q < j → opOkF nf kid k ((kid k).op q) = true) ∧ Below wf.heap.size wf wi) (fun x _ => L - (intOf x).toNat)
              case atStart => exact ⟨0, rfl, Nat.zero_le _, fun j hj => absurd hj (Nat.not_lt_zero _), Below.refl _ _⟩
              case round =>
                obtain ⟨j, rfl, hj, hops, hbi⟩ := hrel
                have HBI : Hid (Below wf.heap.size wf wr) := hbi
                have HOPS : Hid (∀ q, q < j → opOkF nf kid k ((kid k).op q) = true) := hops
                have HEND : Hid (Below w.heap.size w wr) := HBL.out.trans (hbi.mono HBL.out.size)
                clear hops hbi f0 f1
                have f1 := (HF.out.below HBI.out).sl
                rw [HLL.out] at f1
                by_cases hjl : (j : Int) < L
                · have hjl' : j < L := by omega
                  obtain ⟨g, q, hp, hh⟩ := HOP.out j hjl'
                  obtain ⟨d0, d1, d2⟩ := hh.below HBI.out
                  have HOK : Hid (Calls Tryd.prog 33 #[.slice (some ⟨b, o, none⟩) nf cl, .int .i64 k, .agg #[.int .i64 ((kid k).op j).c, .int .i64 ((kid k).op j).n, .int .i64 ((kid k).op j).m]] wr fun e w' => e = .returned (.bool (opOkF nf kid k ((kid k).op j))) ∧ Below wr.heap.size wr w') := HSP.out _ _ _ wr HBI.out
                  subst hp
                  clear hh HF HOP HSP
                  cases hok : opOkF nf kid k ((kid k).op j) with
                  | false =>
                    rw [hok] at HOK
                    have HR2 : Hid (R = false) := bool_no HR.out (fun h => by have := (h.2.2 k hlt').2.2.2 j (by rw [HLL.out]; exact hjl'); rw [hok] at this; cases this)
                    clear hok
                    go_wp2_with fail
                    refine HOK.out.mono ?_
                    rintro e w2 ⟨rfl, hb2⟩
                    have HE2 : Hid (Below w.heap.size w w2) := HEND.out.trans (hb2.mono HEND.out.size)
                    clear hb2
                    go_wp2_with fail
                    go_ret
                    exact ⟨by rw [HR2.out]; rfl, HE2.out⟩
                  | true =>
                    rw [hok] at HOK
                    have HOP2 : Hid (∀ q, q < j + 1 → opOkF nf kid k ((kid k).op q) = true) := fun q hq => by
                      rcases Nat.lt_or_ge q j with h | h
                      · exact HOPS.out q h
                      · obtain rfl : q = j := by omega
                        exact hok
                    clear hok
                    go_wp2_with fail
                    refine HOK.out.mono ?_
                    rintro e w2 ⟨rfl, hb2⟩
                    have HE2 : Hid (Below wf.heap.size wf w2) := HBI.out.trans (hb2.mono HBI.out.size)
                    clear hb2
                    go_wp2_with fail
                    go_roundw
                    case rel => exact ⟨j + 1, by go_num, by omega, HOP2.out, HE2.out⟩
                    case measure => simp [intOf]; omega
                · have hje : j = L := by omega
                  subst hje
                  obtain ⟨l, hl⟩ : ∃ l, j = l + 1 := ⟨j - 1, by omega⟩
                  subst hl
                  obtain ⟨g, q, hp, hh⟩ := HOP.out l (by omega)
                  obtain ⟨d0, -, -⟩ := hh.below HBI.out
                  subst hp
                  have HPL : Hid (PlacesP nf kid k ↔ endB ((kid k).op l).c = true) := by
                    show _ ↔ _
                    unfold PlacesP
                    rw [HLL.out]
                    exact ⟨fun h => h.2.1, fun h => ⟨HX2.out, h, HOPS.out⟩⟩
                  have HNX : Hid (endB ((kid k).op l).c = true → ∀ q, q < k + 1 → belB (kid q).fr 21 = true ∧ PlacesP nf kid q) := fun he q hq => by
                    rcases Nat.lt_or_ge q k with h | h
                    · exact HDN.out q h
                    · obtain rfl : q = k := by omega
                      exact ⟨HFRK.out, HPL.out.2 he⟩
                  have HNO : Hid (endB ((kid k).op l).c = false → R = false) := fun he => bool_no HR.out (fun h => by have := HPL.out.1 (h.2.2 k hlt').2; rw [he] at this; cases this)
                  have HEQ : Hid (endB ((kid k).op l).c = (((((kid k).op l).c == 7) || (((kid k).op l).c == 19)) || (((kid k).op l).c == 21))) := rfl
                  clear hh HF HOP HSP HPL HOPS HDN
                  generalize ((kid k).op l).c = c at *
                  cases e7 : (c == 7) with
                  | true =>
                    have g7 : (c != 7) = false := by rw [bne, e7]; rfl
                    have HN := HNX.out (by rw [HEQ.out, e7]; rfl)
                    have HN2 : Hid (∀ q, q < k + 1 → belB (kid q).fr 21 = true ∧ PlacesP nf kid q) := HN
                    clear HN
                    go_wp2_with fail
                    go_roundw
                    case rel => exact ⟨k + 1, by go_num, by omega, HN2.out, HEND.out⟩
                    case measure => simp [intOf]; omega
                  | false =>
                    have g7 : (c != 7) = true := by rw [bne, e7]; rfl
                    cases e19 : (c == 19) with
                    | true =>
                      have g19 : (c != 19) = false := by rw [bne, e19]; rfl
                      have HN := HNX.out (by rw [HEQ.out, e7, e19]; rfl)
                      have HN2 : Hid (∀ q, q < k + 1 → belB (kid q).fr 21 = true ∧ PlacesP nf kid q) := HN
                      clear HN
                      go_wp2_with fail
                      go_roundw
                      case rel => exact ⟨k + 1, by go_num, by omega, HN2.out, HEND.out⟩
                      case measure => simp [intOf]; omega
                    | false =>
                      have g19 : (c != 19) = true := by rw [bne, e19]; rfl
                      cases e21 : (c == 21) with
                      | true =>
                        have g21 : (c != 21) = false := by rw [bne, e21]; rfl
                        have HN := HNX.out (by rw [HEQ.out, e7, e19, e21]; rfl)
                        have HN2 : Hid (∀ q, q < k + 1 → belB (kid q).fr 21 = true ∧ PlacesP nf kid q) := HN
                        clear HN
                        go_wp2_with fail
                        go_roundw
                        case rel => exact ⟨k + 1, by go_num, by omega, HN2.out, HEND.out⟩
                        case measure => simp [intOf]; omega
                      | false =>
                        have g21 : (c != 21) = true := by rw [bne, e21]; rfl
                        have HR2 : Hid (R = false) := HNO.out (by rw [HEQ.out, e7, e19, e21]; rfl)
                        go_wp2_with fail
                        go_ret
                        exact ⟨by rw [HR2.out]; rfl, HEND.out⟩
            · have HBB : Hid (∀ w, Calls Tryd.prog 32 #[.int .i64 ((kid k).len : Int), .int .i64 1, .int .i64 3000] w fun e w' => e = .returned (.bool false) ∧ w' = w) := fun w => HI2.out w false (by
                symm
                rw [Bool.and_eq_false_iff, decide_eq_false_iff_not, decide_eq_false_iff_not]
                omega)
              have HR2 : Hid (R = false) := bool_no HR.out (fun h => hx2 (h.2.2 k hlt').2.1)
              clear HI2 hx2
              go_wp2_with (go_at_call 32; first | (clear tok1; refine (HA.out _).mono ?_; rintro e w1 ⟨rfl, rfl⟩) | (refine (HBB.out _).mono ?_; rintro e w1 ⟨rfl, rfl⟩))
              go_ret
              exact ⟨by rw [HR2.out]; rfl, HBL.out⟩
        · have hke : k = nf := by omega
          subst hke
          have HR2 : Hid (R = true) := bool_yes HR.out ⟨hx, HFR0.out, HDN.out⟩
          go_wp2_with fail
          go_ret
          exact ⟨by rw [HR2.out]; rfl, HBL.out⟩
    · have HR2 : Hid (R = false) := bool_no HR.out (fun h => h0 h.2.1)
      have g0 : ((kid 0).fr != 0) = true := by simpa using h0
      clear h0
      generalize (kid 0).fr = F at *
      go_enter Tryd.func19, Tryd.ntmps19
      go_wp2_with (go_at_call 32; refine (HI.out _).mono ?_; rintro e w1 ⟨rfl, rfl⟩)
      go_ret
      exact ⟨by rw [HR2.out]; rfl, Below.refl _ _⟩
  · obtain ⟨p, cap, e, hm, -⟩ := hv.at
    subst e
    unfold maxLen at hm
    have HR2 : Hid (R = false) := bool_no HR.out (fun h => hx h.1)
    have HI : Hid (∀ w, Calls Tryd.prog 32 #[.int .i64 nf, .int .i64 1, .int .i64 60] w fun e w' => e = .returned (.bool false) ∧ w' = w) := fun w => HI0.out w false (by
      symm
      rw [Bool.and_eq_false_iff, decide_eq_false_iff_not, decide_eq_false_iff_not]
      omega)
    clear HI0 hx
    go_enter Tryd.func19, Tryd.ntmps19
    go_wp2_with (go_at_call 32; refine (HI.out _).mono ?_; rintro e w1 ⟨rfl, rfl⟩)
    go_ret
    exact ⟨by rw [HR2.out]; rfl, Below.refl _ _⟩
end Go.Proofs.YtocdpgogoadfnaaDoor
