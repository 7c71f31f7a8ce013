/- spec.l5Sets and spec.StxOk. Condition: at most 2^20 of it. -/
import Derived.Test.YtaflnjhknnnaoaaZG25SpecDats
import Derived.Test.YtaflnjhknnnaoaaZG30IntsRead
import Derived.Test.YtaflnjhknnnaoaaZG6PatP
import Derived.Test.YtaflnjhknnnaoaaZG24SpecDeep
namespace Go.Proofs.Ytaflnjhknnnaoaa
open Go.ChangeShapes Go.WideShapes Go.ChangeAt Go.RowKit

theorem one_slice {W : World} {g : Nat} {t : D} {v : Value} (h : Five W g t.op t.at_ t.n t.s v 58) (hin : t.In W v) : Sl W 1 (fun _ => t) (.slice (some ⟨g, 0, none⟩) 1 1) := by
  refine .inr ⟨g, 0, 1, fun _ => v, rfl, Nat.zero_le _, Nat.le_refl _, by unfold maxLen; omega, fun i hi => ⟨?_, hin⟩⟩
  obtain rfl : i = 0 := by omega
  obtain ⟨h0, h1, h2, h3, h4⟩ := h.cells
  exact ⟨h0, h1, h2, h3, h4⟩

def SetsAt (t : X) : Prop := ∀ (w : World) (sv v : Value), t.At 0 w sv v → t.weight ≤ 1048576 → Calls Try.prog 34 #[.agg #[.int .i64 t.op, .int .i64 t.at_, .int .i64 t.n, .string t.s, sv, v]] w fun e w' => e = .returned (.bool t.setsB) ∧ Below w.heap.size w w'

set_option maxRecDepth 100000 in
set_option maxHeartbeats 4000000 in
theorem spec_sets (t : X) : SetsAt t := by
  induction t with
  | no => intro w sv v h; exact h.elim
  | mk op a n s set len kid ih =>
    intro w sv v hin hwt
    have hsl : XsAt 0 w len kid v := hin.xs
    have hss : SetB 0 w sv set := hin.sets
    obtain ⟨p, cap, rfl, -, hat⟩ := hsl.at
    obtain ⟨ps, cps, hsv⟩ := hss.shape
    subst hsv
    have hwe : (X.mk op a n s set len kid).weight = s.size + (set.length + (len + sumX (fun i => (kid i).weight) len)) := rfl
    have hlen : len ≤ 1048576 := by omega
    have IH : Hid (∀ i, i < len → ∀ (w : World) (sv v : Value), (kid i).At 0 w sv v → Calls Try.prog 34 #[.agg #[.int .i64 (kid i).op, .int .i64 (kid i).at_, .int .i64 (kid i).n, .string (kid i).s, sv, v]] w fun e w' => e = .returned (.bool (kid i).setsB) ∧ Below w.heap.size w w') := fun i hi w sv v h => ih i w sv v h (by
        have h1 := sumX_at (fun i => (kid i).weight) i len hi
        omega)
    have HAT : Hid (∀ i, i < len → ∃ b o su u, p = some ⟨b, o, none⟩ ∧ Head6 w b (o + i * 6) (kid i) su u ∧ (kid i).At 0 w su u) := hat
    have HSO : Hid (∀ w1, Below w.heap.size w w1 → Calls Try.prog 42 #[.slice ps set.length cps] w1 fun e w' => e = .returned (.bool (setB set)) ∧ Below w1.heap.size w1 w') := fun w1 hb => spec_setok set _ w1 (hss.rd.below hb) (by omega)
    obtain ⟨RR, hRR⟩ : ∃ RR, RR = (X.mk op a n s set len kid).setsB := ⟨_, rfl⟩
    have HRR : Hid (RR = (allX (fun i => (kid i).setsB) len && ((decide (op = 2) && setB set) || decide (set.length = 0)))) := hRR
    rw [← hRR]
    simp only [X.op, X.at_, X.n, X.s]
    have HA0 : Hid (Six (w.alloc (.cells #[.int .i64 op, .int .i64 a, .int .i64 n, .string s, .slice ps set.length cps, .slice p len cap] 35)) w.heap.size op a n s (.slice ps set.length cps) (.slice p len cap) 35 ∧ Below w.heap.size w (w.alloc (.cells #[.int .i64 op, .int .i64 a, .int .i64 n, .string s, .slice ps set.length cps, .slice p len cap] 35))) := ⟨heap_alloc_new w _, newx w _⟩
    clear hin hsl ih hat hwe hwt hss hRR
    go_enter Try.func34, Try.ntmps34
    go_wp2_with fail
    go_loopw [3] (fun v3 wr => ∃ k : Nat, v3 = .int .i64 k ∧ k ≤ len ∧ allX (fun i => (kid i).setsB) k = true ∧ Six wr w.heap.size op a n s (.slice ps set.length cps) (.slice p len cap) 35 ∧ Below w.heap.size w wr) (fun v3 _ => len - (intOf v3).toNat)
    case atStart => exact ⟨0, rfl, Nat.zero_le _, rfl, HA0.out.1, HA0.out.2⟩
    case round =>
      obtain ⟨k, rfl, hk, hall, h6, hbel⟩ := hrel
      have HALL : Hid (allX (fun i => (kid i).setsB) k = true) := hall
      have H6 : Hid (Six wr w.heap.size op a n s (.slice ps set.length cps) (.slice p len cap) 35 ∧ Below w.heap.size w wr) := ⟨h6, hbel⟩
      obtain ⟨q0, q1, q2, q3, q4, q5⟩ := h6.cells
      clear hall h6 hbel HA0
      by_cases hkl : (k : Int) < len
      · obtain ⟨b, o, ux, u, hp, hd, hinu⟩ := HAT.out k (by omega)
        subst hp
        obtain ⟨c0, c1, c2, c3, c4, c5⟩ := hd.below H6.out.2
        have HIN : Hid ((kid k).At 0 wr ux u) := X.At.below H6.out.2 hinu
        have hkl' : k < len := by omega
        clear hd hinu
        go_wp2_with fail
        refine (IH.out k hkl' wr ux u HIN.out).mono ?_
        rintro e w1 ⟨rfl, hb1⟩
        have H7 : Hid (Six w1 w.heap.size op a n s (.slice ps set.length cps) (.slice (some ⟨b, o, none⟩) len cap) 35 ∧ Below w.heap.size w w1) := ⟨H6.out.1.below hb1, H6.out.2.trans (hb1.mono H6.out.2.size)⟩
        clear hb1 q0 q1 q2 q3 q4 q5 c0 c1 c2 c3 c4 c5
        cases hsb : (kid k).setsB with
        | true =>
          have HN : Hid (allX (fun i => (kid i).setsB) (k + 1) = true) := by
            show (allX (fun i => (kid i).setsB) k && (kid k).setsB) = true
            rw [HALL.out, hsb]; rfl
          clear hsb
          go_wp2_with fail
          go_roundw
          case rel => exact ⟨k + 1, by go_num, by omega, HN.out, H7.out.1, H7.out.2⟩
          case measure => simp [intOf]; omega
        | false =>
          have HN : Hid (RR = false) := by
            show RR = false
            rw [HRR.out, allX_false hkl' hsb]; rfl
          clear hsb
          go_wp2_with fail
          go_ret
          exact ⟨by rw [HN.out]; rfl, H7.out.2⟩
      · obtain rfl : k = len := by omega
        have HR2 : Hid (RR = ((decide (op = 2) && setB set) || decide (set.length = 0))) := by
          show RR = _
          rw [HRR.out, HALL.out, Bool.true_and]
        by_cases h2 : op = 2
        · subst h2
          go_wp2_with fail
          refine (HSO.out _ H6.out.2).mono ?_
          rintro e w1 ⟨rfl, hb1⟩
          have H7 : Hid (Below w.heap.size w w1) := H6.out.2.trans (hb1.mono H6.out.2.size)
          have h7 := H6.out.1.below hb1
          clear hb1 q0 q1 q2 q3 q4 q5
          obtain ⟨q0, q1, q2, q3, q4, q5⟩ := h7.cells
          clear h7
          cases hst : setB set with
          | true =>
            have HN : Hid (RR = true) := by show RR = true; rw [HR2.out, hst]; rfl
            go_wp2_with fail
            go_ret
            exact ⟨by rw [HN.out]; rfl, H7.out⟩
          | false =>
            by_cases hz : ((set.length : Int) == 0) = true
            · have HN : Hid (RR = true) := by
                have : set.length = 0 := by simpa using hz
                show RR = true; rw [HR2.out, hst, decide_eq_true this]; rfl
              go_wp2_with fail
              go_ret
              exact ⟨by rw [HN.out]; rfl, H7.out⟩
            · have hz' : ((set.length : Int) == 0) = false := by simpa using hz
              have HN : Hid (RR = false) := by
                have : ¬ set.length = 0 := by intro h; rw [h] at hz'; simp at hz'
                show RR = false; rw [HR2.out, hst, decide_eq_false this]; rfl
              go_wp2_with fail
              go_ret
              exact ⟨by rw [HN.out]; rfl, H7.out⟩
        · have d2 : (op == 2) = false := by simpa using h2
          by_cases hz : ((set.length : Int) == 0) = true
          · have HN : Hid (RR = true) := by
              have : set.length = 0 := by simpa using hz
              show RR = true; rw [HR2.out, decide_eq_true this, Bool.or_true]
            clear h2
            go_wp2_with fail
            go_ret
            exact ⟨by rw [HN.out]; rfl, H6.out.2⟩
          · have hz' : ((set.length : Int) == 0) = false := by simpa using hz
            have HN : Hid (RR = false) := by
              have : ¬ set.length = 0 := by intro h; rw [h] at hz'; simp at hz'
              show RR = false; rw [HR2.out, decide_eq_false h2, decide_eq_false this]; rfl
            clear h2
            go_wp2_with fail
            go_ret
            exact ⟨by rw [HN.out]; rfl, H6.out.2⟩

set_option maxRecDepth 100000 in
set_option maxHeartbeats 2000000 in
theorem spec_stx_ok (t : X) (w : World) (sv v : Value) (hin : t.At 0 w sv v) (hwt : t.weight ≤ 1048576) :
    Calls Try.prog 24 #[.agg #[.int .i64 t.op, .int .i64 t.at_, .int .i64 t.n, .string t.s, sv, v]] w fun e w' => e = .returned (.bool (stxOkB t)) ∧ Below w.heap.size w w' := by
  obtain ⟨p, cap, hv⟩ := hin.xs.shape
  obtain ⟨ps, cps, hsv⟩ := hin.sets.shape
  subst hv hsv
  have HIN : Hid (∀ w1, Below w.heap.size w w1 → t.At 0 w1 (.slice ps t.set.length cps) (.slice p t.len cap)) := fun w1 hb => X.At.below hb hin
  have HWT : Hid (t.weight ≤ 1048576) := hwt
  have HB0 : Hid (∀ o, Below w.heap.size w (w.alloc o)) := fun o => newx w o
  have hcn : (datX t).count ≤ 1099511627776 := by rw [datX_count]; have := t.count_weight; omega
  have HCN : Hid (sumTo (fun i => ((fun _ => datX t) i).count) 1 ≤ 1099511627776) := by show sumTo (fun _ => (datX t).count) 1 ≤ _; simp only [sumTo]; omega
  obtain ⟨RR, hRR⟩ : ∃ RR, RR = stxOkB t := ⟨_, rfl⟩
  have HRR : Hid (RR = (t.setsB && datsB 1 (fun _ => datX t))) := hRR
  rw [← hRR]
  clear hin hwt hRR hcn
  go_enter Try.func24, Try.ntmps24
  go_wp2_with fail
  refine (spec_sets t _ _ _ (HIN.out _ (HB0.out _)) HWT.out).mono ?_
  rintro e w1 ⟨rfl, hb1⟩
  have h6 : Six w1 w.heap.size t.op t.at_ t.n t.s (.slice ps t.set.length cps) (.slice p t.len cap) 35 := (hb1.block _ (by simp)).trans (heap_alloc_new w _)
  have HB1 : Hid (Below w.heap.size w w1) := (HB0.out _).trans (hb1.mono (by simp))
  obtain ⟨q0, q1, q2, q3, q4, q5⟩ := h6.cells
  clear hb1 h6
  cases hsb : t.setsB with
  | false =>
    have HN : Hid (RR = false) := by show RR = false; rw [HRR.out, hsb]; rfl
    go_wp2_with fail
    go_ret
    exact ⟨by rw [HN.out]; rfl, HB1.out⟩
  | true =>
    have HN : Hid (RR = datsB 1 (fun _ => datX t)) := by show RR = _; rw [HRR.out, hsb]; rfl
    go_wp2_with fail
    refine (spec_dat_of t w1 _ _ (HIN.out _ HB1.out) HWT.out).mono ?_
    rintro e w2 ⟨u, S, rfl, hb2, ho2, -, -⟩
    obtain ⟨pu, cu, hu⟩ := ho2.sown.sl.shape
    subst hu
    have hf := datX_parts t
    have hnb := newx w2 (.cells #[.int .i64 t.op, .int .i64 t.at_, .int .i64 t.n, .string t.s, .slice pu (datX t).len cu] 58)
    have HB2 : Hid (Below w.heap.size w (w2.alloc (.cells #[.int .i64 t.op, .int .i64 t.at_, .int .i64 t.n, .string t.s, .slice pu (datX t).len cu] 58))) := (HB1.out.trans (hb2.mono HB1.out.size)).trans (hnb.mono (by have := HB1.out.size; have := hb2.size; omega))
    have hrow : Five (w2.alloc (.cells #[.int .i64 t.op, .int .i64 t.at_, .int .i64 t.n, .string t.s, .slice pu (datX t).len cu] 58)) w2.heap.size (datX t).op (datX t).at_ (datX t).n (datX t).s (.slice pu (datX t).len cu) 58 := by
      rw [hf.1, hf.2.1, hf.2.2.1, hf.2.2.2.1]; exact heap_alloc_new w2 _
    have HSL : Hid (Sl (w2.alloc (.cells #[.int .i64 t.op, .int .i64 t.at_, .int .i64 t.n, .string t.s, .slice pu (datX t).len cu] 58)) 1 (fun _ => datX t) (.slice (some ⟨w2.heap.size, 0, none⟩) 1 1)) := one_slice hrow ((ho2.in' _).below hnb)
    clear hb2 ho2 hnb hrow hf q0 q1 q2 q3 q4 q5
    go_wp2_with fail
    refine (spec_dats 1 (fun _ => datX t) _ _ HSL.out HCN.out).mono ?_
    rintro e w3 ⟨rfl, hb3⟩
    have HB3 : Hid (Below w.heap.size w w3) := HB2.out.trans (hb3.mono HB2.out.size)
    clear hb3
    rw [← HN.out]
    go_wp2_with fail
    go_ret
    exact ⟨rfl, HB3.out⟩
end Go.Proofs.Ytaflnjhknnnaoaa

/- spec.l7Places, spec.Names and spec.PatternOk at every node. Condition: at most 2^20 of it. -/
namespace Go.Proofs.Ytaflnjhknnnaoaa
open Go.ChangeShapes Go.WideShapes Go.ChangeAt Go.RowKit

def PlacesAt (t : X) : Prop := ∀ (w : World) (su u : Value), t.At 0 w su u → t.weight ≤ 1048576 → Calls Try.prog 26 #[.agg #[.int .i64 t.op, .int .i64 t.at_, .int .i64 t.n, .string t.s, su, u]] w fun e w' => e = .returned (.bool (placesX t)) ∧ Below w.heap.size w w'

set_option maxRecDepth 100000 in
set_option maxHeartbeats 4000000 in
theorem spec_places (t : X) : PlacesAt t := by
  induction t with
  | no => intro w su u h; exact h.elim
  | mk op a n s set len kid ih =>
    intro w su u hin hwt
    obtain ⟨p, cap, e1, hl2, hat⟩ := hin.xs.at
    obtain ⟨qs, cs, e2⟩ := hin.sets.shape
    simp only [X.op, X.at_, X.n, X.s, X.len, X.set, X.kid] at e1 e2 hat hl2 ⊢
    have hwe : (X.mk op a n s set len kid).weight = s.size + (set.length + (len + sumX (fun i => (kid i).weight) len)) := rfl
    have hlen : len ≤ 1048576 := by omega
    have HAT : Hid (∀ i, i < len → ∃ b o sv u, p = some ⟨b, o, none⟩ ∧ Head6 w b (o + i * 6) (kid i) sv u ∧ (kid i).At 0 w sv u) := hat
    have IH : Hid (∀ i, i < len → ∀ (w : World) (su u : Value), (kid i).At 0 w su u → Calls Try.prog 26 #[.agg #[.int .i64 (kid i).op, .int .i64 (kid i).at_, .int .i64 (kid i).n, .string (kid i).s, su, u]] w fun e w' => e = .returned (.bool (placesX (kid i))) ∧ Below w.heap.size w w') := fun i hi w su u h => ih i w su u h (by
      have h1 := sumX_at (fun i => (kid i).weight) i len hi
      omega)
    subst e1 e2
    obtain ⟨res, hres⟩ : ∃ r, r = placesX (.mk op a n s set len kid) := ⟨_, rfl⟩
    rw [← hres]
    have HRES : Hid (res = allX (fun i => kidPlace len kid i && placesX (kid i)) len) := by show _ = _; rw [hres, placesX_mk]
    obtain ⟨W, hW⟩ : ∃ W, W = w.alloc (.cells #[.int .i64 op, .int .i64 a, .int .i64 n, .string s, .slice qs set.length cs, .slice p len cap] 35) := ⟨_, rfl⟩
    obtain ⟨C, hC⟩ : ∃ C, C = w.heap.size := ⟨_, rfl⟩
    have KW : Hid (∀ wx, Below W.heap.size W wx → Below w.heap.size w wx ∧ Six wx C op a n s (.slice qs set.length cs) (.slice p len cap) 35) := by
      have nb : Below w.heap.size w W := by rw [hW]; exact newx w _
      have h6 : Six W C op a n s (.slice qs set.length cs) (.slice p len cap) 35 := by rw [hW, hC]; exact heap_alloc_new w _
      exact fun wx hx => ⟨nb.trans (hx.mono nb.size), h6.below hx⟩
    clear hin ih hat hres hwt hwe
    generalize set.length = sl at *
    obtain ⟨x0, x1, x2, x3, x4, x5⟩ := (KW.out W (Below.refl _ _)).2.cells
    go_enter Try.func26, Try.ntmps26
    go_wp2_with fail
    rw [← hW, ← hC]
    clear hW hC x0 x1 x2 x3 x4 x5
    go_loopw [4] (fun i wr => ∃ k : Nat, i = .int .i64 k ∧ k ≤ len ∧ (∀ j, j < k → (kidPlace len kid j && placesX (kid j)) = true) ∧ Below W.heap.size W wr) (fun i _ => len - (intOf i).toNat)
    case atStart => exact ⟨0, rfl, Nat.zero_le _, fun j hj => absurd hj (Nat.not_lt_zero _), Below.refl _ _⟩
    case round =>
      obtain ⟨k, rfl, hk, hall, hbel⟩ := hrel
      have HB : Hid (Below W.heap.size W wr) := hbel
      have HALL : Hid (∀ j, j < k → (kidPlace len kid j && placesX (kid j)) = true) := hall
      clear hbel hall
      obtain ⟨x0, x1, x2, x3, x4, x5⟩ := (KW.out wr HB.out).2.cells
      by_cases hlt : (k : Int) < len
      · have hk' : k < len := by omega
        obtain ⟨b, o, sk, uk, hp, hd, hink⟩ := HAT.out k hk'
        subst hp
        have HKID : Hid (∀ wx, Below W.heap.size W wx → Head6 wx b (o + k * 6) (kid k) sk uk ∧ (kid k).At 0 wx sk uk) := fun wx hx => ⟨hd.below (KW.out wx hx).1, hink.below (KW.out wx hx).1⟩
        have HBAD : Hid ((kidPlace len kid k && placesX (kid k)) = false → res = false) := fun h => by rw [HRES.out]; exact allX_false hk' h
        have HGO : Hid ((kidPlace len kid k && placesX (kid k)) = true → ∀ j, j < k + 1 → (kidPlace len kid j && placesX (kid j)) = true) := fun h j hj => by
          by_cases hjk : j = k
          · subst hjk; exact h
          · exact HALL.out j (by omega)
        have HKP : Hid (kidPlace len kid k = !(dotsX (kid k) && (!(decide (k + 1 = len)) || (decide (k = 0) || dotsX (kid (k - 1)))))) := rfl
        obtain ⟨c0, c1, c2, c3, c4, c5⟩ := (HKID.out wr HB.out).1
        clear hd hink
        go_wp2_with fail
        refine (spec_dots (kid k) sk uk wr).mono ?_
        rintro e w1 ⟨rfl, hb1⟩
        have HB1 : Hid (Below W.heap.size W w1) := HB.out.trans (hb1.mono HB.out.size)
        clear hb1 c0 c1 c2 c3 c4 c5 x0 x1 x2 x3 x4 x5 HB
        obtain ⟨x0, x1, x2, x3, x4, x5⟩ := (KW.out w1 HB1.out).2.cells
        obtain ⟨c0, c1, c2, c3, c4, c5⟩ := (HKID.out w1 HB1.out).1
        cases hdk : dotsX (kid k)
        · have HM : Hid (kidPlace len kid k = true) := by show _ = _; rw [HKP.out, hdk]; rfl
          have HBV : Hid (Below W.heap.size W w1) := HB1.out
          go_wp2_with fail
          refine (IH.out k hk' _ sk uk (HKID.out _ HBV.out).2).mono ?_
          rintro e w5 ⟨rfl, hb5⟩
          have HB5 : Hid (Below W.heap.size W w5) := HBV.out.trans (hb5.mono HBV.out.size)
          clear hb5
          cases hpl : placesX (kid k)
          · have HE : Hid (res = false) := HBAD.out (by rw [HM.out, hpl]; rfl)
            go_wp2_with fail
            go_ret
            exact ⟨by rw [HE.out]; rfl, (KW.out w5 HB5.out).1⟩
          · have HE : Hid (∀ j, j < k + 1 → (kidPlace len kid j && placesX (kid j)) = true) := HGO.out (by rw [HM.out, hpl]; rfl)
            go_wp2_with fail
            go_roundw
            case rel => first | exact ⟨k + 1, by go_num, by omega, HE.out, HB5.out⟩ | ((repeat apply Exists.intro); exact ⟨⟨k + 1, by go_num, by omega, HE.out, HB5.out⟩, rfl⟩)
            case measure => simp [intOf]; omega
        · by_cases hle : k + 1 = len
          · have t1 : ((k : Int) == (len : Int) - 1) = true := by rw [beq_iff_eq]; omega
            have t1' : ((k : Int) != (len : Int) - 1) = false := by simp only [bne, t1]; rfl
            by_cases hk0 : k = 0
            · have HM : Hid (kidPlace len kid k = false) := by show _ = _; rw [HKP.out, hdk, decide_eq_true hle, decide_eq_true hk0]; rfl
              have HBV : Hid (Below W.heap.size W w1) := HB1.out
              have t2 : ((k : Int) == 0) = true := by rw [beq_iff_eq]; omega
              have HE : Hid (res = false) := HBAD.out (by rw [HM.out]; rfl)
              go_wp2_with fail
              go_ret
              exact ⟨by rw [HE.out]; rfl, (KW.out _ HBV.out).1⟩
            · obtain ⟨j, hj⟩ : ∃ j, k = j + 1 := ⟨k - 1, by omega⟩
              have t2 : ((k : Int) == 0) = false := by rw [beq_eq_false_iff_ne]; omega
              obtain ⟨b', o', sj, uj, hp', hdj, hinj⟩ := HAT.out j (by omega)
              simp only [Option.some.injEq, Addr.mk.injEq, and_true] at hp'
              obtain ⟨rfl, rfl⟩ := hp'
              have HJ : Hid (∀ wx, Below W.heap.size W wx → Head6 wx b (o + j * 6) (kid j) sj uj) := fun wx hx => hdj.below (KW.out wx hx).1
              obtain ⟨f0, f1, f2, f3, f4, f5⟩ := HJ.out w1 HB1.out
              have HKJ : Hid (kid (k - 1) = kid j) := by show _ = _; rw [hj]; rfl
              have HMJ : Hid (∀ q, dotsX (kid j) = q → kidPlace len kid k = !q) := fun q h => by rw [HKP.out, hdk, decide_eq_true hle, decide_eq_false hk0, HKJ.out, h]; cases q <;> rfl
              clear hdj hinj HKJ HKP t1 t1' t2 hk0 hlt
              subst hj
              subst hle
              go_wp2_with fail
              refine (spec_dots (kid j) sj uj w1).mono ?_
              rintro e w2 ⟨rfl, hb2⟩
              have HBV : Hid (Below W.heap.size W w2) := HB1.out.trans (hb2.mono HB1.out.size)
              clear hb2 c0 c1 c2 c3 c4 c5 x0 x1 x2 x3 x4 x5 f0 f1 f2 f3 f4 f5
              obtain ⟨x0, x1, x2, x3, x4, x5⟩ := (KW.out w2 HBV.out).2.cells
              obtain ⟨c0, c1, c2, c3, c4, c5⟩ := (HKID.out w2 HBV.out).1
              cases hdj : dotsX (kid j)
              · have HM : Hid (kidPlace (j + 1 + 1) kid (j + 1) = true) := HMJ.out _ hdj
                go_wp2_with fail
                refine (IH.out (j + 1) hk' _ sk uk (HKID.out _ HBV.out).2).mono ?_
                rintro e w5 ⟨rfl, hb5⟩
                have HB5 : Hid (Below W.heap.size W w5) := HBV.out.trans (hb5.mono HBV.out.size)
                clear hb5
                cases hpl : placesX (kid (j + 1))
                · have HE : Hid (res = false) := HBAD.out (by rw [HM.out, hpl]; rfl)
                  go_wp2_with fail
                  go_ret
                  exact ⟨by rw [HE.out]; rfl, (KW.out w5 HB5.out).1⟩
                · have HE : Hid (∀ i, i < j + 1 + 1 → (kidPlace (j + 1 + 1) kid i && placesX (kid i)) = true) := HGO.out (by rw [HM.out, hpl]; rfl)
                  go_wp2_with fail
                  go_roundw
                  case rel => first | exact ⟨j + 1 + 1, by go_num, by omega, HE.out, HB5.out⟩ | ((repeat apply Exists.intro); exact ⟨⟨j + 1 + 1, by go_num, by omega, HE.out, HB5.out⟩, rfl⟩)
                  case measure => simp [intOf]; omega
              · have HM : Hid (kidPlace (j + 1 + 1) kid (j + 1) = false) := HMJ.out _ hdj
                have HE : Hid (res = false) := HBAD.out (by rw [HM.out]; rfl)
                go_wp2_with fail
                go_ret
                exact ⟨by rw [HE.out]; rfl, (KW.out _ HBV.out).1⟩
          · have HM : Hid (kidPlace len kid k = false) := by show _ = _; rw [HKP.out, hdk, decide_eq_false hle]; rfl
            have HBV : Hid (Below W.heap.size W w1) := HB1.out
            have t1 : ((k : Int) == (len : Int) - 1) = false := by rw [beq_eq_false_iff_ne]; omega
            have t1' : ((k : Int) != (len : Int) - 1) = true := by simp only [bne, t1]; rfl
            have HE : Hid (res = false) := HBAD.out (by rw [HM.out]; rfl)
            go_wp2_with fail
            go_ret
            exact ⟨by rw [HE.out]; rfl, (KW.out _ HBV.out).1⟩
      · have hke : k = len := by omega
        subst hke
        have HE : Hid (res = true) := by show _ = _; rw [HRES.out]; exact allX_true.2 HALL.out
        go_wp2_with fail
        go_ret
        exact ⟨by rw [HE.out]; rfl, (KW.out wr HB.out).1⟩

set_option maxRecDepth 100000 in
set_option maxHeartbeats 4000000 in
theorem spec_pattern_ok (t : X) (w : World) (su u : Value) (hin : t.At 0 w su u) (hwt : t.weight ≤ 1048576) :
    Calls Try.prog 11 #[.agg #[.int .i64 t.op, .int .i64 t.at_, .int .i64 t.n, .string t.s, su, u]] w fun e w' => e = .returned (.bool (patternB t)) ∧ Below w.heap.size w w' := by
  obtain ⟨p, cap, e1⟩ := hin.xs.shape
  obtain ⟨qs, cs, e2⟩ := hin.sets.shape
  subst e1 e2
  have hcw := t.count_weight
  obtain ⟨res, hres⟩ : ∃ r, r = patternB t := ⟨_, rfl⟩
  rw [← hres]
  have HRES : Hid (res = (stxOkB t && (!(namesX t ([], false)).2 && (!dotsX t && placesX t)))) := hres
  obtain ⟨W, hW⟩ : ∃ W, W = w.alloc (.cells #[.int .i64 t.op, .int .i64 t.at_, .int .i64 t.n, .string t.s, .slice qs t.set.length cs, .slice p t.len cap] 35) := ⟨_, rfl⟩
  obtain ⟨C, hC⟩ : ∃ C, C = w.heap.size := ⟨_, rfl⟩
  have nb : Below w.heap.size w W := by rw [hW]; exact newx w _
  have h6 : Six W C t.op t.at_ t.n t.s (.slice qs t.set.length cs) (.slice p t.len cap) 35 := by rw [hW, hC]; exact heap_alloc_new w _
  have hsz : W.heap.size = w.heap.size + 1 := by rw [hW]; simp
  have KW : Hid (∀ wx, Below W.heap.size W wx → Below w.heap.size w wx ∧ Six wx C t.op t.at_ t.n t.s (.slice qs t.set.length cs) (.slice p t.len cap) 35 ∧ t.At 0 wx (.slice qs t.set.length cs) (.slice p t.len cap)) := fun wx hx => ⟨nb.trans (hx.mono nb.size), h6.below hx, (hin.below nb).below hx⟩
  have HCL : Hid (Calls Try.prog 23 #[.agg #[.int .i64 t.op, .int .i64 t.at_, .int .i64 t.n, .string t.s, .slice qs t.set.length cs, .slice p t.len cap], .slice (some ⟨w.heap.size + 1, 0, none⟩) 0 0, .bool false] (W.alloc (.cells #[] 9)) fun e w' => ∃ v', e = .returned (.tuple #[v', .bool (namesX t ([], false)).2]) ∧ Below W.heap.size W w' ∧ OwnS w' W.heap.size v' (namesX t ([], false)).1 ∧ NonStr (W.alloc (.cells #[] 9)) w') := by
    rw [← hsz]
    exact spec_names t W _ _ _ _ [] false (hin.below nb) (newx W _) (World.ownsRow_lit W #[] 0 (Nat.le_refl _) (Nat.zero_le _) rfl) (by simp; omega)
  have HSO : Hid (∀ wx, Below W.heap.size W wx → Calls Try.prog 24 #[.agg #[.int .i64 t.op, .int .i64 t.at_, .int .i64 t.n, .string t.s, .slice qs t.set.length cs, .slice p t.len cap]] wx fun e w' => e = .returned (.bool (stxOkB t)) ∧ Below wx.heap.size wx w') := fun wx hx => spec_stx_ok t wx _ _ (KW.out wx hx).2.2 hwt
  have HPL : Hid (∀ wx, Below W.heap.size W wx → Calls Try.prog 26 #[.agg #[.int .i64 t.op, .int .i64 t.at_, .int .i64 t.n, .string t.s, .slice qs t.set.length cs, .slice p t.len cap]] wx fun e w' => e = .returned (.bool (placesX t)) ∧ Below wx.heap.size wx w') := fun wx hx => spec_places t wx _ _ (KW.out wx hx).2.2 hwt
  clear hin hwt nb hcw hres h6 hsz
  go_enter Try.func11, Try.ntmps11
  go_wp2_with fail
  rw [← hW]
  clear hW
  refine HCL.out.mono ?_
  rintro e w2 ⟨v', rfl, hb2, -, -⟩
  rw [← hC]
  clear hC HCL
  have H2 : Hid (Below W.heap.size W w2) := hb2
  clear hb2
  obtain ⟨x0, x1, x2, x3, x4, x5⟩ := (KW.out w2 H2.out).2.1.cells
  go_wp2_with fail
  refine (HSO.out w2 H2.out).mono ?_
  rintro e w3 ⟨rfl, hb3⟩
  have H3 : Hid (Below W.heap.size W w3) := H2.out.trans (hb3.mono H2.out.size)
  clear hb3 x0 x1 x2 x3 x4 x5 H2
  obtain ⟨x0, x1, x2, x3, x4, x5⟩ := (KW.out w3 H3.out).2.1.cells
  cases h1 : stxOkB t
  · have HE : Hid (res = false) := by show _ = _; rw [HRES.out, h1]; rfl
    go_wp2_with fail
    go_ret
    exact ⟨by rw [HE.out]; rfl, (KW.out w3 H3.out).1⟩
  cases h2 : (namesX t ([], false)).2
  case true =>
    have HE : Hid (res = false) := by show _ = _; rw [HRES.out, h1, h2]; rfl
    go_wp2_with fail
    go_ret
    exact ⟨by rw [HE.out]; rfl, (KW.out w3 H3.out).1⟩
  case false =>
  go_wp2_with fail
  refine (spec_dots t _ _ w3).mono ?_
  rintro e w4 ⟨rfl, hb4⟩
  have H4 : Hid (Below W.heap.size W w4) := H3.out.trans (hb4.mono H3.out.size)
  clear hb4 x0 x1 x2 x3 x4 x5 H3
  obtain ⟨x0, x1, x2, x3, x4, x5⟩ := (KW.out w4 H4.out).2.1.cells
  cases h3 : dotsX t
  case true =>
    have HE : Hid (res = false) := by show _ = _; rw [HRES.out, h1, h2, h3]; rfl
    go_wp2_with fail
    go_ret
    exact ⟨by rw [HE.out]; rfl, (KW.out w4 H4.out).1⟩
  case false =>
  have HE : Hid (res = placesX t) := by show _ = _; rw [HRES.out, h1, h2, h3]; simp
  go_wp2_with fail
  refine (HPL.out w4 H4.out).mono ?_
  rintro e w5 ⟨rfl, hb5⟩
  have H5 : Hid (Below W.heap.size W w5) := H4.out.trans (hb5.mono H4.out.size)
  clear hb5 x0 x1 x2 x3 x4 x5 H4
  go_wp2_with fail
  go_ret
  exact ⟨by rw [HE.out]; rfl, (KW.out w5 H5.out).1⟩
end Go.Proofs.Ytaflnjhknnnaoaa
