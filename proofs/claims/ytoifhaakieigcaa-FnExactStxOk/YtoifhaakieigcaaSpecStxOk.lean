/- spec.l5Sets and spec.StxOk. Condition: at most 2^20 of it. -/
import Derived.Test.YtoifhaakieigcaaSpecDats
import Derived.Test.YtoifhaakieigcaaSpecDatOf
import Derived.Test.YtoifhaakieigcaaStxOkP
import Derived.Test.YtoifhaakieigcaaIntsRead
namespace Go.Proofs.Ytoifhaakieigcaa
open Go.ChangeShapes Go.WideShapes Go.ChangeAt Go.RowKit

theorem one_slice {W : World} {g : Nat} {t : D} {v : Value} (h : Five W g t.op t.at_ t.n t.s v 33) (hin : t.In W v) : Sl W 1 (fun _ => t) (.slice (some ⟨g, 0, none⟩) 1 1) := by
  refine .inr ⟨g, 0, 1, fun _ => v, rfl, Nat.zero_le _, Nat.le_refl _, by unfold maxLen; omega, fun i hi => ⟨?_, hin⟩⟩
  obtain rfl : i = 0 := by omega
  obtain ⟨h0, h1, h2, h3, h4⟩ := h.cells
  exact ⟨h0, h1, h2, h3, h4⟩

def SetsAt (t : X) : Prop := ∀ (w : World) (sv v : Value), t.At 0 w sv v → t.weight ≤ 1048576 → Calls Try.prog 54 #[.agg #[.int .i64 t.op, .int .i64 t.at_, .int .i64 t.n, .string t.s, sv, v]] w fun e w' => e = .returned (.bool t.setsB) ∧ Below w.heap.size w w'

set_option maxRecDepth 100000 in
set_option maxHeartbeats 4000000 in
theorem spec_sets (t : X) : SetsAt t := by
  induction t with
  | no => intro w sv v h; exact h.elim
  | mk op a n s set len kid ih =>
    intro w sv v hin hwt
    have hsl : XsAt 0 w len kid v := hin.xs
    have hss : SetB 0 w sv set := hin.sets
    obtain ⟨p, cap, rfl, -, hat⟩ := hsl.at
    obtain ⟨ps, cps, hsv⟩ := hss.shape
    subst hsv
    have hwe : (X.mk op a n s set len kid).weight = s.size + (set.length + (len + sumX (fun i => (kid i).weight) len)) := rfl
    have hlen : len ≤ 1048576 := by omega
    have IH : Hid (∀ i, i < len → ∀ (w : World) (sv v : Value), (kid i).At 0 w sv v → Calls Try.prog 54 #[.agg #[.int .i64 (kid i).op, .int .i64 (kid i).at_, .int .i64 (kid i).n, .string (kid i).s, sv, v]] w fun e w' => e = .returned (.bool (kid i).setsB) ∧ Below w.heap.size w w') := fun i hi w sv v h => ih i w sv v h (by
        have h1 := sumX_at (fun i => (kid i).weight) i len hi
        omega)
    have HAT : Hid (∀ i, i < len → ∃ b o su u, p = some ⟨b, o, none⟩ ∧ Head6 w b (o + i * 6) (kid i) su u ∧ (kid i).At 0 w su u) := hat
    have HSO : Hid (∀ w1, Below w.heap.size w w1 → Calls Try.prog 69 #[.slice ps set.length cps] w1 fun e w' => e = .returned (.bool (setB set)) ∧ Below w1.heap.size w1 w') := fun w1 hb => spec_setok set _ w1 (hss.rd.below hb) (by omega)
    obtain ⟨RR, hRR⟩ : ∃ RR, RR = (X.mk op a n s set len kid).setsB := ⟨_, rfl⟩
    have HRR : Hid (RR = (allX (fun i => (kid i).setsB) len && ((decide (op = 2) && setB set) || decide (set.length = 0)))) := hRR
    rw [← hRR]
    simp only [X.op, X.at_, X.n, X.s]
    have HA0 : Hid (Six (w.alloc (.cells #[.int .i64 op, .int .i64 a, .int .i64 n, .string s, .slice ps set.length cps, .slice p len cap] 29)) w.heap.size op a n s (.slice ps set.length cps) (.slice p len cap) 29 ∧ Below w.heap.size w (w.alloc (.cells #[.int .i64 op, .int .i64 a, .int .i64 n, .string s, .slice ps set.length cps, .slice p len cap] 29))) := ⟨heap_alloc_new w _, newx w _⟩
    clear hin hsl ih hat hwe hwt hss hRR
    go_enter Try.func54, Try.ntmps54
    go_wp2_with fail
    go_loopw [3] (fun v3 wr => ∃ k : Nat, v3 = .int .i64 k ∧ k ≤ len ∧ allX (fun i => (kid i).setsB) k = true ∧ Six wr w.heap.size op a n s (.slice ps set.length cps) (.slice p len cap) 29 ∧ Below w.heap.size w wr) (fun v3 _ => len - (intOf v3).toNat)
    case atStart => exact ⟨0, rfl, Nat.zero_le _, rfl, HA0.out.1, HA0.out.2⟩
    case round =>
      obtain ⟨k, rfl, hk, hall, h6, hbel⟩ := hrel
      have HALL : Hid (allX (fun i => (kid i).setsB) k = true) := hall
      have H6 : Hid (Six wr w.heap.size op a n s (.slice ps set.length cps) (.slice p len cap) 29 ∧ Below w.heap.size w wr) := ⟨h6, hbel⟩
      obtain ⟨q0, q1, q2, q3, q4, q5⟩ := h6.cells
      clear hall h6 hbel HA0
      by_cases hkl : (k : Int) < len
      · obtain ⟨b, o, ux, u, hp, hd, hinu⟩ := HAT.out k (by omega)
        subst hp
        obtain ⟨c0, c1, c2, c3, c4, c5⟩ := hd.below H6.out.2
        have HIN : Hid ((kid k).At 0 wr ux u) := X.At.below H6.out.2 hinu
        have hkl' : k < len := by omega
        clear hd hinu
        go_wp2_with fail
        refine (IH.out k hkl' wr ux u HIN.out).mono ?_
        rintro e w1 ⟨rfl, hb1⟩
        have H7 : Hid (Six w1 w.heap.size op a n s (.slice ps set.length cps) (.slice (some ⟨b, o, none⟩) len cap) 29 ∧ Below w.heap.size w w1) := ⟨H6.out.1.below hb1, H6.out.2.trans (hb1.mono H6.out.2.size)⟩
        clear hb1 q0 q1 q2 q3 q4 q5 c0 c1 c2 c3 c4 c5
        cases hsb : (kid k).setsB with
        | true =>
          have HN : Hid (allX (fun i => (kid i).setsB) (k + 1) = true) := by
            show (allX (fun i => (kid i).setsB) k && (kid k).setsB) = true
            rw [HALL.out, hsb]; rfl
          clear hsb
          go_wp2_with fail
          go_roundw
          case rel => exact ⟨k + 1, by go_num, by omega, HN.out, H7.out.1, H7.out.2⟩
          case measure => simp [intOf]; omega
        | false =>
          have HN : Hid (RR = false) := by
            show RR = false
            rw [HRR.out, allX_false hkl' hsb]; rfl
          clear hsb
          go_wp2_with fail
          go_ret
          exact ⟨by rw [HN.out]; rfl, H7.out.2⟩
      · obtain rfl : k = len := by omega
        have HR2 : Hid (RR = ((decide (op = 2) && setB set) || decide (set.length = 0))) := by
          show RR = _
          rw [HRR.out, HALL.out, Bool.true_and]
        by_cases h2 : op = 2
        · subst h2
          go_wp2_with fail
          refine (HSO.out _ H6.out.2).mono ?_
          rintro e w1 ⟨rfl, hb1⟩
          have H7 : Hid (Below w.heap.size w w1) := H6.out.2.trans (hb1.mono H6.out.2.size)
          have h7 := H6.out.1.below hb1
          clear hb1 q0 q1 q2 q3 q4 q5
          obtain ⟨q0, q1, q2, q3, q4, q5⟩ := h7.cells
          clear h7
          cases hst : setB set with
          | true =>
            have HN : Hid (RR = true) := by show RR = true; rw [HR2.out, hst]; rfl
            go_wp2_with fail
            go_ret
            exact ⟨by rw [HN.out]; rfl, H7.out⟩
          | false =>
            by_cases hz : ((set.length : Int) == 0) = true
            · have HN : Hid (RR = true) := by
                have : set.length = 0 := by simpa using hz
                show RR = true; rw [HR2.out, hst, decide_eq_true this]; rfl
              go_wp2_with fail
              go_ret
              exact ⟨by rw [HN.out]; rfl, H7.out⟩
            · have hz' : ((set.length : Int) == 0) = false := by simpa using hz
              have HN : Hid (RR = false) := by
                have : ¬ set.length = 0 := by intro h; rw [h] at hz'; simp at hz'
                show RR = false; rw [HR2.out, hst, decide_eq_false this]; rfl
              go_wp2_with fail
              go_ret
              exact ⟨by rw [HN.out]; rfl, H7.out⟩
        · have d2 : (op == 2) = false := by simpa using h2
          by_cases hz : ((set.length : Int) == 0) = true
          · have HN : Hid (RR = true) := by
              have : set.length = 0 := by simpa using hz
              show RR = true; rw [HR2.out, decide_eq_true this, Bool.or_true]
            clear h2
            go_wp2_with fail
            go_ret
            exact ⟨by rw [HN.out]; rfl, H6.out.2⟩
          · have hz' : ((set.length : Int) == 0) = false := by simpa using hz
            have HN : Hid (RR = false) := by
              have : ¬ set.length = 0 := by intro h; rw [h] at hz'; simp at hz'
              show RR = false; rw [HR2.out, decide_eq_false h2, decide_eq_false this]; rfl
            clear h2
            go_wp2_with fail
            go_ret
            exact ⟨by rw [HN.out]; rfl, H6.out.2⟩

set_option maxRecDepth 100000 in
set_option maxHeartbeats 2000000 in
theorem spec_stx_ok (t : X) (w : World) (sv v : Value) (hin : t.At 0 w sv v) (hwt : t.weight ≤ 1048576) :
    Calls Try.prog 26 #[.agg #[.int .i64 t.op, .int .i64 t.at_, .int .i64 t.n, .string t.s, sv, v]] w fun e w' => e = .returned (.bool (stxOkB t)) ∧ Below w.heap.size w w' := by
  obtain ⟨p, cap, hv⟩ := hin.xs.shape
  obtain ⟨ps, cps, hsv⟩ := hin.sets.shape
  subst hv hsv
  have HIN : Hid (∀ w1, Below w.heap.size w w1 → t.At 0 w1 (.slice ps t.set.length cps) (.slice p t.len cap)) := fun w1 hb => X.At.below hb hin
  have HWT : Hid (t.weight ≤ 1048576) := hwt
  have HB0 : Hid (∀ o, Below w.heap.size w (w.alloc o)) := fun o => newx w o
  have hcn : (datX t).count ≤ 1099511627776 := by rw [datX_count]; have := t.count_weight; omega
  have HCN : Hid (sumTo (fun i => ((fun _ => datX t) i).count) 1 ≤ 1099511627776) := by show sumTo (fun _ => (datX t).count) 1 ≤ _; simp only [sumTo]; omega
  obtain ⟨RR, hRR⟩ : ∃ RR, RR = stxOkB t := ⟨_, rfl⟩
  have HRR : Hid (RR = (t.setsB && datsB 1 (fun _ => datX t))) := hRR
  rw [← hRR]
  clear hin hwt hRR hcn
  go_enter Try.func26, Try.ntmps26
  go_wp2_with fail
  refine (spec_sets t _ _ _ (HIN.out _ (HB0.out _)) HWT.out).mono ?_
  rintro e w1 ⟨rfl, hb1⟩
  have h6 : Six w1 w.heap.size t.op t.at_ t.n t.s (.slice ps t.set.length cps) (.slice p t.len cap) 29 := (hb1.block _ (by simp)).trans (heap_alloc_new w _)
  have HB1 : Hid (Below w.heap.size w w1) := (HB0.out _).trans (hb1.mono (by simp))
  obtain ⟨q0, q1, q2, q3, q4, q5⟩ := h6.cells
  clear hb1 h6
  cases hsb : t.setsB with
  | false =>
    have HN : Hid (RR = false) := by show RR = false; rw [HRR.out, hsb]; rfl
    go_wp2_with fail
    go_ret
    exact ⟨by rw [HN.out]; rfl, HB1.out⟩
  | true =>
    have HN : Hid (RR = datsB 1 (fun _ => datX t)) := by show RR = _; rw [HRR.out, hsb]; rfl
    go_wp2_with fail
    refine (spec_dat_of t w1 _ _ (HIN.out _ HB1.out) HWT.out).mono ?_
    rintro e w2 ⟨u, S, rfl, hb2, ho2, -, -⟩
    obtain ⟨pu, cu, hu⟩ := ho2.sown.sl.shape
    subst hu
    have hf := datX_parts t
    have hnb := newx w2 (.cells #[.int .i64 t.op, .int .i64 t.at_, .int .i64 t.n, .string t.s, .slice pu (datX t).len cu] 33)
    have HB2 : Hid (Below w.heap.size w (w2.alloc (.cells #[.int .i64 t.op, .int .i64 t.at_, .int .i64 t.n, .string t.s, .slice pu (datX t).len cu] 33))) := (HB1.out.trans (hb2.mono HB1.out.size)).trans (hnb.mono (by have := HB1.out.size; have := hb2.size; omega))
    have hrow : Five (w2.alloc (.cells #[.int .i64 t.op, .int .i64 t.at_, .int .i64 t.n, .string t.s, .slice pu (datX t).len cu] 33)) w2.heap.size (datX t).op (datX t).at_ (datX t).n (datX t).s (.slice pu (datX t).len cu) 33 := by
      rw [hf.1, hf.2.1, hf.2.2.1, hf.2.2.2.1]; exact heap_alloc_new w2 _
    have HSL : Hid (Sl (w2.alloc (.cells #[.int .i64 t.op, .int .i64 t.at_, .int .i64 t.n, .string t.s, .slice pu (datX t).len cu] 33)) 1 (fun _ => datX t) (.slice (some ⟨w2.heap.size, 0, none⟩) 1 1)) := one_slice hrow ((ho2.in' _).below hnb)
    clear hb2 ho2 hnb hrow hf q0 q1 q2 q3 q4 q5
    go_wp2_with fail
    refine (spec_dats 1 (fun _ => datX t) _ _ HSL.out HCN.out).mono ?_
    rintro e w3 ⟨rfl, hb3⟩
    have HB3 : Hid (Below w.heap.size w w3) := HB2.out.trans (hb3.mono HB2.out.size)
    clear hb3
    rw [← HN.out]
    go_wp2_with fail
    go_ret
    exact ⟨rfl, HB3.out⟩
end Go.Proofs.Ytoifhaakieigcaa
