/- The walk of laws.FnExactStxOf. No conditions. -/
import Derived.Test.YtoifhaakieigcaaRows
import Derived.Test.YtoifhaakieigcaaLawStx0
import Derived.Test.YtoifhaakieigcaaSpecStxOf
import Derived.Test.YtoifhaakieigcaaImplStxOf
import Derived.OpenShut
import Derived.WideKeyArgs
import Derived.Deep.Cut
namespace Go.Proofs.Ytoifhaakieigcaa.fnExactStxOf
open Go.ChangeShapes Go.WideShapes Go.ChangeAt Go.RowKit

theorem stx_fields (xs : List Int) (a : D) : (stxD xs a).op = a.op ∧ (stxD xs a).at_ = a.at_ ∧ (stxD xs a).n = a.n ∧ (stxD xs a).s = a.s := by cases a <;> exact ⟨rfl, rfl, rfl, rfl⟩
theorem tops_le (xs : List Int) (a : D) (h : a ≠ .no) (hc : a.count ≤ 1048577) (hl : xs.length ≤ 1048576) : 1 + (stxD xs a).tops ≤ 90000000000000 := by
  have hne : stxD xs a ≠ .no := by
    cases a with
    | no => exact absurd rfl h
    | mk op a n s len kid => intro e; cases e
  have h1 := X.marks_eq hne
  have h2 := (stxD xs a).marks_le
  have h3 := stxD_nums xs a
  rw [stxD_count] at h2
  have h4 : a.count * xs.length ≤ 1048577 * 1048576 := Nat.mul_le_mul hc hl
  unfold X.tops
  omega
theorem marks_le (t : D) (hc : t.count ≤ 1048577) : 1 + 4 * sumTo (fun j => (t.kid j).count) t.len ≤ 90000000000000 ∧ 1 + 4 * sumTo (fun j => (t.kid j).count) t.len ≤ 10000000 := by
  have := t.count_eq
  omega

set_option maxRecDepth 100000 in
set_option maxHeartbeats 8000000 in
theorem walk_in (a : D) (u sv : Value) (xs : List Int) (w : World) (ha : a.In w u) (hs : Rs w sv xs) (hl : xs.length ≤ 1048576) :
    Calls Try.prog 3 #[.agg #[.int .i64 a.op, .int .i64 a.at_, .int .i64 a.n, .string a.s, u], sv] w fun e w' => e = .returned (.bool true) ∧ Below w.heap.size w w' := by
  obtain ⟨p, cap, e1⟩ := ha.sl.shape
  have hane : a ≠ .no := by rintro rfl; exact ha.elim
  have HA : Hid (∀ W, Below w.heap.size w W → a.In W u) := fun W h => ha.below h
  have HV : Hid (∀ W, Below w.heap.size w W → Rs W sv xs) := fun W h => hs.below h
  obtain ⟨p0, c0', e2, -⟩ := hs
  clear ha
  subst e1 e2
  have HL : Hid (xs.length ≤ 4194304) := by show _ ≤ _; omega
  have hb0 : ¬ (1048576 : Int) < xs.length := by omega
  have hN0 : Nd5 (w.alloc (.cells #[.int .i64 a.op, .int .i64 a.at_, .int .i64 a.n, .string a.s, .slice p a.len cap] 24)) w.heap.size a (.slice p a.len cap) 24 := heap_alloc_new w _
  have hB0 := newx w (.cells #[.int .i64 a.op, .int .i64 a.at_, .int .i64 a.n, .string a.s, .slice p a.len cap] 24)
  by_cases h1 : a.weight ≤ 1048576
  · have E1 : Hid (szR 1048576 a.weight = ((1048576 - a.weight : Nat) : Int)) := szR_yes h1
    have H1 : Hid (a.weight ≤ 1048576) := h1
    have hcnt : a.count ≤ 1048577 := by have := a.count_weight; omega
    have hst : (stxD xs a).Small := X.SetsLe.small (m := xs.length) (by omega) _ (stxD_setsLe xs a)
    have HTA := marks_le a hcnt
    have hTT := tops_le xs a hane hcnt hl
    obtain ⟨f0, f1, f2, f3⟩ := stx_fields xs a
    have hspec : ∀ W sv v, a.In W v → Rd W sv xs → Calls Try.prog 10 #[.agg #[.int .i64 a.op, .int .i64 a.at_, .int .i64 a.n, .string a.s, v], sv] W fun e w' => ∃ su u S, e = .returned (.agg #[.int .i64 (stxD xs a).op, .int .i64 (stxD xs a).at_, .int .i64 (stxD xs a).n, .string (stxD xs a).s, su, u]) ∧ Below W.heap.size W w' ∧ XOwn w' (stxD xs a) su u S ∧ S.Nodup ∧ ∀ x ∈ S, W.heap.size ≤ x := by
      intro W sv v h h2
      rw [f0, f1, f2, f3]
      exact spec_stx_of xs HL.out a W v sv h h2 h1
    have himpl : ∀ W sv v, a.In W v → Rd W sv xs → Calls Try.prog 13 #[.agg #[.int .i64 a.op, .int .i64 a.at_, .int .i64 a.n, .string a.s, v], sv] W fun e w' => ∃ su u S, e = .returned (.agg #[.int .i64 (stxD xs a).op, .int .i64 (stxD xs a).at_, .int .i64 (stxD xs a).n, .string (stxD xs a).s, su, u]) ∧ Below W.heap.size W w' ∧ XOwn w' (stxD xs a) su u S ∧ S.Nodup ∧ ∀ x ∈ S, W.heap.size ≤ x := by
      intro W sv v h h2
      rw [f0, f1, f2, f3]
      exact impl_stx_of xs a v sv W h h2 HL.out hcnt
    clear f0 f1 f2 f3
    generalize stxD xs a = t at *
    have HSP : Hid (∀ W sv v, a.In W v → Rd W sv xs → Calls Try.prog 10 #[.agg #[.int .i64 a.op, .int .i64 a.at_, .int .i64 a.n, .string a.s, v], sv] W fun e w' => ∃ su u S, e = .returned (.agg #[.int .i64 t.op, .int .i64 t.at_, .int .i64 t.n, .string t.s, su, u]) ∧ Below W.heap.size W w' ∧ XOwn w' t su u S ∧ S.Nodup ∧ ∀ x ∈ S, W.heap.size ≤ x) := hspec
    have HIM : Hid (∀ W sv v, a.In W v → Rd W sv xs → Calls Try.prog 13 #[.agg #[.int .i64 a.op, .int .i64 a.at_, .int .i64 a.n, .string a.s, v], sv] W fun e w' => ∃ su u S, e = .returned (.agg #[.int .i64 t.op, .int .i64 t.at_, .int .i64 t.n, .string t.s, su, u]) ∧ Below W.heap.size W w' ∧ XOwn w' t su u S ∧ S.Nodup ∧ ∀ x ∈ S, W.heap.size ≤ x) := himpl
    have HST : Hid t.Small := hst
    have HTT : Hid (1 + t.tops ≤ 90000000000000) := hTT
    have HMA : Hid (1 + 4 * sumTo (fun j => (a.kid j).count) a.len ≤ 90000000000000 ∧ 1 + 4 * sumTo (fun j => (a.kid j).count) a.len ≤ 10000000) := HTA
    have HNB : Hid (Nd5 (w.alloc (.cells #[.int .i64 a.op, .int .i64 a.at_, .int .i64 a.n, .string a.s, .slice p a.len cap] 24)) w.heap.size a (.slice p a.len cap) 24 ∧ Below w.heap.size w (w.alloc (.cells #[.int .i64 a.op, .int .i64 a.at_, .int .i64 a.n, .string a.s, .slice p a.len cap] 24))) := ⟨hN0, hB0⟩
    clear hspec himpl hst hTT h1 hcnt hN0 hB0 hane HTA
    generalize 1048576 - a.weight = y1 at *
    go_enter Try.func3, Try.ntmps3
    go_wp2_with fail
    refine (sz_dat a _ _ 1048576 (HA.out _ HNB.out.2) (by omega)).mono ?_
    rintro e w1 ⟨rfl, hb1⟩
    rw [E1.out]
    have N1 : Hid (Nd5 w1 w.heap.size a (.slice p a.len cap) 24 ∧ Below w.heap.size w w1) := ⟨HNB.out.1.below hb1, HNB.out.2.trans (hb1.mono HNB.out.2.size)⟩
    obtain ⟨c0, c1, c2, c3, c4⟩ := N1.out.1.cells
    clear hb1 HNB
    go_wp2_with fail
    refine (to_dat_own a _ _ (HA.out _ N1.out.2) H1.out).mono ?_
    rintro e w2 ⟨x0, S0, rfl, hb2, hx0, -, -⟩
    have N2 : Hid (Nd5 w2 w.heap.size a (.slice p a.len cap) 24 ∧ Below w.heap.size w w2 ∧ DOwn w2 a x0 S0) := ⟨N1.out.1.below hb2, N1.out.2.trans (hb2.mono N1.out.2.size), hx0⟩
    clear hb2 hx0 N1 c0 c1 c2 c3 c4
    go_wp2_with fail
    refine (to_ints xs _ w2 (HV.out _ N2.out.2.1) HL.out).mono ?_
    rintro e w2b ⟨s0, rfl, hb2b, ho2b⟩
    have N2b : Hid (Nd5 w2b w.heap.size a (.slice p a.len cap) 24 ∧ Below w.heap.size w w2b ∧ a.In w2b x0 ∧ Rd w2b s0 xs) := ⟨N2.out.1.below hb2b, N2.out.2.1.trans (hb2b.mono N2.out.2.1.size), (N2.out.2.2.in' _).below hb2b, ho2b.rd⟩
    clear hb2b ho2b N2
    go_wp2_with fail
    refine (HSP.out w2b _ _ N2b.out.2.2.1 N2b.out.2.2.2).mono ?_
    rintro e w3 ⟨sw, vw, Sw, rfl, hb3, hw3, -, hS3⟩
    obtain ⟨pw, cw, hvw⟩ := hw3.at0.xs.shape
    obtain ⟨pws, cws, hsw⟩ := hw3.at0.sets.shape
    subst hvw hsw
    have Q1 : Hid (R1 w (w3.alloc (.cells #[.int .i64 t.op, .int .i64 t.at_, .int .i64 t.n, .string t.s, .slice pws t.set.length cws, .slice pw t.len cw] 29)) a t (.slice p a.len cap) (.slice pws t.set.length cws) (.slice pw t.len cw) w3.heap.size Sw) := R1.new N2b.out.2.1 N2b.out.1 hb3 hw3 hS3
    clear hb3 hw3 hS3 N2b
    obtain ⟨c0, c1, c2, c3, c4⟩ := Q1.out.arg.cells
    go_wp2_with fail
    refine (to_dat_own a _ _ (HA.out _ Q1.out.bel) H1.out).mono ?_
    rintro e w4 ⟨vx, Sx, rfl, hb4, hx4, hn4, hS4⟩
    obtain ⟨px, cx, hvx⟩ := hx4.sown.sl.shape
    subst hvx
    have Q2 : Hid (R2 w (w4.alloc (.cells #[.int .i64 a.op, .int .i64 a.at_, .int .i64 a.n, .string a.s, .slice px a.len cx] 33)) a t (.slice p a.len cap) (.slice pws t.set.length cws) (.slice pw t.len cw) (.slice px a.len cx) w3.heap.size w4.heap.size Sw Sx) := R2.new Q1.out hb4 hx4 hn4 hS4
    clear hb4 hx4 hn4 hS4 Q1 c0 c1 c2 c3 c4
    generalize w3.heap.size = gW at *
    go_wp2_with fail
    refine (to_ints xs _ _ (HV.out _ Q2.out.bel) HL.out).mono ?_
    rintro e w4b ⟨v1, rfl, hb4b, ho4b⟩
    obtain ⟨p1, c1', hv1⟩ := own_shape ho4b
    subst hv1
    have Q2b : Hid (R3 w w4b a t xs (.slice p a.len cap) (.slice pws t.set.length cws) (.slice pw t.len cw) (.slice px a.len cx) (.slice p1 xs.length c1') gW w4.heap.size w4b.heap.size Sw Sx) := R3.new Q2.out hb4b ho4b
    clear hb4b ho4b Q2
    generalize w4.heap.size = gX at *
    obtain ⟨c0, c1, c2, c3, c4⟩ := Q2b.out.bX.cells
    go_wp2_with fail
    refine (HIM.out _ _ _ (Q2b.out.oX.in' _) Q2b.out.i1.rd).mono ?_
    rintro e w5 ⟨sg, vg, Sg, rfl, hb5, hg5, hn5, hS5⟩
    obtain ⟨pg, cg, hvg⟩ := hg5.at0.xs.shape
    obtain ⟨pgs, cgs, hsg⟩ := hg5.at0.sets.shape
    subst hvg hsg
    have Q3 : Hid (R4 w (w5.alloc (.cells #[.int .i64 t.op, .int .i64 t.at_, .int .i64 t.n, .string t.s, .slice pgs t.set.length cgs, .slice pg t.len cg] 29)) a t xs (.slice p a.len cap) (.slice pws t.set.length cws) (.slice pw t.len cw) (.slice px a.len cx) (.slice p1 xs.length c1') (.slice pgs t.set.length cgs) (.slice pg t.len cg) gW gX w4b.heap.size w5.heap.size Sw Sx Sg) := R4.new Q2b.out hb5 hg5 hn5 hS5
    clear hb5 hg5 hn5 hS5 Q2b c0 c1 c2 c3 c4
    generalize w4b.heap.size = B1 at *
    obtain ⟨c0, c1, c2, c3, c4, c5⟩ := Q3.out.bG.cells
    obtain ⟨d0, d1, d2, d3, d4, d5⟩ := Q3.out.bW.cells
    go_wp2_with fail
    refine (eq_stx t _ _ _ _ _ Q3.out.oG.at0 Q3.out.oW.at0 HST.out).mono ?_
    rintro e w6 ⟨rfl, hb6⟩
    have Q6 : Hid (R4 w (w6) a t xs (.slice p a.len cap) (.slice pws t.set.length cws) (.slice pw t.len cw) (.slice px a.len cx) (.slice p1 xs.length c1') (.slice pgs t.set.length cgs) (.slice pg t.len cg) gW gX B1 w5.heap.size Sw Sx Sg) := Q3.out.below hb6
    clear hb6 Q3 c0 c1 c2 c3 c4 c5 d0 d1 d2 d3 d4 d5
    generalize w5.heap.size = gG at *
    obtain ⟨c0, c1, c2, c3, c4⟩ := Q6.out.bX.cells
    obtain ⟨d0, d1, d2, d3, d4⟩ := Q6.out.arg.cells
    go_upto_region 13 with fail
    go_cut [42] from 38 (fun z wx => z = .bool false ∧ R4 w (wx) a t xs (.slice p a.len cap) (.slice pws t.set.length cws) (.slice pw t.len cw) (.slice px a.len cx) (.slice p1 xs.length c1') (.slice pgs t.set.length cgs) (.slice pg t.len cg) gW gX B1 gG Sw Sx Sg)
    case first =>
      go_region_with (first
        | (go_at_call 11; refine (to_dat_own a _ _ (HA.out _ ?_) H1.out).mono ?_; exact Q6.out.bel.drew; rintro e w8 ⟨z, Sz, rfl, hb8, hin8, -, -⟩; have Q8 : Hid (R4 w (w8) a t xs (.slice p a.len cap) (.slice pws t.set.length cws) (.slice pw t.len cw) (.slice px a.len cx) (.slice p1 xs.length c1') (.slice pgs t.set.length cgs) (.slice pg t.len cg) gW gX B1 gG Sw Sx Sg ∧ a.In w8 z) := ⟨Q6.out.below ((Below.refl _ _).drew.trans hb8), hin8.in' _⟩; clear hb8 hin8; obtain ⟨q0, q1, q2, q3, q4⟩ := Q8.out.1.bX.cells)
        | (go_at_call 15; refine (eq_dat a _ _ _ (Q8.out.1.oX.in' _) Q8.out.2).mono ?_; rintro e w9 ⟨rfl, hb9⟩; have Q9 : Hid (R4 w (w9) a t xs (.slice p a.len cap) (.slice pws t.set.length cws) (.slice pw t.len cw) (.slice px a.len cx) (.slice p1 xs.length c1') (.slice pgs t.set.length cgs) (.slice pg t.len cg) gW gX B1 gG Sw Sx Sg) := Q8.out.1.below hb9; clear hb9))
      all_goals
        go_wp2_with fail
        go_meet
        exact ⟨rfl, Q9.out⟩
    case rest =>
    obtain ⟨rfl, hQ9⟩ := hcut
    have Q9 : Hid (R4 w (wc) a t xs (.slice p a.len cap) (.slice pws t.set.length cws) (.slice pw t.len cw) (.slice px a.len cx) (.slice p1 xs.length c1') (.slice pgs t.set.length cgs) (.slice pg t.len cg) gW gX B1 gG Sw Sx Sg) := hQ9
    clear hQ9 Q6 c0 c1 c2 c3 c4 d0 d1 d2 d3 d4
    go_wp2_with fail
    refine (to_ints xs _ _ (HV.out _ Q9.out.bel) HL.out).mono ?_
    rintro e w9b ⟨s9, rfl, hb9b, ho9b⟩
    have Q9b : Hid (R4 w (w9b) a t xs (.slice p a.len cap) (.slice pws t.set.length cws) (.slice pw t.len cw) (.slice px a.len cx) (.slice p1 xs.length c1') (.slice pgs t.set.length cgs) (.slice pg t.len cg) gW gX B1 gG Sw Sx Sg ∧ Rd w9b s9 xs) := ⟨Q9.out.below hb9b, ho9b.rd⟩
    clear hb9b ho9b Q9
    go_wp2_with fail
    refine (eq_ints xs xs _ _ w9b Q9b.out.1.i1.rd Q9b.out.2 HL.out HL.out).mono ?_
    rintro e w9c ⟨rfl, hb9c⟩
    rw [same_self]
    have Q9c : Hid (R4 w (w9c) a t xs (.slice p a.len cap) (.slice pws t.set.length cws) (.slice pw t.len cw) (.slice px a.len cx) (.slice p1 xs.length c1') (.slice pgs t.set.length cgs) (.slice pg t.len cg) gW gX B1 gG Sw Sx Sg) := Q9b.out.1.below hb9c
    clear hb9c Q9b
    obtain ⟨c0, c1, c2, c3, c4⟩ := Q9c.out.bX.cells
    go_wp2_with fail
    refine (mark_dat a _ _ Sx 1 Q9c.out.oX Q9c.out.nX (by omega) HMA.out.1).mono ?_
    rintro e w10 ⟨rfl, -, hf10⟩
    have Q10 : Hid (R5 w w10 a t xs (.slice p a.len cap) (.slice pws t.set.length cws) (.slice pw t.len cw) (.slice p1 xs.length c1') (.slice pgs t.set.length cgs) (.slice pg t.len cg) gW gX B1 gG Sw Sg) := Q9c.out.marked hf10
    clear hf10 Q9c c0 c1 c2 c3 c4
    obtain ⟨K1, hK1⟩ : ∃ K1, K1 = 1 + 4 * sumTo (fun j => (a.kid j).count) a.len := ⟨_, rfl⟩
    rw [← hK1]
    have hK1' : K1 ≤ 10000000 := by have := HMA.out.2; omega
    clear hK1
    go_wp2_with fail
    refine (mark_ints _ 0 xs K1 w10 Q10.out.i1 HL.out (by omega)).mono ?_
    rintro e w10b ⟨rfl, -, hg10⟩
    have Q10b : Hid (R6 w w10b a t (.slice p a.len cap) (.slice pws t.set.length cws) (.slice pw t.len cw) (.slice pgs t.set.length cgs) (.slice pg t.len cg) gW B1 gG Sw Sg) := Q10.out.marked hg10
    clear hg10 Q10
    obtain ⟨c0, c1, c2, c3, c4, c5⟩ := Q10b.out.bG.cells
    obtain ⟨d0, d1, d2, d3, d4, d5⟩ := Q10b.out.bW.cells
    generalize K1 + xs.length = kk at *
    have hkk : ¬ ((kk : Int) < 0) := by omega
    go_wp2_with fail
    refine (eq_stx t _ _ _ _ _ Q10b.out.oG.at0 Q10b.out.oW.at0 HST.out).mono ?_
    rintro e w11 ⟨rfl, hb11⟩
    have Q11 : Hid (R6 w w11 a t (.slice p a.len cap) (.slice pws t.set.length cws) (.slice pw t.len cw) (.slice pgs t.set.length cgs) (.slice pg t.len cg) gW B1 gG Sw Sg) := Q10b.out.below hb11
    clear hb11 Q10b c0 c1 c2 c3 c4 c5 d0 d1 d2 d3 d4 d5
    obtain ⟨c0, c1, c2, c3, c4, c5⟩ := Q11.out.bG.cells
    go_wp2_with fail
    refine (mark_stx t _ _ _ Sg 1 Q11.out.oG Q11.out.nG HST.out (by omega) HTT.out).mono ?_
    rintro e w12 ⟨rfl, hm12, hf12⟩
    have Q12 : Hid (R7 w w12 a t (.slice p a.len cap) (.slice pws t.set.length cws) (.slice pw t.len cw) (.slice pgs t.set.length cgs) (.slice pg t.len cg) gW gG Sw) := Q11.out.marked hf12 hm12
    clear hm12 hf12 Q11 c0 c1 c2 c3 c4 c5
    obtain ⟨c0, c1, c2, c3, c4, c5⟩ := Q12.out.bG.cells
    obtain ⟨MM, hMM⟩ : ∃ MM, MM = 1 + t.tops := ⟨_, rfl⟩
    rw [← hMM]
    have HMM : Hid (MM = 1 + t.tops) := hMM
    have hM0 : ¬ ((MM : Int) < 0) := by omega
    have hM1 : ((MM : Int) != (MM : Int)) = false := by simp
    clear hMM
    go_wp2_with fail
    refine (held_stx t _ pgs pg cgs cg 1 Q12.out.mG HST.out (by omega) HTT.out).mono ?_
    rintro e w13 ⟨rfl, hb13⟩
    rw [← HMM.out]
    have Q13 : Hid (R7 w w13 a t (.slice p a.len cap) (.slice pws t.set.length cws) (.slice pw t.len cw) (.slice pgs t.set.length cgs) (.slice pg t.len cg) gW gG Sw) := Q12.out.below hb13
    clear hb13 Q12 c0 c1 c2 c3 c4 c5
    obtain ⟨c0, c1, c2, c3, c4⟩ := Q13.out.arg.cells
    go_wp2_with fail
    refine (to_dat_own a _ _ (HA.out _ Q13.out.bel) H1.out).mono ?_
    rintro e w14 ⟨vy, Sy, rfl, hb14, hy14, -, -⟩
    have Q14 : Hid (R7 w w14 a t (.slice p a.len cap) (.slice pws t.set.length cws) (.slice pw t.len cw) (.slice pgs t.set.length cgs) (.slice pg t.len cg) gW gG Sw ∧ DOwn w14 a vy Sy) := ⟨Q13.out.below hb14, hy14⟩
    clear hb14 hy14 Q13 c0 c1 c2 c3 c4
    go_wp2_with fail
    refine (to_ints xs _ _ (HV.out _ Q14.out.1.bel) HL.out).mono ?_
    rintro e w14b ⟨sy, rfl, hb14b, ho14b⟩
    have Q14b : Hid (R7 w w14b a t (.slice p a.len cap) (.slice pws t.set.length cws) (.slice pw t.len cw) (.slice pgs t.set.length cgs) (.slice pg t.len cg) gW gG Sw ∧ a.In w14b vy ∧ Rd w14b sy xs) := ⟨Q14.out.1.below hb14b, (Q14.out.2.in' _).below hb14b, ho14b.rd⟩
    clear hb14b ho14b Q14
    go_wp2_with fail
    refine (HIM.out _ _ _ Q14b.out.2.1 Q14b.out.2.2).mono ?_
    rintro e w15 ⟨sh, vh, Sh, rfl, hb15, hh15, -, -⟩
    obtain ⟨ph, ch, hvh⟩ := hh15.at0.xs.shape
    obtain ⟨phs, chs, hsh⟩ := hh15.at0.sets.shape
    subst hvh hsh
    have hnb := newx w15 (.cells #[.int .i64 t.op, .int .i64 t.at_, .int .i64 t.n, .string t.s, .slice phs t.set.length chs, .slice ph t.len ch] 29)
    have Q15 : Hid (R7 w (w15.alloc (.cells #[.int .i64 t.op, .int .i64 t.at_, .int .i64 t.n, .string t.s, .slice phs t.set.length chs, .slice ph t.len ch] 29)) a t (.slice p a.len cap) (.slice pws t.set.length cws) (.slice pw t.len cw) (.slice pgs t.set.length cgs) (.slice pg t.len cg) gW gG Sw ∧ t.At 0 (w15.alloc (.cells #[.int .i64 t.op, .int .i64 t.at_, .int .i64 t.n, .string t.s, .slice phs t.set.length chs, .slice ph t.len ch] 29)) (.slice phs t.set.length chs) (.slice ph t.len ch)) := ⟨(Q14b.out.1.below hb15).below hnb, X.At.below hnb hh15.at0⟩
    clear hb15 hh15 hnb Q14b
    obtain ⟨d0, d1, d2, d3, d4, d5⟩ := Q15.out.1.bW.cells
    go_wp2_with fail
    refine (eq_stx t _ _ _ _ _ Q15.out.2 Q15.out.1.oW.at0 HST.out).mono ?_
    rintro e w16 ⟨rfl, hb16⟩
    have Q16 : Hid (R7 w w16 a t (.slice p a.len cap) (.slice pws t.set.length cws) (.slice pw t.len cw) (.slice pgs t.set.length cgs) (.slice pg t.len cg) gW gG Sw) := Q15.out.1.below hb16
    clear hb16 Q15 d0 d1 d2 d3 d4 d5
    obtain ⟨c0, c1, c2, c3, c4, c5⟩ := Q16.out.bG.cells
    go_wp2_with fail
    refine (held_stx t _ pgs pg cgs cg 1 Q16.out.mG HST.out (by omega) HTT.out).mono ?_
    rintro e w17 ⟨rfl, hb17⟩
    rw [← HMM.out]
    have Q17 : Hid (Below w.heap.size w w17) := Q16.out.bel.trans (hb17.mono Q16.out.bel.size)
    clear hb17 Q16 c0 c1 c2 c3 c4 c5
    go_wp2_with fail
    go_ret
    exact ⟨rfl, Q17.out⟩
  · have E1 : Hid (szR 1048576 a.weight = -1) := szR_no (by omega)
    have HNB : Hid (Below w.heap.size w (w.alloc (.cells #[.int .i64 a.op, .int .i64 a.at_, .int .i64 a.n, .string a.s, .slice p a.len cap] 24))) := hB0
    clear hN0 hB0 h1
    go_enter Try.func3, Try.ntmps3
    go_wp2_with fail
    refine (sz_dat a _ _ 1048576 (HA.out _ HNB.out) (by omega)).mono ?_
    rintro e w1 ⟨rfl, hb1⟩
    rw [E1.out]
    have B1 : Hid (Below w.heap.size w w1) := HNB.out.trans (hb1.mono HNB.out.size)
    clear hb1
    go_wp2_with fail
    go_ret
    exact ⟨rfl, B1.out⟩

theorem walk_out (a : D) (p : Option Addr) (cap : Nat) (u : Value) (len : Nat) (p0 : Option Addr) (c0 : Nat) (w : World) (hu : u = .slice p a.len cap) (hl : ¬ len ≤ 1048576) :
    Calls Try.prog 3 #[.agg #[.int .i64 a.op, .int .i64 a.at_, .int .i64 a.n, .string a.s, u], .slice p0 len c0] w fun e w' => e = .returned (.bool true) ∧ Below w.heap.size w w' := by
  subst hu
  have hb0 : (1048576 : Int) < len := by omega
  have HB : Hid (∀ o, Below w.heap.size w (w.alloc o)) := fun o => newx w o
  go_enter Try.func3, Try.ntmps3
  go_wp2_with fail
  go_ret
  exact ⟨rfl, HB.out _⟩
end Go.Proofs.Ytoifhaakieigcaa.fnExactStxOf
