/- At every one that is written and every number impl.WithAll answers as spec.WithAll, writes into no argument, keeps none, and its answer owns its memory: laws.FnExactWithAll returns true, and the arguments read as before. No conditions. -/
import Derived.Test.YtoifhaakieigcaaRows
import Derived.Test.YtoifhaakieigcaaLawTurn0
import Derived.Test.YtoifhaakieigcaaSpecWithAll
import Derived.Test.YtoifhaakieigcaaImplWithAll
import Derived.OpenShut
import Derived.WideKeyArgs
import Derived.Deep.Cut
namespace Go.Proofs.Ytoifhaakieigcaa.fnExactWithAll
open Go.ChangeShapes Go.WideShapes Go.ChangeAt Go.RowKit

theorem with_fields (a : X) (m : Int) : (a.withAll m).op = a.op ∧ (a.withAll m).at_ = a.at_ ∧ (a.withAll m).n = a.n ∧ (a.withAll m).s = a.s := by cases a <;> exact ⟨rfl, rfl, rfl, rfl⟩
theorem tops_le (t : X) (h : t ≠ .no) (hc : t.count ≤ 1048577) (hn : t.nums ≤ 2097153) : 1 + t.tops ≤ 90000000000000 := by
  have h1 := X.marks_eq h
  have h2 := t.marks_le
  unfold X.tops
  omega

set_option maxRecDepth 100000 in
set_option maxHeartbeats 8000000 in
theorem walk (a : X) (su u : Value) (m : Int) (w : World) (ha : a.Of w su u) :
    Calls Try.prog 7 #[.agg #[.int .i64 a.op, .int .i64 a.at_, .int .i64 a.n, .string a.s, su, u], .int .i64 m] w fun e w' => e = .returned (.bool true) ∧ Below w.heap.size w w' := by
  obtain ⟨p, cap, e1⟩ := ha.xs.shape
  obtain ⟨ps, cps, e2⟩ := ha.sets.shape
  have hane : a ≠ .no := by rintro rfl; exact ha.elim
  have HA : Hid (∀ W, Below w.heap.size w W → a.Of W su u) := fun W h => X.Of.below h ha
  clear ha
  subst e1 e2
  have hN0 : Nd (w.alloc (.cells #[.int .i64 a.op, .int .i64 a.at_, .int .i64 a.n, .string a.s, .slice ps a.set.length cps, .slice p a.len cap] 45)) w.heap.size a (.slice ps a.set.length cps) (.slice p a.len cap) 45 := heap_alloc_new w _
  have hB0 := newx w (.cells #[.int .i64 a.op, .int .i64 a.at_, .int .i64 a.n, .string a.s, .slice ps a.set.length cps, .slice p a.len cap] 45)
  by_cases h1 : a.weight ≤ 1048576
  · have E1 : Hid (szX 1048576 a.weight = ((1048576 - a.weight : Nat) : Int)) := szX_yes h1
    have H1 : Hid (a.weight ≤ 1048576) := h1
    have hcnt : a.count ≤ 1048577 := by have := a.count_weight; omega
    have HCN : Hid (a.count ≤ 1048577) := hcnt
    have HSA : Hid a.Small := a.small_of_weight (by omega)
    have hst : (a.withAll m).Small := X.turn_small (fun s => with_len s m) a h1
    have HTA : Hid (1 + a.tops ≤ 90000000000000) := tops_le a hane hcnt (by have := a.nums_weight; omega)
    have hTT : 1 + (a.withAll m).tops ≤ 90000000000000 := tops_le _ (X.turn_ne _ _ hane) (by have : (a.withAll m).count = a.count := X.turn_count _ a; omega) (by have : (a.withAll m).nums ≤ a.nums + a.count := X.turn_nums _ (fun s => with_len s m) a; have := a.nums_weight; omega)
    obtain ⟨f0, f1, f2, f3⟩ := with_fields a m
    have hspec : ∀ W sv v, a.At 0 W sv v → Calls Try.prog 30 #[.agg #[.int .i64 a.op, .int .i64 a.at_, .int .i64 a.n, .string a.s, sv, v], .int .i64 m] W fun e w' => ∃ su u S, e = .returned (.agg #[.int .i64 (a.withAll m).op, .int .i64 (a.withAll m).at_, .int .i64 (a.withAll m).n, .string (a.withAll m).s, su, u]) ∧ Below W.heap.size W w' ∧ XOwn w' (a.withAll m) su u S ∧ S.Nodup ∧ ∀ x ∈ S, W.heap.size ≤ x := by
      intro W sv v h
      rw [f0, f1, f2, f3]
      exact spec_with_all m a W sv v h h1
    have himpl : ∀ W sv v, a.At 0 W sv v → Calls Try.prog 31 #[.agg #[.int .i64 a.op, .int .i64 a.at_, .int .i64 a.n, .string a.s, sv, v], .int .i64 m] W fun e w' => ∃ su u S, e = .returned (.agg #[.int .i64 (a.withAll m).op, .int .i64 (a.withAll m).at_, .int .i64 (a.withAll m).n, .string (a.withAll m).s, su, u]) ∧ Below W.heap.size W w' ∧ XOwn w' (a.withAll m) su u S ∧ S.Nodup ∧ ∀ x ∈ S, W.heap.size ≤ x := by
      intro W sv v h
      rw [f0, f1, f2, f3]
      exact impl_with_all m a sv v W h (a.small_of_weight (by omega)) hcnt
    clear f0 f1 f2 f3
    generalize a.withAll m = t at *
    have HSP : Hid (∀ W sv v, a.At 0 W sv v → Calls Try.prog 30 #[.agg #[.int .i64 a.op, .int .i64 a.at_, .int .i64 a.n, .string a.s, sv, v], .int .i64 m] W fun e w' => ∃ su u S, e = .returned (.agg #[.int .i64 t.op, .int .i64 t.at_, .int .i64 t.n, .string t.s, su, u]) ∧ Below W.heap.size W w' ∧ XOwn w' t su u S ∧ S.Nodup ∧ ∀ x ∈ S, W.heap.size ≤ x) := hspec
    have HIM : Hid (∀ W sv v, a.At 0 W sv v → Calls Try.prog 31 #[.agg #[.int .i64 a.op, .int .i64 a.at_, .int .i64 a.n, .string a.s, sv, v], .int .i64 m] W fun e w' => ∃ su u S, e = .returned (.agg #[.int .i64 t.op, .int .i64 t.at_, .int .i64 t.n, .string t.s, su, u]) ∧ Below W.heap.size W w' ∧ XOwn w' t su u S ∧ S.Nodup ∧ ∀ x ∈ S, W.heap.size ≤ x) := himpl
    have HST : Hid t.Small := hst
    have HTT : Hid (1 + t.tops ≤ 90000000000000) := hTT
    have HNB : Hid (Nd (w.alloc (.cells #[.int .i64 a.op, .int .i64 a.at_, .int .i64 a.n, .string a.s, .slice ps a.set.length cps, .slice p a.len cap] 45)) w.heap.size a (.slice ps a.set.length cps) (.slice p a.len cap) 45 ∧ Below w.heap.size w (w.alloc (.cells #[.int .i64 a.op, .int .i64 a.at_, .int .i64 a.n, .string a.s, .slice ps a.set.length cps, .slice p a.len cap] 45))) := ⟨hN0, hB0⟩
    clear hspec himpl hst hTT h1 hcnt hN0 hB0 hane
    generalize 1048576 - a.weight = y1 at *
    go_enter Try.func7, Try.ntmps7
    go_wp2_with fail
    refine (sz_stx a _ _ _ 1048576 (HA.out _ HNB.out.2) (by omega)).mono ?_
    rintro e w1 ⟨rfl, hb1⟩
    rw [E1.out]
    have N1 : Hid (Nd w1 w.heap.size a (.slice ps a.set.length cps) (.slice p a.len cap) 45 ∧ Below w.heap.size w w1) := ⟨HNB.out.1.below hb1, HNB.out.2.trans (hb1.mono HNB.out.2.size)⟩
    obtain ⟨c0, c1, c2, c3, c4, c5⟩ := N1.out.1.cells
    clear hb1 HNB
    go_wp2_with fail
    refine (to_stx a _ _ _ (HA.out _ N1.out.2) H1.out).mono ?_
    rintro e w2 ⟨sx0, x0, rfl, hb2, hx0⟩
    have N2 : Hid (Nd w2 w.heap.size a (.slice ps a.set.length cps) (.slice p a.len cap) 45 ∧ Below w.heap.size w w2 ∧ a.At 0 w2 sx0 x0) := ⟨N1.out.1.below hb2, N1.out.2.trans (hb2.mono N1.out.2.size), X.At.mono (Nat.zero_le _) hx0⟩
    clear hb2 hx0 N1 c0 c1 c2 c3 c4 c5
    go_wp2_with fail
    refine (HSP.out w2 _ _ N2.out.2.2).mono ?_
    rintro e w3 ⟨sw, vw, Sw, rfl, hb3, hw3, -, hS3⟩
    obtain ⟨pw, cw, hvw⟩ := hw3.at0.xs.shape
    obtain ⟨pws, cws, hsw⟩ := hw3.at0.sets.shape
    subst hvw hsw
    have Q1 : Hid (P1 w (w3.alloc (.cells #[.int .i64 t.op, .int .i64 t.at_, .int .i64 t.n, .string t.s, .slice pws t.set.length cws, .slice pw t.len cw] 29)) a t (.slice ps a.set.length cps) (.slice p a.len cap) (.slice pws t.set.length cws) (.slice pw t.len cw) w3.heap.size Sw) := P1.new N2.out.2.1 N2.out.1 hb3 hw3 hS3
    clear hb3 hw3 hS3 N2
    obtain ⟨c0, c1, c2, c3, c4, c5⟩ := Q1.out.arg.cells
    go_wp2_with fail
    refine (to_stx_own a _ _ _ (HA.out _ Q1.out.bel) H1.out).mono ?_
    rintro e w4 ⟨sx, vx, Sx, rfl, hb4, hx4, hn4, hS4⟩
    obtain ⟨px, cx, hvx⟩ := hx4.at0.xs.shape
    obtain ⟨pxs, cxs, hsx⟩ := hx4.at0.sets.shape
    subst hvx hsx
    have Q2 : Hid (P2 w (w4.alloc (.cells #[.int .i64 a.op, .int .i64 a.at_, .int .i64 a.n, .string a.s, .slice pxs a.set.length cxs, .slice px a.len cx] 29)) a t (.slice ps a.set.length cps) (.slice p a.len cap) (.slice pws t.set.length cws) (.slice pw t.len cw) (.slice pxs a.set.length cxs) (.slice px a.len cx) w3.heap.size w4.heap.size Sw Sx) := P2.new Q1.out hb4 hx4 hn4 hS4
    clear hb4 hx4 hn4 hS4 Q1 c0 c1 c2 c3 c4 c5
    generalize w3.heap.size = gW at *
    obtain ⟨c0, c1, c2, c3, c4, c5⟩ := Q2.out.bX.cells
    go_wp2_with fail
    refine (HIM.out _ _ _ Q2.out.oX.at0).mono ?_
    rintro e w5 ⟨sg, vg, Sg, rfl, hb5, hg5, hn5, hS5⟩
    obtain ⟨pg, cg, hvg⟩ := hg5.at0.xs.shape
    obtain ⟨pgs, cgs, hsg⟩ := hg5.at0.sets.shape
    subst hvg hsg
    have Q3 : Hid (P3 w (w5.alloc (.cells #[.int .i64 t.op, .int .i64 t.at_, .int .i64 t.n, .string t.s, .slice pgs t.set.length cgs, .slice pg t.len cg] 29)) a t (.slice ps a.set.length cps) (.slice p a.len cap) (.slice pws t.set.length cws) (.slice pw t.len cw) (.slice pxs a.set.length cxs) (.slice px a.len cx) (.slice pgs t.set.length cgs) (.slice pg t.len cg) gW w4.heap.size w5.heap.size Sw Sx Sg) := P3.new Q2.out hb5 hg5 hn5 hS5
    clear hb5 hg5 hn5 hS5 Q2 c0 c1 c2 c3 c4 c5
    generalize w4.heap.size = gX at *
    obtain ⟨c0, c1, c2, c3, c4, c5⟩ := Q3.out.bG.cells
    obtain ⟨d0, d1, d2, d3, d4, d5⟩ := Q3.out.bW.cells
    go_wp2_with fail
    refine (eq_stx t _ _ _ _ _ Q3.out.oG.at0 Q3.out.oW.at0 HST.out).mono ?_
    rintro e w6 ⟨rfl, hb6⟩
    have Q6 : Hid (P3 w w6 a t (.slice ps a.set.length cps) (.slice p a.len cap) (.slice pws t.set.length cws) (.slice pw t.len cw) (.slice pxs a.set.length cxs) (.slice px a.len cx) (.slice pgs t.set.length cgs) (.slice pg t.len cg) gW gX w5.heap.size Sw Sx Sg) := Q3.out.below hb6
    clear hb6 Q3 c0 c1 c2 c3 c4 c5 d0 d1 d2 d3 d4 d5
    generalize w5.heap.size = gG at *
    obtain ⟨c0, c1, c2, c3, c4, c5⟩ := Q6.out.bX.cells
    obtain ⟨d0, d1, d2, d3, d4, d5⟩ := Q6.out.arg.cells
    go_upto_region 10 with fail
    go_cut [35] from 31 (fun z wx => z = .bool false ∧ P3 w wx a t (.slice ps a.set.length cps) (.slice p a.len cap) (.slice pws t.set.length cws) (.slice pw t.len cw) (.slice pxs a.set.length cxs) (.slice px a.len cx) (.slice pgs t.set.length cgs) (.slice pg t.len cg) gW gX gG Sw Sx Sg)
    case first =>
      go_region_with (first
        | (go_at_call 23; refine (to_stx a _ _ _ (HA.out _ ?_) H1.out).mono ?_; exact Q6.out.bel.drew; rintro e w8 ⟨sz, z, rfl, hb8, hin8⟩; have Q8 : Hid (P3 w w8 a t (.slice ps a.set.length cps) (.slice p a.len cap) (.slice pws t.set.length cws) (.slice pw t.len cw) (.slice pxs a.set.length cxs) (.slice px a.len cx) (.slice pgs t.set.length cgs) (.slice pg t.len cg) gW gX gG Sw Sx Sg ∧ a.At 0 w8 sz z) := ⟨Q6.out.below ((Below.refl _ _).drew.trans hb8), X.At.mono (Nat.zero_le _) hin8⟩; clear hb8 hin8; obtain ⟨q0, q1, q2, q3, q4, q5⟩ := Q8.out.1.bX.cells)
        | (go_at_call 14; refine (eq_stx a _ _ _ _ _ Q8.out.1.oX.at0 Q8.out.2 HSA.out).mono ?_; rintro e w9 ⟨rfl, hb9⟩; have Q9 : Hid (P3 w w9 a t (.slice ps a.set.length cps) (.slice p a.len cap) (.slice pws t.set.length cws) (.slice pw t.len cw) (.slice pxs a.set.length cxs) (.slice px a.len cx) (.slice pgs t.set.length cgs) (.slice pg t.len cg) gW gX gG Sw Sx Sg) := Q8.out.1.below hb9; clear hb9))
      all_goals
        go_wp2_with fail
        go_meet
        exact ⟨rfl, Q9.out⟩
    case rest =>
    obtain ⟨rfl, hQ9⟩ := hcut
    have Q9 : Hid (P3 w wc a t (.slice ps a.set.length cps) (.slice p a.len cap) (.slice pws t.set.length cws) (.slice pw t.len cw) (.slice pxs a.set.length cxs) (.slice px a.len cx) (.slice pgs t.set.length cgs) (.slice pg t.len cg) gW gX gG Sw Sx Sg) := hQ9
    clear hQ9 Q6 c0 c1 c2 c3 c4 c5 d0 d1 d2 d3 d4 d5
    obtain ⟨c0, c1, c2, c3, c4, c5⟩ := Q9.out.bX.cells
    go_wp2_with fail
    refine (mark_stx a _ _ _ Sx 1 Q9.out.oX Q9.out.nX HSA.out (by omega) HTA.out).mono ?_
    rintro e w10 ⟨rfl, -, hf10⟩
    have Q10 : Hid (P4 w w10 a t (.slice ps a.set.length cps) (.slice p a.len cap) (.slice pws t.set.length cws) (.slice pw t.len cw) (.slice pgs t.set.length cgs) (.slice pg t.len cg) gW gX gG Sw Sg) := Q9.out.marked hf10
    clear hf10 Q9 c0 c1 c2 c3 c4 c5
    obtain ⟨c0, c1, c2, c3, c4, c5⟩ := Q10.out.bG.cells
    obtain ⟨d0, d1, d2, d3, d4, d5⟩ := Q10.out.bW.cells
    generalize 1 + a.tops = kk at *
    have hkk : ¬ ((kk : Int) < 0) := by omega
    go_wp2_with fail
    refine (eq_stx t _ _ _ _ _ Q10.out.oG.at0 Q10.out.oW.at0 HST.out).mono ?_
    rintro e w11 ⟨rfl, hb11⟩
    have Q11 : Hid (P4 w w11 a t (.slice ps a.set.length cps) (.slice p a.len cap) (.slice pws t.set.length cws) (.slice pw t.len cw) (.slice pgs t.set.length cgs) (.slice pg t.len cg) gW gX gG Sw Sg) := Q10.out.below hb11
    clear hb11 Q10 c0 c1 c2 c3 c4 c5 d0 d1 d2 d3 d4 d5
    obtain ⟨c0, c1, c2, c3, c4, c5⟩ := Q11.out.bG.cells
    go_wp2_with fail
    refine (mark_stx t _ _ _ Sg 1 Q11.out.oG Q11.out.nG HST.out (by omega) HTT.out).mono ?_
    rintro e w12 ⟨rfl, hm12, hf12⟩
    have Q12 : Hid (P5 w w12 a t (.slice ps a.set.length cps) (.slice p a.len cap) (.slice pws t.set.length cws) (.slice pw t.len cw) (.slice pgs t.set.length cgs) (.slice pg t.len cg) gW gG Sw) := Q11.out.marked hf12 hm12
    clear hm12 hf12 Q11 c0 c1 c2 c3 c4 c5
    obtain ⟨c0, c1, c2, c3, c4, c5⟩ := Q12.out.bG.cells
    obtain ⟨MM, hMM⟩ : ∃ MM, MM = 1 + t.tops := ⟨_, rfl⟩
    rw [← hMM]
    have HMM : Hid (MM = 1 + t.tops) := hMM
    have hM0 : ¬ ((MM : Int) < 0) := by omega
    have hM1 : ((MM : Int) != (MM : Int)) = false := by simp
    clear hMM
    go_wp2_with fail
    refine (held_stx t _ pgs pg cgs cg 1 Q12.out.mG HST.out (by omega) HTT.out).mono ?_
    rintro e w13 ⟨rfl, hb13⟩
    rw [← HMM.out]
    have Q13 : Hid (P5 w w13 a t (.slice ps a.set.length cps) (.slice p a.len cap) (.slice pws t.set.length cws) (.slice pw t.len cw) (.slice pgs t.set.length cgs) (.slice pg t.len cg) gW gG Sw) := Q12.out.below hb13
    clear hb13 Q12 c0 c1 c2 c3 c4 c5
    obtain ⟨c0, c1, c2, c3, c4, c5⟩ := Q13.out.arg.cells
    go_wp2_with fail
    refine (to_stx a _ _ _ (HA.out _ Q13.out.bel) H1.out).mono ?_
    rintro e w14 ⟨sy, vy, rfl, hb14, hy14⟩
    have Q14 : Hid (P5 w w14 a t (.slice ps a.set.length cps) (.slice p a.len cap) (.slice pws t.set.length cws) (.slice pw t.len cw) (.slice pgs t.set.length cgs) (.slice pg t.len cg) gW gG Sw ∧ a.At 0 w14 sy vy) := ⟨Q13.out.below hb14, X.At.mono (Nat.zero_le _) hy14⟩
    clear hb14 hy14 Q13 c0 c1 c2 c3 c4 c5
    go_wp2_with fail
    refine (HIM.out _ _ _ Q14.out.2).mono ?_
    rintro e w15 ⟨sh, vh, Sh, rfl, hb15, hh15, -, -⟩
    obtain ⟨ph, ch, hvh⟩ := hh15.at0.xs.shape
    obtain ⟨phs, chs, hsh⟩ := hh15.at0.sets.shape
    subst hvh hsh
    have hnb := newx w15 (.cells #[.int .i64 t.op, .int .i64 t.at_, .int .i64 t.n, .string t.s, .slice phs t.set.length chs, .slice ph t.len ch] 29)
    have Q15 : Hid (P5 w (w15.alloc (.cells #[.int .i64 t.op, .int .i64 t.at_, .int .i64 t.n, .string t.s, .slice phs t.set.length chs, .slice ph t.len ch] 29)) a t (.slice ps a.set.length cps) (.slice p a.len cap) (.slice pws t.set.length cws) (.slice pw t.len cw) (.slice pgs t.set.length cgs) (.slice pg t.len cg) gW gG Sw ∧ t.At 0 (w15.alloc (.cells #[.int .i64 t.op, .int .i64 t.at_, .int .i64 t.n, .string t.s, .slice phs t.set.length chs, .slice ph t.len ch] 29)) (.slice phs t.set.length chs) (.slice ph t.len ch)) := ⟨(Q14.out.1.below hb15).below hnb, X.At.below hnb hh15.at0⟩
    clear hb15 hh15 hnb Q14
    obtain ⟨d0, d1, d2, d3, d4, d5⟩ := Q15.out.1.bW.cells
    go_wp2_with fail
    refine (eq_stx t _ _ _ _ _ Q15.out.2 Q15.out.1.oW.at0 HST.out).mono ?_
    rintro e w16 ⟨rfl, hb16⟩
    have Q16 : Hid (P5 w w16 a t (.slice ps a.set.length cps) (.slice p a.len cap) (.slice pws t.set.length cws) (.slice pw t.len cw) (.slice pgs t.set.length cgs) (.slice pg t.len cg) gW gG Sw) := Q15.out.1.below hb16
    clear hb16 Q15 d0 d1 d2 d3 d4 d5
    obtain ⟨c0, c1, c2, c3, c4, c5⟩ := Q16.out.bG.cells
    go_wp2_with fail
    refine (held_stx t _ pgs pg cgs cg 1 Q16.out.mG HST.out (by omega) HTT.out).mono ?_
    rintro e w17 ⟨rfl, hb17⟩
    rw [← HMM.out]
    have Q17 : Hid (Below w.heap.size w w17) := Q16.out.bel.trans (hb17.mono Q16.out.bel.size)
    clear hb17 Q16 c0 c1 c2 c3 c4 c5
    go_wp2_with fail
    go_ret
    exact ⟨rfl, Q17.out⟩
  · have E1 : Hid (szX 1048576 a.weight = -1) := szX_no (by omega)
    have HNB : Hid (Below w.heap.size w (w.alloc (.cells #[.int .i64 a.op, .int .i64 a.at_, .int .i64 a.n, .string a.s, .slice ps a.set.length cps, .slice p a.len cap] 45))) := hB0
    clear hN0 hB0 h1
    go_enter Try.func7, Try.ntmps7
    go_wp2_with fail
    refine (sz_stx a _ _ _ 1048576 (HA.out _ HNB.out) (by omega)).mono ?_
    rintro e w1 ⟨rfl, hb1⟩
    rw [E1.out]
    have B1 : Hid (Below w.heap.size w w1) := HNB.out.trans (hb1.mono HNB.out.size)
    clear hb1
    go_wp2_with fail
    go_ret
    exact ⟨rfl, B1.out⟩
end Go.Proofs.Ytoifhaakieigcaa.fnExactWithAll
