/- At every one that is written impl.DatOf answers as spec.DatOf, writes into no argument, keeps none, and its answer owns its memory: laws.FnExactDatOf returns true, and the arguments read as before. No conditions. -/
import Derived.Test.YtoifhaakieigcaaRows
import Derived.Test.YtoifhaakieigcaaLawDat0
import Derived.Test.YtoifhaakieigcaaSpecDatOf
import Derived.Test.YtoifhaakieigcaaImplDatOf
import Derived.OpenShut
import Derived.WideKeyArgs
import Derived.Deep.Cut
namespace Go.Proofs.Ytoifhaakieigcaa.fnExactDatOf
open Go.ChangeShapes Go.WideShapes Go.ChangeAt Go.RowKit

theorem dat_fields (a : X) : (datX a).op = a.op ∧ (datX a).at_ = a.at_ ∧ (datX a).n = a.n ∧ (datX a).s = a.s := by cases a <;> exact ⟨rfl, rfl, rfl, rfl⟩
theorem marks_le (t : D) (hc : t.count ≤ 1048577) : 1 + 4 * sumTo (fun j => (t.kid j).count) t.len ≤ 90000000000000 := by
  have := t.count_eq
  omega
theorem tops_le (t : X) (h : t ≠ .no) (hc : t.count ≤ 1048577) (hn : t.nums ≤ 2097153) : 1 + t.tops ≤ 90000000000000 := by
  have h1 := X.marks_eq h
  have h2 := t.marks_le
  unfold X.tops
  omega

set_option maxRecDepth 100000 in
set_option maxHeartbeats 8000000 in
theorem walk (a : X) (su u : Value) (w : World) (ha : a.Of w su u) :
    Calls Try.prog 4 #[.agg #[.int .i64 a.op, .int .i64 a.at_, .int .i64 a.n, .string a.s, su, u]] w fun e w' => e = .returned (.bool true) ∧ Below w.heap.size w w' := by
  obtain ⟨p, cap, e1⟩ := ha.xs.shape
  obtain ⟨ps, cps, e2⟩ := ha.sets.shape
  have hane : a ≠ .no := by rintro rfl; exact ha.elim
  have HA : Hid (∀ W, Below w.heap.size w W → a.Of W su u) := fun W h => X.Of.below h ha
  clear ha
  subst e1 e2
  have hN0 : Nd (w.alloc (.cells #[.int .i64 a.op, .int .i64 a.at_, .int .i64 a.n, .string a.s, .slice ps a.set.length cps, .slice p a.len cap] 45)) w.heap.size a (.slice ps a.set.length cps) (.slice p a.len cap) 45 := heap_alloc_new w _
  have hB0 := newx w (.cells #[.int .i64 a.op, .int .i64 a.at_, .int .i64 a.n, .string a.s, .slice ps a.set.length cps, .slice p a.len cap] 45)
  by_cases h1 : a.weight ≤ 1048576
  · have E1 : Hid (szX 1048576 a.weight = ((1048576 - a.weight : Nat) : Int)) := szX_yes h1
    have H1 : Hid (a.weight ≤ 1048576) := h1
    have hcnt : a.count ≤ 1048577 := by have := a.count_weight; omega
    have HCN : Hid (a.count ≤ 1048577) := hcnt
    have HSA : Hid a.Small := a.small_of_weight (by omega)
    have HTA : Hid (1 + a.tops ≤ 90000000000000) := tops_le a hane hcnt (by have := a.nums_weight; omega)
    have hTT : 1 + 4 * sumTo (fun j => ((datX a).kid j).count) (datX a).len ≤ 90000000000000 := marks_le _ (by rw [datX_count]; exact hcnt)
    obtain ⟨f0, f1, f2, f3⟩ := dat_fields a
    have hspec : ∀ W sv v, a.At 0 W sv v → Calls Try.prog 22 #[.agg #[.int .i64 a.op, .int .i64 a.at_, .int .i64 a.n, .string a.s, sv, v]] W fun e w' => ∃ u S, e = .returned (.agg #[.int .i64 (datX a).op, .int .i64 (datX a).at_, .int .i64 (datX a).n, .string (datX a).s, u]) ∧ Below W.heap.size W w' ∧ DOwn w' (datX a) u S ∧ S.Nodup ∧ ∀ x ∈ S, W.heap.size ≤ x := by
      intro W sv v h
      rw [f0, f1, f2, f3]
      exact spec_dat_of a W sv v h h1
    have himpl : ∀ W sv v, a.At 0 W sv v → Calls Try.prog 24 #[.agg #[.int .i64 a.op, .int .i64 a.at_, .int .i64 a.n, .string a.s, sv, v]] W fun e w' => ∃ u S, e = .returned (.agg #[.int .i64 (datX a).op, .int .i64 (datX a).at_, .int .i64 (datX a).n, .string (datX a).s, u]) ∧ Below W.heap.size W w' ∧ DOwn w' (datX a) u S ∧ S.Nodup ∧ ∀ x ∈ S, W.heap.size ≤ x := by
      intro W sv v h
      rw [f0, f1, f2, f3]
      exact impl_dat_of a sv v W h hcnt
    clear f0 f1 f2 f3
    generalize datX a = t at *
    have HSP : Hid (∀ W sv v, a.At 0 W sv v → Calls Try.prog 22 #[.agg #[.int .i64 a.op, .int .i64 a.at_, .int .i64 a.n, .string a.s, sv, v]] W fun e w' => ∃ u S, e = .returned (.agg #[.int .i64 t.op, .int .i64 t.at_, .int .i64 t.n, .string t.s, u]) ∧ Below W.heap.size W w' ∧ DOwn w' t u S ∧ S.Nodup ∧ ∀ x ∈ S, W.heap.size ≤ x) := hspec
    have HIM : Hid (∀ W sv v, a.At 0 W sv v → Calls Try.prog 24 #[.agg #[.int .i64 a.op, .int .i64 a.at_, .int .i64 a.n, .string a.s, sv, v]] W fun e w' => ∃ u S, e = .returned (.agg #[.int .i64 t.op, .int .i64 t.at_, .int .i64 t.n, .string t.s, u]) ∧ Below W.heap.size W w' ∧ DOwn w' t u S ∧ S.Nodup ∧ ∀ x ∈ S, W.heap.size ≤ x) := himpl
    have HTT : Hid (1 + 4 * sumTo (fun j => (t.kid j).count) t.len ≤ 90000000000000) := hTT
    have HNB : Hid (Nd (w.alloc (.cells #[.int .i64 a.op, .int .i64 a.at_, .int .i64 a.n, .string a.s, .slice ps a.set.length cps, .slice p a.len cap] 45)) w.heap.size a (.slice ps a.set.length cps) (.slice p a.len cap) 45 ∧ Below w.heap.size w (w.alloc (.cells #[.int .i64 a.op, .int .i64 a.at_, .int .i64 a.n, .string a.s, .slice ps a.set.length cps, .slice p a.len cap] 45))) := ⟨hN0, hB0⟩
    clear hspec himpl hTT h1 hcnt hN0 hB0 hane
    generalize 1048576 - a.weight = y1 at *
    go_enter Try.func4, Try.ntmps4
    go_wp2_with fail
    refine (sz_stx a _ _ _ 1048576 (HA.out _ HNB.out.2) (by omega)).mono ?_
    rintro e w1 ⟨rfl, hb1⟩
    rw [E1.out]
    have N1 : Hid (Nd w1 w.heap.size a (.slice ps a.set.length cps) (.slice p a.len cap) 45 ∧ Below w.heap.size w w1) := ⟨HNB.out.1.below hb1, HNB.out.2.trans (hb1.mono HNB.out.2.size)⟩
    obtain ⟨c0, c1, c2, c3, c4, c5⟩ := N1.out.1.cells
    clear hb1 HNB
    go_wp2_with fail
    refine (to_stx a _ _ _ (HA.out _ N1.out.2) H1.out).mono ?_
    rintro e w2 ⟨sx0, x0, rfl, hb2, hx0⟩
    have N2 : Hid (Nd w2 w.heap.size a (.slice ps a.set.length cps) (.slice p a.len cap) 45 ∧ Below w.heap.size w w2 ∧ a.At 0 w2 sx0 x0) := ⟨N1.out.1.below hb2, N1.out.2.trans (hb2.mono N1.out.2.size), X.At.mono (Nat.zero_le _) hx0⟩
    clear hb2 hx0 N1 c0 c1 c2 c3 c4 c5
    go_wp2_with fail
    refine (HSP.out w2 _ _ N2.out.2.2).mono ?_
    rintro e w3 ⟨vw, Sw, rfl, hb3, hw3, -, hS3⟩
    obtain ⟨pw, cw, hvw⟩ := hw3.sown.sl.shape
    subst hvw
    have Q1 : Hid (PD1 w (w3.alloc (.cells #[.int .i64 t.op, .int .i64 t.at_, .int .i64 t.n, .string t.s, .slice pw t.len cw] 33)) a t (.slice ps a.set.length cps) (.slice p a.len cap) (.slice pw t.len cw) w3.heap.size Sw) := PD1.new N2.out.2.1 N2.out.1 hb3 hw3 hS3
    clear hb3 hw3 hS3 N2
    obtain ⟨c0, c1, c2, c3, c4, c5⟩ := Q1.out.arg.cells
    go_wp2_with fail
    refine (to_stx_own a _ _ _ (HA.out _ Q1.out.bel) H1.out).mono ?_
    rintro e w4 ⟨sx, vx, Sx, rfl, hb4, hx4, hn4, hS4⟩
    obtain ⟨px, cx, hvx⟩ := hx4.at0.xs.shape
    obtain ⟨pxs, cxs, hsx⟩ := hx4.at0.sets.shape
    subst hvx hsx
    have Q2 : Hid (PD2 w (w4.alloc (.cells #[.int .i64 a.op, .int .i64 a.at_, .int .i64 a.n, .string a.s, .slice pxs a.set.length cxs, .slice px a.len cx] 29)) a t (.slice ps a.set.length cps) (.slice p a.len cap) (.slice pw t.len cw) (.slice pxs a.set.length cxs) (.slice px a.len cx) w3.heap.size w4.heap.size Sw Sx) := PD2.new Q1.out hb4 hx4 hn4 hS4
    clear hb4 hx4 hn4 hS4 Q1 c0 c1 c2 c3 c4 c5
    generalize w3.heap.size = gW at *
    obtain ⟨c0, c1, c2, c3, c4, c5⟩ := Q2.out.bX.cells
    go_wp2_with fail
    refine (HIM.out _ _ _ Q2.out.oX.at0).mono ?_
    rintro e w5 ⟨vg, Sg, rfl, hb5, hg5, hn5, hS5⟩
    obtain ⟨pg, cg, hvg⟩ := hg5.sown.sl.shape
    subst hvg
    have Q3 : Hid (PD3 w (w5.alloc (.cells #[.int .i64 t.op, .int .i64 t.at_, .int .i64 t.n, .string t.s, .slice pg t.len cg] 33)) a t (.slice ps a.set.length cps) (.slice p a.len cap) (.slice pw t.len cw) (.slice pxs a.set.length cxs) (.slice px a.len cx) (.slice pg t.len cg) gW w4.heap.size w5.heap.size Sw Sx Sg) := PD3.new Q2.out hb5 hg5 hn5 hS5
    clear hb5 hg5 hn5 hS5 Q2 c0 c1 c2 c3 c4 c5
    generalize w4.heap.size = gX at *
    obtain ⟨c0, c1, c2, c3, c4⟩ := Q3.out.bG.cells
    obtain ⟨d0, d1, d2, d3, d4⟩ := Q3.out.bW.cells
    go_wp2_with fail
    refine (eq_dat t _ _ _ (Q3.out.oG.in' _) (Q3.out.oW.in' _)).mono ?_
    rintro e w6 ⟨rfl, hb6⟩
    have Q6 : Hid (PD3 w w6 a t (.slice ps a.set.length cps) (.slice p a.len cap) (.slice pw t.len cw) (.slice pxs a.set.length cxs) (.slice px a.len cx) (.slice pg t.len cg) gW gX w5.heap.size Sw Sx Sg) := Q3.out.below hb6
    clear hb6 Q3 c0 c1 c2 c3 c4 d0 d1 d2 d3 d4
    generalize w5.heap.size = gG at *
    obtain ⟨c0, c1, c2, c3, c4, c5⟩ := Q6.out.bX.cells
    obtain ⟨d0, d1, d2, d3, d4, d5⟩ := Q6.out.arg.cells
    go_upto_region 10 with fail
    go_cut [31] from 27 (fun z wx => z = .bool false ∧ PD3 w wx a t (.slice ps a.set.length cps) (.slice p a.len cap) (.slice pw t.len cw) (.slice pxs a.set.length cxs) (.slice px a.len cx) (.slice pg t.len cg) gW gX gG Sw Sx Sg)
    case first =>
      go_region_with (first
        | (go_at_call 23; refine (to_stx a _ _ _ (HA.out _ ?_) H1.out).mono ?_; exact Q6.out.bel.drew; rintro e w8 ⟨sz, z, rfl, hb8, hin8⟩; have Q8 : Hid (PD3 w w8 a t (.slice ps a.set.length cps) (.slice p a.len cap) (.slice pw t.len cw) (.slice pxs a.set.length cxs) (.slice px a.len cx) (.slice pg t.len cg) gW gX gG Sw Sx Sg ∧ a.At 0 w8 sz z) := ⟨Q6.out.below ((Below.refl _ _).drew.trans hb8), X.At.mono (Nat.zero_le _) hin8⟩; clear hb8 hin8; obtain ⟨q0, q1, q2, q3, q4, q5⟩ := Q8.out.1.bX.cells)
        | (go_at_call 14; refine (eq_stx a _ _ _ _ _ Q8.out.1.oX.at0 Q8.out.2 HSA.out).mono ?_; rintro e w9 ⟨rfl, hb9⟩; have Q9 : Hid (PD3 w w9 a t (.slice ps a.set.length cps) (.slice p a.len cap) (.slice pw t.len cw) (.slice pxs a.set.length cxs) (.slice px a.len cx) (.slice pg t.len cg) gW gX gG Sw Sx Sg) := Q8.out.1.below hb9; clear hb9))
      all_goals
        go_wp2_with fail
        go_meet
        exact ⟨rfl, Q9.out⟩
    case rest =>
    obtain ⟨rfl, hQ9⟩ := hcut
    have Q9 : Hid (PD3 w wc a t (.slice ps a.set.length cps) (.slice p a.len cap) (.slice pw t.len cw) (.slice pxs a.set.length cxs) (.slice px a.len cx) (.slice pg t.len cg) gW gX gG Sw Sx Sg) := hQ9
    clear hQ9 Q6 c0 c1 c2 c3 c4 c5 d0 d1 d2 d3 d4 d5
    obtain ⟨c0, c1, c2, c3, c4, c5⟩ := Q9.out.bX.cells
    go_wp2_with fail
    refine (mark_stx a _ _ _ Sx 1 Q9.out.oX Q9.out.nX HSA.out (by omega) HTA.out).mono ?_
    rintro e w10 ⟨rfl, -, hf10⟩
    have Q10 : Hid (PD4 w w10 a t (.slice ps a.set.length cps) (.slice p a.len cap) (.slice pw t.len cw) (.slice pg t.len cg) gW gX gG Sw Sg) := Q9.out.marked hf10
    clear hf10 Q9 c0 c1 c2 c3 c4 c5
    obtain ⟨c0, c1, c2, c3, c4⟩ := Q10.out.bG.cells
    obtain ⟨d0, d1, d2, d3, d4⟩ := Q10.out.bW.cells
    generalize 1 + a.tops = kk at *
    have hkk : ¬ ((kk : Int) < 0) := by omega
    go_wp2_with fail
    refine (eq_dat t _ _ _ (Q10.out.oG.in' _) (Q10.out.oW.in' _)).mono ?_
    rintro e w11 ⟨rfl, hb11⟩
    have Q11 : Hid (PD4 w w11 a t (.slice ps a.set.length cps) (.slice p a.len cap) (.slice pw t.len cw) (.slice pg t.len cg) gW gX gG Sw Sg) := Q10.out.below hb11
    clear hb11 Q10 c0 c1 c2 c3 c4 d0 d1 d2 d3 d4
    obtain ⟨c0, c1, c2, c3, c4⟩ := Q11.out.bG.cells
    go_wp2_with fail
    refine (mark_dat t _ _ Sg 1 Q11.out.oG Q11.out.nG (by omega) HTT.out).mono ?_
    rintro e w12 ⟨rfl, hm12, hf12⟩
    have Q12 : Hid (PD5 w w12 a t (.slice ps a.set.length cps) (.slice p a.len cap) (.slice pw t.len cw) (.slice pg t.len cg) gW gG Sw) := Q11.out.marked hf12 hm12
    clear hm12 hf12 Q11 c0 c1 c2 c3 c4
    obtain ⟨c0, c1, c2, c3, c4⟩ := Q12.out.bG.cells
    obtain ⟨MM, hMM⟩ : ∃ MM, MM = 1 + 4 * sumTo (fun j => (t.kid j).count) t.len := ⟨_, rfl⟩
    rw [← hMM]
    have HMM : Hid (MM = 1 + 4 * sumTo (fun j => (t.kid j).count) t.len) := hMM
    have hM0 : ¬ ((MM : Int) < 0) := by omega
    have hM1 : ((MM : Int) != (MM : Int)) = false := by simp
    clear hMM
    go_wp2_with fail
    refine (held_dat t _ pg cg 1 Q12.out.mG (by omega) HTT.out).mono ?_
    rintro e w13 ⟨rfl, hb13⟩
    rw [← HMM.out]
    have Q13 : Hid (PD5 w w13 a t (.slice ps a.set.length cps) (.slice p a.len cap) (.slice pw t.len cw) (.slice pg t.len cg) gW gG Sw) := Q12.out.below hb13
    clear hb13 Q12 c0 c1 c2 c3 c4
    obtain ⟨c0, c1, c2, c3, c4, c5⟩ := Q13.out.arg.cells
    go_wp2_with fail
    refine (to_stx a _ _ _ (HA.out _ Q13.out.bel) H1.out).mono ?_
    rintro e w14 ⟨sy, vy, rfl, hb14, hy14⟩
    have Q14 : Hid (PD5 w w14 a t (.slice ps a.set.length cps) (.slice p a.len cap) (.slice pw t.len cw) (.slice pg t.len cg) gW gG Sw ∧ a.At 0 w14 sy vy) := ⟨Q13.out.below hb14, X.At.mono (Nat.zero_le _) hy14⟩
    clear hb14 hy14 Q13 c0 c1 c2 c3 c4 c5
    go_wp2_with fail
    refine (HIM.out _ _ _ Q14.out.2).mono ?_
    rintro e w15 ⟨vh, Sh, rfl, hb15, hh15, -, -⟩
    obtain ⟨ph, ch, hvh⟩ := hh15.sown.sl.shape
    subst hvh
    have hnb := newx w15 (.cells #[.int .i64 t.op, .int .i64 t.at_, .int .i64 t.n, .string t.s, .slice ph t.len ch] 33)
    have Q15 : Hid (PD5 w (w15.alloc (.cells #[.int .i64 t.op, .int .i64 t.at_, .int .i64 t.n, .string t.s, .slice ph t.len ch] 33)) a t (.slice ps a.set.length cps) (.slice p a.len cap) (.slice pw t.len cw) (.slice pg t.len cg) gW gG Sw ∧ t.In (w15.alloc (.cells #[.int .i64 t.op, .int .i64 t.at_, .int .i64 t.n, .string t.s, .slice ph t.len ch] 33)) (.slice ph t.len ch)) := ⟨(Q14.out.1.below hb15).below hnb, (hh15.in' _).below hnb⟩
    clear hb15 hh15 hnb Q14
    obtain ⟨d0, d1, d2, d3, d4⟩ := Q15.out.1.bW.cells
    go_wp2_with fail
    refine (eq_dat t _ _ _ Q15.out.2 (Q15.out.1.oW.in' _)).mono ?_
    rintro e w16 ⟨rfl, hb16⟩
    have Q16 : Hid (PD5 w w16 a t (.slice ps a.set.length cps) (.slice p a.len cap) (.slice pw t.len cw) (.slice pg t.len cg) gW gG Sw) := Q15.out.1.below hb16
    clear hb16 Q15 d0 d1 d2 d3 d4
    obtain ⟨c0, c1, c2, c3, c4⟩ := Q16.out.bG.cells
    go_wp2_with fail
    refine (held_dat t _ pg cg 1 Q16.out.mG (by omega) HTT.out).mono ?_
    rintro e w17 ⟨rfl, hb17⟩
    rw [← HMM.out]
    have Q17 : Hid (Below w.heap.size w w17) := Q16.out.bel.trans (hb17.mono Q16.out.bel.size)
    clear hb17 Q16 c0 c1 c2 c3 c4
    go_wp2_with fail
    go_ret
    exact ⟨rfl, Q17.out⟩
  · have E1 : Hid (szX 1048576 a.weight = -1) := szX_no (by omega)
    have HNB : Hid (Below w.heap.size w (w.alloc (.cells #[.int .i64 a.op, .int .i64 a.at_, .int .i64 a.n, .string a.s, .slice ps a.set.length cps, .slice p a.len cap] 45))) := hB0
    clear hN0 hB0 h1
    go_enter Try.func4, Try.ntmps4
    go_wp2_with fail
    refine (sz_stx a _ _ _ 1048576 (HA.out _ HNB.out) (by omega)).mono ?_
    rintro e w1 ⟨rfl, hb1⟩
    rw [E1.out]
    have B1 : Hid (Below w.heap.size w w1) := HNB.out.trans (hb1.mono HNB.out.size)
    clear hb1
    go_wp2_with fail
    go_ret
    exact ⟨rfl, B1.out⟩
end Go.Proofs.Ytoifhaakieigcaa.fnExactDatOf
