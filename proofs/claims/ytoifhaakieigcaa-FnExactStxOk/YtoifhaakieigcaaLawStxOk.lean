/- The walk of laws.FnExactStxOk. No conditions. -/
import Derived.Test.YtoifhaakieigcaaRows
import Derived.Test.YtoifhaakieigcaaSpecStxOk
import Derived.Test.YtoifhaakieigcaaImplStxOk
import Derived.Test.YtoifhaakieigcaaSzStx
import Derived.Test.YtoifhaakieigcaaToStx
import Derived.Test.YtoifhaakieigcaaEqStx
import Derived.Deep.Cut
namespace Go.Proofs.Ytoifhaakieigcaa.fnExactStxOk
open Go.ChangeShapes Go.WideShapes Go.ChangeAt Go.RowKit

abbrev Nd (W : World) (g : Nat) (t : X) (sv v : Value) (ty : TypeId) : Prop := Six W g t.op t.at_ t.n t.s sv v ty

set_option maxRecDepth 100000 in
set_option maxHeartbeats 4000000 in
theorem walk (a : X) (su u : Value) (w : World) (ha : a.Of w su u) :
    Calls Try.prog 5 #[.agg #[.int .i64 a.op, .int .i64 a.at_, .int .i64 a.n, .string a.s, su, u]] w fun e w' => e = .returned (.bool true) ∧ Below w.heap.size w w' := by
  obtain ⟨p, cap, e1⟩ := ha.xs.shape
  obtain ⟨ps, cps, e2⟩ := ha.sets.shape
  have HA : Hid (∀ W, Below w.heap.size w W → a.Of W su u) := fun W h => X.Of.below h ha
  clear ha
  subst e1 e2
  have hN0 : Nd (w.alloc (.cells #[.int .i64 a.op, .int .i64 a.at_, .int .i64 a.n, .string a.s, .slice ps a.set.length cps, .slice p a.len cap] 45)) w.heap.size a (.slice ps a.set.length cps) (.slice p a.len cap) 45 := heap_alloc_new w _
  have hB0 := newx w (.cells #[.int .i64 a.op, .int .i64 a.at_, .int .i64 a.n, .string a.s, .slice ps a.set.length cps, .slice p a.len cap] 45)
  by_cases h1 : a.weight ≤ 1048576
  · have E1 : Hid (szX 1048576 a.weight = ((1048576 - a.weight : Nat) : Int)) := szX_yes h1
    have H1 : Hid (a.weight ≤ 1048576) := h1
    have HSA : Hid a.Small := a.small_of_weight (by omega)
    have HNB : Hid (Nd (w.alloc (.cells #[.int .i64 a.op, .int .i64 a.at_, .int .i64 a.n, .string a.s, .slice ps a.set.length cps, .slice p a.len cap] 45)) w.heap.size a (.slice ps a.set.length cps) (.slice p a.len cap) 45 ∧ Below w.heap.size w (w.alloc (.cells #[.int .i64 a.op, .int .i64 a.at_, .int .i64 a.n, .string a.s, .slice ps a.set.length cps, .slice p a.len cap] 45))) := ⟨hN0, hB0⟩
    obtain ⟨RR, hRR⟩ : ∃ RR, RR = stxOkB a := ⟨_, rfl⟩
    have HRR : Hid (stxOkB a = RR) := hRR.symm
    clear h1 hN0 hB0 hRR
    generalize 1048576 - a.weight = y1 at *
    go_enter Try.func5, Try.ntmps5
    go_wp2_with fail
    refine (sz_stx a _ _ _ 1048576 (HA.out _ HNB.out.2) (by omega)).mono ?_
    rintro e w1 ⟨rfl, hb1⟩
    rw [E1.out]
    have N1 : Hid (Nd w1 w.heap.size a (.slice ps a.set.length cps) (.slice p a.len cap) 45 ∧ Below w.heap.size w w1) := ⟨HNB.out.1.below hb1, HNB.out.2.trans (hb1.mono HNB.out.2.size)⟩
    obtain ⟨c0, c1, c2, c3, c4, c5⟩ := N1.out.1.cells
    clear hb1 HNB
    go_wp2_with fail
    refine (to_stx a _ _ _ (HA.out _ N1.out.2) H1.out).mono ?_
    rintro e w2 ⟨sx0, x0, rfl, hb2, hx0⟩
    have N2 : Hid (Nd w2 w.heap.size a (.slice ps a.set.length cps) (.slice p a.len cap) 45 ∧ Below w.heap.size w w2 ∧ a.At 0 w2 sx0 x0) := ⟨N1.out.1.below hb2, N1.out.2.trans (hb2.mono N1.out.2.size), X.At.mono (Nat.zero_le _) hx0⟩
    clear hb2 hx0 N1 c0 c1 c2 c3 c4 c5
    go_wp2_with fail
    refine (spec_stx_ok a w2 _ _ N2.out.2.2 H1.out).mono ?_
    rintro e w3 ⟨rfl, hb3⟩
    rw [HRR.out]
    have N3 : Hid (Nd w3 w.heap.size a (.slice ps a.set.length cps) (.slice p a.len cap) 45 ∧ Below w.heap.size w w3) := ⟨N2.out.1.below hb3, N2.out.2.1.trans (hb3.mono N2.out.2.1.size)⟩
    clear hb3 N2
    obtain ⟨c0, c1, c2, c3, c4, c5⟩ := N3.out.1.cells
    go_wp2_with fail
    refine (to_stx a _ _ _ (HA.out _ N3.out.2) H1.out).mono ?_
    rintro e w4 ⟨sx, vx, rfl, hb4, hx4⟩
    obtain ⟨px, cx, hvx⟩ := hx4.xs.shape
    obtain ⟨pxs, cxs, hsx⟩ := hx4.sets.shape
    subst hvx hsx
    have hnb := newx w4 (.cells #[.int .i64 a.op, .int .i64 a.at_, .int .i64 a.n, .string a.s, .slice pxs a.set.length cxs, .slice px a.len cx] 29)
    have N4 : Hid (Nd (w4.alloc (.cells #[.int .i64 a.op, .int .i64 a.at_, .int .i64 a.n, .string a.s, .slice pxs a.set.length cxs, .slice px a.len cx] 29)) w.heap.size a (.slice ps a.set.length cps) (.slice p a.len cap) 45 ∧ Below w.heap.size w (w4.alloc (.cells #[.int .i64 a.op, .int .i64 a.at_, .int .i64 a.n, .string a.s, .slice pxs a.set.length cxs, .slice px a.len cx] 29)) ∧ Nd (w4.alloc (.cells #[.int .i64 a.op, .int .i64 a.at_, .int .i64 a.n, .string a.s, .slice pxs a.set.length cxs, .slice px a.len cx] 29)) w4.heap.size a (.slice pxs a.set.length cxs) (.slice px a.len cx) 29 ∧ a.At 0 (w4.alloc (.cells #[.int .i64 a.op, .int .i64 a.at_, .int .i64 a.n, .string a.s, .slice pxs a.set.length cxs, .slice px a.len cx] 29)) (.slice pxs a.set.length cxs) (.slice px a.len cx)) :=
      ⟨(N3.out.1.below hb4).below hnb, (N3.out.2.trans (hb4.mono N3.out.2.size)).trans (hnb.mono (by have := N3.out.2.size; have := hb4.size; omega)), heap_alloc_new w4 _, X.At.below hnb (X.At.mono (Nat.zero_le _) hx4)⟩
    clear hb4 hx4 hnb N3 c0 c1 c2 c3 c4 c5
    go_wp2_with fail
    refine (impl_stx_ok a _ _ _ N4.out.2.2.2 H1.out).mono ?_
    rintro e w5 ⟨rfl, hb5⟩
    rw [HRR.out]
    have N5 : Hid (Nd w5 w.heap.size a (.slice ps a.set.length cps) (.slice p a.len cap) 45 ∧ Below w.heap.size w w5 ∧ Nd w5 w4.heap.size a (.slice pxs a.set.length cxs) (.slice px a.len cx) 29 ∧ a.At 0 w5 (.slice pxs a.set.length cxs) (.slice px a.len cx)) := ⟨N4.out.1.below hb5, N4.out.2.1.trans (hb5.mono N4.out.2.1.size), N4.out.2.2.1.below hb5, X.At.below hb5 N4.out.2.2.2⟩
    clear hb5 N4
    generalize w4.heap.size = gX at *
    obtain ⟨c0, c1, c2, c3, c4, c5⟩ := N5.out.2.2.1.cells
    obtain ⟨d0, d1, d2, d3, d4, d5⟩ := N5.out.1.cells
    have hne : (RR != RR) = false := by cases RR <;> rfl
    go_upto_region 10 with fail
    go_region_with (first
      | (go_at_call 23; refine (to_stx a _ _ _ (HA.out _ ?_) H1.out).mono ?_; exact N5.out.2.1.drew; rintro e w8 ⟨sz, z, rfl, hb8, hin8⟩; have N8 : Hid (Below w.heap.size w w8 ∧ Nd w8 gX a (.slice pxs a.set.length cxs) (.slice px a.len cx) 29 ∧ a.At 0 w8 (.slice pxs a.set.length cxs) (.slice px a.len cx) ∧ a.At 0 w8 sz z) := ⟨N5.out.2.1.trans (((Below.refl _ _).drew.trans hb8).mono N5.out.2.1.size), N5.out.2.2.1.below ((Below.refl _ _).drew.trans hb8), X.At.below ((Below.refl _ _).drew.trans hb8) N5.out.2.2.2, X.At.mono (Nat.zero_le _) hin8⟩; clear hb8 hin8; obtain ⟨q0, q1, q2, q3, q4, q5⟩ := N8.out.2.1.cells)
      | (go_at_call 14; refine (eq_stx a _ _ _ _ _ N8.out.2.2.1 N8.out.2.2.2 HSA.out).mono ?_; rintro e w9 ⟨rfl, hb9⟩; have N9 : Hid (Below w.heap.size w w9) := N8.out.1.trans (hb9.mono N8.out.1.size); clear hb9))
    all_goals
      go_wp2_with fail
      go_ret
      exact ⟨rfl, N9.out⟩
  · have E1 : Hid (szX 1048576 a.weight = -1) := szX_no (by omega)
    have HNB : Hid (Below w.heap.size w (w.alloc (.cells #[.int .i64 a.op, .int .i64 a.at_, .int .i64 a.n, .string a.s, .slice ps a.set.length cps, .slice p a.len cap] 45))) := hB0
    clear hN0 hB0 h1
    go_enter Try.func5, Try.ntmps5
    go_wp2_with fail
    refine (sz_stx a _ _ _ 1048576 (HA.out _ HNB.out) (by omega)).mono ?_
    rintro e w1 ⟨rfl, hb1⟩
    rw [E1.out]
    have B1 : Hid (Below w.heap.size w w1) := HNB.out.trans (hb1.mono HNB.out.size)
    clear hb1
    go_wp2_with fail
    go_ret
    exact ⟨rfl, B1.out⟩
end Go.Proofs.Ytoifhaakieigcaa.fnExactStxOk
