/- laws.eqStx and laws.eqStxS: of what is written, laid twice, the answer is true. Condition: no set of more than 2^22. -/
import Derived.Test.YtaflnjhknnnaoaaRows
import Derived.Test.YtaflnjhknnnaoaaZG7StxParts
import Derived.Test.YtaflnjhknnnaoaaZG32IntsSame
import Derived.Test.YtaflnjhknnnaoaaZG2Dat
import Derived.Test.YtaflnjhknnnaoaaZG31PatSpec2
import Derived.Test.YtaflnjhknnnaoaaZG33ToStx
import Derived.WalkKit
import Derived.ProofKit
import Derived.OwnWalk
import Derived.BigQuiet
import Derived.Deep.QuietTactic
import Derived.Deep.RegionWith
import Derived.Deep.Cut
namespace Go.Proofs.Ytaflnjhknnnaoaa
open Go.ChangeShapes Go.WideShapes Go.ChangeAt Go.RowKit

def EqXAt (t : X) : Prop := ∀ (w : World) (su u sv v : Value), t.At 0 w su u → t.At 0 w sv v → t.Small →
  Calls Try.prog 14 #[.agg #[.int .i64 t.op, .int .i64 t.at_, .int .i64 t.n, .string t.s, su, u], .agg #[.int .i64 t.op, .int .i64 t.at_, .int .i64 t.n, .string t.s, sv, v]] w fun e w' => e = .returned (.bool true) ∧ Below w.heap.size w w'

set_option maxRecDepth 100000 in
set_option maxHeartbeats 2000000 in
theorem eq_stxs (len : Nat) (kid : Nat → X) (ih : ∀ i, i < len → EqXAt (kid i)) (w : World) (u v : Value) (hu : XsAt 0 w len kid u) (hv : XsAt 0 w len kid v) (hsm : ∀ i, i < len → (kid i).Small) :
    Calls Try.prog 33 #[u, v] w fun e w' => e = .returned (.bool true) ∧ Below w.heap.size w w' := by
  obtain ⟨p, cap, rfl, hlen, hat⟩ := hu.at
  obtain ⟨q, cap2, rfl, -, hat2⟩ := hv.at
  have HC : Hid (∀ i, i < len → ∃ b o sv u, p = some ⟨b, o, none⟩ ∧ Head6 w b (o + i * 6) (kid i) sv u ∧ (kid i).At 0 w sv u) := hat
  have HD : Hid (∀ i, i < len → ∃ b o sv u, q = some ⟨b, o, none⟩ ∧ Head6 w b (o + i * 6) (kid i) sv u ∧ (kid i).At 0 w sv u) := hat2
  have IH : Hid (∀ i, i < len → EqXAt (kid i)) := ih
  have HSM : Hid (∀ i, i < len → (kid i).Small) := hsm
  clear hat hat2 ih hu hv hsm
  unfold maxLen at hlen
  go_enter Try.func33, Try.ntmps33
  go_wp2_with fail
  go_loopw [5] (fun i wr => ∃ k : Nat, i = .int .i64 k ∧ k ≤ len ∧ Below w.heap.size w wr) (fun i _ => len - (intOf i).toNat)
  case atStart => exact ⟨0, rfl, Nat.zero_le _, Below.refl _ _⟩
  case round =>
    obtain ⟨k, rfl, hk, hbel⟩ := hrel
    have HBL : Hid (Below w.heap.size w wr) := hbel
    clear hbel
    by_cases hlt : (k : Int) < len
    · have hlt' : k < len := by omega
      obtain ⟨b, o, sx, x, hp, hd, hin⟩ := HC.out k hlt'
      obtain ⟨b2, o2, sy, y, hq, hd2, hin2⟩ := HD.out k hlt'
      subst hp hq
      obtain ⟨c0, c1, c2, c3, c4, c5⟩ := hd.below HBL.out
      obtain ⟨d0, d1, d2, d3, d4, d5⟩ := hd2.below HBL.out
      have HI : Hid ((kid k).At 0 wr sx x ∧ (kid k).At 0 wr sy y) := ⟨X.At.below HBL.out hin, X.At.below HBL.out hin2⟩
      clear hd hin hd2 hin2
      have HCL : Hid (∀ w1 : World, Below wr.heap.size wr w1 → Calls Try.prog 14 #[.agg #[.int .i64 (kid k).op, .int .i64 (kid k).at_, .int .i64 (kid k).n, .string (kid k).s, sx, x], .agg #[.int .i64 (kid k).op, .int .i64 (kid k).at_, .int .i64 (kid k).n, .string (kid k).s, sy, y]] w1 fun e w' => e = .returned (.bool true) ∧ Below w1.heap.size w1 w') :=
        fun w1 h1 => IH.out k hlt' w1 sx x sy y (X.At.below h1 HI.out.1) (X.At.below h1 HI.out.2) (HSM.out k hlt')
      go_wp2_with fail
      go_region_with ((go_at_call 14; refine (HCL.out _ ?_).mono ?_; exact (Below.refl _ _).drew; rintro e w1 ⟨rfl, hb1⟩))
      all_goals
        have HB1 : Hid (Below w.heap.size w w1) := HBL.out.trans ⟨hb1.os, hb1.tape, hb1.output, hb1.size, fun j hj => hb1.block j (Nat.lt_of_lt_of_le hj HBL.out.size)⟩
        clear hb1
        go_wp2_with fail
        go_roundw
        case rel => first | exact ⟨k + 1, by go_num, by omega, HB1.out⟩ | ((repeat apply Exists.intro); exact ⟨⟨k + 1, by go_num, by omega, HB1.out⟩, rfl⟩)
        case measure => simp [intOf]; omega
    · go_wp2_with fail
      go_ret
      exact ⟨rfl, HBL.out⟩

set_option maxRecDepth 100000 in
set_option maxHeartbeats 2000000 in
theorem eq_stx (t : X) : EqXAt t := by
  induction t with
  | no => intro w su u sv v h _ _; exact h.elim
  | mk op a n s set len kid ih =>
    intro w su u sv v hu hv hsm
    have h1 := hu.xs
    have h2 := hv.xs
    have r1 := hu.sets
    have r2 := hv.sets
    simp only [X.op, X.at_, X.n, X.s, X.set, X.len, X.kid] at h1 h2 r1 r2 ⊢
    obtain ⟨p, cap, e1⟩ := h1.shape
    obtain ⟨q, cap2, e2⟩ := h2.shape
    obtain ⟨ps, cs, e3⟩ := r1.shape
    obtain ⟨qs, cs2, e4⟩ := r2.shape
    have H1 : Hid (XsAt 0 w len kid u) := h1
    have H2 : Hid (XsAt 0 w len kid v) := h2
    have R1 : Hid (Rd w su set) := r1.rd
    have R2 : Hid (Rd w sv set) := r2.rd
    have HSM : Hid (set.length ≤ 4194304 ∧ ∀ i, i < len → (kid i).Small) := hsm
    have IH : Hid (∀ i, EqXAt (kid i)) := ih
    clear hu hv h1 h2 ih r1 r2 hsm
    subst e1 e2 e3 e4
    go_enter Try.func14, Try.ntmps14
    go_wp2_with fail
    have hb0 : ∀ o1 o2, Below w.heap.size w ((w.alloc o1).alloc o2) := fun o1 o2 => (newx w _).trans ((newx _ _).mono (by simp))
    refine (eq_ints set set _ _ _ (R1.out.below (hb0 _ _)) (R2.out.below (hb0 _ _)) HSM.out.1 HSM.out.1).mono ?_
    rintro e w1 ⟨rfl, hb1⟩
    rw [same_self]
    have HB1 : Hid (Below w.heap.size w w1) := (hb0 _ _).trans (hb1.mono (by simp; omega))
    have a5 : w1.cell? ⟨w.heap.size, 5, none⟩ = some (.slice p len cap) := keepsX hb1 _ _ (by simp [go_sem])
    have b5 : w1.cell? ⟨w.heap.size + 1, 5, none⟩ = some (.slice q len cap2) := keepsX hb1 _ _ (by simp [go_sem])
    clear hb1 hb0 R1 R2
    go_wp2_with fail
    refine (eq_stxs len kid (fun i _ => IH.out i) _ _ _ (XsAt.below HB1.out H1.out) (XsAt.below HB1.out H2.out) HSM.out.2).mono ?_
    rintro e w2 ⟨rfl, hb2⟩
    have HB : Hid (Below w.heap.size w w2) := HB1.out.trans (hb2.mono HB1.out.size)
    clear hb2 a5 b5
    go_wp2_with fail
    go_ret
    exact ⟨rfl, HB.out⟩
end Go.Proofs.Ytaflnjhknnnaoaa

/- The walk of laws.FnExactPatternOk, where impl.PatternOk answers as it should (the premise said). No other conditions. -/
namespace Go.Proofs.Ytaflnjhknnnaoaa.fnExactPatternOk
open Go.ChangeShapes Go.WideShapes Go.ChangeAt Go.RowKit

abbrev Nd (W : World) (g : Nat) (t : X) (sv v : Value) (ty : TypeId) : Prop := Six W g t.op t.at_ t.n t.s sv v ty

/-- What impl.PatternOk must answer. -/
def ImplPat : Prop := ∀ (t : X) (w : World) (sv v : Value), t.At 0 w sv v → t.weight ≤ 1048576 →
  Calls Try.prog 13 #[.agg #[.int .i64 t.op, .int .i64 t.at_, .int .i64 t.n, .string t.s, sv, v]] w fun e w' => e = .returned (.bool (patternB t)) ∧ Below w.heap.size w w'

set_option maxRecDepth 100000 in
set_option maxHeartbeats 4000000 in
theorem walk (himpl : ImplPat) (a : X) (su u : Value) (w : World) (ha : a.Of w su u) :
    Calls Try.prog 4 #[.agg #[.int .i64 a.op, .int .i64 a.at_, .int .i64 a.n, .string a.s, su, u]] w fun e w' => e = .returned (.bool true) ∧ Below w.heap.size w w' := by
  obtain ⟨p, cap, e1⟩ := ha.xs.shape
  obtain ⟨ps, cps, e2⟩ := ha.sets.shape
  have HA : Hid (∀ W, Below w.heap.size w W → a.Of W su u) := fun W h => X.Of.below h ha
  clear ha
  subst e1 e2
  have hN0 : Nd (w.alloc (.cells #[.int .i64 a.op, .int .i64 a.at_, .int .i64 a.n, .string a.s, .slice ps a.set.length cps, .slice p a.len cap] 30)) w.heap.size a (.slice ps a.set.length cps) (.slice p a.len cap) 30 := heap_alloc_new w _
  have hB0 := newx w (.cells #[.int .i64 a.op, .int .i64 a.at_, .int .i64 a.n, .string a.s, .slice ps a.set.length cps, .slice p a.len cap] 30)
  by_cases h1 : a.weight ≤ 1048576
  · have E1 : Hid (szX 1048576 a.weight = ((1048576 - a.weight : Nat) : Int)) := szX_yes h1
    have H1 : Hid (a.weight ≤ 1048576) := h1
    have HSA : Hid a.Small := a.small_of_weight (by omega)
    have HNB : Hid (Nd (w.alloc (.cells #[.int .i64 a.op, .int .i64 a.at_, .int .i64 a.n, .string a.s, .slice ps a.set.length cps, .slice p a.len cap] 30)) w.heap.size a (.slice ps a.set.length cps) (.slice p a.len cap) 30 ∧ Below w.heap.size w (w.alloc (.cells #[.int .i64 a.op, .int .i64 a.at_, .int .i64 a.n, .string a.s, .slice ps a.set.length cps, .slice p a.len cap] 30))) := ⟨hN0, hB0⟩
    obtain ⟨RR, hRR⟩ : ∃ RR, RR = patternB a := ⟨_, rfl⟩
    have HRR : Hid (patternB a = RR) := hRR.symm
    clear h1 hN0 hB0 hRR
    generalize 1048576 - a.weight = y1 at *
    go_enter Try.func4, Try.ntmps4
    go_wp2_with fail
    refine (sz_stx a _ _ _ 1048576 (HA.out _ HNB.out.2) (by omega)).mono ?_
    rintro e w1 ⟨rfl, hb1⟩
    rw [E1.out]
    have N1 : Hid (Nd w1 w.heap.size a (.slice ps a.set.length cps) (.slice p a.len cap) 30 ∧ Below w.heap.size w w1) := ⟨HNB.out.1.below hb1, HNB.out.2.trans (hb1.mono HNB.out.2.size)⟩
    obtain ⟨c0, c1, c2, c3, c4, c5⟩ := N1.out.1.cells
    clear hb1 HNB
    go_wp2_with fail
    refine (to_stx a _ _ _ (HA.out _ N1.out.2) H1.out).mono ?_
    rintro e w2 ⟨sx0, x0, rfl, hb2, hx0⟩
    have N2 : Hid (Nd w2 w.heap.size a (.slice ps a.set.length cps) (.slice p a.len cap) 30 ∧ Below w.heap.size w w2 ∧ a.At 0 w2 sx0 x0) := ⟨N1.out.1.below hb2, N1.out.2.trans (hb2.mono N1.out.2.size), X.At.mono (Nat.zero_le _) hx0⟩
    clear hb2 hx0 N1 c0 c1 c2 c3 c4 c5
    go_wp2_with fail
    refine (spec_pattern_ok a w2 _ _ N2.out.2.2 H1.out).mono ?_
    rintro e w3 ⟨rfl, hb3⟩
    rw [HRR.out]
    have N3 : Hid (Nd w3 w.heap.size a (.slice ps a.set.length cps) (.slice p a.len cap) 30 ∧ Below w.heap.size w w3) := ⟨N2.out.1.below hb3, N2.out.2.1.trans (hb3.mono N2.out.2.1.size)⟩
    clear hb3 N2
    obtain ⟨c0, c1, c2, c3, c4, c5⟩ := N3.out.1.cells
    go_wp2_with fail
    refine (to_stx a _ _ _ (HA.out _ N3.out.2) H1.out).mono ?_
    rintro e w4 ⟨sx, vx, rfl, hb4, hx4⟩
    obtain ⟨px, cx, hvx⟩ := hx4.xs.shape
    obtain ⟨pxs, cxs, hsx⟩ := hx4.sets.shape
    subst hvx hsx
    have hnb := newx w4 (.cells #[.int .i64 a.op, .int .i64 a.at_, .int .i64 a.n, .string a.s, .slice pxs a.set.length cxs, .slice px a.len cx] 35)
    have N4 : Hid (Nd (w4.alloc (.cells #[.int .i64 a.op, .int .i64 a.at_, .int .i64 a.n, .string a.s, .slice pxs a.set.length cxs, .slice px a.len cx] 35)) w.heap.size a (.slice ps a.set.length cps) (.slice p a.len cap) 30 ∧ Below w.heap.size w (w4.alloc (.cells #[.int .i64 a.op, .int .i64 a.at_, .int .i64 a.n, .string a.s, .slice pxs a.set.length cxs, .slice px a.len cx] 35)) ∧ Nd (w4.alloc (.cells #[.int .i64 a.op, .int .i64 a.at_, .int .i64 a.n, .string a.s, .slice pxs a.set.length cxs, .slice px a.len cx] 35)) w4.heap.size a (.slice pxs a.set.length cxs) (.slice px a.len cx) 35 ∧ a.At 0 (w4.alloc (.cells #[.int .i64 a.op, .int .i64 a.at_, .int .i64 a.n, .string a.s, .slice pxs a.set.length cxs, .slice px a.len cx] 35)) (.slice pxs a.set.length cxs) (.slice px a.len cx)) :=
      ⟨(N3.out.1.below hb4).below hnb, (N3.out.2.trans (hb4.mono N3.out.2.size)).trans (hnb.mono (by have := N3.out.2.size; have := hb4.size; omega)), heap_alloc_new w4 _, X.At.below hnb (X.At.mono (Nat.zero_le _) hx4)⟩
    clear hb4 hx4 hnb N3 c0 c1 c2 c3 c4 c5
    go_wp2_with fail
    refine (himpl a _ _ _ N4.out.2.2.2 H1.out).mono ?_
    rintro e w5 ⟨rfl, hb5⟩
    rw [HRR.out]
    have N5 : Hid (Nd w5 w.heap.size a (.slice ps a.set.length cps) (.slice p a.len cap) 30 ∧ Below w.heap.size w w5 ∧ Nd w5 w4.heap.size a (.slice pxs a.set.length cxs) (.slice px a.len cx) 35 ∧ a.At 0 w5 (.slice pxs a.set.length cxs) (.slice px a.len cx)) := ⟨N4.out.1.below hb5, N4.out.2.1.trans (hb5.mono N4.out.2.1.size), N4.out.2.2.1.below hb5, X.At.below hb5 N4.out.2.2.2⟩
    clear hb5 N4
    generalize w4.heap.size = gX at *
    obtain ⟨c0, c1, c2, c3, c4, c5⟩ := N5.out.2.2.1.cells
    obtain ⟨d0, d1, d2, d3, d4, d5⟩ := N5.out.1.cells
    have hne : (RR != RR) = false := by cases RR <;> rfl
    go_upto_region 10 with fail
    go_region_with (first
      | (go_at_call 12; refine (to_stx a _ _ _ (HA.out _ ?_) H1.out).mono ?_; exact N5.out.2.1.drew; rintro e w8 ⟨sz, z, rfl, hb8, hin8⟩; have N8 : Hid (Below w.heap.size w w8 ∧ Nd w8 gX a (.slice pxs a.set.length cxs) (.slice px a.len cx) 35 ∧ a.At 0 w8 (.slice pxs a.set.length cxs) (.slice px a.len cx) ∧ a.At 0 w8 sz z) := ⟨N5.out.2.1.trans (((Below.refl _ _).drew.trans hb8).mono N5.out.2.1.size), N5.out.2.2.1.below ((Below.refl _ _).drew.trans hb8), X.At.below ((Below.refl _ _).drew.trans hb8) N5.out.2.2.2, X.At.mono (Nat.zero_le _) hin8⟩; clear hb8 hin8; obtain ⟨q0, q1, q2, q3, q4, q5⟩ := N8.out.2.1.cells)
      | (go_at_call 14; refine (eq_stx a _ _ _ _ _ N8.out.2.2.1 N8.out.2.2.2 HSA.out).mono ?_; rintro e w9 ⟨rfl, hb9⟩; have N9 : Hid (Below w.heap.size w w9) := N8.out.1.trans (hb9.mono N8.out.1.size); clear hb9))
    all_goals
      go_wp2_with fail
      go_ret
      exact ⟨rfl, N9.out⟩
  · have E1 : Hid (szX 1048576 a.weight = -1) := szX_no (by omega)
    have HNB : Hid (Below w.heap.size w (w.alloc (.cells #[.int .i64 a.op, .int .i64 a.at_, .int .i64 a.n, .string a.s, .slice ps a.set.length cps, .slice p a.len cap] 30))) := hB0
    clear hN0 hB0 h1
    go_enter Try.func4, Try.ntmps4
    go_wp2_with fail
    refine (sz_stx a _ _ _ 1048576 (HA.out _ HNB.out) (by omega)).mono ?_
    rintro e w1 ⟨rfl, hb1⟩
    rw [E1.out]
    have B1 : Hid (Below w.heap.size w w1) := HNB.out.trans (hb1.mono HNB.out.size)
    clear hb1
    go_wp2_with fail
    go_ret
    exact ⟨rfl, B1.out⟩
end Go.Proofs.Ytaflnjhknnnaoaa.fnExactPatternOk
