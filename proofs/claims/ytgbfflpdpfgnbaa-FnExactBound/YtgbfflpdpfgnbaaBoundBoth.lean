/- spec.Bound and impl.Bound answer alike: two symbols of one name and one set. Condition: no set of more than 2^22. -/
import Derived.Test.YtgbfflpdpfgnbaaStxP
import Derived.Test.YtgbfflpdpfgnbaaStxParts
import Derived.Test.YtgbfflpdpfgnbaaIntsSame
import Derived.Test.YtgbfflpdpfgnbaaSixCells
namespace Go.Proofs.Ytgbfflpdpfgnbaa
open Go.ChangeShapes Go.WideShapes Go.ChangeAt Go.RowKit

/-- Two symbols of one name and one set. -/
def boundX (a b : X) : Bool := (a.op == 2) && ((b.op == 2) && ((a.s.toList == b.s.toList) && sameB a.set b.set))
theorem boundX_cases (a b : X) : (boundX a b = sameB a.set b.set ∧ a.op = 2 ∧ b.op = 2 ∧ a.s = b.s) ∨
    (boundX a b = false ∧ ((a.op ≠ 2) ∨ (a.op = 2 ∧ b.op ≠ 2) ∨ (a.op = 2 ∧ b.op = 2 ∧ (a.s.toList == b.s.toList) = false))) := by
  unfold boundX
  by_cases h1 : a.op = 2
  · by_cases h2 : b.op = 2
    · cases h3 : (a.s.toList == b.s.toList) with
      | true => exact .inl ⟨by simp [h1, h2], h1, h2, bytes_injX (by simpa using h3)⟩
      | false => exact .inr ⟨by simp [h1, h2], .inr (.inr ⟨h1, h2, rfl⟩)⟩
    · exact .inr ⟨by simp [h2], .inr (.inl ⟨h1, h2⟩)⟩
  · exact .inr ⟨by simp [h1], .inl h1⟩

theorem X.Small.setX {t : X} (h : t.Small) : t.set.length ≤ 4194304 := by
  cases t with
  | no => simp [X.set]
  | mk op a n s set len kid => exact h.1

set_option maxRecDepth 100000 in
set_option maxHeartbeats 4000000 in
theorem spec_bound (x y : X) (w : World) (su u sv v : Value) (hx : x.At 0 w su u) (hy : y.At 0 w sv v) (h3 : x.Small) (h4 : y.Small) :
    Calls Try.prog 13 #[.agg #[.int .i64 x.op, .int .i64 x.at_, .int .i64 x.n, .string x.s, su, u], .agg #[.int .i64 y.op, .int .i64 y.at_, .int .i64 y.n, .string y.s, sv, v]] w fun e w' => e = .returned (.bool (boundX x y)) ∧ Below w.heap.size w w' := by
  have hh := boundX_cases x y
  have HSS : Hid (∀ w1, Below w.heap.size w w1 → Calls Try.prog 26 #[su, sv] w1 fun e w' => e = .returned (.bool (sameB x.set y.set)) ∧ Below w1.heap.size w1 w') := fun w1 hb => spec_same_set _ _ _ _ w1 (hx.sets.rd.below hb) (hy.sets.rd.below hb) h3.setX h4.setX
  obtain ⟨p, c1, e1⟩ := hx.xs.shape
  obtain ⟨q, c2, e2⟩ := hy.xs.shape
  obtain ⟨p', c3, e3⟩ := hx.sets.shape
  obtain ⟨q', c4, e4⟩ := hy.sets.shape
  subst e1 e2 e3 e4
  clear hx hy h3 h4
  generalize boundX x y = R at *
  generalize sameB x.set y.set = SB at *
  generalize x.set.length = l1 at *
  generalize y.set.length = l2 at *
  generalize x.op = op at *
  generalize x.at_ = a at *
  generalize x.n = n at *
  generalize x.s = s at *
  generalize x.len = len at *
  generalize y.op = op2 at *
  generalize y.at_ = a2 at *
  generalize y.n = n2 at *
  generalize y.s = s2 at *
  generalize y.len = len2 at *
  have HB : Hid (∀ o1 o2, Below w.heap.size w ((w.alloc o1).alloc o2)) := fun o1 o2 => (newx w _).trans ((newx _ _).mono (by simp))
  rcases hh with ⟨hR, t0, t1, t2⟩ | ⟨hR, c | ⟨c0, c⟩ | ⟨c0, c1, c⟩⟩
  · subst hR t0 t1 t2
    go_enter Try.func13, Try.ntmps13
    go_wp2_with fail
    refine (HSS.out _ (HB.out _ _)).mono ?_
    rintro e w1 ⟨rfl, hb1⟩
    have HB1 : Hid (Below w.heap.size w w1) := (HB.out _ _).trans (hb1.mono (by simp; omega))
    clear hb1
    go_wp2_with fail
    go_ret
    exact ⟨rfl, HB1.out⟩
  · subst hR
    have d1 : (op == 2) = false := by simpa using c
    go_enter Try.func13, Try.ntmps13
    go_wp2_with fail
    go_ret
    exact ⟨rfl, HB.out _ _⟩
  · subst hR c0
    have d1 : (op2 == 2) = false := by simpa using c
    go_enter Try.func13, Try.ntmps13
    go_wp2_with fail
    go_ret
    exact ⟨rfl, HB.out _ _⟩
  · subst hR c0 c1
    go_enter Try.func13, Try.ntmps13
    go_wp2_with fail
    go_ret
    exact ⟨rfl, HB.out _ _⟩

set_option maxRecDepth 100000 in
set_option maxHeartbeats 4000000 in
theorem impl_bound (x y : X) (w : World) (su u sv v : Value) (hx : x.At 0 w su u) (hy : y.At 0 w sv v) (h3 : x.Small) (h4 : y.Small) :
    Calls Try.prog 15 #[.agg #[.int .i64 x.op, .int .i64 x.at_, .int .i64 x.n, .string x.s, su, u], .agg #[.int .i64 y.op, .int .i64 y.at_, .int .i64 y.n, .string y.s, sv, v]] w fun e w' => e = .returned (.bool (boundX x y)) ∧ Below w.heap.size w w' := by
  have hh := boundX_cases x y
  have HSS : Hid (∀ w1, Below w.heap.size w w1 → Calls Try.prog 29 #[su, sv] w1 fun e w' => e = .returned (.bool (sameB x.set y.set)) ∧ Below w1.heap.size w1 w') := fun w1 hb => impl_same_set _ _ _ _ w1 (hx.sets.rd.below hb) (hy.sets.rd.below hb) h3.setX h4.setX
  obtain ⟨p, c1, e1⟩ := hx.xs.shape
  obtain ⟨q, c2, e2⟩ := hy.xs.shape
  obtain ⟨p', c3, e3⟩ := hx.sets.shape
  obtain ⟨q', c4, e4⟩ := hy.sets.shape
  subst e1 e2 e3 e4
  clear hx hy h3 h4
  generalize boundX x y = R at *
  generalize sameB x.set y.set = SB at *
  generalize x.set.length = l1 at *
  generalize y.set.length = l2 at *
  generalize x.op = op at *
  generalize x.at_ = a at *
  generalize x.n = n at *
  generalize x.s = s at *
  generalize x.len = len at *
  generalize y.op = op2 at *
  generalize y.at_ = a2 at *
  generalize y.n = n2 at *
  generalize y.s = s2 at *
  generalize y.len = len2 at *
  obtain ⟨W, hW⟩ : ∃ W, W = (w.alloc (.cells #[.int .i64 op, .int .i64 a, .int .i64 n, .string s, .slice p' l1 c3, .slice p len c1] 40)).alloc (.cells #[.int .i64 op2, .int .i64 a2, .int .i64 n2, .string s2, .slice q' l2 c4, .slice q len2 c2] 40) := ⟨_, rfl⟩
  have HB : Hid (Below w.heap.size w W) := by show Below _ _ _; rw [hW]; exact (newx w _).trans ((newx _ _).mono (by simp))
  obtain ⟨R2, hR2⟩ : ∃ r, r = w.heap.size := ⟨_, rfl⟩
  obtain ⟨R3, hR3⟩ : ∃ r, r = w.heap.size + 1 := ⟨_, rfl⟩
  have H2 : Hid (Six W R2 op a n s (.slice p' l1 c3) (.slice p len c1) 40) := by
    show Six _ _ _ _ _ _ _ _ _
    rw [hW, hR2]
    exact (Below.heap_alloc _ _ _ (by simp)).trans (heap_alloc_new w _)
  have H3 : Hid (Six W R3 op2 a2 n2 s2 (.slice q' l2 c4) (.slice q len2 c2) 40) := by
    show Six _ _ _ _ _ _ _ _ _
    have h := heap_alloc_new (w.alloc (.cells #[.int .i64 op, .int .i64 a, .int .i64 n, .string s, .slice p' l1 c3, .slice p len c1] 40)) (.cells #[.int .i64 op2, .int .i64 a2, .int .i64 n2, .string s2, .slice q' l2 c4, .slice q len2 c2] 40)
    rw [show (w.alloc (.cells #[.int .i64 op, .int .i64 a, .int .i64 n, .string s, .slice p' l1 c3, .slice p len c1] 40)).heap.size = w.heap.size + 1 by simp] at h
    rw [hW, hR3]
    exact h
  have HN : Hid (W.heap.size = w.heap.size + 2) := by show _ = _; rw [hW]; simp
  go_enter Try.func15, Try.ntmps15
  go_wp2_with fail
  rw [← hW, ← hR3, ← hR2]
  clear hW hR2 hR3
  by_cases h0 : op = 2
  case neg =>
    have hRf : R = false := by
      rcases hh with ⟨_, t0, _⟩ | ⟨hR, _⟩
      · exact absurd t0 h0
      · exact hR
    subst hRf
    refine (is_symB op a n s _ _ false (decide_eq_false h0) _).mono ?_
    rintro e w1 ⟨rfl, hb1⟩
    have HB1 : Hid (Below w.heap.size w w1) := HB.out.trans (hb1.mono HB.out.size)
    clear hb1 hh h0
    go_wp2_with fail
    go_ret
    exact ⟨rfl, HB1.out⟩
  case pos =>
  refine (is_symB op a n s _ _ true (decide_eq_true h0) _).mono ?_
  rintro e w1 ⟨rfl, hb1⟩
  have HB1 : Hid (Below w.heap.size w w1) := HB.out.trans (hb1.mono HB.out.size)
  have H21 : Hid (Six w1 R2 op a n s (.slice p' l1 c3) (.slice p len c1) 40) := H2.out.below hb1
  have H31 : Hid (Six w1 R3 op2 a2 n2 s2 (.slice q' l2 c4) (.slice q len2 c2) 40) := H3.out.below hb1
  clear hb1 H2 H3 HN HB
  obtain ⟨z0, z1, z2, z3, z4, z5⟩ := H31.out.cells
  go_wp2_with fail
  by_cases h1 : op2 = 2
  case neg =>
    have hRf : R = false := by
      rcases hh with ⟨_, _, t0, _⟩ | ⟨hR, _⟩
      · exact absurd t0 h1
      · exact hR
    subst hRf
    refine (is_symB op2 a2 n2 s2 _ _ false (decide_eq_false h1) _).mono ?_
    rintro e w2 ⟨rfl, hb2⟩
    have HB2 : Hid (Below w.heap.size w w2) := HB1.out.trans (hb2.mono HB1.out.size)
    clear hb2 hh h0 h1 z0 z1 z2 z3 z4 z5
    go_wp2_with fail
    go_ret
    exact ⟨rfl, HB2.out⟩
  case pos =>
  refine (is_symB op2 a2 n2 s2 _ _ true (decide_eq_true h1) _).mono ?_
  rintro e w2 ⟨rfl, hb2⟩
  have HB2 : Hid (Below w.heap.size w w2) := HB1.out.trans (hb2.mono HB1.out.size)
  have H22 : Hid (Six w2 R2 op a n s (.slice p' l1 c3) (.slice p len c1) 40) := H21.out.below hb2
  have H32 : Hid (Six w2 R3 op2 a2 n2 s2 (.slice q' l2 c4) (.slice q len2 c2) 40) := H31.out.below hb2
  clear hb2 z0 z1 z2 z3 z4 z5 H21 H31 HB1
  obtain ⟨y0, y1, y2, y3, y4, y5⟩ := H22.out.cells
  obtain ⟨z0, z1, z2, z3, z4, z5⟩ := H32.out.cells
  rcases hh with ⟨hR, _, _, t2⟩ | ⟨hR, c | ⟨_, c⟩ | ⟨_, _, c⟩⟩
  · subst hR t2
    clear h0 h1
    go_wp2_with fail
    refine (HSS.out _ HB2.out).mono ?_
    rintro e w3 ⟨rfl, hb3⟩
    have HB3 : Hid (Below w.heap.size w w3) := HB2.out.trans (hb3.mono HB2.out.size)
    clear hb3
    go_wp2_with fail
    go_ret
    exact ⟨rfl, HB3.out⟩
  · exact absurd h0 c
  · exact absurd h1 c
  · subst hR
    clear h0 h1
    go_wp2_with fail
    go_ret
    exact ⟨rfl, HB2.out⟩
end Go.Proofs.Ytgbfflpdpfgnbaa
