/- At every two lists of ints impl.Within answers as spec.Within, and writes into none: laws.FnExactWithin returns true, and the arguments read as before. No conditions. -/
import Derived.Test.YtjadjahbblkeoakRows
import Derived.Test.YtjadjahbblkeoakIntsLaw
import Derived.Test.YtjadjahbblkeoakIntsRead
import Derived.Test.YtjadjahbblkeoakIntsImpl
import Derived.WalkKit
import Derived.ProofKit
import Derived.OpenShut
import Derived.ChangeOld
import Derived.Below
namespace Go.Proofs.Ytjadjahbblkeoak.fnExactWithin
open Go.ChangeShapes Go.WideShapes Go.ChangeAt Go.RowKit
set_option linter.unusedVariables false

theorem own : ownKnob Try.prog.godebug = none := by kernel_rfl
theorem laidOut : laidOutB Try.prog = true := by kernel_rfl

set_option maxRecDepth 100000 in
set_option maxHeartbeats 4000000 in
theorem walk_in (xs ys : List Int) (v u : Value) (w : World) (hv : Rs w v xs) (hu : Rs w u ys) (hl : xs.length ≤ 1048576) (hl2 : ys.length ≤ 1048576) :
    Calls Try.prog 7 #[v, u] w fun e w' => e = .returned (.bool true) ∧ Below w.heap.size w w' := by
  have HL : Hid (xs.length ≤ 4194304) := by show _ ≤ _; omega
  have HM : Hid (ys.length ≤ 4194304) := by show _ ≤ _; omega
  obtain ⟨b, hb⟩ : ∃ b, b = withinB xs ys := ⟨_, rfl⟩
  have HS : Hid (∀ (p q : Value) (w1 : World), Rd w1 p xs → Rd w1 q ys → Calls Try.prog 21 #[p, q] w1 fun e w' => e = .returned (.bool b) ∧ Below w1.heap.size w1 w') := fun p q w1 h h' => by
    rw [hb]
    exact (spec_within xs ys p q w1 h h' HL.out HM.out).mono fun e w' ⟨h1, h2⟩ => ⟨h1, by first | exact h2 | (rw [h2]; exact Below.refl _ _)⟩
  have HI : Hid (∀ (p q : Value) (w1 : World), Rd w1 p xs → Rd w1 q ys → Calls Try.prog 22 #[p, q] w1 fun e w' => e = .returned (.bool b) ∧ Below w1.heap.size w1 w') := fun p q w1 h h' => by
    rw [hb]
    exact (impl_within xs ys p q w1 h h' HL.out HM.out).mono fun e w' ⟨h1, h2⟩ => ⟨h1, by first | exact h2 | (rw [h2]; exact Below.refl _ _)⟩
  clear hb
  have HV : Hid (∀ w1, Below w.heap.size w w1 → Rs w1 v xs) := fun w1 h => hv.below h
  have HU : Hid (∀ w1, Below w.heap.size w w1 → Rs w1 u ys) := fun w1 h => hu.below h
  obtain ⟨a, cap, ev, -⟩ := hv
  obtain ⟨a2, cap2, eu, -⟩ := hu
  have hb0 : ¬ (1048576 : Int) < xs.length := by omega
  have hb1 : ¬ (1048576 : Int) < ys.length := by omega
  subst ev
  subst eu
  generalize xs.length = m at hb0 HV ⊢
  generalize ys.length = m2 at hb1 HU ⊢
  clear hl hl2
  cases b
  all_goals
    go_enter Try.func7, Try.ntmps7
    go_wp2_with fail
    refine (to_ints xs _ w (HV.out _ (Below.refl _ _)) HL.out).mono ?_
    rintro e w1 ⟨u1, rfl, b1, o1⟩
    have B1 : Hid (Below w.heap.size w w1) := b1
    have O1 : Hid (Own w1 w.heap.size u1 xs) := o1
    clear b1 o1
    go_wp2_with fail
    refine (to_ints ys _ w1 (HU.out _ B1.out) HM.out).mono ?_
    rintro e w2 ⟨u2, rfl, b2, o2⟩
    have B2 : Hid (Below w.heap.size w w2) := B1.out.trans (b2.mono B1.out.size)
    have O2 : Hid (Own w2 w.heap.size u1 xs ∧ Own w2 w1.heap.size u2 ys) := ⟨O1.out.below b2, o2⟩
    clear b2 o2 O1 B1
    go_wp2_with fail
    refine (HS.out u1 u2 w2 O2.out.1.rd O2.out.2.rd).mono ?_
    rintro e w3 ⟨rfl, b3⟩
    have B3 : Hid (Below w.heap.size w w3) := B2.out.trans (b3.mono B2.out.size)
    clear b3 O2 B2
    go_wp2_with fail
    refine (to_ints xs _ w3 (HV.out _ B3.out) HL.out).mono ?_
    rintro e w4 ⟨x, rfl, b4, o4⟩
    have B4 : Hid (Below w.heap.size w w4) := B3.out.trans (b4.mono B3.out.size)
    have O4 : Hid (Own w4 w3.heap.size x xs) := o4
    clear b4 o4 B3
    go_wp2_with fail
    refine (to_ints ys _ w4 (HU.out _ B4.out) HM.out).mono ?_
    rintro e w5 ⟨y, rfl, b5, o5⟩
    have B5 : Hid (Below w.heap.size w w5) := B4.out.trans (b5.mono B4.out.size)
    have O5 : Hid (Own w5 w3.heap.size x xs ∧ Own w5 w4.heap.size y ys) := ⟨O4.out.below b5, o5⟩
    clear b5 o5 B4 O4
    go_wp2_with fail
    refine (HI.out x y w5 O5.out.1.rd O5.out.2.rd).mono ?_
    rintro e w6 ⟨rfl, b6⟩
    have B6 : Hid (Below w.heap.size w w6) := B5.out.trans (b6.mono B5.out.size)
    have O6 : Hid (Own w6 w3.heap.size x xs ∧ Own w6 w4.heap.size y ys) := ⟨O5.out.1.below b6, O5.out.2.below b6⟩
    clear b6 O5 B5
    go_wp2_with fail
    refine (to_ints xs _ w6 (HV.out _ B6.out) HL.out).mono ?_
    rintro e w7 ⟨u7, rfl, b7, o7⟩
    have B7 : Hid (Below w.heap.size w w7) := B6.out.trans (b7.mono B6.out.size)
    have O7 : Hid (Own w7 w3.heap.size x xs ∧ Own w7 w4.heap.size y ys ∧ Own w7 w6.heap.size u7 xs) := ⟨O6.out.1.below b7, O6.out.2.below b7, o7⟩
    clear b7 o7 O6 B6
    go_wp2_with fail
    refine (eq_ints xs xs x u7 w7 O7.out.1.rd O7.out.2.2.rd HL.out HL.out).mono ?_
    rintro e w8 ⟨rfl, b8⟩
    rw [same_self]
    have B8 : Hid (Below w.heap.size w w8) := B7.out.trans (b8.mono B7.out.size)
    have O8 : Hid (Own w8 w4.heap.size y ys) := O7.out.2.1.below b8
    clear b8 B7 O7
    go_wp2_with fail
    refine (to_ints ys _ w8 (HU.out _ B8.out) HM.out).mono ?_
    rintro e w9 ⟨u9, rfl, b9, o9⟩
    have B9 : Hid (Below w.heap.size w w9) := B8.out.trans (b9.mono B8.out.size)
    have O9 : Hid (Own w9 w4.heap.size y ys ∧ Own w9 w8.heap.size u9 ys) := ⟨O8.out.below b9, o9⟩
    clear b9 o9 O8 B8
    go_wp2_with fail
    refine (eq_ints ys ys y u9 w9 O9.out.1.rd O9.out.2.rd HM.out HM.out).mono ?_
    rintro e w10 ⟨rfl, b10⟩
    rw [same_self]
    have B10 : Hid (Below w.heap.size w w10) := B9.out.trans (b10.mono B9.out.size)
    clear b10 B9 O9
    go_wp2_with fail
    go_ret
    exact ⟨rfl, B10.out⟩

set_option maxHeartbeats 1000000 in
theorem walk_out (len len2 : Nat) (a a2 : Option Addr) (cap cap2 : Nat) (w : World) (hl : ¬ len ≤ 1048576) :
    Calls Try.prog 7 #[.slice a len cap, .slice a2 len2 cap2] w fun e w' => e = .returned (.bool true) ∧ Below w.heap.size w w' := by
  have hb0 : (1048576 : Int) < len := by omega
  go_enter Try.func7, Try.ntmps7
  go_wp2
  go_ret
  exact ⟨rfl, Below.refl _ _⟩

set_option maxHeartbeats 1000000 in
theorem walk_out2 (len len2 : Nat) (a a2 : Option Addr) (cap cap2 : Nat) (w : World) (hl : len ≤ 1048576) (hl2 : ¬ len2 ≤ 1048576) :
    Calls Try.prog 7 #[.slice a len cap, .slice a2 len2 cap2] w fun e w' => e = .returned (.bool true) ∧ Below w.heap.size w w' := by
  have hb0 : ¬ (1048576 : Int) < len := by omega
  have hb1 : (1048576 : Int) < len2 := by omega
  go_enter Try.func7, Try.ntmps7
  go_wp2
  go_ret
  exact ⟨rfl, Below.refl _ _⟩

theorem walk (a0 : Option Addr) (len0 cap0 : Nat) (z0 : List Int) (a1 : Option Addr) (len1 cap1 : Nat) (z1 : List Int) (w : World) (w0 : IsRow w a0 len0 cap0 z0) (w1 : IsRow w a1 len1 cap1 z1) :
    Calls Try.prog 7 #[.slice a0 len0 cap0, .slice a1 len1 cap1] w fun e w' => e = .returned (.bool true) ∧ Below w.heap.size w w' := by
  by_cases hl : len0 ≤ 1048576
  · by_cases hl2 : len1 ≤ 1048576
    · obtain ⟨xs, hx, hr⟩ := w0.rs
      obtain ⟨ys, hy, hr2⟩ := w1.rs
      exact walk_in xs ys _ _ w hr hr2 (by omega) (by omega)
    · exact walk_out2 len0 len1 a0 a1 cap0 cap1 w hl hl2
  · exact walk_out len0 len1 a0 a1 cap0 cap1 w hl

set_option maxRecDepth 100000 in
theorem lifted (os : Os) (started : os.Started) (H : Type) (enc : TypeId × Value → H) :
    ReturnsInHanded {} Try.checked os 7 .any (Rows.fnExactWithinSpec.pre6 enc Try.prog Try.f7 Rows.fnExactWithinRow.domain false) (Rows.fnExactWithinSpec.post enc Try.prog Try.f7 false true false false) := by
  refine returnsInHanded_of_change (C := Try.checked) own started (by kernel_rfl) Try.func7
    (ChangeSpec.witness6 (enc := enc) (C := Try.checked) false ⟨#[], #[.slice none 0 0, .slice none 0 0], []⟩ 8 (by kernel_rfl) (by kernel_rfl) (by kernel_rfl) (by kernel_rfl)) ?_
  intro W base args ds gs before hval0 hW hcnd _
  have hval : ∀ (j : Nat) t v, Try.f7.params[j]? = some t → args[j]? = some v → Value.okWide Try.prog W .any base t v := hval0
  have hW' := hW
  obtain ⟨p, q, hA0, hV, rfl, hfz, hnd⟩ := hW
  have hA : DataW.TrodAll enc Try.prog W 0 (fun _ => true) true Try.f7.params.toList args.toList ds p := hA0
  rw [Try.params7] at hA hval
  obtain ⟨v0, vs0, d0, ds0, p0, q0, hargs, rfl, rfl, h0, r0⟩ := trodAll_cons hA
  obtain ⟨v1, vs1, d1, ds1, p1, q1, rfl, rfl, rfl, h1, r1⟩ := trodAll_cons r0
  obtain ⟨rfl, rfl, rfl⟩ := trodAll_nil r1
  obtain rfl : args = #[v0, v1] := by cases args; simp_all
  obtain ⟨rfl, rfl⟩ := trodVars_none hV
  obtain ⟨a0, len0, cap0, rfl⟩ := okWide_slice Try.underlying22 (hval 0 22 v0 rfl rfl)
  have k0 := h0
  have lt0 : ∀ x ∈ p0, x.block < W.heap.size := by obtain ⟨m, hm⟩ := k0; exact DataW.trod_lt m _ _ _ hm
  obtain ⟨z0, w0⟩ : ∃ zs, IsRow W a0 len0 cap0 zs := by
    obtain ⟨fuel, hf⟩ := h0
    rcases open_ints Try.underlying22 Try.underlying3 (by kernel_rfl) hf with ⟨hcs, _⟩ | ⟨x, l, c, zs, hcs, _, hl, hm, hz, _, hcell, hwz⟩
    · simp [Value.cells] at hcs
      obtain ⟨rfl, rfl, rfl⟩ := hcs
      exact ⟨[], .inl ⟨rfl, rfl, rfl, rfl⟩⟩
    · simp [Value.cells] at hcs
      obtain ⟨rfl, rfl, rfl⟩ := hcs
      exact ⟨zs, .inr ⟨_, rfl, hl, hm, by simpa using hz, hcell, hwz⟩⟩
  obtain ⟨a1, len1, cap1, rfl⟩ := okWide_slice Try.underlying22 (hval 1 22 v1 rfl rfl)
  have k1 := h1
  have lt1 : ∀ x ∈ p1, x.block < W.heap.size := by obtain ⟨m, hm⟩ := k1; exact DataW.trod_lt m _ _ _ hm
  obtain ⟨z1, w1⟩ : ∃ zs, IsRow W a1 len1 cap1 zs := by
    obtain ⟨fuel, hf⟩ := h1
    rcases open_ints Try.underlying22 Try.underlying3 (by kernel_rfl) hf with ⟨hcs, _⟩ | ⟨x, l, c, zs, hcs, _, hl, hm, hz, _, hcell, hwz⟩
    · simp [Value.cells] at hcs
      obtain ⟨rfl, rfl, rfl⟩ := hcs
      exact ⟨[], .inl ⟨rfl, rfl, rfl, rfl⟩⟩
    · simp [Value.cells] at hcs
      obtain ⟨rfl, rfl, rfl⟩ := hcs
      exact ⟨zs, .inr ⟨_, rfl, hl, hm, by simpa using hz, hcell, hwz⟩⟩
  clear hA0 hval0
  refine (walk a0 len0 cap0 z0 a1 len1 cap1 z1 W w0 w1).mono fun e W' ⟨he, bel⟩ => ?_
  subst he
  exact ⟨_, rfl, _, _, _, [], _, [], hW', trodAll_mk1 (shut_bool Try.underlying4 _), (trodAll_cons_mk (Below.trod laidOut (by kernel_rfl) (of_decide_eq_true (by kernel_rfl)) k0 bel lt0) (trodAll_cons_mk (Below.trod laidOut (by kernel_rfl) (of_decide_eq_true (by kernel_rfl)) k1 bel lt1) trodAll_mk0)), rfl, bel.frame _, fun h => by cases h⟩

theorem over : Rows.fnExactWithinRow.holds Try.pinned (OpenSpec.ofChange Rows.fnExactWithinSpec) :=
  OpenClaim.holds_of_wide 7 Try.f7 rfl rfl rfl rfl rfl rfl rfl ⟨rfl, rfl, rfl, rfl, rfl⟩ rfl rfl rfl rfl rfl (by kernel_rfl) Try.func7 (by kernel_rfl)
    (of_decide_eq_true (by kernel_rfl)) (by unfold Func.isWrapper; first | (rw [if_pos (by decide +kernel)]; kernel_rfl) | (rw [if_neg (by decide +kernel)]; exact ⟨rfl, rfl⟩))
    (fun os started H enc _ => lifted os started H enc)

/-- The statement. -/
theorem proved : Rows.FnExactWithinSaid := over
#print axioms proved
end Go.Proofs.Ytjadjahbblkeoak.fnExactWithin
