/- At every int impl.PutNum answers as spec.PutNum, and its answer owns its memory: laws.FnExactPutNum returns true. No conditions. -/
import Derived.Test.YtocdpgogoadfnaaRows
import Derived.Test.YtocdpgogoadfnaaPutNum16
import Derived.WalkKit
import Derived.ProofKit
import Derived.OpenShut
import Derived.ChangeOld
import Derived.Below
namespace Go.Proofs.Ytocdpgogoadfnaa.fnExactPutNum
open Go.ChangeShapes Go.WideShapes Go.ChangeAt Go.RowKit
set_option linter.unusedVariables false

theorem own : ownKnob Try.prog.godebug = none := by kernel_rfl
theorem laidOut : laidOutB Try.prog = true := by kernel_rfl

theorem putI_len (n : Int) : (putI n).length ≤ 5 := by
  unfold putI
  by_cases h : 0 ≤ n ∧ n ≤ 2147483647
  · rw [if_pos h]; exact putN_len5 (by omega)
  · rw [if_neg h]; simp

set_option maxRecDepth 100000 in
set_option maxHeartbeats 4000000 in
theorem walk (n : Int) (hn : (Lit.int .i64 n).wf = true) (w : World) :
    Calls Try.prog 3 #[.int .i64 n] w fun e w' => e = .returned (.bool true) ∧ Below w.heap.size w w' := by
  have hn2 : n ≤ 9223372036854775807 := (bounds_i64 hn).2
  obtain ⟨L, hL⟩ : ∃ L, L = putI n := ⟨_, rfl⟩
  have HS : Hid (∀ w1, Calls Try.prog 5 #[.int .i64 n] w1 fun e w' => ∃ r, e = .returned r ∧ OwnY w' w1.heap.size r L ∧ Below w1.heap.size w1 w') := fun w1 => by rw [hL]; exact spec_put n w1 hn2
  have HI : Hid (∀ w1, Calls Try.prog 6 #[.int .i64 n] w1 fun e w' => ∃ r, e = .returned r ∧ OwnY w' w1.heap.size r L ∧ Below w1.heap.size w1 w') := fun w1 => by rw [hL]; exact impl_put n w1 hn2
  have HL2 : Hid (L.length ≤ 5) := by rw [hL]; exact putI_len n
  have HL4 : Hid (L.length ≤ 4194304) := Nat.le_trans HL2.out (by omega)
  clear hL
  go_enter Try.func3, Try.ntmps3
  go_wp2_with fail
  refine (HS.out w).mono ?_
  rintro e w2 ⟨x0, rfl, o2, b2⟩
  have B2 : Hid (Below w.heap.size w w2) := b2
  have O2 : Hid (OwnY w2 w.heap.size x0 L) := o2
  clear b2 o2
  go_wp2_with fail
  refine (HI.out w2).mono ?_
  rintro e w4 ⟨g, rfl, o4, b4⟩
  have B4 : Hid (Below w.heap.size w w4) := B2.out.trans (b4.mono B2.out.size)
  have O4 : Hid (OwnY w4 w2.heap.size g L) := o4
  have P4 : Hid (OwnY w4 w.heap.size x0 L) := O2.out.below b4
  have N3 : Hid (∀ k, x0.ownBlock = some k → g.ownBlock ≠ some k) := fun k h1 h2 => by have := (O2.out.lt k h1).2; have := (O4.out.lt k h2).1; omega
  have G0 : Hid (w.heap.size ≤ w2.heap.size) := B2.out.size
  clear b4 o4 O2 B2
  go_wp2_with fail
  refine (eq_bytes L g x0 w4 O4.out.rd P4.out.rd HL4.out).mono ?_
  rintro e w9 ⟨rfl, b9⟩
  have B9 : Hid (Below w.heap.size w w9) := B4.out.trans (b9.mono B4.out.size)
  have O9 : Hid (OwnY w9 w2.heap.size g L ∧ OwnY w9 w.heap.size x0 L) := ⟨O4.out.below b9, P4.out.below b9⟩
  clear b9 O4 P4 B4
  go_wp2_with fail
  refine (mark_bytes g w2.heap.size L 1 w9 O9.out.1 HL4.out (by omega)).mono ?_
  rintro e w10 ⟨rfl, o10, g10⟩
  have B10 : Hid (Below w.heap.size w w10) := B9.out.grown g10 B9.out.size (fun k hk => Nat.le_trans G0.out (O9.out.1.lt k hk).1)
  have O10 : Hid (OwnY w10 w2.heap.size g (marksY 1 L.length) ∧ OwnY w10 w.heap.size x0 L) := ⟨o10, O9.out.2.kept g10 N3.out⟩
  have hm10 : ((1 + L.length : Nat) : Int) = 1 + (L.length : Int) := by omega
  have HQ : Hid (∀ w1, RdY w1 g (marksY 1 L.length) → Calls Try.prog 9 #[g, .int .i64 1] w1 fun e w' => e = .returned (.int .i64 (1 + (L.length : Int))) ∧ w' = w1) := fun w1 h => by
    have := held_bytes L.length g 1 w1 h HL4.out (by omega)
    rw [hm10] at this
    exact this
  rw [hm10]
  have hL0 : L.length ≤ 5 := HL2.out
  clear o10 g10 O9 B9 hm10
  obtain ⟨q, hq⟩ : ∃ q, q = L.length := ⟨_, rfl⟩
  rw [← hq] at HQ O10 hL0 ⊢
  clear hq
  go_wp2_with fail
  refine (HQ.out w10 O10.out.1.rd).mono ?_
  rintro e w11 ⟨rfl, hw11⟩
  subst w11
  go_wp2_with fail
  refine (HI.out w10).mono ?_
  rintro e w12 ⟨h0, rfl, o12, b12⟩
  have B12 : Hid (Below w.heap.size w w12) := B10.out.trans (b12.mono B10.out.size)
  have O12 : Hid (OwnY w12 w2.heap.size g (marksY 1 q) ∧ OwnY w12 w.heap.size x0 L ∧ OwnY w12 w10.heap.size h0 L) := ⟨O10.out.1.below b12, O10.out.2.below b12, o12⟩
  clear b12 o12 O10 B10
  go_wp2_with fail
  refine (eq_bytes L h0 x0 w12 O12.out.2.2.rd O12.out.2.1.rd HL4.out).mono ?_
  rintro e w13 ⟨rfl, b13⟩
  have B13 : Hid (Below w.heap.size w w13) := B12.out.trans (b13.mono B12.out.size)
  have O13 : Hid (OwnY w13 w2.heap.size g (marksY 1 q)) := O12.out.1.below b13
  clear b13 O12 B12
  go_wp2_with fail
  refine (HQ.out w13 O13.out.rd).mono ?_
  rintro e w14 ⟨rfl, hw14⟩
  subst w14
  go_wp2_with fail
  go_ret
  exact ⟨rfl, B13.out⟩

set_option maxRecDepth 100000 in
theorem lifted (os : Os) (started : os.Started) (H : Type) (enc : TypeId × Value → H) :
    ReturnsInHanded {} Try.checked os 3 .any (Rows.fnExactPutNumSpec.pre6 enc Try.prog Try.f3 Rows.fnExactPutNumRow.domain false) (Rows.fnExactPutNumSpec.post enc Try.prog Try.f3 false true false false) := by
  refine returnsInHanded_of_change (C := Try.checked) own started (by kernel_rfl) Try.func3
    (ChangeSpec.witness6 (enc := enc) (C := Try.checked) false ⟨#[], #[.int .i64 0], []⟩ 8 (by kernel_rfl) (by kernel_rfl) (by kernel_rfl) (by kernel_rfl)) ?_
  intro W base args ds gs before hval0 hW hcnd _
  have hval : ∀ (j : Nat) t v, Try.f3.params[j]? = some t → args[j]? = some v → Value.okWide Try.prog W .any base t v := hval0
  have hW' := hW
  obtain ⟨p, q, hA0, hV, rfl, hfz, hnd⟩ := hW
  have hA : DataW.TrodAll enc Try.prog W 0 (fun _ => true) true Try.f3.params.toList args.toList ds p := hA0
  rw [Try.params3] at hA hval
  obtain ⟨v0, vs0, d0, ds0, p0, q0, hargs, rfl, rfl, h0, r0⟩ := trodAll_cons hA
  obtain ⟨rfl, rfl, rfl⟩ := trodAll_nil r0
  obtain rfl : args = #[v0] := by cases args; simp_all
  obtain ⟨rfl, rfl⟩ := trodVars_none hV
  obtain ⟨a0, rfl, rfl, rfl, w0⟩ := open_int Try.underlying3 (hval 0 3 v0 rfl rfl) h0
  clear hA0 hval0
  refine (walk a0 w0 W).mono fun e W' ⟨he, bel⟩ => ?_
  subst he
  exact ⟨_, rfl, _, _, _, [], _, [], hW', trodAll_mk1 (shut_bool Try.underlying4 _), (trodAll_cons_mk (shut_int Try.underlying3 w0) trodAll_mk0), rfl, bel.frame _, fun h => by cases h⟩

theorem over : Rows.fnExactPutNumRow.holds Try.pinned (OpenSpec.ofChange Rows.fnExactPutNumSpec) :=
  OpenClaim.holds_of_wide 3 Try.f3 rfl rfl rfl rfl rfl rfl rfl ⟨rfl, rfl, rfl, rfl, rfl⟩ rfl rfl rfl rfl rfl (by kernel_rfl) Try.func3 (by kernel_rfl)
    (of_decide_eq_true (by kernel_rfl)) (by unfold Func.isWrapper; first | (rw [if_pos (by decide +kernel)]; kernel_rfl) | (rw [if_neg (by decide +kernel)]; exact ⟨rfl, rfl⟩))
    (fun os started H enc _ => lifted os started H enc)

/-- The statement. -/
theorem proved : Rows.FnExactPutNumSaid := over
#print axioms proved
end Go.Proofs.Ytocdpgogoadfnaa.fnExactPutNum
