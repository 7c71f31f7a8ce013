/- At every list of ints impl.SetOk answers as spec.SetOk, and writes into none: laws.FnExactSetOk returns true, and the argument reads as before. No conditions. -/
import Derived.Test.YtjadjahbblkeoakRows
import Derived.Test.YtjadjahbblkeoakIntsLaw
import Derived.Test.YtjadjahbblkeoakIntsRead
import Derived.Test.YtjadjahbblkeoakIntsImpl
import Derived.WalkKit
import Derived.ProofKit
import Derived.OpenShut
import Derived.ChangeOld
import Derived.Below
namespace Go.Proofs.Ytjadjahbblkeoak.fnExactSetOk
open Go.ChangeShapes Go.WideShapes Go.ChangeAt Go.RowKit
set_option linter.unusedVariables false

theorem own : ownKnob Try.prog.godebug = none := by kernel_rfl
theorem laidOut : laidOutB Try.prog = true := by kernel_rfl

set_option maxRecDepth 100000 in
set_option maxHeartbeats 4000000 in
theorem walk_in (xs : List Int) (v : Value) (w : World) (hv : Rs w v xs) (hl : xs.length ≤ 1048576) :
    Calls Try.prog 3 #[v] w fun e w' => e = .returned (.bool true) ∧ Below w.heap.size w w' := by
  have HL : Hid (xs.length ≤ 4194304) := by show _ ≤ _; omega
  obtain ⟨b, hb⟩ : ∃ b, b = setB xs := ⟨_, rfl⟩
  have HS : Hid (∀ (u : Value) (w1 : World), Rd w1 u xs → Calls Try.prog 9 #[u] w1 fun e w' => e = .returned (.bool b) ∧ Below w1.heap.size w1 w') := fun u w1 h => by rw [hb]; exact spec_setok xs u w1 h HL.out
  have HI : Hid (∀ (u : Value) (w1 : World), Rd w1 u xs → Calls Try.prog 11 #[u] w1 fun e w' => e = .returned (.bool b) ∧ w' = w1) := fun u w1 h => by rw [hb]; exact impl_setok xs u w1 h HL.out
  clear hb
  have HV : Hid (∀ w1, Below w.heap.size w w1 → Rs w1 v xs) := fun w1 h => hv.below h
  obtain ⟨a, cap, ev, -⟩ := hv
  have hb0 : ¬ (1048576 : Int) < xs.length := by omega
  subst ev
  generalize xs.length = m at hb0 HV ⊢
  clear hl
  cases b
  all_goals
    go_enter Try.func3, Try.ntmps3
    go_wp2_with fail
    refine (to_ints xs _ w (HV.out _ (Below.refl _ _)) HL.out).mono ?_
    rintro e w1 ⟨u1, rfl, b1, o1⟩
    have B1 : Hid (Below w.heap.size w w1) := b1
    have O1 : Hid (Own w1 w.heap.size u1 xs) := o1
    clear b1 o1
    go_wp2_with fail
    refine (HS.out u1 w1 O1.out.rd).mono ?_
    rintro e w2 ⟨rfl, b2⟩
    have B2 : Hid (Below w.heap.size w w2) := B1.out.trans (b2.mono B1.out.size)
    clear b2 O1 B1
    go_wp2_with fail
    refine (to_ints xs _ w2 (HV.out _ B2.out) HL.out).mono ?_
    rintro e w3 ⟨x, rfl, b3, o3⟩
    have B3 : Hid (Below w.heap.size w w3) := B2.out.trans (b3.mono B2.out.size)
    have O3 : Hid (Own w3 w2.heap.size x xs) := o3
    clear b3 o3 B2
    go_wp2_with fail
    refine (HI.out x w3 O3.out.rd).mono ?_
    rintro e w4 ⟨rfl, hw4⟩
    subst w4
    go_wp2_with fail
    refine (to_ints xs _ w3 (HV.out _ B3.out) HL.out).mono ?_
    rintro e w4 ⟨u4, rfl, b4, o4⟩
    have B4 : Hid (Below w.heap.size w w4) := B3.out.trans (b4.mono B3.out.size)
    have O4 : Hid (Own w4 w2.heap.size x xs ∧ Own w4 w3.heap.size u4 xs) := ⟨O3.out.below b4, o4⟩
    clear b4 o4 B3 O3
    go_wp2_with fail
    refine (eq_ints xs xs x u4 w4 O4.out.1.rd O4.out.2.rd HL.out HL.out).mono ?_
    rintro e w5 ⟨rfl, b5⟩
    rw [same_self]
    have B5 : Hid (Below w.heap.size w w5) := B4.out.trans (b5.mono B4.out.size)
    clear b5 B4 O4
    go_wp2_with fail
    go_ret
    exact ⟨rfl, B5.out⟩

set_option maxHeartbeats 1000000 in
theorem walk_out (len : Nat) (a : Option Addr) (cap : Nat) (w : World) (hl : ¬ len ≤ 1048576) :
    Calls Try.prog 3 #[.slice a len cap] w fun e w' => e = .returned (.bool true) ∧ Below w.heap.size w w' := by
  have hb0 : (1048576 : Int) < len := by omega
  go_enter Try.func3, Try.ntmps3
  go_wp2
  go_ret
  exact ⟨rfl, Below.refl _ _⟩

theorem walk (a0 : Option Addr) (len0 cap0 : Nat) (z0 : List Int) (w : World) (w0 : IsRow w a0 len0 cap0 z0) :
    Calls Try.prog 3 #[.slice a0 len0 cap0] w fun e w' => e = .returned (.bool true) ∧ Below w.heap.size w w' := by
  by_cases hl : len0 ≤ 1048576
  · obtain ⟨xs, hx, hr⟩ := w0.rs
    exact walk_in xs _ w hr (by omega)
  · exact walk_out len0 a0 cap0 w hl

set_option maxRecDepth 100000 in
theorem lifted (os : Os) (started : os.Started) (H : Type) (enc : TypeId × Value → H) :
    ReturnsInHanded {} Try.checked os 3 .any (Rows.fnExactSetOkSpec.pre6 enc Try.prog Try.f3 Rows.fnExactSetOkRow.domain false) (Rows.fnExactSetOkSpec.post enc Try.prog Try.f3 false true false false) := by
  refine returnsInHanded_of_change (C := Try.checked) own started (by kernel_rfl) Try.func3
    (ChangeSpec.witness6 (enc := enc) (C := Try.checked) false ⟨#[], #[.slice none 0 0], []⟩ 8 (by kernel_rfl) (by kernel_rfl) (by kernel_rfl) (by kernel_rfl)) ?_
  intro W base args ds gs before hval0 hW hcnd _
  have hval : ∀ (j : Nat) t v, Try.f3.params[j]? = some t → args[j]? = some v → Value.okWide Try.prog W .any base t v := hval0
  have hW' := hW
  obtain ⟨p, q, hA0, hV, rfl, hfz, hnd⟩ := hW
  have hA : DataW.TrodAll enc Try.prog W 0 (fun _ => true) true Try.f3.params.toList args.toList ds p := hA0
  rw [Try.params3] at hA hval
  obtain ⟨v0, vs0, d0, ds0, p0, q0, hargs, rfl, rfl, h0, r0⟩ := trodAll_cons hA
  obtain ⟨rfl, rfl, rfl⟩ := trodAll_nil r0
  obtain rfl : args = #[v0] := by cases args; simp_all
  obtain ⟨rfl, rfl⟩ := trodVars_none hV
  obtain ⟨a0, len0, cap0, rfl⟩ := okWide_slice Try.underlying22 (hval 0 22 v0 rfl rfl)
  have k0 := h0
  have lt0 : ∀ x ∈ p0, x.block < W.heap.size := by obtain ⟨m, hm⟩ := k0; exact DataW.trod_lt m _ _ _ hm
  obtain ⟨z0, w0⟩ : ∃ zs, IsRow W a0 len0 cap0 zs := by
    obtain ⟨fuel, hf⟩ := h0
    rcases open_ints Try.underlying22 Try.underlying3 (by kernel_rfl) hf with ⟨hcs, _⟩ | ⟨x, l, c, zs, hcs, _, hl, hm, hz, _, hcell, hwz⟩
    · simp [Value.cells] at hcs
      obtain ⟨rfl, rfl, rfl⟩ := hcs
      exact ⟨[], .inl ⟨rfl, rfl, rfl, rfl⟩⟩
    · simp [Value.cells] at hcs
      obtain ⟨rfl, rfl, rfl⟩ := hcs
      exact ⟨zs, .inr ⟨_, rfl, hl, hm, by simpa using hz, hcell, hwz⟩⟩
  clear hA0 hval0
  refine (walk a0 len0 cap0 z0 W w0).mono fun e W' ⟨he, bel⟩ => ?_
  subst he
  exact ⟨_, rfl, _, _, _, [], _, [], hW', trodAll_mk1 (shut_bool Try.underlying4 _), (trodAll_cons_mk (Below.trod laidOut (by kernel_rfl) (of_decide_eq_true (by kernel_rfl)) k0 bel lt0) trodAll_mk0), rfl, bel.frame _, fun h => by cases h⟩

theorem over : Rows.fnExactSetOkRow.holds Try.pinned (OpenSpec.ofChange Rows.fnExactSetOkSpec) :=
  OpenClaim.holds_of_wide 3 Try.f3 rfl rfl rfl rfl rfl rfl rfl ⟨rfl, rfl, rfl, rfl, rfl⟩ rfl rfl rfl rfl rfl (by kernel_rfl) Try.func3 (by kernel_rfl)
    (of_decide_eq_true (by kernel_rfl)) (by unfold Func.isWrapper; first | (rw [if_pos (by decide +kernel)]; kernel_rfl) | (rw [if_neg (by decide +kernel)]; exact ⟨rfl, rfl⟩))
    (fun os started H enc _ => lifted os started H enc)

/-- The statement. -/
theorem proved : Rows.FnExactSetOkSaid := over
#print axioms proved
end Go.Proofs.Ytjadjahbblkeoak.fnExactSetOk
