/- At every row of bytes and place impl.GetNum answers as spec.GetNum, and writes into no argument: laws.FnExactGetNum returns true, and the arguments read as before. No conditions. -/
import Derived.Test.YtocdpgogoadfnaaRows
import Derived.Test.YtocdpgogoadfnaaTakeNum16
import Derived.WalkKit
import Derived.ProofKit
import Derived.OpenShut
import Derived.ChangeOld
import Derived.Below
namespace Go.Proofs.Ytocdpgogoadfnaa.fnExactGetNum
open Go.ChangeShapes Go.WideShapes Go.ChangeAt Go.RowKit
set_option linter.unusedVariables false

theorem own : ownKnob Try.prog.godebug = none := by kernel_rfl
theorem laidOut : laidOutB Try.prog = true := by kernel_rfl

set_option maxRecDepth 100000 in
set_option maxHeartbeats 4000000 in
theorem walk_in (xs : List Nat) (hx : ∀ x ∈ xs, x < 256) (v : Value) (n : Int) (w : World) (hv : RsY w v xs) (hl : xs.length ≤ 1048576) :
    Calls Try.prog 4 #[v, .int .i64 n] w fun e w' => e = .returned (.bool true) ∧ Below w.heap.size w w' := by
  have HL : Hid (xs.length ≤ 4194304) := by show _ ≤ _; omega
  obtain ⟨r0, r1, r2, hr⟩ : ∃ (r0 r1 : Int) (r2 : Bool), getE xs n = .tuple #[.int .i64 r0, .int .i64 r1, .bool r2] := by
    cases h : numAt xs n with
    | none => exact ⟨0, 0, false, getE_none h⟩
    | some q => exact ⟨q.1, n + q.2, true, getE_some h⟩
  have HS : Hid (∀ (u : Value) (w1 : World), RdY w1 u xs → Calls Try.prog 10 #[u, .int .i64 n] w1 fun e w' => e = .returned (.tuple #[.int .i64 r0, .int .i64 r1, .bool r2]) ∧ w' = w1) := fun u w1 h => by rw [← hr]; exact spec_get xs hx n u w1 h HL.out
  have HI : Hid (∀ (u : Value) (w1 : World), RdY w1 u xs → Calls Try.prog 12 #[u, .int .i64 n] w1 fun e w' => e = .returned (.tuple #[.int .i64 r0, .int .i64 r1, .bool r2]) ∧ Below w1.heap.size w1 w') := fun u w1 h => by rw [← hr]; exact impl_get xs hx n u w1 h HL.out
  clear hr hx
  have HV : Hid (∀ w1, Below w.heap.size w w1 → RsY w1 v xs) := fun w1 h => hv.below h
  obtain ⟨a, cap, ev, -⟩ := hv
  have hb0 : ¬ (1048576 : Int) < xs.length := by omega
  have e0 : (r0 != r0) = false := by simp
  have e1 : (r1 != r1) = false := by simp
  subst ev
  generalize xs.length = m at hb0 HV ⊢
  clear hl
  cases r2
  all_goals
    go_enter Try.func4, Try.ntmps4
    go_wp2_with fail
    refine (to_bytes xs _ w (HV.out _ (Below.refl _ _)) HL.out).mono ?_
    rintro e w1 ⟨u1, rfl, b1, o1⟩
    have B1 : Hid (Below w.heap.size w w1) := b1
    have O1 : Hid (OwnY w1 w.heap.size u1 xs) := o1
    clear b1 o1
    go_wp2_with fail
    refine (HS.out u1 w1 O1.out.rd).mono ?_
    rintro e w2 ⟨rfl, hw2⟩
    subst w2
    go_wp2_with fail
    refine (to_bytes xs _ w1 (HV.out _ B1.out) HL.out).mono ?_
    rintro e w3 ⟨x, rfl, b3, o3⟩
    have B3 : Hid (Below w.heap.size w w3) := B1.out.trans (b3.mono B1.out.size)
    have O3 : Hid (OwnY w3 w1.heap.size x xs) := o3
    clear b3 o3 B1
    go_wp2_with fail
    refine (HI.out x w3 O3.out.rd).mono ?_
    rintro e w4 ⟨rfl, b4⟩
    have B4 : Hid (Below w.heap.size w w4) := B3.out.trans (b4.mono B3.out.size)
    have O4 : Hid (OwnY w4 w1.heap.size x xs) := O3.out.below b4
    clear b4 O3 B3
    go_wp2_with fail
    refine (to_bytes xs _ w4 (HV.out _ B4.out) HL.out).mono ?_
    rintro e w5 ⟨u4, rfl, b5, o5⟩
    have B5 : Hid (Below w.heap.size w w5) := B4.out.trans (b5.mono B4.out.size)
    have O5 : Hid (OwnY w5 w1.heap.size x xs ∧ OwnY w5 w4.heap.size u4 xs) := ⟨O4.out.below b5, o5⟩
    clear b5 o5 B4 O4
    go_wp2_with fail
    refine (eq_bytes xs x u4 w5 O5.out.1.rd O5.out.2.rd HL.out).mono ?_
    rintro e w6 ⟨rfl, b6⟩
    have B6 : Hid (Below w.heap.size w w6) := B5.out.trans (b6.mono B5.out.size)
    clear b6 B5 O5
    go_wp2_with fail
    go_ret
    exact ⟨rfl, B6.out⟩

set_option maxHeartbeats 1000000 in
theorem walk_out (len : Nat) (a : Option Addr) (cap : Nat) (n : Int) (w : World) (hl : ¬ len ≤ 1048576) :
    Calls Try.prog 4 #[.slice a len cap, .int .i64 n] w fun e w' => e = .returned (.bool true) ∧ Below w.heap.size w w' := by
  have hb0 : (1048576 : Int) < len := by omega
  go_enter Try.func4, Try.ntmps4
  go_wp2
  go_ret
  exact ⟨rfl, Below.refl _ _⟩

theorem walk (a0 : Option Addr) (len0 cap0 : Nat) (z0 : List Int) (a1 : Int) (w : World) (w0 : IsRowY w a0 len0 cap0 z0) :
    Calls Try.prog 4 #[.slice a0 len0 cap0, .int .i64 a1] w fun e w' => e = .returned (.bool true) ∧ Below w.heap.size w w' := by
  by_cases hl : len0 ≤ 1048576
  · obtain ⟨xs, hx, hr, h256⟩ := w0.rs
    exact walk_in xs h256 _ a1 w hr (by omega)
  · exact walk_out len0 a0 cap0 a1 w hl

set_option maxRecDepth 100000 in
theorem lifted (os : Os) (started : os.Started) (H : Type) (enc : TypeId × Value → H) :
    ReturnsInHanded {} Try.checked os 4 .any (Rows.fnExactGetNumSpec.pre6 enc Try.prog Try.f4 Rows.fnExactGetNumRow.domain false) (Rows.fnExactGetNumSpec.post enc Try.prog Try.f4 false true false false) := by
  refine returnsInHanded_of_change (C := Try.checked) own started (by kernel_rfl) Try.func4
    (ChangeSpec.witness6 (enc := enc) (C := Try.checked) false ⟨#[], #[.slice none 0 0, .int .i64 0], []⟩ 8 (by kernel_rfl) (by kernel_rfl) (by kernel_rfl) (by kernel_rfl)) ?_
  intro W base args ds gs before hval0 hW hcnd _
  have hval : ∀ (j : Nat) t v, Try.f4.params[j]? = some t → args[j]? = some v → Value.okWide Try.prog W .any base t v := hval0
  have hW' := hW
  obtain ⟨p, q, hA0, hV, rfl, hfz, hnd⟩ := hW
  have hA : DataW.TrodAll enc Try.prog W 0 (fun _ => true) true Try.f4.params.toList args.toList ds p := hA0
  rw [Try.params4] at hA hval
  obtain ⟨v0, vs0, d0, ds0, p0, q0, hargs, rfl, rfl, h0, r0⟩ := trodAll_cons hA
  obtain ⟨v1, vs1, d1, ds1, p1, q1, rfl, rfl, rfl, h1, r1⟩ := trodAll_cons r0
  obtain ⟨rfl, rfl, rfl⟩ := trodAll_nil r1
  obtain rfl : args = #[v0, v1] := by cases args; simp_all
  obtain ⟨rfl, rfl⟩ := trodVars_none hV
  obtain ⟨a0, len0, cap0, rfl⟩ := okWide_slice Try.underlying22 (hval 0 22 v0 rfl rfl)
  have k0 := h0
  have lt0 : ∀ x ∈ p0, x.block < W.heap.size := by obtain ⟨m, hm⟩ := k0; exact DataW.trod_lt m _ _ _ hm
  obtain ⟨z0, w0⟩ : ∃ zs, IsRowY W a0 len0 cap0 zs := by
    obtain ⟨fuel, hf⟩ := h0
    rcases open_ints Try.underlying22 Try.underlying5 (by kernel_rfl) hf with ⟨hcs, _⟩ | ⟨x, l, c, zs, hcs, _, hl, hm, hz, _, hcell, hwz⟩
    · simp [Value.cells] at hcs
      obtain ⟨rfl, rfl, rfl⟩ := hcs
      exact ⟨[], .inl ⟨rfl, rfl, rfl, rfl⟩⟩
    · simp [Value.cells] at hcs
      obtain ⟨rfl, rfl, rfl⟩ := hcs
      exact ⟨zs, .inr ⟨_, rfl, hl, hm, by simpa using hz, hcell, hwz⟩⟩
  obtain ⟨a1, rfl, rfl, rfl, w1⟩ := open_int Try.underlying3 (hval 1 3 v1 rfl rfl) h1
  clear hA0 hval0
  refine (walk a0 len0 cap0 z0 a1 W w0).mono fun e W' ⟨he, bel⟩ => ?_
  subst he
  exact ⟨_, rfl, _, _, _, [], _, [], hW', trodAll_mk1 (shut_bool Try.underlying4 _), (trodAll_cons_mk (Below.trod laidOut (by kernel_rfl) (of_decide_eq_true (by kernel_rfl)) k0 bel lt0) (trodAll_cons_mk (shut_int Try.underlying3 w1) trodAll_mk0)), rfl, bel.frame _, fun h => by cases h⟩

theorem over : Rows.fnExactGetNumRow.holds Try.pinned (OpenSpec.ofChange Rows.fnExactGetNumSpec) :=
  OpenClaim.holds_of_wide 4 Try.f4 rfl rfl rfl rfl rfl rfl rfl ⟨rfl, rfl, rfl, rfl, rfl⟩ rfl rfl rfl rfl rfl (by kernel_rfl) Try.func4 (by kernel_rfl)
    (of_decide_eq_true (by kernel_rfl)) (by unfold Func.isWrapper; first | (rw [if_pos (by decide +kernel)]; kernel_rfl) | (rw [if_neg (by decide +kernel)]; exact ⟨rfl, rfl⟩))
    (fun os started H enc _ => lifted os started H enc)

/-- The statement. -/
theorem proved : Rows.FnExactGetNumSaid := over
#print axioms proved
end Go.Proofs.Ytocdpgogoadfnaa.fnExactGetNum
