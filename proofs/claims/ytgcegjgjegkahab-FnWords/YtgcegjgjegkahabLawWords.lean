/- Drawn numbers and places are read from their words as they were; a word is one of both: laws.FnWords returns true at every code, and the code reads as before. No conditions. -/
import Derived.Test.YtgcegjgjegkahabWord17
import Derived.Test.YtgcegjgjegkahabDrawW17
import Derived.Test.YtgcegjgjegkahabCodeRow
import Derived.OpenShut
import Derived.ChangeOld
import Derived.Below
namespace Go.Proofs.Ytgcegjgjegkahab.fnWords
open Go.ChangeShapes Go.WideShapes Go.ChangeAt Go.RowKit
set_option linter.unusedVariables false

theorem own : ownKnob Try.prog.godebug = none := by kernel_rfl
theorem laidOut : laidOutB Try.prog = true := by kernel_rfl

theorem code_below {a : Option Addr} {len : Nat} {w w' : World} (h : CodeOk a len w.heap.size w) (hb : Below w.heap.size w w') : CodeOk a len w'.heap.size w' := by
  have := h.keep (w' := w') fun k hk _ => hb.block k hk
  obtain ⟨h1, h2 | ⟨b, off, e, hlt, hz⟩⟩ := this
  · exact ⟨h1, .inl h2⟩
  · exact ⟨h1, .inr ⟨b, off, e, Nat.lt_of_lt_of_le hlt hb.size, hz⟩⟩

theorem odd_intW (n : Int) : evenW (intW n) = false := by
  unfold evenW intW
  cases wokB n with
  | true => rw [if_pos rfl, beq_eq_false_iff_ne]; omega
  | false => rw [if_neg (by decide)]; decide
theorem even_refW (p : Int) : evenW (refW p) = true := by
  unfold evenW refW
  cases (decide (0 ≤ p) && decide (p ≤ 6000)) with
  | true => rw [if_pos rfl, beq_iff_eq]; omega
  | false => rw [if_neg (by decide)]; decide
theorem half_intW {n : Int} (h : wokB n = true) : intW n / 2 = n := by unfold intW; rw [if_pos h]; omega
theorem half_refW {p : Int} (h0 : 0 ≤ p) (h1 : p ≤ 6000) : refW p / 2 = p := by unfold refW; rw [decide_eq_true h0, decide_eq_true h1]; show 2 * p / 2 = p; omega

set_option maxRecDepth 100000 in
set_option maxHeartbeats 8000000 in
theorem walk_in (a : Option Addr) (len cap : Nat) (w : World) (hl : len ≤ 1048576) (hc : CodeOk a len w.heap.size w) :
    Calls Try.prog 8 #[.slice a len cap] w fun e w' => e = .returned (.bool true) ∧ Below w.heap.size w w' := by
  have hb0 : ¬ (1048576 : Int) < len := by omega
  have HC : Hid (∀ w1, Below w.heap.size w w1 → CodeOk a len w1.heap.size w1) := fun w1 h => code_below hc h
  clear hc hl
  go_enter Try.func8, Try.ntmps8
  go_wp2_with (go_at_call 26; go_in)
  refine (drawIntWord_any a len cap w (HC.out _ (Below.refl _ _))).mono ?_
  rintro e w1 ⟨⟨n, rfl⟩, b1⟩
  have B1 : Hid (Below w.heap.size w w1) := b1
  clear b1
  go_wp2_with fail
  refine (dDrawRefWord_any a len cap w1 (HC.out _ B1.out)).mono ?_
  rintro e w2 ⟨⟨p, rfl⟩, b2⟩
  have B2 : Hid (Below w.heap.size w w2) := B1.out.trans (b2.mono B1.out.size)
  clear b2 B1
  have HI1 : Hid (∀ w, Calls Try.prog 37 #[.int .i64 n] w fun e w' => e = .returned (.int .i64 (intW n)) ∧ w' = w) := fun w => impl_intWord n w
  have HI2 : Hid (∀ w, Calls Try.prog 42 #[.int .i64 n] w fun e w' => e = .returned (.int .i64 (intW n)) ∧ w' = w) := fun w => spec_intWord n w
  have HR1 : Hid (∀ w, Calls Try.prog 38 #[.int .i64 p] w fun e w' => e = .returned (.int .i64 (refW p)) ∧ w' = w) := fun w => impl_refWord p w
  have HR2 : Hid (∀ w, Calls Try.prog 43 #[.int .i64 p] w fun e w' => e = .returned (.int .i64 (refW p)) ∧ w' = w) := fun w => spec_refWord p w
  have HO1 : Hid (∀ w, Calls Try.prog 48 #[.int .i64 (intW n)] w fun e w' => e = .returned (.bool false) ∧ w' = w) := fun w => by have := impl_isRef (intW n) w; rw [odd_intW] at this; exact this
  have HO2 : Hid (∀ w, Calls Try.prog 48 #[.int .i64 (refW p)] w fun e w' => e = .returned (.bool true) ∧ w' = w) := fun w => by have := impl_isRef (refW p) w; rw [even_refW] at this; exact this
  have HN1 : Hid (∀ w, Calls Try.prog 44 #[.int .i64 (intW n)] w fun e w' => e = .returned (.int .i64 (intW n / 2)) ∧ w' = w) := fun w => impl_wordInt (intW n) w
  have HN2 : Hid (∀ w, Calls Try.prog 46 #[.int .i64 (refW p)] w fun e w' => e = .returned (.int .i64 (refW p / 2)) ∧ w' = w) := fun w => impl_wordRef (refW p) w
  have HWK : Hid (∀ w, Calls Try.prog 50 #[.int .i64 n] w fun e w' => e = .returned (.bool (wokB n)) ∧ w' = w) := fun w => impl_wordOk n w
  have hn : wokB n = false ∨ wokB n = true ∧ intW n / 2 = n := by
    cases h : wokB n with
    | true => exact .inr ⟨rfl, half_intW h⟩
    | false => exact .inl rfl
  have hp : p < 0 ∨ 6000 < p ∨ (0 ≤ p ∧ p ≤ 6000 ∧ refW p / 2 = p) := by
    by_cases h0 : p < 0
    · exact .inl h0
    · by_cases h1 : 6000 < p
      · exact .inr (.inl h1)
      · exact .inr (.inr ⟨by omega, by omega, half_refW (by omega) (by omega)⟩)
  generalize intW n = iw at *
  generalize refW p = rw_ at *
  go_wp2_with fail
  refine (HI1.out _).mono ?_
  rintro e wz ⟨rfl, hwz⟩
  subst wz
  go_wp2_with fail
  refine (HR1.out _).mono ?_
  rintro e wz ⟨rfl, hwz⟩
  subst wz
  go_wp2_with fail
  refine (dDrawWordInt_any a len cap w2 (HC.out _ B2.out)).mono ?_
  rintro e w3 ⟨⟨x, rfl⟩, b3⟩
  have B3 : Hid (Below w.heap.size w w3) := B2.out.trans (b3.mono B2.out.size)
  clear b3 B2
  go_wp2_with fail
  refine (dDrawWordRef_any a len cap w3 (HC.out _ B3.out)).mono ?_
  rintro e w4 ⟨⟨y, rfl⟩, b4⟩
  have B4 : Hid (Below w.heap.size w w4) := B3.out.trans (b4.mono B3.out.size)
  clear b4 B3
  go_wp2_with fail
  refine (dDrawIsRef_any a len cap w4 (HC.out _ B4.out)).mono ?_
  rintro e w5 ⟨⟨z, rfl⟩, b5⟩
  have B5 : Hid (Below w.heap.size w w5) := B4.out.trans (b5.mono B4.out.size)
  clear b5 B4
  go_wp2_with fail
  refine (HI2.out w5).mono ?_
  rintro e wz ⟨rfl, hwz⟩
  subst wz
  go_wp2_with fail
  refine (HR2.out w5).mono ?_
  rintro e wz ⟨rfl, hwz⟩
  subst wz
  go_wp2_with fail
  refine (impl_wordInt x w5).mono ?_
  rintro e wz ⟨rfl, hwz⟩
  subst wz
  go_wp2_with fail
  refine (spec_wordInt x w5).mono ?_
  rintro e wz ⟨rfl, hwz⟩
  subst wz
  go_wp2_with fail
  refine (impl_wordRef y w5).mono ?_
  rintro e wz ⟨rfl, hwz⟩
  subst wz
  go_wp2_with fail
  refine (spec_wordRef y w5).mono ?_
  rintro e wz ⟨rfl, hwz⟩
  subst wz
  go_wp2_with fail
  refine (impl_isRef z w5).mono ?_
  rintro e wz ⟨rfl, hwz⟩
  subst wz
  go_wp2_with fail
  refine (spec_isRef z w5).mono ?_
  rintro e wz ⟨rfl, hwz⟩
  subst wz
  have HZ1 : Hid ((evenW z != evenW z) = false) := bne_self_eq_false _
  have hz1 := HZ1.out
  go_wp2_with fail
  refine (HO1.out w5).mono ?_
  rintro e wz ⟨rfl, hwz⟩
  subst wz
  go_wp2_with fail
  refine (HO2.out w5).mono ?_
  rintro e wz ⟨rfl, hwz⟩
  subst wz
  go_wp2_with fail
  refine (HWK.out w5).mono ?_
  rintro e wz ⟨rfl, hwz⟩
  subst wz
  rcases hn with hn | ⟨hn, hn2⟩
  case' inl => rw [hn]
  case' inr =>
    rw [hn]
    go_wp2_with fail
    refine (HN1.out w5).mono ?_
    rintro e wz ⟨rfl, hwz⟩
    subst wz
    have hd := beq_iff_eq.2 hn2
  all_goals
    rcases hp with hp | hp | ⟨hp0, hp1, hp2⟩
    · go_wp2_with fail
      go_ret
      exact ⟨rfl, B5.out⟩
    · go_wp2_with fail
      go_ret
      exact ⟨rfl, B5.out⟩
    · go_wp2_with fail
      refine (HN2.out w5).mono ?_
      rintro e wz ⟨rfl, hwz⟩
      subst wz
      have hd2 := beq_iff_eq.2 hp2
      go_wp2_with fail
      go_ret
      exact ⟨rfl, B5.out⟩

set_option maxRecDepth 100000 in
set_option maxHeartbeats 1000000 in
theorem walk_out (a : Option Addr) (len cap : Nat) (w : World) (hl : ¬ len ≤ 1048576) :
    Calls Try.prog 8 #[.slice a len cap] w fun e w' => e = .returned (.bool true) ∧ Below w.heap.size w w' := by
  have hb0 : (1048576 : Int) < len := by omega
  go_enter Try.func8, Try.ntmps8
  go_wp2_with (go_at_call 26; go_in)
  go_ret
  exact ⟨rfl, Below.refl _ _⟩

/-- The shell's word for a slice of bytes that came in. -/
def IsRow (k : IntKind) (w : World) (a : Option Addr) (len cap : Nat) (zs : List Int) : Prop :=
  (a = none ∧ len = 0 ∧ cap = 0 ∧ zs = []) ∨
  ∃ x, a = some x ∧ len ≤ cap ∧ cap ≤ maxLen ∧ zs.length = cap ∧ (∀ i, i < zs.length → w.cell? (x.add i) = some (.int k (zs.getD i 0))) ∧ ∀ n ∈ zs, (Lit.int k n).wf = true

theorem walk (a0 : Option Addr) (len0 cap0 : Nat) (z0 : List Int) (w : World) (w0 : IsRow .u8 w a0 len0 cap0 z0) :
    Calls Try.prog 8 #[.slice a0 len0 cap0] w fun e w' => e = .returned (.bool true) ∧ Below w.heap.size w w' := by
  by_cases hl : len0 ≤ 1048576
  · refine walk_in a0 len0 cap0 w hl (codeOk_of_row (cap := cap0) ?_ hl)
    rcases w0 with ⟨h1, h2, h3, _⟩ | ⟨x, h⟩
    · exact .inl ⟨h1, h2, h3⟩
    · exact .inr ⟨x, z0, h⟩
  · exact walk_out a0 len0 cap0 w hl

set_option maxRecDepth 100000 in
theorem lifted (os : Os) (started : os.Started) (H : Type) (enc : TypeId × Value → H) :
    ReturnsInHanded {} Try.checked os 8 .any (Rows.fnWordsSpec.pre6 enc Try.prog Try.f8 Rows.fnWordsRow.domain false) (Rows.fnWordsSpec.post enc Try.prog Try.f8 false true false false) := by
  refine returnsInHanded_of_change (C := Try.checked) own started (by kernel_rfl) Try.func8
    (ChangeSpec.witness6 (enc := enc) (C := Try.checked) false ⟨#[], #[.slice none 0 0], []⟩ 8 (by kernel_rfl) (by kernel_rfl) (by kernel_rfl) (by kernel_rfl)) ?_
  intro W base args ds gs before hval0 hW hcnd _
  have hval : ∀ (j : Nat) t v, Try.f8.params[j]? = some t → args[j]? = some v → Value.okWide Try.prog W .any base t v := hval0
  have hW' := hW
  obtain ⟨p, q, hA0, hV, rfl, hfz, hnd⟩ := hW
  have hA : DataW.TrodAll enc Try.prog W 0 (fun _ => true) true Try.f8.params.toList args.toList ds p := hA0
  rw [Try.params8] at hA hval
  obtain ⟨v0, vs0, d0, ds0, p0, q0, hargs, rfl, rfl, h0, r0⟩ := trodAll_cons hA
  obtain ⟨rfl, rfl, rfl⟩ := trodAll_nil r0
  obtain rfl : args = #[v0] := by cases args; simp_all
  obtain ⟨rfl, rfl⟩ := trodVars_none hV
  obtain ⟨a0, len0, cap0, rfl⟩ := okWide_slice Try.underlying42 (hval 0 42 v0 rfl rfl)
  have k0 := h0
  have lt0 : ∀ x ∈ p0, x.block < W.heap.size := by obtain ⟨m, hm⟩ := k0; exact DataW.trod_lt m _ _ _ hm
  obtain ⟨z0, w0⟩ : ∃ zs, IsRow .u8 W a0 len0 cap0 zs := by
    obtain ⟨fuel, hf⟩ := h0
    rcases open_ints Try.underlying42 Try.underlying5 (by kernel_rfl) hf with ⟨hcs, _⟩ | ⟨x, l, c, zs, hcs, _, hl, hm, hz, _, hcell, hwz⟩
    · simp [Value.cells] at hcs
      obtain ⟨rfl, rfl, rfl⟩ := hcs
      exact ⟨[], .inl ⟨rfl, rfl, rfl, rfl⟩⟩
    · simp [Value.cells] at hcs
      obtain ⟨rfl, rfl, rfl⟩ := hcs
      exact ⟨zs, .inr ⟨_, rfl, hl, hm, by simpa using hz, hcell, hwz⟩⟩
  clear hA0 hval0
  refine (walk a0 len0 cap0 z0 W w0).mono fun e W' ⟨he, bel⟩ => ?_
  subst he
  exact ⟨_, rfl, _, _, _, [], _, [], hW', trodAll_mk1 (shut_bool Try.underlying4 _), (trodAll_cons_mk (Below.trod laidOut (by kernel_rfl) (of_decide_eq_true (by kernel_rfl)) k0 bel lt0) trodAll_mk0), rfl, bel.frame _, fun h => by cases h⟩

theorem over : Rows.fnWordsRow.holds Try.pinned (OpenSpec.ofChange Rows.fnWordsSpec) :=
  OpenClaim.holds_of_wide 8 Try.f8 rfl rfl rfl rfl rfl rfl rfl ⟨rfl, rfl, rfl, rfl, rfl⟩ rfl rfl rfl rfl rfl (by kernel_rfl) Try.func8 (by kernel_rfl)
    (of_decide_eq_true (by kernel_rfl)) (by unfold Func.isWrapper; first | (rw [if_pos (by decide +kernel)]; kernel_rfl) | (rw [if_neg (by decide +kernel)]; exact ⟨rfl, rfl⟩))
    (fun os started H enc _ => lifted os started H enc)

/-- The statement. -/
theorem proved : Rows.FnWordsSaid := over
#print axioms proved
end Go.Proofs.Ytgcegjgjegkahab.fnWords
