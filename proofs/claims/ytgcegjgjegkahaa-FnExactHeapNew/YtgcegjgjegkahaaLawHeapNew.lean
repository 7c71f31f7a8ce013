/- At every int impl.HeapNew answers as spec.HeapNew, and its answer owns its memory: laws.FnExactHeapNew returns true. No conditions. -/
import Derived.Test.YtgcegjgjegkahaaHeapMk17
import Derived.Test.YtgcegjgjegkahaaHeapLaw
import Derived.OpenShut
import Derived.ChangeOld
import Derived.Below
namespace Go.Proofs.Ytgcegjgjegkahaa.fnExactHeapNew
open Go.ChangeShapes Go.WideShapes Go.ChangeAt Go.RowKit
set_option linter.unusedVariables false

theorem own : ownKnob Try.prog.godebug = none := by kernel_rfl
theorem laidOut : laidOutB Try.prog = true := by kernel_rfl

theorem new_len (n : Int) : (newHp n).ws.length ≤ 6000 := by
  unfold newHp
  cases hd : (decide (1 ≤ n) && decide (n ≤ 3000)) with
  | true =>
    rw [Bool.and_eq_true, decide_eq_true_eq, decide_eq_true_eq] at hd
    rw [if_pos rfl, List.length_replicate]; omega
  | false => rw [if_neg (by decide)]; simp

set_option maxRecDepth 100000 in
set_option maxHeartbeats 4000000 in
theorem walk (n : Int) (w : World) :
    Calls Try.prog 8 #[.int .i64 n] w fun e w' => e = .returned (.bool true) ∧ Below w.heap.size w w' := by
  have hlen := new_len n
  obtain ⟨h, hh⟩ : ∃ h, h = newHp n := ⟨_, rfl⟩
  obtain ⟨b, hb⟩ : ∃ b, b = newOk n := ⟨_, rfl⟩
  have HS : Hid (∀ w1, Calls Try.prog 19 #[.int .i64 n] w1 (HpRet w1.heap.size w1 h b)) := fun w1 => by rw [hh, hb]; exact spec_hnew n w1
  have HI : Hid (∀ w1, Calls Try.prog 20 #[.int .i64 n] w1 (HpRet w1.heap.size w1 h b)) := fun w1 => by rw [hh, hb]; exact impl_hnew n w1
  rw [← hh] at hlen
  have HL : Hid (h.ws.length ≤ 6000) := hlen
  clear hh hb hlen
  have HL4 : Hid (h.ws.length ≤ 4194304) := Nat.le_trans HL.out (by omega)
  go_enter Try.func8, Try.ntmps8
  go_wp2_with fail
  refine (HS.out w).mono ?_
  rintro e w2 ⟨x0, rfl, o2, b2⟩
  obtain ⟨p0, k0, rfl, -⟩ := o2.rd.shape
  obtain ⟨A, hA⟩ : ∃ A, A = w2.alloc (hpO (.slice p0 h.ws.length k0) h) := ⟨_, rfl⟩
  obtain ⟨sA, bA, rA⟩ := box_new w2 (.slice p0 h.ws.length k0) h hA
  have HA : Hid (Below w.heap.size w A ∧ Own A w.heap.size (.slice p0 h.ws.length k0) h.ws ∧ BoxAt A w2.heap.size (.slice p0 h.ws.length k0) h ∧ w.heap.size ≤ w2.heap.size ∧ A.heap.size = w2.heap.size + 1) := ⟨b2.trans (bA.mono b2.size), o2.below bA, rA, b2.size, sA⟩
  clear b2 o2 sA bA rA
  go_wp2_with fail
  rw [← hA]
  clear hA
  refine (HI.out A).mono ?_
  rintro e w4 ⟨g, rfl, o4, b4⟩
  obtain ⟨p1, k1, rfl, -⟩ := o4.rd.shape
  obtain ⟨B, hB⟩ : ∃ B, B = w4.alloc (hpO (.slice p1 h.ws.length k1) h) := ⟨_, rfl⟩
  obtain ⟨sB, bB, rB⟩ := box_new w4 (.slice p1 h.ws.length k1) h hB
  have hAB : Below A.heap.size A B := b4.trans (bB.mono b4.size)
  have HB : Hid (Below w.heap.size w B ∧ Own B w.heap.size (.slice p0 h.ws.length k0) h.ws ∧ BoxAt B w2.heap.size (.slice p0 h.ws.length k0) h ∧ Own B A.heap.size (.slice p1 h.ws.length k1) h.ws ∧ BoxAt B w4.heap.size (.slice p1 h.ws.length k1) h ∧ w.heap.size < A.heap.size ∧ A.heap.size ≤ w4.heap.size ∧ B.heap.size = w4.heap.size + 1) :=
    ⟨HA.out.1.trans (hAB.mono HA.out.1.size), HA.out.2.1.below hAB, HA.out.2.2.1.below hAB (by have := HA.out.2.2.2.2; omega), o4.below bB, rB, by have := HA.out.2.2.2; omega, b4.size, sB⟩
  have N3 : Hid (∀ k, (Value.slice p0 h.ws.length k0).ownBlock = some k → (Value.slice p1 h.ws.length k1).ownBlock ≠ some k) := fun k h1 h2 => by have := (HA.out.2.1.lt k h1).2; have := (o4.lt k h2).1; omega
  have N4 : Hid (∀ k, (Value.slice p1 h.ws.length k1).ownBlock = some k → A.heap.size ≤ k ∧ k < w4.heap.size) := fun k h2 => o4.lt k h2
  have N5 : Hid (w2.heap.size < A.heap.size) := by have := HA.out.2.2.2.2; show _ < _; omega
  obtain ⟨c0, c1, c2, c3⟩ := BoxAt.more (w := w4) (HA.out.2.2.1.below b4 HA.out.2.2.1.lt)
  clear b4 o4 sB bB rB hAB HA
  go_wp2_with fail
  clear c0 c1 c2 c3
  rw [← hB]
  clear hB
  refine (eq_heap h (.slice p1 h.ws.length k1) (.slice p0 h.ws.length k0) B HB.out.2.2.2.1.rd HB.out.2.1.rd HL4.out).mono ?_
  rintro e w9 ⟨rfl, b9⟩
  have H9 : Hid (Below w.heap.size w w9 ∧ Own w9 w.heap.size (.slice p0 h.ws.length k0) h.ws ∧ BoxAt w9 w2.heap.size (.slice p0 h.ws.length k0) h ∧ Own w9 A.heap.size (.slice p1 h.ws.length k1) h.ws ∧ BoxAt w9 w4.heap.size (.slice p1 h.ws.length k1) h ∧ w.heap.size < A.heap.size ∧ A.heap.size ≤ w4.heap.size ∧ w4.heap.size < w9.heap.size) :=
    ⟨HB.out.1.trans (b9.mono HB.out.1.size), HB.out.2.1.below b9, HB.out.2.2.1.below b9 HB.out.2.2.1.lt, HB.out.2.2.2.1.below b9, HB.out.2.2.2.2.1.below b9 HB.out.2.2.2.2.1.lt, HB.out.2.2.2.2.2.1, HB.out.2.2.2.2.2.2.1, by have := HB.out.2.2.2.2.2.2.2; have := b9.size; omega⟩
  clear b9 HB
  obtain ⟨d0, d1, d2, d3⟩ := H9.out.2.2.2.2.1.cells
  go_wp2_with fail
  clear d0 d1 d2 d3
  refine (mark_heap h (.slice p1 h.ws.length k1) A.heap.size 1 w9 H9.out.2.2.2.1 HL4.out (by omega)).mono ?_
  rintro e w10 ⟨rfl, o10, g10⟩
  have n0 : some w2.heap.size ≠ (Value.slice p1 h.ws.length k1).ownBlock := fun h => by have := N4.out _ h.symm; have := N5.out; omega
  have n1 : some w4.heap.size ≠ (Value.slice p1 h.ws.length k1).ownBlock := fun h => by have := N4.out _ h.symm; omega
  have H10 : Hid (Below w.heap.size w w10 ∧ Own w10 w.heap.size (.slice p0 h.ws.length k0) h.ws ∧ BoxAt w10 w2.heap.size (.slice p0 h.ws.length k0) h ∧ Own w10 A.heap.size (.slice p1 h.ws.length k1) (marksI 1 h.ws.length) ∧ BoxAt w10 w4.heap.size (.slice p1 h.ws.length k1) h) :=
    ⟨H9.out.1.grown g10 H9.out.1.size (fun k hk => by have := (N4.out k hk).1; have := H9.out.2.2.2.2.2.1; omega), H9.out.2.1.kept g10 N3.out, H9.out.2.2.1.grown g10 n0, o10, H9.out.2.2.2.2.1.grown g10 n1⟩
  have hm10 : ((1 + h.ws.length : Nat) : Int) = 1 + (h.ws.length : Int) := by omega
  have HQ : Hid (∀ w1, Rd w1 (.slice p1 h.ws.length k1) (marksI 1 h.ws.length) → Calls Try.prog 23 #[heapV (.slice p1 h.ws.length k1) h, .int .i64 1] w1 fun e w' => e = .returned (.int .i64 (1 + (h.ws.length : Int))) ∧ Below w1.heap.size w1 w') := fun w1 hr => by
    have := held_heap h.ws.length h (.slice p1 h.ws.length k1) 1 w1 hr HL4.out (by omega)
    rw [hm10] at this
    exact this
  rw [hm10]
  have hL0 : h.ws.length ≤ 6000 := HL.out
  clear o10 g10 H9 hm10 n0 n1
  obtain ⟨d0, d1, d2, d3⟩ := H10.out.2.2.2.2.cells
  go_wp2_with fail
  clear d0 d1 d2 d3
  refine (HQ.out w10 H10.out.2.2.2.1.rd).mono ?_
  rintro e w11 ⟨rfl, b11⟩
  have H11 : Hid (Below w.heap.size w w11 ∧ Own w11 w.heap.size (.slice p0 h.ws.length k0) h.ws ∧ BoxAt w11 w2.heap.size (.slice p0 h.ws.length k0) h ∧ Own w11 A.heap.size (.slice p1 h.ws.length k1) (marksI 1 h.ws.length) ∧ BoxAt w11 w4.heap.size (.slice p1 h.ws.length k1) h) :=
    ⟨H10.out.1.trans (b11.mono H10.out.1.size), H10.out.2.1.below b11, H10.out.2.2.1.below b11 H10.out.2.2.1.lt, H10.out.2.2.2.1.below b11, H10.out.2.2.2.2.below b11 H10.out.2.2.2.2.lt⟩
  clear b11 H10
  go_wp2_with fail
  refine (HI.out w11).mono ?_
  rintro e w12 ⟨h0, rfl, o12, b12⟩
  obtain ⟨p2, k2, rfl, -⟩ := o12.rd.shape
  obtain ⟨C, hC⟩ : ∃ C, C = w12.alloc (hpO (.slice p2 h.ws.length k2) h) := ⟨_, rfl⟩
  obtain ⟨sC, bC, rC⟩ := box_new w12 (.slice p2 h.ws.length k2) h hC
  have hBC : Below w11.heap.size w11 C := b12.trans (bC.mono b12.size)
  have H12 : Hid (Below w.heap.size w C ∧ Own C w.heap.size (.slice p0 h.ws.length k0) h.ws ∧ BoxAt C w2.heap.size (.slice p0 h.ws.length k0) h ∧ Own C A.heap.size (.slice p1 h.ws.length k1) (marksI 1 h.ws.length) ∧ BoxAt C w4.heap.size (.slice p1 h.ws.length k1) h ∧ Own C w11.heap.size (.slice p2 h.ws.length k2) h.ws ∧ BoxAt C w12.heap.size (.slice p2 h.ws.length k2) h) :=
    ⟨H11.out.1.trans (hBC.mono H11.out.1.size), H11.out.2.1.below hBC, H11.out.2.2.1.below hBC H11.out.2.2.1.lt, H11.out.2.2.2.1.below hBC, H11.out.2.2.2.2.below hBC H11.out.2.2.2.2.lt, o12.below bC, rC⟩
  obtain ⟨c0, c1, c2, c3⟩ := BoxAt.more (w := w12) (H11.out.2.2.1.below b12 H11.out.2.2.1.lt)
  clear b12 o12 sC bC rC hBC H11
  go_wp2_with fail
  clear c0 c1 c2 c3
  rw [← hC]
  clear hC
  refine (eq_heap h (.slice p2 h.ws.length k2) (.slice p0 h.ws.length k0) C H12.out.2.2.2.2.2.1.rd H12.out.2.1.rd HL4.out).mono ?_
  rintro e w13 ⟨rfl, b13⟩
  have H13 : Hid (Below w.heap.size w w13 ∧ Own w13 A.heap.size (.slice p1 h.ws.length k1) (marksI 1 h.ws.length) ∧ BoxAt w13 w4.heap.size (.slice p1 h.ws.length k1) h) :=
    ⟨H12.out.1.trans (b13.mono H12.out.1.size), H12.out.2.2.2.1.below b13, H12.out.2.2.2.2.1.below b13 H12.out.2.2.2.2.1.lt⟩
  clear b13 H12
  obtain ⟨d0, d1, d2, d3⟩ := H13.out.2.2.cells
  go_wp2_with fail
  clear d0 d1 d2 d3
  refine (HQ.out w13 H13.out.2.1.rd).mono ?_
  rintro e w14 ⟨rfl, b14⟩
  have B14 : Hid (Below w.heap.size w w14) := H13.out.1.trans (b14.mono H13.out.1.size)
  clear b14
  go_wp2_with fail
  go_ret
  exact ⟨rfl, B14.out⟩

set_option maxRecDepth 100000 in
theorem lifted (os : Os) (started : os.Started) (H : Type) (enc : TypeId × Value → H) :
    ReturnsInHanded {} Try.checked os 8 .any (Rows.fnExactHeapNewSpec.pre6 enc Try.prog Try.f8 Rows.fnExactHeapNewRow.domain false) (Rows.fnExactHeapNewSpec.post enc Try.prog Try.f8 false true false false) := by
  refine returnsInHanded_of_change (C := Try.checked) own started (by kernel_rfl) Try.func8
    (ChangeSpec.witness6 (enc := enc) (C := Try.checked) false ⟨#[], #[.int .i64 0], []⟩ 8 (by kernel_rfl) (by kernel_rfl) (by kernel_rfl) (by kernel_rfl)) ?_
  intro W base args ds gs before hval0 hW hcnd _
  have hval : ∀ (j : Nat) t v, Try.f8.params[j]? = some t → args[j]? = some v → Value.okWide Try.prog W .any base t v := hval0
  have hW' := hW
  obtain ⟨p, q, hA0, hV, rfl, hfz, hnd⟩ := hW
  have hA : DataW.TrodAll enc Try.prog W 0 (fun _ => true) true Try.f8.params.toList args.toList ds p := hA0
  rw [Try.params8] at hA hval
  obtain ⟨v0, vs0, d0, ds0, p0, q0, hargs, rfl, rfl, h0, r0⟩ := trodAll_cons hA
  obtain ⟨rfl, rfl, rfl⟩ := trodAll_nil r0
  obtain rfl : args = #[v0] := by cases args; simp_all
  obtain ⟨rfl, rfl⟩ := trodVars_none hV
  obtain ⟨a0, rfl, rfl, rfl, w0⟩ := open_int Try.underlying3 (hval 0 3 v0 rfl rfl) h0
  clear hA0 hval0
  refine (walk a0 W).mono fun e W' ⟨he, bel⟩ => ?_
  subst he
  exact ⟨_, rfl, _, _, _, [], _, [], hW', trodAll_mk1 (shut_bool Try.underlying4 _), (trodAll_cons_mk (shut_int Try.underlying3 w0) trodAll_mk0), rfl, bel.frame _, fun h => by cases h⟩

theorem over : Rows.fnExactHeapNewRow.holds Try.pinned (OpenSpec.ofChange Rows.fnExactHeapNewSpec) :=
  OpenClaim.holds_of_wide 8 Try.f8 rfl rfl rfl rfl rfl rfl rfl ⟨rfl, rfl, rfl, rfl, rfl⟩ rfl rfl rfl rfl rfl (by kernel_rfl) Try.func8 (by kernel_rfl)
    (of_decide_eq_true (by kernel_rfl)) (by unfold Func.isWrapper; first | (rw [if_pos (by decide +kernel)]; kernel_rfl) | (rw [if_neg (by decide +kernel)]; exact ⟨rfl, rfl⟩))
    (fun os started H enc _ => lifted os started H enc)

/-- The statement. -/
theorem proved : Rows.FnExactHeapNewSaid := over
#print axioms proved
end Go.Proofs.Ytgcegjgjegkahaa.fnExactHeapNew
