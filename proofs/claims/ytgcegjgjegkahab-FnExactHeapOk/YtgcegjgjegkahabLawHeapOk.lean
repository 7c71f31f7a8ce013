/- At every heap impl.HeapOk answers as spec.HeapOk, and writes into none: laws.FnExactHeapOk returns true, and the argument reads as before. No conditions. -/
import Derived.Test.YtgcegjgjegkahabRoom17
import Derived.OpenShut
import Derived.ChangeOld
import Derived.Below
namespace Go.Proofs.Ytgcegjgjegkahab.fnExactHeapOk
open Go.ChangeShapes Go.WideShapes Go.ChangeAt Go.RowKit
set_option linter.unusedVariables false

theorem own : ownKnob Try.prog.godebug = none := by kernel_rfl
theorem laidOut : laidOutB Try.prog = true := by kernel_rfl
theorem types : HeapT Try.prog 24 3 22 where
  ex := ⟨_, Try.underlying24, rfl, ⟨_, rfl, rfl, rfl⟩, ⟨_, rfl, rfl, rfl⟩, ⟨_, rfl, rfl, rfl⟩, ⟨_, rfl, rfl, rfl⟩⟩
  i := Try.underlying3
  z := Try.underlying22
  ci := by kernel_rfl
  cz := by kernel_rfl
  cd := by kernel_rfl

set_option maxRecDepth 100000 in
theorem opened {H : Type} {enc : TypeId × Value → H} {W : World} {r : Reach} {base : Nat} {v : Value} {d : DataW H} {ps : List MemPlace} (hv : Value.okWide Try.prog W r base 24 v) (h : DataW.Trod enc Try.prog W 0 (fun _ => true) true 24 v d ps) :
    ∃ (a : Option Addr) (len cap : Nat) (zs : List Int) (half b n : Int), v = .agg #[.slice a len cap, .int .i64 half, .int .i64 b, .int .i64 n] ∧ IsRow W a len cap zs := by
  obtain ⟨cs, rfl⟩ := okAgg Try.underlying24 hv
  obtain ⟨fuel, h⟩ := h
  obtain ⟨a, len, cap, zs, half, b, n, e, hr⟩ := open_heap types fuel _ _ h
  have e' : cs.toList = _ := e
  refine ⟨a, len, cap, zs, half, b, n, ?_, hr⟩
  congr 1
  exact Array.toList_inj.1 e'

set_option maxRecDepth 100000 in
set_option maxHeartbeats 4000000 in
theorem walk_in (h : Hp) (v : Value) (w : World) (hv : Rs w v h.ws) (hl : h.ws.length ≤ 1048576) (hbig : Small64 h.ws) :
    Calls Try.prog 3 #[heapV v h] w fun e w' => e = .returned (.bool true) ∧ Below w.heap.size w w' := by
  have HL : Hid (h.ws.length ≤ 4194304) := by show _ ≤ _; omega
  obtain ⟨b, hb⟩ : ∃ b, b = hpOkB h := ⟨_, rfl⟩
  have HS : Hid (∀ (u : Value) (w1 : World), Rd w1 u h.ws → Calls Try.prog 10 #[heapV u h] w1 fun e w' => e = .returned (.bool b) ∧ Below w1.heap.size w1 w') := fun u w1 hr => by rw [hb]; exact spec_heapok h u w1 hr HL.out (fun j => (hbig j).2)
  have HI : Hid (∀ (u : Value) (w1 : World), Rd w1 u h.ws → Calls Try.prog 12 #[heapV u h] w1 fun e w' => e = .returned (.bool b) ∧ Below w1.heap.size w1 w') := fun u w1 hr => by rw [hb]; exact impl_heapok h u w1 hr hbig
  clear hb hbig
  obtain ⟨a, cap, ev, -⟩ := id hv
  have HTO : Hid (∀ w1, Below w.heap.size w w1 → Calls Try.prog 11 #[heapV v h] w1 fun e w' => ∃ u, e = .returned (heapV u h) ∧ Below w1.heap.size w1 w' ∧ Own w' w1.heap.size u h.ws) := fun w1 hq => to_heap h v w1 (hv.below hq) HL.out
  have HSZ : Hid (∀ w1, Calls Try.prog 9 #[heapV v h, .int .i64 1048576] w1 fun e w' => e = .returned (.int .i64 (1048576 - (h.ws.length : Int))) ∧ Below w1.heap.size w1 w') := fun w1 => by rw [ev]; exact sz_heap a h.ws.length cap h.half h.base h.next w1 hl
  subst ev
  clear hv
  obtain ⟨A, hA⟩ : ∃ A, A = w.alloc (.cells #[.slice a h.ws.length cap, .int .i64 h.half, .int .i64 h.base, .int .i64 h.next] 24) := ⟨_, rfl⟩
  have HA : Hid (Below w.heap.size w A ∧ A.heap[w.heap.size]? = some (.cells #[.slice a h.ws.length cap, .int .i64 h.half, .int .i64 h.base, .int .i64 h.next] 24 (0, 0)) ∧ w.heap.size < A.heap.size) := by
    show _ ∧ _ ∧ _
    rw [hA]
    exact ⟨new_below _ _, heap_alloc_last _ _, by simp⟩
  have HCE : Hid (∀ wq, Below A.heap.size A wq → wq.cell? ⟨w.heap.size, 0, none⟩ = some (.slice a h.ws.length cap) ∧ wq.cell? ⟨w.heap.size, 1, none⟩ = some (.int .i64 h.half) ∧ wq.cell? ⟨w.heap.size, 2, none⟩ = some (.int .i64 h.base) ∧ wq.cell? ⟨w.heap.size, 3, none⟩ = some (.int .i64 h.next)) := fun wq hq => by
    have r := (hq.block _ HA.out.2.2).trans HA.out.2.1
    exact ⟨cell_of_row wq _ 0 _ _ _ r, cell_of_row wq _ 1 _ _ _ r, cell_of_row wq _ 2 _ _ _ r, cell_of_row wq _ 3 _ _ _ r⟩
  go_enter Try.func3, Try.ntmps3
  go_wp2_with fail
  rw [← hA]
  clear hA
  refine (HSZ.out A).mono ?_
  rintro e w1 ⟨rfl, b1⟩
  have B1 : Hid (Below A.heap.size A w1) := b1
  clear b1
  have hl0 : ¬ ((1048576 : Int) - h.ws.length < 0) := by omega
  obtain ⟨c0, c1, c2, c3⟩ := HCE.out w1 B1.out
  go_wp2_with fail
  clear c0 c1 c2 c3
  refine (HTO.out w1 (HA.out.1.trans (B1.out.mono HA.out.1.size))).mono ?_
  rintro e w2 ⟨u1, rfl, b2, o2⟩
  have H2 : Hid (Below A.heap.size A w2 ∧ Own w2 w1.heap.size u1 h.ws) := ⟨B1.out.trans (b2.mono B1.out.size), o2⟩
  clear b2 o2
  go_wp2_with fail
  refine (HS.out u1 w2 H2.out.2.rd).mono ?_
  rintro e w3 ⟨rfl, b3⟩
  have B3 : Hid (Below A.heap.size A w3) := H2.out.1.trans (b3.mono H2.out.1.size)
  clear b3 H2
  obtain ⟨c0, c1, c2, c3⟩ := HCE.out w3 B3.out
  go_wp2_with fail
  clear c0 c1 c2 c3
  refine (HTO.out w3 (HA.out.1.trans (B3.out.mono HA.out.1.size))).mono ?_
  rintro e w4 ⟨x, rfl, b4, o4⟩
  obtain ⟨px, kx, rfl, -⟩ := o4.rd.shape
  obtain ⟨D, hD⟩ : ∃ D, D = w4.alloc (hpO (.slice px h.ws.length kx) h) := ⟨_, rfl⟩
  obtain ⟨sD, bD, rD⟩ := box_new w4 (.slice px h.ws.length kx) h hD
  have B4 : Below A.heap.size A w4 := B3.out.trans (b4.mono B3.out.size)
  have HD : Hid (Below A.heap.size A D ∧ Own D w3.heap.size (.slice px h.ws.length kx) h.ws ∧ BoxAt D w4.heap.size (.slice px h.ws.length kx) h) := ⟨B4.trans (bD.mono B4.size), o4.below bD, rD⟩
  clear b4 o4 sD bD rD B4
  go_wp2_with fail
  rw [← hD]
  clear hD
  refine (HI.out _ D HD.out.2.1.rd).mono ?_
  rintro e w5 ⟨rfl, b5⟩
  have H5 : Hid (Below A.heap.size A w5 ∧ Own w5 w3.heap.size (.slice px h.ws.length kx) h.ws ∧ BoxAt w5 w4.heap.size (.slice px h.ws.length kx) h) := ⟨HD.out.1.trans (b5.mono HD.out.1.size), HD.out.2.1.below b5, HD.out.2.2.below b5 HD.out.2.2.lt⟩
  clear b5 HD
  obtain ⟨c0, c1, c2, c3⟩ := HCE.out w5 H5.out.1
  obtain ⟨d0, d1, d2, d3⟩ := H5.out.2.2.cells
  have HT5 : Hid (∀ wq, Below w5.heap.size w5 wq → Calls Try.prog 11 #[heapV (.slice a h.ws.length cap) h] wq fun e w' => ∃ u, e = .returned (heapV u h) ∧ Below w5.heap.size w5 w' ∧ Own w' w5.heap.size u h.ws) := fun wq hq =>
    (HTO.out wq ((HA.out.1.trans (H5.out.1.mono HA.out.1.size)).trans (hq.mono (Nat.le_trans HA.out.1.size H5.out.1.size)))).mono (fun e w' hr => by
      obtain ⟨u, h1, h2, h3⟩ := hr
      exact ⟨u, h1, hq.trans (h2.mono hq.size), h3.mono hq.size⟩)
  go_wp2_with fail
  go_region_with (first | (go_at_call 11; refine (HT5.out _ (Below.refl _ _).drew).mono ?_; rintro e w6 ⟨u6, rfl, b6, o6⟩; obtain ⟨g0, g1, g2, g3⟩ := (H5.out.2.2.below b6 H5.out.2.2.lt).cells; have H6 : Hid (Below A.heap.size A w6 ∧ Own w6 w3.heap.size (.slice px h.ws.length kx) h.ws ∧ Own w6 w5.heap.size u6 h.ws) := ⟨H5.out.1.trans (b6.mono H5.out.1.size), H5.out.2.1.below b6, o6⟩; clear b6 o6) | (go_at_call 13; refine (eq_heap h _ u6 w6 H6.out.2.1.rd H6.out.2.2.rd HL.out).mono ?_; rintro e w7 ⟨rfl, b7⟩; have B7 : Hid (Below w.heap.size w w7) := (HA.out.1.trans (H6.out.1.mono HA.out.1.size)).trans (b7.mono (Nat.le_trans HA.out.1.size H6.out.1.size)); clear b7))
  all_goals
    go_wp2_with fail
    go_ret
    exact ⟨rfl, B7.out⟩

set_option maxHeartbeats 1000000 in
theorem walk_out (a : Option Addr) (len cap : Nat) (x y z : Int) (w : World) (hl : ¬ len ≤ 1048576) (hm : len ≤ maxLen) :
    Calls Try.prog 3 #[.agg #[.slice a len cap, .int .i64 x, .int .i64 y, .int .i64 z]] w fun e w' => e = .returned (.bool true) ∧ Below w.heap.size w w' := by
  have HSZ : Hid (∀ w1, Calls Try.prog 9 #[.agg #[.slice a len cap, .int .i64 x, .int .i64 y, .int .i64 z], .int .i64 1048576] w1 fun e w' => e = .returned (.int .i64 (-1)) ∧ Below w1.heap.size w1 w') := fun w1 => sz_heap_no a len cap x y z w1 hl hm
  clear hm hl
  obtain ⟨A, hA⟩ : ∃ A, A = w.alloc (.cells #[.slice a len cap, .int .i64 x, .int .i64 y, .int .i64 z] 24) := ⟨_, rfl⟩
  have HA : Hid (Below w.heap.size w A) := by show Below _ _ _; rw [hA]; exact new_below _ _
  go_enter Try.func3, Try.ntmps3
  go_wp2_with fail
  rw [← hA]
  clear hA
  refine (HSZ.out A).mono ?_
  rintro e w1 ⟨rfl, b1⟩
  have B1 : Hid (Below w.heap.size w w1) := HA.out.trans (b1.mono HA.out.size)
  clear b1
  go_wp2_with fail
  go_ret
  exact ⟨rfl, B1.out⟩

theorem walk (a0 : Option Addr) (len0 cap0 : Nat) (z0 : List Int) (x y z : Int) (w : World) (w0 : IsRow w a0 len0 cap0 z0) :
    Calls Try.prog 3 #[.agg #[.slice a0 len0 cap0, .int .i64 x, .int .i64 y, .int .i64 z]] w fun e w' => e = .returned (.bool true) ∧ Below w.heap.size w w' := by
  by_cases hl : len0 ≤ 1048576
  · obtain ⟨xs, hx, hr, hs⟩ := w0.rs64
    exact walk_in ⟨xs, x, y, z⟩ _ w hr (by simp only; omega) hs
  · refine walk_out a0 len0 cap0 x y z w hl ?_
    rcases w0 with ⟨_, h, _⟩ | ⟨_, _, h1, h2, _⟩
    · omega
    · omega

set_option maxRecDepth 100000 in
theorem lifted (os : Os) (started : os.Started) (H : Type) (enc : TypeId × Value → H) :
    ReturnsInHanded {} Try.checked os 3 .any (Rows.fnExactHeapOkSpec.pre6 enc Try.prog Try.f3 Rows.fnExactHeapOkRow.domain false) (Rows.fnExactHeapOkSpec.post enc Try.prog Try.f3 false true false false) := by
  refine returnsInHanded_of_change (C := Try.checked) own started (by kernel_rfl) Try.func3
    (ChangeSpec.witness6 (enc := enc) (C := Try.checked) false ⟨#[], #[.agg #[.slice none 0 0, .int .i64 0, .int .i64 0, .int .i64 0]], []⟩ 8 (by kernel_rfl) (by kernel_rfl) (by kernel_rfl) (by kernel_rfl)) ?_
  intro W base args ds gs before hval0 hW _ _
  have hval : ∀ (j : Nat) t v, Try.f3.params[j]? = some t → args[j]? = some v → Value.okWide Try.prog W .any base t v := hval0
  have hW' := hW
  have hlt := fun x hx => DataW.Whole.lt hW x hx
  obtain ⟨p, q, hA0, hV, rfl, hfz, hnd⟩ := hW
  have hA : DataW.TrodAll enc Try.prog W 0 (fun _ => true) true Try.f3.params.toList args.toList ds p := hA0
  rw [Try.params3] at hA hval
  obtain ⟨v0, d0, rfl, rfl, h0⟩ := trodAll_one hA
  obtain ⟨rfl, rfl⟩ := trodVars_none hV
  obtain ⟨a, len, cap, zs, x, y, z, rfl, hr⟩ := opened (hval 0 24 v0 rfl rfl) h0
  clear hA0 hval0
  simp only [List.append_nil] at hW' hlt
  refine (walk a len cap zs x y z W hr).mono fun e W' ⟨he, bel⟩ => ?_
  subst he
  have kk := fun (sp' : Nat → Bool) (hsp : ∀ x ∈ p, sp' x.block = true) => Go.WideElems.Trod_stays laidOut (by kernel_rfl) (of_decide_eq_true (by kernel_rfl)) h0 (fun x hx => bel.same (hlt x hx)) hsp
  refine ⟨_, rfl, _, _, _, [], p, [], hW', trodAll_mk1 (shut_bool Try.underlying4 _), trodAll_mk1 (kk _ ?_), rfl, bel.frame _, fun h => by cases h⟩
  exact fun x hx => decide_eq_true (hlt x hx)

theorem over : Rows.fnExactHeapOkRow.holds Try.pinned (OpenSpec.ofChange Rows.fnExactHeapOkSpec) :=
  OpenClaim.holds_of_wide 3 Try.f3 rfl rfl rfl rfl rfl rfl rfl ⟨rfl, rfl, rfl, rfl, rfl⟩ rfl rfl rfl rfl rfl (by kernel_rfl) Try.func3 (by kernel_rfl)
    (of_decide_eq_true (by kernel_rfl)) (by unfold Func.isWrapper; first | (rw [if_pos (by decide +kernel)]; kernel_rfl) | (rw [if_neg (by decide +kernel)]; exact ⟨rfl, rfl⟩))
    (fun os started H enc _ => lifted os started H enc)

/-- The statement. -/
theorem proved : Rows.FnExactHeapOkSaid := over
#print axioms proved
end Go.Proofs.Ytgcegjgjegkahab.fnExactHeapOk
