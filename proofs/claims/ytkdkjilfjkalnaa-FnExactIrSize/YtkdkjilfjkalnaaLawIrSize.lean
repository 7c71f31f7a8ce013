/- At every ir impl.IrSize answers as spec.IrSize, and writes into none: laws.FnExactIrSize returns true, and the argument reads as before. No conditions. -/
import Derived.Test.YtkdkjilfjkalnaaRows
import Derived.Test.YtkdkjilfjkalnaaSzIr
import Derived.Test.YtkdkjilfjkalnaaToIr
import Derived.Test.YtkdkjilfjkalnaaEqIr
import Derived.Test.YtkdkjilfjkalnaaIrOpen
import Derived.Test.YtkdkjilfjkalnaaSpecIrSize
import Derived.Test.YtkdkjilfjkalnaaImplIrSize
import Derived.WalkKit
import Derived.ProofKit
import Derived.OpenShut
import Derived.WideKeyArgs
import Derived.Deep.Cut
namespace Go.Proofs.Ytkdkjilfjkalnaa.fnExactIrSize
open Go.ChangeShapes Go.WideShapes Go.ChangeAt Go.RowKit

theorem few {a : It} (h : a.weight ≤ 1048576) : a.count ≤ 1099511627776 := by
  have := a.count_weight
  omega

/-- A datum's block. -/
abbrev dobj (t : It) (v : Value) (ty : TypeId) : Obj := .cells #[.int .i64 t.op, .int .i64 t.n, v] ty (0, 0)

/-- Block g is a datum's. -/
def Blk (w : World) (g : Nat) (t : It) (v : Value) (ty : TypeId) : Prop := w.heap[g]? = some (dobj t v ty)
theorem Blk.below {w w' : World} {g : Nat} {t : It} {v : Value} {ty : TypeId} (h : Blk w g t v ty) (hb : Below w.heap.size w w') : Blk w' g t v ty := (hb.block _ (Array.getElem?_eq_some_iff.1 h).1).trans h
theorem Blk.drew {w : World} {g : Nat} {t : It} {v : Value} {ty : TypeId} (h : Blk w g t v ty) : Blk w.drew g t v ty := h
theorem Blk.new (w : World) (t : It) (v : Value) (ty : TypeId) : Blk (w.alloc (dobj t v ty)) w.heap.size t v ty := heap_alloc_new w _
/-- Its cells. -/
theorem Blk.five {w : World} {g : Nat} {t : It} {v : Value} {ty : TypeId} (h : Blk w g t v ty) :
    w.cell? ⟨g, 0, none⟩ = some (.int .i64 t.op) ∧ w.cell? ⟨g, 1, none⟩ = some (.int .i64 t.n) ∧ w.cell? ⟨g, 2, none⟩ = some v :=
  ⟨cell_of_row w g 0 _ _ _ h, cell_of_row w g 1 _ _ _ h, cell_of_row w g 2 _ _ _ h⟩

/-- What stays: the argument's block. -/
structure One (w : World) (a : It) (u : Value) (W : World) : Prop where
  bel : Below w.heap.size w W
  ba : Blk W w.heap.size a u 24
theorem One.below {w W W' : World} {a : It} {u : Value} (h : One w a u W) (hb : Below W.heap.size W W') : One w a u W' := ⟨h.bel.trans (hb.mono h.bel.size), h.ba.below hb⟩
theorem One.drew {w W : World} {a : It} {u : Value} (h : One w a u W) : One w a u W.drew := ⟨h.bel.drew, h.ba⟩
theorem One.new (w : World) (a : It) (u : Value) : One w a u (w.alloc (dobj a u 24)) := ⟨newb w _, Blk.new w a u _⟩

set_option maxRecDepth 100000 in
set_option maxHeartbeats 4000000 in
theorem walk (a : It) (u : Value) (w : World) (ha : a.In w u) :
    Calls Try.prog 3 #[.agg #[.int .i64 a.op, .int .i64 a.n, u]] w fun e w' => e = .returned (.bool true) ∧ Below w.heap.size w w' := by
  obtain ⟨p, cap, eu⟩ := ha.sl.shape
  have HA : Hid (∀ w1, Below w.heap.size w w1 → a.In w1 u) := fun w1 h => ha.below h
  clear ha
  subst eu
  by_cases h1 : a.weight ≤ 1048576
  · have E1 : Hid (szI 1048576 a.weight = ((1048576 - a.weight : Nat) : Int)) := szI_yes h1
    have H1 : Hid (a.weight ≤ 1048576) := h1
    generalize 1048576 - a.weight = y1 at *
    have HT : Hid (One w a (.slice p a.len cap) (w.alloc (dobj a (.slice p a.len cap) 24))) := One.new w a _
    clear h1
    go_enter Try.func3, Try.ntmps3
    go_wp2_with fail
    refine (sz_ir a _ _ 1048576 (HA.out _ HT.out.bel) (by omega)).mono ?_
    rintro e w1 ⟨rfl, hb1⟩
    rw [E1.out]
    have T1 : Hid (One w a (.slice p a.len cap) w1) := HT.out.below hb1
    clear hb1 HT
    obtain ⟨d0, d1, d2⟩ := T1.out.ba.five
    go_wp2_with fail
    refine (to_ir a _ _ (HA.out _ T1.out.bel) H1.out).mono ?_
    rintro e w2 ⟨x, rfl, hb2, hin2⟩
    have T2 : Hid (One w a (.slice p a.len cap) w2) := T1.out.below hb2
    have HI2 : Hid (a.In w2 x) := hin2.all
    clear hb2 hin2 T1 d0 d1 d2
    go_wp2_with fail
    refine (spec_isize a _ _ HI2.out (few H1.out)).mono ?_
    rintro e w3 ⟨rfl, hb3⟩
    have T3 : Hid (One w a (.slice p a.len cap) w3) := T2.out.below hb3
    clear hb3 T2 HI2
    obtain ⟨d0, d1, d2⟩ := T3.out.ba.five
    go_wp2_with fail
    refine (to_ir a _ _ (HA.out _ T3.out.bel) H1.out).mono ?_
    rintro e w4 ⟨x, rfl, hb4, hin4⟩
    obtain ⟨px, cx, ex⟩ := hin4.sl.shape
    subst ex
    have T4 : Hid (One w a (.slice p a.len cap) (w4.alloc (dobj a (.slice px a.len cx) 29))) := (T3.out.below hb4).below (newb _ _)
    have X4 : Hid (Blk (w4.alloc (dobj a (.slice px a.len cx) 29)) w4.heap.size a (.slice px a.len cx) 29 ∧ a.In (w4.alloc (dobj a (.slice px a.len cx) 29)) (.slice px a.len cx)) := ⟨Blk.new _ _ _ _, hin4.all.below (newb _ _)⟩
    clear d0 d1 d2 hb4 hin4 T3
    go_wp2_with fail
    refine (impl_isize a _ _ X4.out.2 H1.out).mono ?_
    rintro e w5 ⟨rfl, hb5⟩
    have T5 : Hid (One w a (.slice p a.len cap) w5) := T4.out.below hb5
    have X5 : Hid (Blk w5 w4.heap.size a (.slice px a.len cx) 29 ∧ a.In w5 (.slice px a.len cx)) := ⟨X4.out.1.below hb5, X4.out.2.below hb5⟩
    clear hb5 T4 X4
    generalize w4.heap.size = X at *
    obtain ⟨c0, c1, c2⟩ := X5.out.1.five
    obtain ⟨d0, d1, d2⟩ := T5.out.ba.five
    go_upto_region 10 with fail
    go_cut [26] from 22 (fun z wx => z = .bool false ∧ Below w.heap.size w wx)
    case first =>
      go_region_with (first
        | (go_at_call 6; refine (to_ir a _ _ (HA.out _ ?_) H1.out).mono ?_; exact T5.out.bel.drew; rintro e w8 ⟨z, rfl, hb8, hin8⟩; have T8 : Hid (One w a (.slice p a.len cap) w8) := T5.out.drew.below hb8; have X8 : Hid (Blk w8 X a (.slice px a.len cx) 29 ∧ a.In w8 (.slice px a.len cx) ∧ a.In w8 z) := ⟨X5.out.1.drew.below hb8, X5.out.2.below ((Below.refl _ _).drew.trans hb8), hin8.all⟩; clear hb8 hin8; obtain ⟨f0, f1, f2⟩ := X8.out.1.five)
        | (go_at_call 8; refine (eq_ir a _ _ _ X8.out.2.1 X8.out.2.2).mono ?_; rintro e w9 ⟨rfl, hb9⟩; have TE : Hid (One w a (.slice p a.len cap) w9) := T8.out.below hb9; clear hb9))
      all_goals
        go_wp2_with fail
        go_meet
        exact ⟨rfl, TE.out.bel⟩
    case rest =>
    obtain ⟨rfl, hE⟩ := hcut
    have HE : Hid (Below w.heap.size w wc) := hE
    clear c0 c1 c2 d0 d1 d2 hE
    go_wp2_with fail
    go_ret
    exact ⟨rfl, HE.out⟩
  · have E1 : Hid (szI 1048576 a.weight = -1) := szI_no (by omega)
    have HT : Hid (One w a (.slice p a.len cap) (w.alloc (dobj a (.slice p a.len cap) 24))) := One.new w a _
    go_enter Try.func3, Try.ntmps3
    go_wp2_with fail
    refine (sz_ir a _ _ 1048576 (HA.out _ HT.out.bel) (by omega)).mono ?_
    rintro e w1 ⟨rfl, hb1⟩
    rw [E1.out]
    have T1 : Hid (One w a (.slice p a.len cap) w1) := HT.out.below hb1
    clear hb1 HT
    go_wp2_with fail
    go_ret
    exact ⟨rfl, T1.out.bel⟩

theorem own : ownKnob Try.prog.godebug = none := by kernel_rfl
theorem laidOut : laidOutB Try.prog = true := by kernel_rfl

theorem types : IrTy Try.prog 24 3 22 where
  ex := ⟨_, Try.underlying24, rfl, fun i hi => by
    match i, hi with
    | 0, _ => exact ⟨_, rfl, rfl, rfl⟩
    | 1, _ => exact ⟨_, rfl, rfl, rfl⟩, ⟨_, rfl, rfl, rfl⟩⟩
  i := Try.underlying3
  k := Try.underlying22
  ci := by kernel_rfl
  ck := by kernel_rfl
  cd := by kernel_rfl

theorem okAgg {P : Program} {W : World} {r : Reach} {base : Nat} {t : TypeId} {v : Value} {fs : Array Field} (hu : P.underlying t = some (.struct fs)) (h : Value.okWide P W r base t v) : ∃ cs, v = .agg cs := by
  unfold Value.okWide at h
  rw [hu] at h
  obtain ⟨cs, h, _⟩ := h
  exact ⟨cs, h⟩

theorem opened {H : Type} {enc : TypeId × Value → H} {W : World} {r : Reach} {base : Nat} {v : Value} {d : DataW H} {ps : List MemPlace} (hv : Value.okWide Try.prog W r base 24 v) (h : DataW.Trod enc Try.prog W 0 (fun _ => true) true 24 v d ps) :
    ∃ (t : It) (u : Value), v = .agg #[.int .i64 t.op, .int .i64 t.n, u] ∧ t.In W u := by
  obtain ⟨cs, rfl⟩ := okAgg Try.underlying24 hv
  obtain ⟨fuel, h⟩ := h
  obtain ⟨t, u, e, hin⟩ := open_ir types fuel _ _ h
  have e' : cs.toList = _ := e
  refine ⟨t, u, ?_, hin⟩
  congr 1
  exact Array.toList_inj.1 e'

set_option maxRecDepth 100000 in
theorem lifted (os : Os) (started : os.Started) (H : Type) (enc : TypeId × Value → H) :
    ReturnsInHanded {} Try.checked os 3 .any (Rows.fnExactIrSizeSpec.pre6 enc Try.prog Try.f3 Rows.fnExactIrSizeRow.domain false) (Rows.fnExactIrSizeSpec.post enc Try.prog Try.f3 false true false false) := by
  refine returnsInHanded_of_change (C := Try.checked) own started (by kernel_rfl) Try.func3
    (ChangeSpec.witness6 (enc := enc) (C := Try.checked) false ⟨#[], #[.agg #[.int .i64 0, .int .i64 0, .slice none 0 0]], []⟩ 8 (by kernel_rfl) (by kernel_rfl) (by kernel_rfl) (by kernel_rfl)) ?_
  intro W base args ds gs before hval0 hW _ _
  have hval : ∀ (j : Nat) t v, Try.f3.params[j]? = some t → args[j]? = some v → Value.okWide Try.prog W .any base t v := hval0
  have hW' := hW
  have hlt := fun x hx => DataW.Whole.lt hW x hx
  obtain ⟨p, q, hA0, hV, rfl, hfz, hnd⟩ := hW
  have hA : DataW.TrodAll enc Try.prog W 0 (fun _ => true) true Try.f3.params.toList args.toList ds p := hA0
  rw [Try.params3] at hA hval
  obtain ⟨v0, d0, rfl, rfl, h0⟩ := trodAll_one hA
  obtain ⟨rfl, rfl⟩ := trodVars_none hV
  obtain ⟨a, u, rfl, ha⟩ := opened (hval 0 24 v0 rfl rfl) h0
  clear hA0 hval0
  simp only [List.append_nil] at hW' hlt
  refine (walk a u W ha).mono fun e W' ⟨he, bel⟩ => ?_
  subst he
  have kk := fun (sp' : Nat → Bool) (hsp : ∀ x ∈ p, sp' x.block = true) => Go.WideElems.Trod_stays laidOut (by kernel_rfl) (of_decide_eq_true (by kernel_rfl)) h0 (fun x hx => bel.same (hlt x hx)) hsp
  refine ⟨_, rfl, _, _, _, [], p, [], hW', trodAll_mk1 (shut_bool Try.underlying4 _), trodAll_mk1 (kk _ ?_), rfl, bel.frame _, fun h => by cases h⟩
  exact fun x hx => decide_eq_true (hlt x hx)

theorem over : Rows.fnExactIrSizeRow.holds Try.pinned (OpenSpec.ofChange Rows.fnExactIrSizeSpec) :=
  OpenClaim.holds_of_wide 3 Try.f3 rfl rfl rfl rfl rfl rfl rfl ⟨rfl, rfl, rfl, rfl, rfl⟩ rfl rfl rfl rfl rfl (by kernel_rfl) Try.func3 (by kernel_rfl)
    (of_decide_eq_true (by kernel_rfl)) (by unfold Func.isWrapper; first | (rw [if_pos (by decide +kernel)]; kernel_rfl) | (rw [if_neg (by decide +kernel)]; exact ⟨rfl, rfl⟩))
    (fun os started H enc _ => lifted os started H enc)

/-- The statement. -/
theorem proved : Rows.FnExactIrSizeSaid :=
  over
#print axioms proved
end Go.Proofs.Ytkdkjilfjkalnaa.fnExactIrSize
