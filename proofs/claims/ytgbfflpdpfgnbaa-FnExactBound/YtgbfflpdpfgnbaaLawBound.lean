/- The walk of laws.FnExactBound, where impl.Bound answers as it should (the premise said). No other conditions. -/
import Derived.Test.YtgbfflpdpfgnbaaRows
import Derived.Test.YtgbfflpdpfgnbaaSzStx
import Derived.Test.YtgbfflpdpfgnbaaToStx
import Derived.Test.YtgbfflpdpfgnbaaEqStx
import Derived.Test.YtgbfflpdpfgnbaaBoundBoth
import Derived.Test.YtgbfflpdpfgnbaaStxOpen
import Derived.OpenShut
import Derived.WideKeyArgs
import Derived.Deep.Cut
namespace Go.Proofs.Ytgbfflpdpfgnbaa.fnExactBound
open Go.ChangeShapes Go.WideShapes Go.ChangeAt Go.RowKit

/-- A datum's block. -/
abbrev dobj (t : X) (sv v : Value) (ty : TypeId) : Obj := .cells #[.int .i64 t.op, .int .i64 t.at_, .int .i64 t.n, .string t.s, sv, v] ty (0, 0)

/-- Block g is a node's. -/
def Blk (w : World) (g : Nat) (t : X) (sv v : Value) (ty : TypeId) : Prop := w.heap[g]? = some (dobj t sv v ty)
theorem Blk.below {w w' : World} {g : Nat} {t : X} {sv v : Value} {ty : TypeId} (h : Blk w g t sv v ty) (hb : Below w.heap.size w w') : Blk w' g t sv v ty := (hb.block _ (Array.getElem?_eq_some_iff.1 h).1).trans h
theorem Blk.drew {w : World} {g : Nat} {t : X} {sv v : Value} {ty : TypeId} (h : Blk w g t sv v ty) : Blk w.drew g t sv v ty := h
theorem Blk.new (w : World) (t : X) (sv v : Value) (ty : TypeId) : Blk (w.alloc (dobj t sv v ty)) w.heap.size t sv v ty := heap_alloc_new w _
/-- Its cells. -/
theorem Blk.six {w : World} {g : Nat} {t : X} {sv v : Value} {ty : TypeId} (h : Blk w g t sv v ty) :
    w.cell? ⟨g, 0, none⟩ = some (.int .i64 t.op) ∧ w.cell? ⟨g, 1, none⟩ = some (.int .i64 t.at_) ∧ w.cell? ⟨g, 2, none⟩ = some (.int .i64 t.n) ∧ w.cell? ⟨g, 3, none⟩ = some (.string t.s) ∧ w.cell? ⟨g, 4, none⟩ = some sv ∧ w.cell? ⟨g, 5, none⟩ = some v :=
  ⟨cell_of_row w g 0 _ _ _ h, cell_of_row w g 1 _ _ _ h, cell_of_row w g 2 _ _ _ h, cell_of_row w g 3 _ _ _ h, cell_of_row w g 4 _ _ _ h, cell_of_row w g 5 _ _ _ h⟩

/-- What stays: the arguments' two blocks. -/
structure Two (w : World) (a b : X) (su u sv v : Value) (W : World) : Prop where
  bel : Below w.heap.size w W
  ba : Blk W w.heap.size a su u 35
  bb : Blk W (w.heap.size + 1) b sv v 35
theorem Two.below {w W W' : World} {a b : X} {su u sv v : Value} (h : Two w a b su u sv v W) (hb : Below W.heap.size W W') : Two w a b su u sv v W' := ⟨h.bel.trans (hb.mono h.bel.size), h.ba.below hb, h.bb.below hb⟩
theorem Two.drew {w W : World} {a b : X} {su u sv v : Value} (h : Two w a b su u sv v W) : Two w a b su u sv v W.drew := ⟨h.bel.drew, h.ba, h.bb⟩
theorem Two.new (w : World) (a b : X) (su u sv v : Value) : Two w a b su u sv v ((w.alloc (dobj a su u 35)).alloc (dobj b sv v 35)) := by
  refine ⟨(newx w _).trans ((newx _ _).mono (by simp)), (Blk.new w a su u _).below (newx _ _), ?_⟩
  have := Blk.new (w.alloc (dobj a su u 35)) b sv v 35
  have e : (w.alloc (dobj a su u 35)).heap.size = w.heap.size + 1 := by simp
  rw [e] at this
  exact this

/-- What impl.Bound must answer. -/
def ImplSame : Prop := ∀ (t s : X) (w : World) (su u sv v : Value), t.At 0 w su u → s.At 0 w sv v → t.weight ≤ 1048576 → s.weight ≤ 1048576 →
  Calls Try.prog 15 #[.agg #[.int .i64 t.op, .int .i64 t.at_, .int .i64 t.n, .string t.s, su, u], .agg #[.int .i64 s.op, .int .i64 s.at_, .int .i64 s.n, .string s.s, sv, v]] w fun e w' => e = .returned (.bool (boundX t s)) ∧ Below w.heap.size w w'

set_option maxRecDepth 100000 in
set_option maxHeartbeats 4000000 in
theorem walk (himpl : ImplSame) (a b : X) (su u sv v : Value) (w : World) (ha : a.Of w su u) (hb : b.Of w sv v) :
    Calls Try.prog 4 #[.agg #[.int .i64 a.op, .int .i64 a.at_, .int .i64 a.n, .string a.s, su, u], .agg #[.int .i64 b.op, .int .i64 b.at_, .int .i64 b.n, .string b.s, sv, v]] w fun e w' => e = .returned (.bool true) ∧ Below w.heap.size w w' := by
  obtain ⟨p, cap, eu⟩ := ha.xs.shape
  obtain ⟨q, cap2, ev⟩ := hb.xs.shape
  obtain ⟨ps, cs, es⟩ := ha.sets.shape
  obtain ⟨qs, cs2, es2⟩ := hb.sets.shape
  have HA : Hid (∀ w1, Below w.heap.size w w1 → a.Of w1 su u) := fun w1 h => X.Of.below h ha
  have HB : Hid (∀ w1, Below w.heap.size w w1 → b.Of w1 sv v) := fun w1 h => X.Of.below h hb
  have HIM : Hid ImplSame := himpl
  clear ha hb himpl
  subst eu ev es es2
  by_cases h1 : a.weight ≤ 1048576
  · by_cases h2 : b.weight ≤ 1048576 - a.weight
    · have hbw : b.weight ≤ 1048576 := by omega
      have HSM : Hid (a.Small ∧ b.Small) := ⟨a.small_of_weight (by omega), b.small_of_weight (by omega)⟩
      have E1 : Hid (szX 1048576 a.weight = ((1048576 - a.weight : Nat) : Int)) := szX_yes h1
      have E2 : Hid (szX (1048576 - a.weight) b.weight = ((1048576 - a.weight - b.weight : Nat) : Int)) := szX_yes h2
      generalize 1048576 - a.weight - b.weight = y2 at *
      have hy1 : 1048576 - a.weight ≤ 1048576 := by omega
      generalize 1048576 - a.weight = y1 at *
      clear h2
      have H1 : Hid (a.weight ≤ 1048576) := h1
      have H2 : Hid (b.weight ≤ 1048576) := hbw
      have HT : Hid (Two w a b (.slice ps a.set.length cs) (.slice p a.len cap) (.slice qs b.set.length cs2) (.slice q b.len cap2) ((w.alloc (dobj a (.slice ps a.set.length cs) (.slice p a.len cap) 35)).alloc (dobj b (.slice qs b.set.length cs2) (.slice q b.len cap2) 35))) := Two.new w a b _ _ _ _
      clear h1 hbw
      go_enter Try.func4, Try.ntmps4
      go_wp2_with fail
      refine (sz_stx a _ _ _ 1048576 (HA.out _ HT.out.bel) (by omega)).mono ?_
      rintro e w1 ⟨rfl, hb1⟩
      rw [E1.out]
      have T1 : Hid (Two w a b (.slice ps a.set.length cs) (.slice p a.len cap) (.slice qs b.set.length cs2) (.slice q b.len cap2) w1) := HT.out.below hb1
      obtain ⟨c0, c1, c2, c3, c4, c5⟩ := T1.out.bb.six
      clear hb1 HT
      go_wp2_with fail
      refine (sz_stx b _ _ _ y1 (HB.out _ T1.out.bel) hy1).mono ?_
      rintro e w2 ⟨rfl, hb2⟩
      rw [E2.out]
      have T2 : Hid (Two w a b (.slice ps a.set.length cs) (.slice p a.len cap) (.slice qs b.set.length cs2) (.slice q b.len cap2) w2) := T1.out.below hb2
      clear c0 c1 c2 c3 c4 c5 hb2 T1
      obtain ⟨c0, c1, c2, c3, c4, c5⟩ := T2.out.bb.six
      obtain ⟨d0, d1, d2, d3, d4, d5⟩ := T2.out.ba.six
      go_upto_region 8 with fail
      go_cut [6] from 20 (fun z wx => z = .bool (boundX a b) ∧ Two w a b (.slice ps a.set.length cs) (.slice p a.len cap) (.slice qs b.set.length cs2) (.slice q b.len cap2) wx)
      case first =>
        go_region_with (first
          | (go_at_call_of 14 (X.s a); refine (to_stx a _ _ _ (HA.out _ ?_) H1.out).mono ?_; exact T2.out.bel.drew; rintro e w3 ⟨sx, x, rfl, hb3, hin3⟩; have T3 : Hid (Two w a b (.slice ps a.set.length cs) (.slice p a.len cap) (.slice qs b.set.length cs2) (.slice q b.len cap2) w3) := T2.out.drew.below hb3; have HI3 : Hid (a.At 0 w3 sx x) := X.At.mono (Nat.zero_le _) hin3; clear hb3 hin3; obtain ⟨f0, f1, f2, f3, f4, f5⟩ := T3.out.bb.six)
          | (go_at_call_of 14 (X.s b); refine (to_stx b _ _ _ (HB.out _ ?_) H2.out).mono ?_; exact T3.out.bel; rintro e w4 ⟨sy, y, rfl, hb4, hin4⟩; have T4 : Hid (Two w a b (.slice ps a.set.length cs) (.slice p a.len cap) (.slice qs b.set.length cs2) (.slice q b.len cap2) w4) := T3.out.below hb4; have HI4 : Hid (a.At 0 w4 sx x ∧ b.At 0 w4 sy y) := ⟨X.At.below hb4 HI3.out, X.At.mono (Nat.zero_le _) hin4⟩; clear hb4 hin4)
          | (go_at_call 13; refine (spec_bound a b _ sx x sy y HI4.out.1 HI4.out.2 HSM.out.1 HSM.out.2).mono ?_; rintro e w5 ⟨rfl, hb5⟩; have T5 : Hid (Two w a b (.slice ps a.set.length cs) (.slice p a.len cap) (.slice qs b.set.length cs2) (.slice q b.len cap2) w5) := T4.out.below hb5; clear hb5))
        all_goals
          go_wp2_with fail
          go_meet
          exact ⟨rfl, T5.out⟩
      case rest =>
      obtain ⟨rfl, hT3⟩ := hcut
      have T3 : Hid (Two w a b (.slice ps a.set.length cs) (.slice p a.len cap) (.slice qs b.set.length cs2) (.slice q b.len cap2) wc) := hT3
      clear c0 c1 c2 c3 c4 c5 d0 d1 d2 d3 d4 d5 hT3 T2
      obtain ⟨d0, d1, d2, d3, d4, d5⟩ := T3.out.ba.six
      go_wp2_with fail
      refine (to_stx a _ _ _ (HA.out _ T3.out.bel) H1.out).mono ?_
      rintro e w4 ⟨sx, x, rfl, hb4, hin4⟩
      obtain ⟨px, cx, ex⟩ := hin4.xs.shape
      obtain ⟨pxs, cxs, exs⟩ := hin4.sets.shape
      subst ex exs
      have T4 : Hid (Two w a b (.slice ps a.set.length cs) (.slice p a.len cap) (.slice qs b.set.length cs2) (.slice q b.len cap2) (w4.alloc (dobj a (.slice pxs a.set.length cxs) (.slice px a.len cx) 40))) := (T3.out.below hb4).below (newx _ _)
      have X4 : Hid (Blk (w4.alloc (dobj a (.slice pxs a.set.length cxs) (.slice px a.len cx) 40)) w4.heap.size a (.slice pxs a.set.length cxs) (.slice px a.len cx) 40 ∧ a.At 0 (w4.alloc (dobj a (.slice pxs a.set.length cxs) (.slice px a.len cx) 40)) (.slice pxs a.set.length cxs) (.slice px a.len cx)) := ⟨Blk.new _ _ _ _ _, X.At.below (newx _ _) (X.At.mono (Nat.zero_le _) hin4)⟩
      clear d0 d1 d2 d3 d4 d5 hb4 hin4 T3
      obtain ⟨c0, c1, c2, c3, c4, c5⟩ := T4.out.bb.six
      go_wp2_with fail
      refine (to_stx b _ _ _ (HB.out _ T4.out.bel) H2.out).mono ?_
      rintro e w5 ⟨sy, y, rfl, hb5, hin5⟩
      obtain ⟨py, cy, ey⟩ := hin5.xs.shape
      obtain ⟨pys, cys, eys⟩ := hin5.sets.shape
      subst ey eys
      have T5 : Hid (Two w a b (.slice ps a.set.length cs) (.slice p a.len cap) (.slice qs b.set.length cs2) (.slice q b.len cap2) (w5.alloc (dobj b (.slice pys b.set.length cys) (.slice py b.len cy) 40))) := (T4.out.below hb5).below (newx _ _)
      have X5 : Hid (Blk (w5.alloc (dobj b (.slice pys b.set.length cys) (.slice py b.len cy) 40)) w4.heap.size a (.slice pxs a.set.length cxs) (.slice px a.len cx) 40 ∧ a.At 0 (w5.alloc (dobj b (.slice pys b.set.length cys) (.slice py b.len cy) 40)) (.slice pxs a.set.length cxs) (.slice px a.len cx)) := ⟨(X4.out.1.below hb5).below (newx _ _), X.At.below (newx _ _) (X.At.below hb5 X4.out.2)⟩
      have Y5 : Hid (Blk (w5.alloc (dobj b (.slice pys b.set.length cys) (.slice py b.len cy) 40)) w5.heap.size b (.slice pys b.set.length cys) (.slice py b.len cy) 40 ∧ b.At 0 (w5.alloc (dobj b (.slice pys b.set.length cys) (.slice py b.len cy) 40)) (.slice pys b.set.length cys) (.slice py b.len cy)) := ⟨Blk.new _ _ _ _ _, X.At.below (newx _ _) (X.At.mono (Nat.zero_le _) hin5)⟩
      clear c0 c1 c2 c3 c4 c5 hb5 hin5 T4 X4
      generalize w4.heap.size = gX at *
      obtain ⟨c0, c1, c2, c3, c4, c5⟩ := X5.out.1.six
      go_wp2_with fail
      refine (HIM.out a b _ _ _ _ _ X5.out.2 Y5.out.2 H1.out H2.out).mono ?_
      rintro e w7 ⟨rfl, hb7⟩
      have T7 : Hid (Two w a b (.slice ps a.set.length cs) (.slice p a.len cap) (.slice qs b.set.length cs2) (.slice q b.len cap2) w7) := T5.out.below hb7
      have X7 : Hid (Blk w7 gX a (.slice pxs a.set.length cxs) (.slice px a.len cx) 40 ∧ a.At 0 w7 (.slice pxs a.set.length cxs) (.slice px a.len cx)) := ⟨X5.out.1.below hb7, X.At.below hb7 X5.out.2⟩
      have Y7 : Hid (Blk w7 w5.heap.size b (.slice pys b.set.length cys) (.slice py b.len cy) 40 ∧ b.At 0 w7 (.slice pys b.set.length cys) (.slice py b.len cy)) := ⟨Y5.out.1.below hb7, X.At.below hb7 Y5.out.2⟩
      clear c0 c1 c2 c3 c4 c5 hb7 T5 X5 Y5
      generalize w5.heap.size = gY at *
      obtain ⟨c0, c1, c2, c3, c4, c5⟩ := X7.out.1.six
      obtain ⟨d0, d1, d2, d3, d4, d5⟩ := T7.out.ba.six
      go_upto_region 14 with fail
      go_cut [39] from 35 (fun z wx => z = .bool false ∧ Two w a b (.slice ps a.set.length cs) (.slice p a.len cap) (.slice qs b.set.length cs2) (.slice q b.len cap2) wx ∧ (Blk wx gY b (.slice pys b.set.length cys) (.slice py b.len cy) 40 ∧ b.At 0 wx (.slice pys b.set.length cys) (.slice py b.len cy)))
      case first =>
        go_region_with (first
          | (go_at_call 14; refine (to_stx a _ _ _ (HA.out _ ?_) H1.out).mono ?_; exact T7.out.bel.drew; rintro e w8 ⟨sz, z, rfl, hb8, hin8⟩; have T8 : Hid (Two w a b (.slice ps a.set.length cs) (.slice p a.len cap) (.slice qs b.set.length cs2) (.slice q b.len cap2) w8) := T7.out.drew.below hb8; have X8 : Hid (Blk w8 gX a (.slice pxs a.set.length cxs) (.slice px a.len cx) 40 ∧ a.At 0 w8 (.slice pxs a.set.length cxs) (.slice px a.len cx) ∧ a.At 0 w8 sz z) := ⟨X7.out.1.drew.below hb8, X.At.below ((Below.refl _ _).drew.trans hb8) X7.out.2, X.At.mono (Nat.zero_le _) hin8⟩; have Y8 : Hid (Blk w8 gY b (.slice pys b.set.length cys) (.slice py b.len cy) 40 ∧ b.At 0 w8 (.slice pys b.set.length cys) (.slice py b.len cy)) := ⟨Y7.out.1.drew.below hb8, X.At.below ((Below.refl _ _).drew.trans hb8) Y7.out.2⟩; clear hb8 hin8; obtain ⟨f0, f1, f2, f3, f4, f5⟩ := X8.out.1.six)
          | (go_at_call 16; refine (eq_stx a _ _ _ _ _ X8.out.2.1 X8.out.2.2 HSM.out.1).mono ?_; rintro e w9 ⟨rfl, hb9⟩; have T9 : Hid (Two w a b (.slice ps a.set.length cs) (.slice p a.len cap) (.slice qs b.set.length cs2) (.slice q b.len cap2) w9) := T8.out.below hb9; have Y9 : Hid (Blk w9 gY b (.slice pys b.set.length cys) (.slice py b.len cy) 40 ∧ b.At 0 w9 (.slice pys b.set.length cys) (.slice py b.len cy)) := ⟨Y8.out.1.below hb9, X.At.below hb9 Y8.out.2⟩; clear hb9))
        all_goals
          go_wp2_with fail
          go_meet
          exact ⟨rfl, T9.out, Y9.out⟩
      case rest =>
      obtain ⟨rfl, hT9, hY9⟩ := hcut
      have T9 : Hid (Two w a b (.slice ps a.set.length cs) (.slice p a.len cap) (.slice qs b.set.length cs2) (.slice q b.len cap2) wc) := hT9
      have Y9 : Hid (Blk wc gY b (.slice pys b.set.length cys) (.slice py b.len cy) 40 ∧ b.At 0 wc (.slice pys b.set.length cys) (.slice py b.len cy)) := hY9
      clear c0 c1 c2 c3 c4 c5 d0 d1 d2 d3 d4 d5 hT9 hY9 T7 X7 Y7
      obtain ⟨c0, c1, c2, c3, c4, c5⟩ := Y9.out.1.six
      obtain ⟨d0, d1, d2, d3, d4, d5⟩ := T9.out.bb.six
      go_upto_region 16 with fail
      go_cut [44] from 40 (fun z wx => z = .bool false ∧ Below w.heap.size w wx)
      case first =>
        go_region_with (first
          | (go_at_call 14; refine (to_stx b _ _ _ (HB.out _ ?_) H2.out).mono ?_; exact T9.out.bel.drew; rintro e w8 ⟨sz, z, rfl, hb8, hin8⟩; have T8 : Hid (Two w a b (.slice ps a.set.length cs) (.slice p a.len cap) (.slice qs b.set.length cs2) (.slice q b.len cap2) w8) := T9.out.drew.below hb8; have X8 : Hid (Blk w8 gY b (.slice pys b.set.length cys) (.slice py b.len cy) 40 ∧ b.At 0 w8 (.slice pys b.set.length cys) (.slice py b.len cy) ∧ b.At 0 w8 sz z) := ⟨Y9.out.1.drew.below hb8, X.At.below ((Below.refl _ _).drew.trans hb8) Y9.out.2, X.At.mono (Nat.zero_le _) hin8⟩; clear hb8 hin8; obtain ⟨f0, f1, f2, f3, f4, f5⟩ := X8.out.1.six)
          | (go_at_call 16; refine (eq_stx b _ _ _ _ _ X8.out.2.1 X8.out.2.2 HSM.out.2).mono ?_; rintro e w9 ⟨rfl, hb9⟩; have TE : Hid (Two w a b (.slice ps a.set.length cs) (.slice p a.len cap) (.slice qs b.set.length cs2) (.slice q b.len cap2) w9) := T8.out.below hb9; clear hb9))
        all_goals
          go_wp2_with fail
          go_meet
          exact ⟨rfl, TE.out.bel⟩
      case rest =>
      obtain ⟨rfl, hE⟩ := hcut
      have HE : Hid (Below w.heap.size w wc) := hE
      clear c0 c1 c2 c3 c4 c5 d0 d1 d2 d3 d4 d5 hE T9 Y9
      go_wp2_with fail
      go_ret
      exact ⟨rfl, HE.out⟩
    · have E1 : Hid (szX 1048576 a.weight = ((1048576 - a.weight : Nat) : Int)) := szX_yes h1
      have E2 : Hid (szX (1048576 - a.weight) b.weight = -1) := szX_no (by omega)
      have hy1 : 1048576 - a.weight ≤ 1048576 := by omega
      generalize 1048576 - a.weight = y1 at *
      have HT : Hid (Two w a b (.slice ps a.set.length cs) (.slice p a.len cap) (.slice qs b.set.length cs2) (.slice q b.len cap2) ((w.alloc (dobj a (.slice ps a.set.length cs) (.slice p a.len cap) 35)).alloc (dobj b (.slice qs b.set.length cs2) (.slice q b.len cap2) 35))) := Two.new w a b _ _ _ _
      clear h1 h2
      go_enter Try.func4, Try.ntmps4
      go_wp2_with fail
      refine (sz_stx a _ _ _ 1048576 (HA.out _ HT.out.bel) (by omega)).mono ?_
      rintro e w1 ⟨rfl, hb1⟩
      rw [E1.out]
      have T1 : Hid (Two w a b (.slice ps a.set.length cs) (.slice p a.len cap) (.slice qs b.set.length cs2) (.slice q b.len cap2) w1) := HT.out.below hb1
      obtain ⟨c0, c1, c2, c3, c4, c5⟩ := T1.out.bb.six
      clear hb1 HT
      go_wp2_with fail
      refine (sz_stx b _ _ _ y1 (HB.out _ T1.out.bel) hy1).mono ?_
      rintro e w2 ⟨rfl, hb2⟩
      rw [E2.out]
      have T2 : Hid (Two w a b (.slice ps a.set.length cs) (.slice p a.len cap) (.slice qs b.set.length cs2) (.slice q b.len cap2) w2) := T1.out.below hb2
      clear hb2
      go_wp2_with fail
      go_ret
      exact ⟨rfl, T2.out.bel⟩
  · have E1 : Hid (szX 1048576 a.weight = -1) := szX_no (by omega)
    have HT : Hid (Two w a b (.slice ps a.set.length cs) (.slice p a.len cap) (.slice qs b.set.length cs2) (.slice q b.len cap2) ((w.alloc (dobj a (.slice ps a.set.length cs) (.slice p a.len cap) 35)).alloc (dobj b (.slice qs b.set.length cs2) (.slice q b.len cap2) 35))) := Two.new w a b _ _ _ _
    go_enter Try.func4, Try.ntmps4
    go_wp2_with fail
    refine (sz_stx a _ _ _ 1048576 (HA.out _ HT.out.bel) (by omega)).mono ?_
    rintro e w1 ⟨rfl, hb1⟩
    rw [E1.out]
    have T1 : Hid (Two w a b (.slice ps a.set.length cs) (.slice p a.len cap) (.slice qs b.set.length cs2) (.slice q b.len cap2) w1) := HT.out.below hb1
    clear hb1 HT
    go_wp2_with fail
    go_ret
    exact ⟨rfl, T1.out.bel⟩
end Go.Proofs.Ytgbfflpdpfgnbaa.fnExactBound
