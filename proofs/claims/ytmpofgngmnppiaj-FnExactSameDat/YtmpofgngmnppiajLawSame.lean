/- The walk of laws.FnExactSameDat. No conditions. -/
import Derived.Test.YtmpofgngmnppiajRows
import Derived.Test.YtmpofgngmnppiajSzDat
import Derived.Test.YtmpofgngmnppiajToDat
import Derived.Test.YtmpofgngmnppiajEqDat
import Derived.Test.YtmpofgngmnppiajImplSame
import Derived.Test.YtmpofgngmnppiajDatOpen
import Derived.OpenShut
import Derived.WideKeyArgs
import Derived.Deep.Cut
namespace Go.Proofs.Ytmpofgngmnppiaj.fnExactSameDat
open Go.ChangeShapes Go.WideShapes Go.ChangeAt Go.RowKit

/-- A datum's block. -/
abbrev dobj (t : D) (v : Value) (ty : TypeId) : Obj := .cells #[.int .i64 t.op, .int .i64 t.at_, .int .i64 t.n, .string t.s, v] ty (0, 0)

/-- Block g is a datum's. -/
def Blk (w : World) (g : Nat) (t : D) (v : Value) (ty : TypeId) : Prop := w.heap[g]? = some (dobj t v ty)
theorem Blk.below {w w' : World} {g : Nat} {t : D} {v : Value} {ty : TypeId} (h : Blk w g t v ty) (hb : Below w.heap.size w w') : Blk w' g t v ty := (hb.block _ (Array.getElem?_eq_some_iff.1 h).1).trans h
theorem Blk.drew {w : World} {g : Nat} {t : D} {v : Value} {ty : TypeId} (h : Blk w g t v ty) : Blk w.drew g t v ty := h
theorem Blk.new (w : World) (t : D) (v : Value) (ty : TypeId) : Blk (w.alloc (dobj t v ty)) w.heap.size t v ty := heap_alloc_new w _
/-- Its cells. -/
theorem Blk.five {w : World} {g : Nat} {t : D} {v : Value} {ty : TypeId} (h : Blk w g t v ty) :
    w.cell? ⟨g, 0, none⟩ = some (.int .i64 t.op) ∧ w.cell? ⟨g, 1, none⟩ = some (.int .i64 t.at_) ∧ w.cell? ⟨g, 2, none⟩ = some (.int .i64 t.n) ∧ w.cell? ⟨g, 3, none⟩ = some (.string t.s) ∧ w.cell? ⟨g, 4, none⟩ = some v :=
  ⟨cell_of_row w g 0 _ _ _ h, cell_of_row w g 1 _ _ _ h, cell_of_row w g 2 _ _ _ h, cell_of_row w g 3 _ _ _ h, cell_of_row w g 4 _ _ _ h⟩

/-- What stays: the arguments' two blocks. -/
structure Two (w : World) (a b : D) (u v : Value) (W : World) : Prop where
  bel : Below w.heap.size w W
  ba : Blk W w.heap.size a u 31
  bb : Blk W (w.heap.size + 1) b v 31
theorem Two.below {w W W' : World} {a b : D} {u v : Value} (h : Two w a b u v W) (hb : Below W.heap.size W W') : Two w a b u v W' := ⟨h.bel.trans (hb.mono h.bel.size), h.ba.below hb, h.bb.below hb⟩
theorem Two.drew {w W : World} {a b : D} {u v : Value} (h : Two w a b u v W) : Two w a b u v W.drew := ⟨h.bel.drew, h.ba, h.bb⟩
theorem Two.new (w : World) (a b : D) (u v : Value) : Two w a b u v ((w.alloc (dobj a u 31)).alloc (dobj b v 31)) := by
  refine ⟨(newb w _).trans ((newb _ _).mono (by simp)), (Blk.new w a u _).below (newb _ _), ?_⟩
  have := Blk.new (w.alloc (dobj a u 31)) b v 31
  have e : (w.alloc (dobj a u 31)).heap.size = w.heap.size + 1 := by simp
  rw [e] at this
  exact this

set_option maxRecDepth 100000 in
set_option maxHeartbeats 4000000 in
theorem walk (a b : D) (u v : Value) (w : World) (ha : a.In w u) (hb : b.In w v) :
    Calls Try.prog 5 #[.agg #[.int .i64 a.op, .int .i64 a.at_, .int .i64 a.n, .string a.s, u], .agg #[.int .i64 b.op, .int .i64 b.at_, .int .i64 b.n, .string b.s, v]] w fun e w' => e = .returned (.bool true) ∧ Below w.heap.size w w' := by
  obtain ⟨p, cap, eu⟩ := ha.sl.shape
  obtain ⟨q, cap2, ev⟩ := hb.sl.shape
  have HA : Hid (∀ w1, Below w.heap.size w w1 → a.In w1 u) := fun w1 h => ha.below h
  have HB : Hid (∀ w1, Below w.heap.size w w1 → b.In w1 v) := fun w1 h => hb.below h
  clear ha hb
  subst eu ev
  by_cases h1 : a.weight ≤ 1048576
  · by_cases h2 : b.weight ≤ 1048576 - a.weight
    · have hbw : b.weight ≤ 1048576 := by omega
      have hac : a.count ≤ 1048577 := by have := a.count_weight; omega
      have E1 : Hid (szR 1048576 a.weight = ((1048576 - a.weight : Nat) : Int)) := szR_yes h1
      have E2 : Hid (szR (1048576 - a.weight) b.weight = ((1048576 - a.weight - b.weight : Nat) : Int)) := szR_yes h2
      generalize 1048576 - a.weight - b.weight = y2 at *
      have hy1 : 1048576 - a.weight ≤ 1048576 := by omega
      generalize 1048576 - a.weight = y1 at *
      clear h2
      have H1 : Hid (a.weight ≤ 1048576) := h1
      have H2 : Hid (b.weight ≤ 1048576) := hbw
      have HT : Hid (Two w a b (.slice p a.len cap) (.slice q b.len cap2) ((w.alloc (dobj a (.slice p a.len cap) 31)).alloc (dobj b (.slice q b.len cap2) 31))) := Two.new w a b _ _
      clear h1 hbw
      go_enter Try.func5, Try.ntmps5
      go_wp2_with fail
      refine (sz_dat a _ _ 1048576 (HA.out _ HT.out.bel) (by omega)).mono ?_
      rintro e w1 ⟨rfl, hb1⟩
      rw [E1.out]
      have T1 : Hid (Two w a b (.slice p a.len cap) (.slice q b.len cap2) w1) := HT.out.below hb1
      obtain ⟨c0, c1, c2, c3, c4⟩ := T1.out.bb.five
      clear hb1 HT
      go_wp2_with fail
      refine (sz_dat b _ _ y1 (HB.out _ T1.out.bel) hy1).mono ?_
      rintro e w2 ⟨rfl, hb2⟩
      rw [E2.out]
      have T2 : Hid (Two w a b (.slice p a.len cap) (.slice q b.len cap2) w2) := T1.out.below hb2
      clear c0 c1 c2 c3 c4 hb2 T1
      obtain ⟨c0, c1, c2, c3, c4⟩ := T2.out.bb.five
      obtain ⟨d0, d1, d2, d3, d4⟩ := T2.out.ba.five
      go_upto_region 8 with fail
      go_cut [6] from 20 (fun z wx => z = .bool (sameD a b) ∧ Two w a b (.slice p a.len cap) (.slice q b.len cap2) wx)
      case first =>
        go_region_with (first
          | (go_at_call_of 15 (D.s a); refine (to_dat a _ _ (HA.out _ ?_) H1.out).mono ?_; exact T2.out.bel.drew; rintro e w3 ⟨x, rfl, hb3, hin3⟩; have T3 : Hid (Two w a b (.slice p a.len cap) (.slice q b.len cap2) w3) := T2.out.drew.below hb3; have HI3 : Hid (a.In w3 x) := hin3.all; clear hb3 hin3; obtain ⟨f0, f1, f2, f3, f4⟩ := T3.out.bb.five)
          | (go_at_call_of 15 (D.s b); refine (to_dat b _ _ (HB.out _ ?_) H2.out).mono ?_; exact T3.out.bel; rintro e w4 ⟨y, rfl, hb4, hin4⟩; have T4 : Hid (Two w a b (.slice p a.len cap) (.slice q b.len cap2) w4) := T3.out.below hb4; have HI4 : Hid (a.In w4 x ∧ b.In w4 y) := ⟨HI3.out.below hb4, hin4.all⟩; clear hb4 hin4)
          | (go_at_call 14; refine (spec_same a b _ x y HI4.out.1 HI4.out.2).mono ?_; rintro e w5 ⟨rfl, hb5⟩; have T5 : Hid (Two w a b (.slice p a.len cap) (.slice q b.len cap2) w5) := T4.out.below hb5; clear hb5))
        all_goals
          go_wp2_with fail
          go_meet
          exact ⟨rfl, T5.out⟩
      case rest =>
      obtain ⟨rfl, hT3⟩ := hcut
      have T3 : Hid (Two w a b (.slice p a.len cap) (.slice q b.len cap2) wc) := hT3
      clear c0 c1 c2 c3 c4 d0 d1 d2 d3 d4 hT3 T2
      obtain ⟨d0, d1, d2, d3, d4⟩ := T3.out.ba.five
      go_wp2_with fail
      refine (to_dat a _ _ (HA.out _ T3.out.bel) H1.out).mono ?_
      rintro e w4 ⟨x, rfl, hb4, hin4⟩
      obtain ⟨px, cx, ex⟩ := hin4.sl.shape
      subst ex
      have T4 : Hid (Two w a b (.slice p a.len cap) (.slice q b.len cap2) (w4.alloc (dobj a (.slice px a.len cx) 35))) := (T3.out.below hb4).below (newb _ _)
      have X4 : Hid (Blk (w4.alloc (dobj a (.slice px a.len cx) 35)) w4.heap.size a (.slice px a.len cx) 35 ∧ a.In (w4.alloc (dobj a (.slice px a.len cx) 35)) (.slice px a.len cx)) := ⟨Blk.new _ _ _ _, hin4.all.below (newb _ _)⟩
      clear d0 d1 d2 d3 d4 hb4 hin4 T3
      obtain ⟨c0, c1, c2, c3, c4⟩ := T4.out.bb.five
      go_wp2_with fail
      refine (to_dat b _ _ (HB.out _ T4.out.bel) H2.out).mono ?_
      rintro e w5 ⟨y, rfl, hb5, hin5⟩
      obtain ⟨py, cy, ey⟩ := hin5.sl.shape
      subst ey
      have T5 : Hid (Two w a b (.slice p a.len cap) (.slice q b.len cap2) (w5.alloc (dobj b (.slice py b.len cy) 35))) := (T4.out.below hb5).below (newb _ _)
      have X5 : Hid (Blk (w5.alloc (dobj b (.slice py b.len cy) 35)) w4.heap.size a (.slice px a.len cx) 35 ∧ a.In (w5.alloc (dobj b (.slice py b.len cy) 35)) (.slice px a.len cx)) := ⟨(X4.out.1.below hb5).below (newb _ _), (X4.out.2.below hb5).below (newb _ _)⟩
      have Y5 : Hid (Blk (w5.alloc (dobj b (.slice py b.len cy) 35)) w5.heap.size b (.slice py b.len cy) 35 ∧ b.In (w5.alloc (dobj b (.slice py b.len cy) 35)) (.slice py b.len cy)) := ⟨Blk.new _ _ _ _, hin5.all.below (newb _ _)⟩
      clear c0 c1 c2 c3 c4 hb5 hin5 T4 X4
      generalize w4.heap.size = X at *
      obtain ⟨c0, c1, c2, c3, c4⟩ := X5.out.1.five
      go_wp2_with fail
      refine (impl_same a b _ _ _ X5.out.2 Y5.out.2 hac).mono ?_
      rintro e w7 ⟨rfl, hb7⟩
      have T7 : Hid (Two w a b (.slice p a.len cap) (.slice q b.len cap2) w7) := T5.out.below hb7
      have X7 : Hid (Blk w7 X a (.slice px a.len cx) 35 ∧ a.In w7 (.slice px a.len cx)) := ⟨X5.out.1.below hb7, X5.out.2.below hb7⟩
      have Y7 : Hid (Blk w7 w5.heap.size b (.slice py b.len cy) 35 ∧ b.In w7 (.slice py b.len cy)) := ⟨Y5.out.1.below hb7, Y5.out.2.below hb7⟩
      clear c0 c1 c2 c3 c4 hb7 T5 X5 Y5
      generalize w5.heap.size = Y at *
      obtain ⟨c0, c1, c2, c3, c4⟩ := X7.out.1.five
      obtain ⟨d0, d1, d2, d3, d4⟩ := T7.out.ba.five
      go_upto_region 14 with fail
      go_cut [39] from 35 (fun z wx => z = .bool false ∧ Two w a b (.slice p a.len cap) (.slice q b.len cap2) wx ∧ (Blk wx Y b (.slice py b.len cy) 35 ∧ b.In wx (.slice py b.len cy)))
      case first =>
        go_region_with (first
          | (go_at_call 15; refine (to_dat a _ _ (HA.out _ ?_) H1.out).mono ?_; exact T7.out.bel.drew; rintro e w8 ⟨z, rfl, hb8, hin8⟩; have T8 : Hid (Two w a b (.slice p a.len cap) (.slice q b.len cap2) w8) := T7.out.drew.below hb8; have X8 : Hid (Blk w8 X a (.slice px a.len cx) 35 ∧ a.In w8 (.slice px a.len cx) ∧ a.In w8 z) := ⟨X7.out.1.drew.below hb8, X7.out.2.below ((Below.refl _ _).drew.trans hb8), hin8.all⟩; have Y8 : Hid (Blk w8 Y b (.slice py b.len cy) 35 ∧ b.In w8 (.slice py b.len cy)) := ⟨Y7.out.1.drew.below hb8, Y7.out.2.below ((Below.refl _ _).drew.trans hb8)⟩; clear hb8 hin8; obtain ⟨f0, f1, f2, f3, f4⟩ := X8.out.1.five)
          | (go_at_call 17; refine (eq_dat a _ _ _ X8.out.2.1 X8.out.2.2).mono ?_; rintro e w9 ⟨rfl, hb9⟩; have T9 : Hid (Two w a b (.slice p a.len cap) (.slice q b.len cap2) w9) := T8.out.below hb9; have Y9 : Hid (Blk w9 Y b (.slice py b.len cy) 35 ∧ b.In w9 (.slice py b.len cy)) := ⟨Y8.out.1.below hb9, Y8.out.2.below hb9⟩; clear hb9))
        all_goals
          go_wp2_with fail
          go_meet
          exact ⟨rfl, T9.out, Y9.out⟩
      case rest =>
      obtain ⟨rfl, hT9, hY9⟩ := hcut
      have T9 : Hid (Two w a b (.slice p a.len cap) (.slice q b.len cap2) wc) := hT9
      have Y9 : Hid (Blk wc Y b (.slice py b.len cy) 35 ∧ b.In wc (.slice py b.len cy)) := hY9
      clear c0 c1 c2 c3 c4 d0 d1 d2 d3 d4 hT9 hY9 T7 X7 Y7
      obtain ⟨c0, c1, c2, c3, c4⟩ := Y9.out.1.five
      obtain ⟨d0, d1, d2, d3, d4⟩ := T9.out.bb.five
      go_upto_region 16 with fail
      go_cut [44] from 40 (fun z wx => z = .bool false ∧ Below w.heap.size w wx)
      case first =>
        go_region_with (first
          | (go_at_call 15; refine (to_dat b _ _ (HB.out _ ?_) H2.out).mono ?_; exact T9.out.bel.drew; rintro e w8 ⟨z, rfl, hb8, hin8⟩; have T8 : Hid (Two w a b (.slice p a.len cap) (.slice q b.len cap2) w8) := T9.out.drew.below hb8; have X8 : Hid (Blk w8 Y b (.slice py b.len cy) 35 ∧ b.In w8 (.slice py b.len cy) ∧ b.In w8 z) := ⟨Y9.out.1.drew.below hb8, Y9.out.2.below ((Below.refl _ _).drew.trans hb8), hin8.all⟩; clear hb8 hin8; obtain ⟨f0, f1, f2, f3, f4⟩ := X8.out.1.five)
          | (go_at_call 17; refine (eq_dat b _ _ _ X8.out.2.1 X8.out.2.2).mono ?_; rintro e w9 ⟨rfl, hb9⟩; have TE : Hid (Two w a b (.slice p a.len cap) (.slice q b.len cap2) w9) := T8.out.below hb9; clear hb9))
        all_goals
          go_wp2_with fail
          go_meet
          exact ⟨rfl, TE.out.bel⟩
      case rest =>
      obtain ⟨rfl, hE⟩ := hcut
      have HE : Hid (Below w.heap.size w wc) := hE
      clear c0 c1 c2 c3 c4 d0 d1 d2 d3 d4 hE T9 Y9
      go_wp2_with fail
      go_ret
      exact ⟨rfl, HE.out⟩
    · have E1 : Hid (szR 1048576 a.weight = ((1048576 - a.weight : Nat) : Int)) := szR_yes h1
      have E2 : Hid (szR (1048576 - a.weight) b.weight = -1) := szR_no (by omega)
      have hy1 : 1048576 - a.weight ≤ 1048576 := by omega
      generalize 1048576 - a.weight = y1 at *
      have HT : Hid (Two w a b (.slice p a.len cap) (.slice q b.len cap2) ((w.alloc (dobj a (.slice p a.len cap) 31)).alloc (dobj b (.slice q b.len cap2) 31))) := Two.new w a b _ _
      clear h1 h2
      go_enter Try.func5, Try.ntmps5
      go_wp2_with fail
      refine (sz_dat a _ _ 1048576 (HA.out _ HT.out.bel) (by omega)).mono ?_
      rintro e w1 ⟨rfl, hb1⟩
      rw [E1.out]
      have T1 : Hid (Two w a b (.slice p a.len cap) (.slice q b.len cap2) w1) := HT.out.below hb1
      obtain ⟨c0, c1, c2, c3, c4⟩ := T1.out.bb.five
      clear hb1 HT
      go_wp2_with fail
      refine (sz_dat b _ _ y1 (HB.out _ T1.out.bel) hy1).mono ?_
      rintro e w2 ⟨rfl, hb2⟩
      rw [E2.out]
      have T2 : Hid (Two w a b (.slice p a.len cap) (.slice q b.len cap2) w2) := T1.out.below hb2
      clear hb2
      go_wp2_with fail
      go_ret
      exact ⟨rfl, T2.out.bel⟩
  · have E1 : Hid (szR 1048576 a.weight = -1) := szR_no (by omega)
    have HT : Hid (Two w a b (.slice p a.len cap) (.slice q b.len cap2) ((w.alloc (dobj a (.slice p a.len cap) 31)).alloc (dobj b (.slice q b.len cap2) 31))) := Two.new w a b _ _
    go_enter Try.func5, Try.ntmps5
    go_wp2_with fail
    refine (sz_dat a _ _ 1048576 (HA.out _ HT.out.bel) (by omega)).mono ?_
    rintro e w1 ⟨rfl, hb1⟩
    rw [E1.out]
    have T1 : Hid (Two w a b (.slice p a.len cap) (.slice q b.len cap2) w1) := HT.out.below hb1
    clear hb1 HT
    go_wp2_with fail
    go_ret
    exact ⟨rfl, T1.out.bel⟩
end Go.Proofs.Ytmpofgngmnppiaj.fnExactSameDat
