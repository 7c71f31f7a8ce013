/- laws.eqIr and laws.eqIrS: of one value, laid twice, the answer is true. No conditions. -/
import Derived.Test.YtmobpjokmngdgaaDoorRows
import Derived.Test.YtmobpjokmngdgaaDoorIr
import Derived.WalkKit
import Derived.ProofKit
import Derived.OwnWalk
import Derived.BigQuiet
import Derived.Deep.QuietTactic
import Derived.Deep.RegionWith
namespace Go.Proofs.YtmobpjokmngdgaaDoor
open Go.ChangeShapes Go.WideShapes Go.ChangeAt Go.RowKit

def EqIAt (t : It) : Prop := ∀ (w : World) (u v : Value), t.In w u → t.In w v →
  Calls Tryd.prog 23 #[.agg #[.int .i64 t.op, .int .i64 t.n, u], .agg #[.int .i64 t.op, .int .i64 t.n, v]] w fun e w' => e = .returned (.bool true) ∧ Below w.heap.size w w'

set_option maxRecDepth 100000 in
set_option maxHeartbeats 2000000 in
theorem eq_irs (len : Nat) (kid : Nat → It) (ih : ∀ i, i < len → EqIAt (kid i)) (w : World) (u v : Value) (hu : Il w len kid u) (hv : Il w len kid v) :
    Calls Tryd.prog 27 #[u, v] w fun e w' => e = .returned (.bool true) ∧ Below w.heap.size w w' := by
  obtain ⟨p, cap, rfl, hlen, hat⟩ := hu.at
  obtain ⟨q, cap2, rfl, -, hat2⟩ := hv.at
  have HC : Hid (∀ i, i < len → ∃ b o u, p = some ⟨b, o, none⟩ ∧ HeadI w b (o + i * 3) (kid i) u ∧ (kid i).In w u) := hat
  have HD : Hid (∀ i, i < len → ∃ b o u, q = some ⟨b, o, none⟩ ∧ HeadI w b (o + i * 3) (kid i) u ∧ (kid i).In w u) := hat2
  have IH : Hid (∀ i, i < len → EqIAt (kid i)) := ih
  clear hat hat2 ih hu hv
  unfold maxLen at hlen
  go_enter Tryd.func27, Tryd.ntmps27
  go_wp2_with fail
  go_loopw [5] (fun i wr => ∃ k : Nat, i = .int .i64 k ∧ k ≤ len ∧ Below w.heap.size w wr) (fun i _ => len - (intOf i).toNat)
  case atStart => exact ⟨0, rfl, Nat.zero_le _, Below.refl _ _⟩
  case round =>
    obtain ⟨k, rfl, hk, hbel⟩ := hrel
    have HBL : Hid (Below w.heap.size w wr) := hbel
    clear hbel
    by_cases hlt : (k : Int) < len
    · have hlt' : k < len := by omega
      obtain ⟨b, o, x, hp, hd, hin⟩ := HC.out k hlt'
      obtain ⟨b2, o2, y, hq, hd2, hin2⟩ := HD.out k hlt'
      subst hp hq
      obtain ⟨c0, c1, c2⟩ := hd.below HBL.out
      obtain ⟨d0, d1, d2⟩ := hd2.below HBL.out
      have HI : Hid ((kid k).In wr x ∧ (kid k).In wr y) := ⟨hin.below HBL.out, hin2.below HBL.out⟩
      clear hd hin hd2 hin2
      have HCL : Hid (∀ w1 : World, Below wr.heap.size wr w1 → Calls Tryd.prog 23 #[.agg #[.int .i64 (kid k).op, .int .i64 (kid k).n, x], .agg #[.int .i64 (kid k).op, .int .i64 (kid k).n, y]] w1 fun e w' => e = .returned (.bool true) ∧ Below w1.heap.size w1 w') :=
        fun w1 h1 => IH.out k hlt' w1 x y (HI.out.1.below h1) (HI.out.2.below h1)
      go_wp2_with fail
      go_region_with ((go_at_call 23; refine (HCL.out _ ?_).mono ?_; exact (Below.refl _ _).drew; rintro e w1 ⟨rfl, hb1⟩))
      all_goals
        have HB1 : Hid (Below w.heap.size w w1) := HBL.out.trans ⟨hb1.os, hb1.tape, hb1.output, hb1.size, fun j hj => hb1.block j (Nat.lt_of_lt_of_le hj HBL.out.size)⟩
        clear hb1
        go_wp2_with fail
        go_roundw
        case rel => first | exact ⟨k + 1, by go_num, by omega, HB1.out⟩ | ((repeat apply Exists.intro); exact ⟨⟨k + 1, by go_num, by omega, HB1.out⟩, rfl⟩)
        case measure => simp [intOf]; omega
    · go_wp2_with fail
      go_ret
      exact ⟨rfl, HBL.out⟩

set_option maxRecDepth 100000 in
set_option maxHeartbeats 2000000 in
theorem eq_ir (t : It) : EqIAt t := by
  induction t with
  | no => intro w u v h _; exact h.elim
  | mk op n len kid ih =>
    intro w u v hu hv
    have h1 := hu.sl
    have h2 := hv.sl
    simp only [It.op, It.n, It.len, It.kid] at h1 h2 ⊢
    obtain ⟨p, cap, e1⟩ := h1.shape
    obtain ⟨q, cap2, e2⟩ := h2.shape
    have H1 : Hid (Il w len kid u) := h1
    have H2 : Hid (Il w len kid v) := h2
    have IH : Hid (∀ i, EqIAt (kid i)) := ih
    clear hu hv h1 h2 ih
    subst e1 e2
    go_enter Tryd.func23, Tryd.ntmps23
    go_wp2_with fail
    refine (eq_irs len kid (fun i _ => IH.out i) _ _ _ (H1.out.below ((newb w _).trans ((newb _ _).mono (by simp)))) (H2.out.below ((newb w _).trans ((newb _ _).mono (by simp))))).mono ?_
    rintro e w1 ⟨rfl, hb1⟩
    have HB : Hid (Below w.heap.size w w1) := ((newb w _).trans ((newb _ _).mono (by simp))).trans (hb1.mono (by simp; omega))
    clear hb1
    go_wp2_with fail
    go_ret
    exact ⟨rfl, HB.out⟩
end Go.Proofs.YtmobpjokmngdgaaDoor
