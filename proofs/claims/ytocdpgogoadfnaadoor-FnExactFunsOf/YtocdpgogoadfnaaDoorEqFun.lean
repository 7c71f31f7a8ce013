/- laws.eqFun and laws.eqFunS: of what is laid twice the answer is true. No conditions. -/
import Derived.Test.YtocdpgogoadfnaaDoorRows
import Derived.Test.YtocdpgogoadfnaaDoorFun
import Derived.WalkKit
import Derived.ProofKit
import Derived.Deep.RegionWith
namespace Go.Proofs.YtocdpgogoadfnaaDoor
open Go.ChangeShapes Go.WideShapes Go.ChangeAt Go.RowKit

set_option maxRecDepth 100000 in
set_option maxHeartbeats 2000000 in
theorem eq_op (t : O3) (w : World) : Calls Tryd.prog 47 #[.agg #[.int .i64 t.c, .int .i64 t.n, .int .i64 t.m], .agg #[.int .i64 t.c, .int .i64 t.n, .int .i64 t.m]] w fun e w' => e = .returned (.bool true) ∧ Below w.heap.size w w' := by
  have HB : Hid (∀ o1 o2, Below w.heap.size w ((w.alloc o1).alloc o2)) := fun o1 o2 => (newb w _).trans ((newb _ _).mono (by simp))
  go_enter Tryd.func47, Tryd.ntmps47
  go_wp2_with fail
  go_ret
  exact ⟨rfl, HB.out _ _⟩

set_option maxRecDepth 100000 in
set_option maxHeartbeats 2000000 in
theorem eq_ops (len : Nat) (op : Nat → O3) (w : World) (u v : Value) (hu : Ol w len op u) (hv : Ol w len op v) :
    Calls Tryd.prog 37 #[u, v] w fun e w' => e = .returned (.bool true) ∧ Below w.heap.size w w' := by
  obtain ⟨p, cap, rfl, hlen, hat⟩ := hu.at
  obtain ⟨q, cap2, rfl, -, hat2⟩ := hv.at
  have HC : Hid (∀ i, i < len → ∃ b o, p = some ⟨b, o, none⟩ ∧ HeadO w b (o + i * 3) (op i) ∧ (op i).Ok) := hat
  have HD : Hid (∀ i, i < len → ∃ b o, q = some ⟨b, o, none⟩ ∧ HeadO w b (o + i * 3) (op i) ∧ (op i).Ok) := hat2
  clear hat hat2 hu hv
  unfold maxLen at hlen
  go_enter Tryd.func37, Tryd.ntmps37
  go_wp2_with fail
  go_loopw [5] (fun i wr => ∃ k : Nat, i = .int .i64 k ∧ k ≤ len ∧ Below w.heap.size w wr) (fun i _ => len - (intOf i).toNat)
  case atStart => exact ⟨0, rfl, Nat.zero_le _, Below.refl _ _⟩
  case round =>
    obtain ⟨k, rfl, hk, hbel⟩ := hrel
    have HBL : Hid (Below w.heap.size w wr) := hbel
    clear hbel
    by_cases hlt : (k : Int) < len
    · have hlt' : k < len := by omega
      obtain ⟨b, o, hp, hd, -⟩ := HC.out k hlt'
      obtain ⟨b2, o2, hq, hd2, -⟩ := HD.out k hlt'
      subst hp hq
      obtain ⟨c0, c1, c2⟩ := hd.below HBL.out
      obtain ⟨d0, d1, d2⟩ := hd2.below HBL.out
      clear hd hd2
      have HCL : Hid (∀ w1 : World, Calls Tryd.prog 47 #[.agg #[.int .i64 (op k).c, .int .i64 (op k).n, .int .i64 (op k).m], .agg #[.int .i64 (op k).c, .int .i64 (op k).n, .int .i64 (op k).m]] w1 fun e w' => e = .returned (.bool true) ∧ Below w1.heap.size w1 w') :=
        fun w1 => eq_op (op k) w1
      go_wp2_with fail
      go_region_with ((go_at_call 47; refine (HCL.out _).mono ?_; rintro e w1 ⟨rfl, hb1⟩))
      all_goals
        have HB1 : Hid (Below w.heap.size w w1) := HBL.out.trans ⟨hb1.os, hb1.tape, hb1.output, hb1.size, fun j hj => hb1.block j (Nat.lt_of_lt_of_le hj HBL.out.size)⟩
        clear hb1
        go_wp2_with fail
        go_roundw
        case rel => first | exact ⟨k + 1, by go_num, by omega, HB1.out⟩ | ((repeat apply Exists.intro); exact ⟨⟨k + 1, by go_num, by omega, HB1.out⟩, rfl⟩)
        case measure => simp [intOf]; omega
    · go_wp2_with fail
      go_ret
      exact ⟨rfl, HBL.out⟩

def EqFAt (t : Fu) : Prop := ∀ (w : World) (u v : Value), t.In w u → t.In w v →
  Calls Tryd.prog 25 #[.agg #[.int .i64 t.fr, u], .agg #[.int .i64 t.fr, v]] w fun e w' => e = .returned (.bool true) ∧ Below w.heap.size w w'

set_option maxRecDepth 100000 in
set_option maxHeartbeats 2000000 in
theorem eq_fun (t : Fu) : EqFAt t := by
  intro w u v hu hv
  obtain ⟨p, cap, e1⟩ := hu.sl.shape
  obtain ⟨q, cap2, e2⟩ := hv.sl.shape
  have hb0 : ∀ o1 o2, Below w.heap.size w ((w.alloc o1).alloc o2) := fun o1 o2 => (newb w _).trans ((newb _ _).mono (by simp))
  have HS : Hid (∀ o1 o2, Calls Tryd.prog 37 #[u, v] ((w.alloc o1).alloc o2) fun e w' => e = .returned (.bool true) ∧ Below w.heap.size w w') :=
    fun o1 o2 => (eq_ops t.len t.op _ u v (hu.2.below (hb0 o1 o2)) (hv.2.below (hb0 o1 o2))).mono fun e w' h => ⟨h.1, (hb0 o1 o2).trans (h.2.mono (hb0 o1 o2).size)⟩
  clear hu hv hb0
  subst e1 e2
  go_enter Tryd.func25, Tryd.ntmps25
  go_wp2_with fail
  refine (HS.out _ _).mono ?_
  rintro e w1 ⟨rfl, hb1⟩
  have HB1 : Hid (Below w.heap.size w w1) := hb1
  clear hb1
  go_wp2_with fail
  go_ret
  exact ⟨rfl, HB1.out⟩

set_option maxRecDepth 100000 in
set_option maxHeartbeats 2000000 in
theorem eq_funsOf (len : Nat) (kid : Nat → Fu) (ih : ∀ i, i < len → EqFAt (kid i)) (w : World) (u v : Value) (hu : Fl w len kid u) (hv : Fl w len kid v) :
    Calls Tryd.prog 10 #[u, v] w fun e w' => e = .returned (.bool true) ∧ Below w.heap.size w w' := by
  obtain ⟨p, cap, rfl, hlen, hat⟩ := hu.at
  obtain ⟨q, cap2, rfl, -, hat2⟩ := hv.at
  have HC : Hid (∀ i, i < len → ∃ b o u, p = some ⟨b, o, none⟩ ∧ HeadF w b (o + i * 2) (kid i) u ∧ (kid i).In w u) := hat
  have HD : Hid (∀ i, i < len → ∃ b o u, q = some ⟨b, o, none⟩ ∧ HeadF w b (o + i * 2) (kid i) u ∧ (kid i).In w u) := hat2
  have IH : Hid (∀ i, i < len → EqFAt (kid i)) := ih
  clear hat hat2 ih hu hv
  unfold maxLen at hlen
  go_enter Tryd.func10, Tryd.ntmps10
  go_wp2_with fail
  go_loopw [5] (fun i wr => ∃ k : Nat, i = .int .i64 k ∧ k ≤ len ∧ Below w.heap.size w wr) (fun i _ => len - (intOf i).toNat)
  case atStart => exact ⟨0, rfl, Nat.zero_le _, Below.refl _ _⟩
  case round =>
    obtain ⟨k, rfl, hk, hbel⟩ := hrel
    have HBL : Hid (Below w.heap.size w wr) := hbel
    clear hbel
    by_cases hlt : (k : Int) < len
    · have hlt' : k < len := by omega
      obtain ⟨b, o, x, hp, hd, hin⟩ := HC.out k hlt'
      obtain ⟨b2, o2, y, hq, hd2, hin2⟩ := HD.out k hlt'
      subst hp hq
      obtain ⟨c0, c1⟩ := hd.below HBL.out
      obtain ⟨d0, d1⟩ := hd2.below HBL.out
      have HI : Hid ((kid k).In wr x ∧ (kid k).In wr y) := ⟨hin.below HBL.out, hin2.below HBL.out⟩
      clear hd hin hd2 hin2
      have HCL : Hid (∀ w1 : World, Below wr.heap.size wr w1 → Calls Tryd.prog 25 #[.agg #[.int .i64 (kid k).fr, x], .agg #[.int .i64 (kid k).fr, y]] w1 fun e w' => e = .returned (.bool true) ∧ Below w1.heap.size w1 w') :=
        fun w1 h1 => IH.out k hlt' w1 x y (HI.out.1.below h1) (HI.out.2.below h1)
      go_wp2_with fail
      go_region_with ((go_at_call 25; refine (HCL.out _ ?_).mono ?_; exact (Below.refl _ _).drew; rintro e w1 ⟨rfl, hb1⟩))
      all_goals
        have HB1 : Hid (Below w.heap.size w w1) := HBL.out.trans ⟨hb1.os, hb1.tape, hb1.output, hb1.size, fun j hj => hb1.block j (Nat.lt_of_lt_of_le hj HBL.out.size)⟩
        clear hb1
        go_wp2_with fail
        go_roundw
        case rel => first | exact ⟨k + 1, by go_num, by omega, HB1.out⟩ | ((repeat apply Exists.intro); exact ⟨⟨k + 1, by go_num, by omega, HB1.out⟩, rfl⟩)
        case measure => simp [intOf]; omega
    · go_wp2_with fail
      go_ret
      exact ⟨rfl, HBL.out⟩

theorem eq_funs (len : Nat) (kid : Nat → Fu) (w : World) (u v : Value) (hu : Fl w len kid u) (hv : Fl w len kid v) :
    Calls Tryd.prog 10 #[u, v] w fun e w' => e = .returned (.bool true) ∧ Below w.heap.size w w' := eq_funsOf len kid (fun i _ => eq_fun (kid i)) w u v hu hv
end Go.Proofs.YtocdpgogoadfnaaDoor
