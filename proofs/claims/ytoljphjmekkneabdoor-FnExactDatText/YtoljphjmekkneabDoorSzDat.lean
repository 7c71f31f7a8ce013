/- laws.szDat and laws.szDatS: what is left behind a datum. Condition: at most 2^20 may come. -/
import Derived.Test.YtoljphjmekkneabDoorRows
import Derived.Test.YtoljphjmekkneabDoorDat
import Derived.WalkKit
import Derived.ProofKit
import Derived.Below
import Derived.OwnWalk
namespace Go.Proofs.YtoljphjmekkneabDoor
open Go.ChangeShapes Go.WideShapes Go.ChangeAt Go.RowKit

/-- What is left. -/
def szR (left total : Nat) : Int := if total ≤ left then (left : Int) - total else -1
theorem szR_yes {left total : Nat} (h : total ≤ left) : szR left total = ((left - total : Nat) : Int) := by unfold szR; rw [if_pos h]; omega
theorem szR_no {left total : Nat} (h : left < total) : szR left total = -1 := by unfold szR; rw [if_neg (by omega)]

/-- The contract of szDat at a datum. -/
def SzAt (t : D) : Prop := ∀ (w : World) (v : Value) (left : Nat), t.In w v → left ≤ 1048576 →
  Calls Tryd.prog 4 #[.agg #[.int .i64 t.op, .int .i64 t.at_, .int .i64 t.n, .string t.s, v], .int .i64 left] w fun e w' => e = .returned (.int .i64 (szR left t.weight)) ∧ Below w.heap.size w w'

set_option maxRecDepth 100000 in
set_option maxHeartbeats 2000000 in
theorem sz_dats (len : Nat) (kid : Nat → D) (ih : ∀ i, i < len → SzAt (kid i)) (w : World) (v : Value) (left : Nat) (hv : Sl w len kid v) (hl : left ≤ 1048576) :
    Calls Tryd.prog 9 #[v, .int .i64 left] w fun e w' => e = .returned (.int .i64 (szR left (kidsWeight len kid))) ∧ Below w.heap.size w w' := by
  obtain ⟨p, cap, rfl, hlen, hat⟩ := hv.at
  have HC : Hid (∀ i, i < len → ∃ b o u, p = some ⟨b, o, none⟩ ∧ Head w b (o + i * 5) (kid i) u ∧ (kid i).In w u) := hat
  have IH : Hid (∀ i, i < len → SzAt (kid i)) := ih
  clear hat ih hv
  unfold maxLen at hlen
  by_cases h0 : (left : Int) - len < 0
  · have HR : Hid (szR left (kidsWeight len kid) = -1) := szR_no (by unfold kidsWeight; omega)
    go_enter Tryd.func9, Tryd.ntmps9
    go_wp2_with fail
    go_ret
    exact ⟨by rw [HR.out]; rfl, Below.refl _ _⟩
  · go_enter Tryd.func9, Tryd.ntmps9
    go_wp2_with fail
    go_loopw [1, 5] (fun x i wr => ∃ k r : Nat, i = .int .i64 k ∧ x = .int .i64 r ∧ k ≤ len ∧ r + len + sumTo (fun i => (kid i).weight) k = left ∧ Below w.heap.size w wr) (fun _ i _ => len - (intOf i).toNat)
    case atStart => exact ⟨0, left - len, rfl, by congr 1; omega, Nat.zero_le _, by simp [sumTo]; omega, Below.refl _ _⟩
    case round =>
      obtain ⟨k, r, rfl, rfl, hk, hsum, hbel⟩ := hrel
      have HBL : Hid (Below w.heap.size w wr) := hbel
      have HS : Hid (r + len + sumTo (fun i => (kid i).weight) k = left) := hsum
      have hr : r ≤ 1048576 := by omega
      clear hbel hsum
      by_cases hlt : (k : Int) < len
      · have hlt' : k < len := by omega
        obtain ⟨b, o, u, hp, hd, hin⟩ := HC.out k hlt'
        subst hp
        have hd1 := hd.below HBL.out
        have hin1 := hin.below HBL.out
        obtain ⟨c0, c1, c2, c3, c4⟩ := hd1
        clear hd hin
        have HI : Hid ((kid k).In wr u) := hin1
        clear hin1
        by_cases hw : (kid k).weight ≤ r
        · have HN : Hid ((r - (kid k).weight) + len + sumTo (fun i => (kid i).weight) (k + 1) = left) := by
            have := HS.out
            show _ = _
            simp only [sumTo]; omega
          have e1 := szR_yes hw
          generalize hx : r - (kid k).weight = x at *
          have hx0 : (0 : Int) ≤ (x : Int) := by omega
          clear hx hw
          have E1 : Hid (szR r (kid k).weight = (x : Int)) := e1
          clear e1
          go_wp2_with fail
          refine (IH.out k hlt' wr u r HI.out hr).mono ?_
          rintro e w1 ⟨rfl, hb1⟩
          rw [E1.out]
          have HB1 : Hid (Below w.heap.size w w1) := HBL.out.trans (hb1.mono HBL.out.size)
          clear hb1 c0 c1 c2 c3 c4
          go_wp2_with fail
          go_roundw
          case rel => exact ⟨k + 1, x, by go_num, rfl, by omega, HN.out, HB1.out⟩
          case measure => simp [intOf]; omega
        · have HR : Hid (szR left (kidsWeight len kid) = -1) := by
            refine szR_no ?_
            have h1 := HS.out
            have h2 := sumTo_at (fun i => (kid i).weight) k len hlt'
            unfold kidsWeight; omega
          have E1 : Hid (szR r (kid k).weight = -1) := szR_no (by omega)
          clear hw
          go_wp2_with fail
          refine (IH.out k hlt' wr u r HI.out hr).mono ?_
          rintro e w1 ⟨rfl, hb1⟩
          rw [E1.out]
          have HB1 : Hid (Below w.heap.size w w1) := HBL.out.trans (hb1.mono HBL.out.size)
          clear hb1 c0 c1 c2 c3 c4
          go_wp2_with fail
          go_ret
          exact ⟨by rw [HR.out]; rfl, HB1.out⟩
      · have hke : k = len := by omega
        subst hke
        go_wp2
        go_ret
        refine ⟨?_, HBL.out⟩
        have h1 := HS.out
        have e : szR left (kidsWeight k kid) = (r : Int) := by
          rw [szR_yes (by unfold kidsWeight; omega)]
          congr 1; unfold kidsWeight; omega
        rw [e]; rfl

set_option maxRecDepth 100000 in
set_option maxHeartbeats 2000000 in
theorem sz_dat (t : D) : SzAt t := by
  induction t with
  | no => intro w v left h _; exact h.elim
  | mk op a n s len kid ih =>
    intro w v left hin hl
    have hs := hin.size
    have hsl := hin.sl
    unfold maxLen at hs
    simp only [D.op, D.at_, D.n, D.s, D.len, D.kid] at hs hsl ⊢
    obtain ⟨p, cap, hv⟩ := hsl.shape
    have HSL : Hid (Sl w len kid v) := hsl
    have IH : Hid (∀ i, SzAt (kid i)) := ih
    clear hin hsl ih
    have HW : Hid ((D.mk op a n s len kid).weight = s.size + kidsWeight len kid) := rfl
    subst hv
    by_cases h0 : (left : Int) - s.size < 0
    · have HR : Hid (szR left (D.mk op a n s len kid).weight = -1) := szR_no (by rw [HW.out]; omega)
      go_enter Tryd.func4, Tryd.ntmps4
      go_wp2_with fail
      go_ret
      exact ⟨by rw [HR.out]; rfl, newb w _⟩
    · have hx : (left : Int) - s.size = ((left - s.size : Nat) : Int) := by omega
      have hx1 : left - s.size ≤ 1048576 := by omega
      by_cases hw : kidsWeight len kid ≤ left - s.size
      · have HR : Hid (szR left (D.mk op a n s len kid).weight = ((left - s.size - kidsWeight len kid : Nat) : Int)) := by
          show _ = _
          rw [szR_yes (by rw [HW.out]; omega)]; congr 1; rw [HW.out]; omega
        have E1 : Hid (szR (left - s.size) (kidsWeight len kid) = ((left - s.size - kidsWeight len kid : Nat) : Int)) := szR_yes hw
        generalize left - s.size - kidsWeight len kid = y at *
        generalize left - s.size = x at *
        clear hw
        go_enter Tryd.func4, Tryd.ntmps4
        go_wp2_with fail
        refine (sz_dats len kid (fun i _ => IH.out i) _ _ x (HSL.out.below (newb w _)) hx1).mono ?_
        rintro e w1 ⟨rfl, hb1⟩
        rw [E1.out]
        have HB1 : Hid (Below w.heap.size w w1) := (newb w _).trans (hb1.mono (newb w _).size)
        clear hb1
        go_wp2_with fail
        go_ret
        exact ⟨by rw [HR.out]; rfl, HB1.out⟩
      · have HR : Hid (szR left (D.mk op a n s len kid).weight = -1) := szR_no (by rw [HW.out]; omega)
        have E1 : Hid (szR (left - s.size) (kidsWeight len kid) = -1) := szR_no (by omega)
        clear hw
        generalize left - s.size = x at *
        go_enter Tryd.func4, Tryd.ntmps4
        go_wp2_with fail
        refine (sz_dats len kid (fun i _ => IH.out i) _ _ x (HSL.out.below (newb w _)) hx1).mono ?_
        rintro e w1 ⟨rfl, hb1⟩
        rw [E1.out]
        have HB1 : Hid (Below w.heap.size w w1) := (newb w _).trans (hb1.mono (newb w _).size)
        clear hb1
        go_wp2_with fail
        go_ret
        exact ⟨by rw [HR.out]; rfl, HB1.out⟩
end Go.Proofs.YtoljphjmekkneabDoor
