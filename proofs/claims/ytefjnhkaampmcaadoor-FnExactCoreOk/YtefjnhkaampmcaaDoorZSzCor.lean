/- laws.szCore and laws.szCoreS: what is left behind a core. Condition: at most 2^20 may come. -/
import Derived.Test.YtefjnhkaampmcaaDoorRows
import Derived.Test.YtefjnhkaampmcaaDoorZCor
import Derived.WalkKit
import Derived.ProofKit
import Derived.Below
import Derived.OwnWalk
namespace Go.Proofs.YtefjnhkaampmcaaDoor
open Go.ChangeShapes Go.WideShapes Go.ChangeAt Go.RowKit

/-- What is left. -/
def szC (left total : Nat) : Int := if total ≤ left then (left : Int) - total else -1
theorem szC_yes {left total : Nat} (h : total ≤ left) : szC left total = ((left - total : Nat) : Int) := by unfold szC; rw [if_pos h]; omega
theorem szC_no {left total : Nat} (h : left < total) : szC left total = -1 := by unfold szC; rw [if_neg (by omega)]

/-- The contract of szCore at a core. -/
def SzCAt (t : C) : Prop := ∀ (w : World) (v : Value) (left : Nat), t.In w v → left ≤ 1048576 →
  Calls Tryd.prog 4 #[.agg #[.int .i64 t.op, .int .i64 t.n, .string t.s, .string t.t2, v], .int .i64 left] w fun e w' => e = .returned (.int .i64 (szC left t.weight)) ∧ Below w.heap.size w w'

set_option maxRecDepth 100000 in
set_option maxHeartbeats 2000000 in
theorem sz_cores (len : Nat) (kid : Nat → C) (ih : ∀ i, i < len → SzCAt (kid i)) (w : World) (v : Value) (left : Nat) (hv : Cl w len kid v) (hl : left ≤ 1048576) :
    Calls Tryd.prog 9 #[v, .int .i64 left] w fun e w' => e = .returned (.int .i64 (szC left (kidsWeightC len kid))) ∧ Below w.heap.size w w' := by
  obtain ⟨p, cap, rfl, hlen, hat⟩ := hv.at
  have HC : Hid (∀ i, i < len → ∃ b o u, p = some ⟨b, o, none⟩ ∧ HeadC w b (o + i * 5) (kid i) u ∧ (kid i).In w u) := hat
  have IH : Hid (∀ i, i < len → SzCAt (kid i)) := ih
  clear hat ih hv
  unfold maxLen at hlen
  by_cases h0 : (left : Int) - len < 0
  · have HR : Hid (szC left (kidsWeightC len kid) = -1) := szC_no (by unfold kidsWeightC; omega)
    go_enter Tryd.func9, Tryd.ntmps9
    go_wp2_with fail
    go_ret
    exact ⟨by rw [HR.out]; rfl, Below.refl _ _⟩
  · go_enter Tryd.func9, Tryd.ntmps9
    go_wp2_with fail
    go_loopw [1, 5] (fun x i wr => ∃ k r : Nat, i = .int .i64 k ∧ x = .int .i64 r ∧ k ≤ len ∧ r + len + sumTo (fun i => (kid i).weight) k = left ∧ Below w.heap.size w wr) (fun _ i _ => len - (intOf i).toNat)
    case atStart => exact ⟨0, left - len, rfl, by congr 1; omega, Nat.zero_le _, by simp [sumTo]; omega, Below.refl _ _⟩
    case round =>
      obtain ⟨k, r, rfl, rfl, hk, hsum, hbel⟩ := hrel
      have HBL : Hid (Below w.heap.size w wr) := hbel
      have HS : Hid (r + len + sumTo (fun i => (kid i).weight) k = left) := hsum
      have hr : r ≤ 1048576 := by omega
      clear hbel hsum
      by_cases hlt : (k : Int) < len
      · have hlt' : k < len := by omega
        obtain ⟨b, o, u, hp, hd, hin⟩ := HC.out k hlt'
        subst hp
        have hd1 := hd.below HBL.out
        have hin1 := hin.below HBL.out
        obtain ⟨c0, c1, c2, c3, c4⟩ := hd1
        clear hd hin
        have HI : Hid ((kid k).In wr u) := hin1
        clear hin1
        by_cases hw : (kid k).weight ≤ r
        · have HN : Hid ((r - (kid k).weight) + len + sumTo (fun i => (kid i).weight) (k + 1) = left) := by
            have := HS.out
            show _ = _
            simp only [sumTo]; omega
          have e1 := szC_yes hw
          generalize hx : r - (kid k).weight = x at *
          have hx0 : (0 : Int) ≤ (x : Int) := by omega
          clear hx hw
          have E1 : Hid (szC r (kid k).weight = (x : Int)) := e1
          clear e1
          go_wp2_with fail
          refine (IH.out k hlt' wr u r HI.out hr).mono ?_
          rintro e w1 ⟨rfl, hb1⟩
          rw [E1.out]
          have HB1 : Hid (Below w.heap.size w w1) := HBL.out.trans (hb1.mono HBL.out.size)
          clear hb1 c0 c1 c2 c3 c4
          go_wp2_with fail
          go_roundw
          case rel => exact ⟨k + 1, x, by go_num, rfl, by omega, HN.out, HB1.out⟩
          case measure => simp [intOf]; omega
        · have HR : Hid (szC left (kidsWeightC len kid) = -1) := by
            refine szC_no ?_
            have h1 := HS.out
            have h2 := sumTo_at (fun i => (kid i).weight) k len hlt'
            unfold kidsWeightC; omega
          have E1 : Hid (szC r (kid k).weight = -1) := szC_no (by omega)
          clear hw
          go_wp2_with fail
          refine (IH.out k hlt' wr u r HI.out hr).mono ?_
          rintro e w1 ⟨rfl, hb1⟩
          rw [E1.out]
          have HB1 : Hid (Below w.heap.size w w1) := HBL.out.trans (hb1.mono HBL.out.size)
          clear hb1 c0 c1 c2 c3 c4
          go_wp2_with fail
          go_ret
          exact ⟨by rw [HR.out]; rfl, HB1.out⟩
      · have hke : k = len := by omega
        subst hke
        go_wp2
        go_ret
        refine ⟨?_, HBL.out⟩
        have h1 := HS.out
        have e : szC left (kidsWeightC k kid) = (r : Int) := by
          rw [szC_yes (by unfold kidsWeightC; omega)]
          congr 1; unfold kidsWeightC; omega
        rw [e]; rfl

set_option maxRecDepth 100000 in
set_option maxHeartbeats 2000000 in
theorem sz_core (t : C) : SzCAt t := by
  induction t with
  | no => intro w v left h _; exact h.elim
  | mk op n s t2 len kid ih =>
    intro w v left hin hl
    have hs := hin.size.1
    have hs2 := hin.size.2
    have hsl := hin.sl
    unfold maxLen at hs hs2
    simp only [C.op, C.n, C.s, C.t2, C.len, C.kid] at hs hs2 hsl ⊢
    obtain ⟨p, cap, hv⟩ := hsl.shape
    have HSL : Hid (Cl w len kid v) := hsl
    have IH : Hid (∀ i, SzCAt (kid i)) := ih
    clear hin hsl ih
    have HW : Hid ((C.mk op n s t2 len kid).weight = s.size + (t2.size + kidsWeightC len kid)) := rfl
    subst hv
    by_cases h0 : (left : Int) - s.size < 0
    · have HR : Hid (szC left (C.mk op n s t2 len kid).weight = -1) := szC_no (by rw [HW.out]; omega)
      go_enter Tryd.func4, Tryd.ntmps4
      go_wp2_with fail
      go_ret
      exact ⟨by rw [HR.out]; rfl, newb w _⟩
    by_cases h02 : (left : Int) - s.size - t2.size < 0
    · have HR : Hid (szC left (C.mk op n s t2 len kid).weight = -1) := szC_no (by rw [HW.out]; omega)
      go_enter Tryd.func4, Tryd.ntmps4
      go_wp2_with fail
      go_ret
      exact ⟨by rw [HR.out]; rfl, newb w _⟩
    · have hx : (left : Int) - s.size - t2.size = ((left - s.size - t2.size : Nat) : Int) := by omega
      have hx1 : left - s.size - t2.size ≤ 1048576 := by omega
      by_cases hw : kidsWeightC len kid ≤ left - s.size - t2.size
      · have HR : Hid (szC left (C.mk op n s t2 len kid).weight = ((left - s.size - t2.size - kidsWeightC len kid : Nat) : Int)) := by
          show _ = _
          rw [szC_yes (by rw [HW.out]; omega)]; congr 1; rw [HW.out]; omega
        have E1 : Hid (szC (left - s.size - t2.size) (kidsWeightC len kid) = ((left - s.size - t2.size - kidsWeightC len kid : Nat) : Int)) := szC_yes hw
        generalize left - s.size - t2.size - kidsWeightC len kid = y at *
        generalize left - s.size - t2.size = x at *
        clear hw
        go_enter Tryd.func4, Tryd.ntmps4
        go_wp2_with fail
        refine (sz_cores len kid (fun i _ => IH.out i) _ _ x (HSL.out.below (newb w _)) hx1).mono ?_
        rintro e w1 ⟨rfl, hb1⟩
        rw [E1.out]
        have HB1 : Hid (Below w.heap.size w w1) := (newb w _).trans (hb1.mono (newb w _).size)
        clear hb1
        go_wp2_with fail
        go_ret
        exact ⟨by rw [HR.out]; rfl, HB1.out⟩
      · have HR : Hid (szC left (C.mk op n s t2 len kid).weight = -1) := szC_no (by rw [HW.out]; omega)
        have E1 : Hid (szC (left - s.size - t2.size) (kidsWeightC len kid) = -1) := szC_no (by omega)
        clear hw
        generalize left - s.size - t2.size = x at *
        go_enter Tryd.func4, Tryd.ntmps4
        go_wp2_with fail
        refine (sz_cores len kid (fun i _ => IH.out i) _ _ x (HSL.out.below (newb w _)) hx1).mono ?_
        rintro e w1 ⟨rfl, hb1⟩
        rw [E1.out]
        have HB1 : Hid (Below w.heap.size w w1) := (newb w _).trans (hb1.mono (newb w _).size)
        clear hb1
        go_wp2_with fail
        go_ret
        exact ⟨by rw [HR.out]; rfl, HB1.out⟩
end Go.Proofs.YtefjnhkaampmcaaDoor
