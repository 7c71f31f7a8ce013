/- laws.szIr and laws.szIrS: what is left behind an ir. Condition: at most 2^20 may come. -/
import Derived.Test.YtmobpjokmngdgaaDoorRows
import Derived.Test.YtmobpjokmngdgaaDoorIr
import Derived.WalkKit
import Derived.ProofKit
import Derived.Below
import Derived.OwnWalk
namespace Go.Proofs.YtmobpjokmngdgaaDoor
open Go.ChangeShapes Go.WideShapes Go.ChangeAt Go.RowKit

/-- What is left. -/
def szI (left total : Nat) : Int := if total ≤ left then (left : Int) - total else -1
theorem szI_yes {left total : Nat} (h : total ≤ left) : szI left total = ((left - total : Nat) : Int) := by unfold szI; rw [if_pos h]; omega
theorem szI_no {left total : Nat} (h : left < total) : szI left total = -1 := by unfold szI; rw [if_neg (by omega)]

/-- The contract of szDat at a datum. -/
def SzIAt (t : It) : Prop := ∀ (w : World) (v : Value) (left : Nat), t.In w v → left ≤ 1048576 →
  Calls Tryd.prog 16 #[.agg #[.int .i64 t.op, .int .i64 t.n, v], .int .i64 left] w fun e w' => e = .returned (.int .i64 (szI left t.weight)) ∧ Below w.heap.size w w'

set_option maxRecDepth 100000 in
set_option maxHeartbeats 2000000 in
theorem sz_irs (len : Nat) (kid : Nat → It) (ih : ∀ i, i < len → SzIAt (kid i)) (w : World) (v : Value) (left : Nat) (hv : Il w len kid v) (hl : left ≤ 1048576) :
    Calls Tryd.prog 24 #[v, .int .i64 left] w fun e w' => e = .returned (.int .i64 (szI left (kidsWeightI len kid))) ∧ Below w.heap.size w w' := by
  obtain ⟨p, cap, rfl, hlen, hat⟩ := hv.at
  have HC : Hid (∀ i, i < len → ∃ b o u, p = some ⟨b, o, none⟩ ∧ HeadI w b (o + i * 3) (kid i) u ∧ (kid i).In w u) := hat
  have IH : Hid (∀ i, i < len → SzIAt (kid i)) := ih
  clear hat ih hv
  unfold maxLen at hlen
  by_cases h0 : (left : Int) - len < 0
  · have HR : Hid (szI left (kidsWeightI len kid) = -1) := szI_no (by unfold kidsWeightI; omega)
    go_enter Tryd.func24, Tryd.ntmps24
    go_wp2_with fail
    go_ret
    exact ⟨by rw [HR.out]; rfl, Below.refl _ _⟩
  · go_enter Tryd.func24, Tryd.ntmps24
    go_wp2_with fail
    go_loopw [1, 5] (fun x i wr => ∃ k r : Nat, i = .int .i64 k ∧ x = .int .i64 r ∧ k ≤ len ∧ r + len + sumTo (fun i => (kid i).weight) k = left ∧ Below w.heap.size w wr) (fun _ i _ => len - (intOf i).toNat)
    case atStart => exact ⟨0, left - len, rfl, by congr 1; omega, Nat.zero_le _, by simp [sumTo]; omega, Below.refl _ _⟩
    case round =>
      obtain ⟨k, r, rfl, rfl, hk, hsum, hbel⟩ := hrel
      have HBL : Hid (Below w.heap.size w wr) := hbel
      have HS : Hid (r + len + sumTo (fun i => (kid i).weight) k = left) := hsum
      have hr : r ≤ 1048576 := by omega
      clear hbel hsum
      by_cases hlt : (k : Int) < len
      · have hlt' : k < len := by omega
        obtain ⟨b, o, u, hp, hd, hin⟩ := HC.out k hlt'
        subst hp
        have hd1 := hd.below HBL.out
        have hin1 := hin.below HBL.out
        obtain ⟨c0, c1, c2⟩ := hd1
        clear hd hin
        have HI : Hid ((kid k).In wr u) := hin1
        clear hin1
        by_cases hw : (kid k).weight ≤ r
        · have HN : Hid ((r - (kid k).weight) + len + sumTo (fun i => (kid i).weight) (k + 1) = left) := by
            have := HS.out
            show _ = _
            simp only [sumTo]; omega
          have e1 := szI_yes hw
          generalize hx : r - (kid k).weight = x at *
          have hx0 : (0 : Int) ≤ (x : Int) := by omega
          clear hx hw
          have E1 : Hid (szI r (kid k).weight = (x : Int)) := e1
          clear e1
          go_wp2_with fail
          refine (IH.out k hlt' wr u r HI.out hr).mono ?_
          rintro e w1 ⟨rfl, hb1⟩
          rw [E1.out]
          have HB1 : Hid (Below w.heap.size w w1) := HBL.out.trans (hb1.mono HBL.out.size)
          clear hb1 c0 c1 c2
          go_wp2_with fail
          go_roundw
          case rel => exact ⟨k + 1, x, by go_num, rfl, by omega, HN.out, HB1.out⟩
          case measure => simp [intOf]; omega
        · have HR : Hid (szI left (kidsWeightI len kid) = -1) := by
            refine szI_no ?_
            have h1 := HS.out
            have h2 := sumTo_at (fun i => (kid i).weight) k len hlt'
            unfold kidsWeightI; omega
          have E1 : Hid (szI r (kid k).weight = -1) := szI_no (by omega)
          clear hw
          go_wp2_with fail
          refine (IH.out k hlt' wr u r HI.out hr).mono ?_
          rintro e w1 ⟨rfl, hb1⟩
          rw [E1.out]
          have HB1 : Hid (Below w.heap.size w w1) := HBL.out.trans (hb1.mono HBL.out.size)
          clear hb1 c0 c1 c2
          go_wp2_with fail
          go_ret
          exact ⟨by rw [HR.out]; rfl, HB1.out⟩
      · have hke : k = len := by omega
        subst hke
        go_wp2
        go_ret
        refine ⟨?_, HBL.out⟩
        have h1 := HS.out
        have e : szI left (kidsWeightI k kid) = (r : Int) := by
          rw [szI_yes (by unfold kidsWeightI; omega)]
          congr 1; unfold kidsWeightI; omega
        rw [e]; rfl

set_option maxRecDepth 100000 in
set_option maxHeartbeats 2000000 in
theorem sz_ir (t : It) : SzIAt t := by
  induction t with
  | no => intro w v left h _; exact h.elim
  | mk op n len kid ih =>
    intro w v left hin hl
    have hsl := hin.sl
    simp only [It.op, It.n, It.len, It.kid] at hsl ⊢
    obtain ⟨p, cap, hv⟩ := hsl.shape
    have HSL : Hid (Il w len kid v) := hsl
    have IH : Hid (∀ i, SzIAt (kid i)) := ih
    clear hin hsl ih
    have HW : Hid ((It.mk op n len kid).weight = kidsWeightI len kid) := rfl
    subst hv
    by_cases hw : kidsWeightI len kid ≤ left
    · have HR : Hid (szI left (It.mk op n len kid).weight = ((left - kidsWeightI len kid : Nat) : Int)) := by
        show _ = _
        rw [szI_yes (by rw [HW.out]; omega)]; congr 1
      have E1 : Hid (szI left (kidsWeightI len kid) = ((left - kidsWeightI len kid : Nat) : Int)) := szI_yes hw
      generalize left - kidsWeightI len kid = y at *
      clear hw
      go_enter Tryd.func16, Tryd.ntmps16
      go_wp2_with fail
      refine (sz_irs len kid (fun i _ => IH.out i) _ _ left (HSL.out.below (newb w _)) hl).mono ?_
      rintro e w1 ⟨rfl, hb1⟩
      rw [E1.out]
      have HB1 : Hid (Below w.heap.size w w1) := (newb w _).trans (hb1.mono (newb w _).size)
      clear hb1
      go_wp2_with fail
      go_ret
      exact ⟨by rw [HR.out]; rfl, HB1.out⟩
    · have HR : Hid (szI left (It.mk op n len kid).weight = -1) := szI_no (by rw [HW.out]; omega)
      have E1 : Hid (szI left (kidsWeightI len kid) = -1) := szI_no (by omega)
      clear hw
      go_enter Tryd.func16, Tryd.ntmps16
      go_wp2_with fail
      refine (sz_irs len kid (fun i _ => IH.out i) _ _ left (HSL.out.below (newb w _)) hl).mono ?_
      rintro e w1 ⟨rfl, hb1⟩
      rw [E1.out]
      have HB1 : Hid (Below w.heap.size w w1) := (newb w _).trans (hb1.mono (newb w _).size)
      clear hb1
      go_wp2_with fail
      go_ret
      exact ⟨by rw [HR.out]; rfl, HB1.out⟩
end Go.Proofs.YtmobpjokmngdgaaDoor
