/- laws.heldDatS, of data that were marked. Condition: marks up to 10^14. -/
import Derived.Test.YtoifhaakieigcaaRows
import Derived.Test.YtoifhaakieigcaaDat
import Derived.Test.YtoifhaakieigcaaMarkText
import Derived.Deep.RegionHeld3
namespace Go.Proofs.Ytoifhaakieigcaa
open Go.ChangeShapes Go.WideShapes Go.ChangeAt Go.RowKit

/-- A datum marked from k on, its kids behind it. -/
def markD : D → Nat → D
  | .no, _ => .no
  | .mk _ _ _ _ len kid, k => .mk k ((k + 1 : Nat) : Int) ((k + 2 : Nat) : Int) (markB (k + 3)) len (fun i => markD (kid i) (k + 4 + 4 * sumTo (fun j => (kid j).count) i))
/-- Data marked one behind the other. -/
def markK (kid : Nat → D) (k : Nat) : Nat → D := fun i => markD (kid i) (k + 4 * sumTo (fun j => (kid j).count) i)
theorem markD_kid (t : D) (k : Nat) : (markD t k).kid = markK t.kid (k + 4) := by
  cases t with
  | no => funext i; simp [markD, D.kid, markK]
  | mk op a n s len kid => rfl
theorem markD_len (t : D) (k : Nat) : (markD t k).len = t.len := by cases t <;> rfl

def HeldAt (t : D) : Prop := ∀ (w : World) (v : Value) (k : Nat), Sl w t.len (markK t.kid k) v → 0 < k → k + 4 * sumTo (fun j => (t.kid j).count) t.len ≤ 100000000000000 →
  Calls Try.prog 53 #[v, .int .i64 k] w fun e w' => e = .returned (.int .i64 ((k + 4 * sumTo (fun j => (t.kid j).count) t.len : Nat) : Int)) ∧ Below w.heap.size w w'

set_option maxRecDepth 100000 in
set_option maxHeartbeats 4000000 in
theorem held_dats (len : Nat) (kid : Nat → D) (hmk : ∀ i, i < len → kid i ≠ .no) (ih : ∀ i, i < len → HeldAt (kid i)) (w : World) (v : Value) (k : Nat) (hv : Sl w len (markK kid k) v) (hk0 : 0 < k) (hk : k + 4 * sumTo (fun j => (kid j).count) len ≤ 100000000000000) :
    Calls Try.prog 53 #[v, .int .i64 k] w fun e w' => e = .returned (.int .i64 ((k + 4 * sumTo (fun j => (kid j).count) len : Nat) : Int)) ∧ Below w.heap.size w w' := by
  obtain ⟨p, cap, rfl, hlen, hat⟩ := hv.at
  have HC : Hid (∀ i, i < len → ∃ b o u, p = some ⟨b, o, none⟩ ∧ Head w b (o + i * 5) (markK kid k i) u ∧ (markK kid k i).In w u) := hat
  have IH : Hid (∀ i, i < len → HeldAt (kid i)) := ih
  have HM : Hid (∀ i, i < len → kid i ≠ .no) := hmk
  have HKK : Hid (k + 4 * sumTo (fun j => (kid j).count) len ≤ 100000000000000) := hk
  clear hat ih hv hmk hk
  unfold maxLen at hlen
  go_enter Try.func53, Try.ntmps53
  go_wp2_with fail
  go_loopw [1, 5] (fun x i wr => ∃ j c : Nat, i = .int .i64 j ∧ x = .int .i64 c ∧ j ≤ len ∧ c = k + 4 * sumTo (fun j => (kid j).count) j ∧ Below w.heap.size w wr) (fun _ i _ => len - (intOf i).toNat)
  case atStart => exact ⟨0, k, rfl, rfl, Nat.zero_le _, by simp [sumTo], Below.refl _ _⟩
  case round =>
    obtain ⟨j, c, rfl, rfl, hj, hc, hbel⟩ := hrel
    have HBL : Hid (Below w.heap.size w wr) := hbel
    have HCC : Hid (c = k + 4 * sumTo (fun j => (kid j).count) j) := hc
    clear hbel hc
    by_cases hlt : (j : Int) < len
    · have hlt' : j < len := by omega
      obtain ⟨b, o, u, hp, hd, hin⟩ := HC.out j hlt'
      subst hp
      have hsum := sumTo_at (fun j => (kid j).count) j len hlt'
      have hcount : 1 ≤ (kid j).count := by rw [D.count_eq]; omega
      have hcb : c + 4 * (kid j).count ≤ 100000000000000 := by have h1 := HCC.out; have h2 := HKK.out; omega
      have hc0 : 0 < c := by have := HCC.out; omega
      have hmj : markK kid k j = markD (kid j) c := by unfold markK; rw [HCC.out]
      rw [hmj] at hd hin
      have HCE : Hid ((kid j).count = 1 + sumTo (fun i => ((kid j).kid i).count) (kid j).len) := (kid j).count_eq
      have HI : Hid (Sl wr (kid j).len (markK (kid j).kid (c + 4)) u) := by
        have := (hin.below HBL.out).sl
        rw [markD_kid, markD_len] at this
        exact this
      have hne := HM.out j hlt'
      have hh : (markD (kid j) c).op = c ∧ (markD (kid j) c).at_ = ((c + 1 : Nat) : Int) ∧ (markD (kid j) c).n = ((c + 2 : Nat) : Int) ∧ (markD (kid j) c).s = markB (c + 3) := by
        cases e : kid j with
        | no => exact absurd e hne
        | mk op a n s l kd => exact ⟨rfl, rfl, rfl, rfl⟩
      obtain ⟨e0, e1, e2, e3⟩ := hh
      obtain ⟨a0, a1, a2, a3, a4⟩ := hd.below HBL.out
      rw [e0] at a0; rw [e1] at a1; rw [e2] at a2; rw [e3] at a3
      have a1' : wr.cell? ⟨b, o + j * 5 + 1, none⟩ = some (.int .i64 ((c : Int) + 1)) := by rw [a1]; congr 2
      have a2' : wr.cell? ⟨b, o + j * 5 + 2, none⟩ = some (.int .i64 ((c : Int) + 1 + 1)) := by rw [a2]; congr 2
      have a3' : wr.cell? ⟨b, o + j * 5 + 3, none⟩ = some (.string (markB ((c : Int) + 1 + 1 + 1).toNat)) := by rw [a3]; congr 3
      have hbl : b < wr.heap.size := World.block_lt_of_cell? wr _ a0
      clear hd hin hmj e0 e1 e2 e3 a1 a2 a3 hne hsum
      have hst : ∀ s : ByteArray, (s.toList == s.toList) = true := fun s => by simp
      go_wp2_with fail
      go_region_held3 (fun w' => w'.cell? ⟨b, o + j * 5 + 3, none⟩ = some (.string (markB ((c : Int) + 1 + 1 + 1).toNat)))
        (first | go_keep | exact hs3)
        ((go_at_call 68; refine (mark_text_int ((c : Int) + 1 + 1 + 1) (by omega) (by omega) _).mono ?_; rintro e w1 ⟨rfl, hb1⟩; have hbw : Below wr.heap.size wr w1 := ⟨hb1.os, hb1.tape, hb1.output, hb1.size, hb1.block⟩; have hs3 : w1.cell? ⟨b, o + j * 5 + 3, none⟩ = some (.string (markB ((c : Int) + 1 + 1 + 1).toNat)) := (hbw.cell (by exact hbl)).trans a3'))
      all_goals
        have HB1 : Hid (Below w.heap.size w w1) := HBL.out.trans (hbw.mono HBL.out.size)
        have HI1 : Hid (Sl w1 (kid j).len (markK (kid j).kid (c + 4)) u) := HI.out.below hbw
        have a4' := keeps hbw _ _ a4
        clear hbw hb1 hs3
        have e4 : (c : Int) + 1 + 1 + 1 + 1 = ((c + 4 : Nat) : Int) := by omega
        go_wp2_with fail
        refine (IH.out j hlt' w1 u (c + 4) HI1.out (by omega) (by have := HCE.out; omega)).mono ?_
        rintro e w2 ⟨rfl, hb2⟩
        have HB2 : Hid (Below w.heap.size w w2) := HB1.out.trans (hb2.mono HB1.out.size)
        have hN : c + 4 + 4 * sumTo (fun i => ((kid j).kid i).count) (kid j).len = k + 4 * sumTo (fun j => (kid j).count) (j + 1) := by
          have h1 := HCC.out
          have h2 := HCE.out
          simp only [sumTo]
          omega
        rw [hN]
        have HNN : Hid (k + 4 * sumTo (fun j => (kid j).count) (j + 1) = k + 4 * sumTo (fun j => (kid j).count) (j + 1)) := rfl
        generalize hgen : k + 4 * sumTo (fun j => (kid j).count) (j + 1) = c2 at *
        have HG : Hid (c2 = k + 4 * sumTo (fun j => (kid j).count) (j + 1)) := hgen.symm
        clear hb2 hgen hN HNN a4' e4
        go_wp2_with fail
        go_roundw
        case rel => exact ⟨j + 1, c2, by go_num, rfl, by omega, HG.out, HB2.out⟩
        case measure => simp [intOf]; omega
    · have hje : j = len := by omega
      subst hje
      go_wp2_with fail
      go_ret
      have h : (k : Int) + 4 * (sumTo (fun j => (kid j).count) j : Nat) = (c : Int) := by have := HCC.out; omega
      exact ⟨by rw [h]; rfl, HBL.out⟩
end Go.Proofs.Ytoifhaakieigcaa
