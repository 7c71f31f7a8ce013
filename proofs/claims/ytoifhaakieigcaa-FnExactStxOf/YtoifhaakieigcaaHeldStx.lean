/- laws.heldStxS, of what is written that was marked. Condition: marks up to 10^14, no set of more than 2^22. -/
import Derived.Test.YtoifhaakieigcaaRows
import Derived.Test.YtoifhaakieigcaaStxMark
import Derived.Test.YtoifhaakieigcaaMarkText
import Derived.WalkKit
import Derived.ProofKit
import Derived.Below
import Derived.Deep.RegionHeld3
namespace Go.Proofs.Ytoifhaakieigcaa
open Go.ChangeShapes Go.WideShapes Go.ChangeAt Go.RowKit

def HeldXAt (t : X) : Prop := ∀ (w : World) (v : Value) (k : Nat), XsAt 0 w t.len (markXK t.kid k) v → (∀ i, i < t.len → (t.kid i).Small) → 0 < k → k + sumX (fun j => (t.kid j).marks) t.len ≤ 100000000000000 →
  Calls Try.prog 46 #[v, .int .i64 k] w fun e w' => e = .returned (.int .i64 ((k + sumX (fun j => (t.kid j).marks) t.len : Nat) : Int)) ∧ Below w.heap.size w w'

set_option maxRecDepth 100000 in
set_option maxHeartbeats 4000000 in
theorem held_stxs (len : Nat) (kid : Nat → X) (hmk : ∀ i, i < len → kid i ≠ .no) (ih : ∀ i, i < len → HeldXAt (kid i)) (w : World) (v : Value) (k : Nat) (hv : XsAt 0 w len (markXK kid k) v) (hsm : ∀ i, i < len → (kid i).Small) (hk0 : 0 < k) (hk : k + sumX (fun j => (kid j).marks) len ≤ 100000000000000) :
    Calls Try.prog 46 #[v, .int .i64 k] w fun e w' => e = .returned (.int .i64 ((k + sumX (fun j => (kid j).marks) len : Nat) : Int)) ∧ Below w.heap.size w w' := by
  obtain ⟨p, cap, rfl, hlen, hat⟩ := hv.at
  have HC : Hid (∀ i, i < len → ∃ b o sv u, p = some ⟨b, o, none⟩ ∧ Head6 w b (o + i * 6) (markXK kid k i) sv u ∧ (markXK kid k i).At 0 w sv u) := hat
  have IH : Hid (∀ i, i < len → HeldXAt (kid i)) := ih
  have HM : Hid (∀ i, i < len → kid i ≠ .no) := hmk
  have HKK : Hid (k + sumX (fun j => (kid j).marks) len ≤ 100000000000000) := hk
  have HSM : Hid (∀ i, i < len → (kid i).Small) := hsm
  clear hat ih hv hmk hk hsm
  unfold maxLen at hlen
  go_enter Try.func46, Try.ntmps46
  go_wp2_with fail
  go_loopw [1, 5] (fun x i wr => ∃ j c : Nat, i = .int .i64 j ∧ x = .int .i64 c ∧ j ≤ len ∧ c = k + sumX (fun j => (kid j).marks) j ∧ Below w.heap.size w wr) (fun _ i _ => len - (intOf i).toNat)
  case atStart => exact ⟨0, k, rfl, rfl, Nat.zero_le _, by simp [sumX], Below.refl _ _⟩
  case round =>
    obtain ⟨j, c, rfl, rfl, hj, hc, hbel⟩ := hrel
    have HBL : Hid (Below w.heap.size w wr) := hbel
    have HCC : Hid (c = k + sumX (fun j => (kid j).marks) j) := hc
    clear hbel hc
    by_cases hlt : (j : Int) < len
    · have hlt' : j < len := by omega
      obtain ⟨b, o, su, u, hp, hd, hin⟩ := HC.out j hlt'
      subst hp
      have hne := HM.out j hlt'
      have hsum := sumX_at (fun j => (kid j).marks) j len hlt'
      have hme := X.marks_eq hne
      have hcb : c + (kid j).marks ≤ 100000000000000 := by have h1 := HCC.out; have h2 := HKK.out; omega
      have hc0 : 0 < c := by have := HCC.out; omega
      have hmj : markXK kid k j = markX (kid j) c := by unfold markXK; rw [HCC.out]
      rw [hmj] at hd hin
      have HI : Hid (XsAt 0 wr (kid j).len (markXK (kid j).kid (c + 4 + (kid j).set.length)) u) := by
        have := (X.At.below HBL.out hin).xs
        rw [markX_kid hne, markX_len] at this
        exact this
      have HIS : Hid (Rd wr su (marksI (c + 4) (kid j).set.length)) := by
        have := (X.At.below HBL.out hin).sets.rd
        rw [markX_set hne] at this
        exact this
      obtain ⟨pss, css, hsu, -⟩ := HIS.out.shape
      rw [marksI_len] at hsu
      have hsl := (HSM.out j hlt').parts.1
      have hh := markX_op (kid j) c hne
      obtain ⟨e0, e1, e2, e3⟩ := hh
      obtain ⟨a0, a1, a2, a3, a4, a5⟩ := hd.below HBL.out
      rw [e0] at a0; rw [e1] at a1; rw [e2] at a2; rw [e3] at a3
      have a1' : wr.cell? ⟨b, o + j * 6 + 1, none⟩ = some (.int .i64 ((c : Int) + 1)) := by rw [a1]; congr 2
      have a2' : wr.cell? ⟨b, o + j * 6 + 2, none⟩ = some (.int .i64 ((c : Int) + 1 + 1)) := by rw [a2]; congr 2
      have a3' : wr.cell? ⟨b, o + j * 6 + 3, none⟩ = some (.string (markB ((c : Int) + 1 + 1 + 1).toNat)) := by rw [a3]; congr 3
      have hbl : b < wr.heap.size := World.block_lt_of_cell? wr _ a0
      subst hsu
      clear hd hin hmj e0 e1 e2 e3 a1 a2 a3 hne hsum
      have hst : ∀ s : ByteArray, (s.toList == s.toList) = true := fun s => by simp
      go_wp2_with fail
      go_region_held3 (fun w' => w'.cell? ⟨b, o + j * 6 + 3, none⟩ = some (.string (markB ((c : Int) + 1 + 1 + 1).toNat)))
        (first | go_keep | exact hs3)
        ((go_at_call 68; refine (mark_text_int ((c : Int) + 1 + 1 + 1) (by omega) (by omega) _).mono ?_; rintro e w1 ⟨rfl, hb1⟩; have hbw : Below wr.heap.size wr w1 := ⟨hb1.os, hb1.tape, hb1.output, hb1.size, hb1.block⟩; have hs3 : w1.cell? ⟨b, o + j * 6 + 3, none⟩ = some (.string (markB ((c : Int) + 1 + 1 + 1).toNat)) := (hbw.cell (by exact hbl)).trans a3'))
      all_goals
        have HB1 : Hid (Below w.heap.size w w1) := HBL.out.trans (hbw.mono HBL.out.size)
        have HI1 : Hid (XsAt 0 w1 (kid j).len (markXK (kid j).kid (c + 4 + (kid j).set.length)) u) := XsAt.below hbw HI.out
        have HIS1 : Hid (Rd w1 (.slice pss (kid j).set.length css) (marksI (c + 4) (kid j).set.length)) := HIS.out.below hbw
        have a4' := keepsX hbw _ _ a4
        have a5' := keepsX hbw _ _ a5
        clear hbw hb1 hs3
        have e4 : (c : Int) + 1 + 1 + 1 + 1 = ((c + 4 : Nat) : Int) := by omega
        go_wp2_with fail
        refine (held_ints (kid j).set.length _ (c + 4) w1 HIS1.out hsl (by omega)).mono ?_
        rintro e w1' ⟨rfl, hw1⟩
        subst w1'
        go_wp2_with fail
        refine (IH.out j hlt' w1 u (c + 4 + (kid j).set.length) HI1.out (HSM.out j hlt').parts.2 (by omega) (by omega)).mono ?_
        rintro e w2 ⟨rfl, hb2⟩
        have HB2 : Hid (Below w.heap.size w w2) := HB1.out.trans (hb2.mono HB1.out.size)
        have hN : c + 4 + (kid j).set.length + sumX (fun i => ((kid j).kid i).marks) (kid j).len = k + sumX (fun j => (kid j).marks) (j + 1) := by
          have h1 := HCC.out
          simp only [sumX]
          omega
        rw [hN]
        have HNN : Hid (k + sumX (fun j => (kid j).marks) (j + 1) = k + sumX (fun j => (kid j).marks) (j + 1)) := rfl
        generalize hgen : k + sumX (fun j => (kid j).marks) (j + 1) = c2 at *
        have HG : Hid (c2 = k + sumX (fun j => (kid j).marks) (j + 1)) := hgen.symm
        clear hb2 hgen hN HNN a4' a5' e4
        go_wp2_with fail
        go_roundw
        case rel => exact ⟨j + 1, c2, by go_num, rfl, by omega, HG.out, HB2.out⟩
        case measure => simp [intOf]; omega
    · have hje : j = len := by omega
      subst hje
      go_wp2_with fail
      go_ret
      have h : (k : Int) + (sumX (fun j => (kid j).marks) j : Nat) = (c : Int) := by have := HCC.out; omega
      exact ⟨by rw [h]; rfl, HBL.out⟩
end Go.Proofs.Ytoifhaakieigcaa
