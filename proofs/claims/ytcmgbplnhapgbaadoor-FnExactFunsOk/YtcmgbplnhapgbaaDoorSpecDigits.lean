/- spec.Digits at every int: it returns the decimal digits, a minus ahead of one below 0, and writes nothing that was there. No conditions. -/
import Derived.Test.YtcmgbplnhapgbaaDoorRows
import Derived.Test.YtcmgbplnhapgbaaDoorOneByte
import Derived.WalkKit
import Derived.ProofKit
import Derived.OwnWalk
import Derived.Below
import Derived.Laws.BytesArg
import Derived.Laws.IdiomStrings
namespace Go.Proofs.YtcmgbplnhapgbaaDoor
open Go.ChangeShapes Go.WideShapes Go.ChangeAt Go.RowKit

set_option maxHeartbeats 400000 in
theorem digits_pos (n : Nat) (h0 : 0 < n) (h1 : n < 9223372036854775808) (w : World) :
    Calls Tryd.prog 21 #[.int .i64 n] w fun e w' => e = .returned (.string ⟨(Lib.decDigits n).toArray⟩) ∧ Below w.heap.size w w' := by
  have t0 : ((n : Int) == 0) = false := by simp; omega
  have t9 : decide ((n : Int) < 0) = false := by simp
  go_enter Tryd.func21, Tryd.ntmps21
  go_wp2
  go_loopw [0, 4, 5] (fun x o d w1 => ∃ (k : Nat) (l : List UInt8), k ≤ n ∧ x = .int .i64 k ∧ o = .string ⟨l.toArray⟩ ∧ decD k ++ l = Lib.decDigits n ∧ Below w.heap.size w w1) (fun x _ _ _ => (intOf x).toNat)
  case atStart => exact ⟨n, [], Nat.le_refl _, rfl, rfl, by rw [decD_pos n h0]; simp, Below.refl _ _⟩
  case round =>
    obtain ⟨k, l, hk, rfl, rfl, hl, hg⟩ := hrel
    have hlen := acc_len k n l (by omega) hl
    have HL : Hid (decD k ++ l = Lib.decDigits n) := hl
    clear hl
    by_cases hz : k = 0
    · subst hz
      go_wp2
      go_ret
      have e := HL.out
      rw [decD_zero, List.nil_append] at e
      subst e
      exact ⟨rfl, hg⟩
    · have t1 : ((k : Int) != 0) = true := by simp; omega
      have t2 : ¬ ((k : Int) % 10 < 0) := by omega
      have hr := one_byte wr (48 + (k : Int) % 10) _ (digit_byte k)
      go_wp2
      refine ⟨⟨k / 10, (48 + UInt8.ofNat (k % 10)) :: l, by omega, by simp, by rw [join_one], acc_step k n (by omega) l HL.out, hg.alloc hg.size _⟩, ?_⟩
      simp [intOf]; omega

set_option maxHeartbeats 400000 in
theorem digits_neg (n : Nat) (h0 : 0 < n) (h1 : n ≤ 9223372036854775808) (w : World) :
    Calls Tryd.prog 21 #[.int .i64 (-(n : Int))] w fun e w' => e = .returned (.string ⟨(45 :: Lib.decDigits n).toArray⟩) ∧ Below w.heap.size w w' := by
  have t0 : (-(n : Int) == 0) = false := by simp; omega
  have t9 : decide (-(n : Int) < 0) = true := by simp; omega
  go_enter Tryd.func21, Tryd.ntmps21
  go_wp2
  go_loopw [0, 4, 5] (fun x o d w1 => ∃ (k : Nat) (l : List UInt8), k ≤ n ∧ x = .int .i64 (-(k : Int)) ∧ o = .string ⟨l.toArray⟩ ∧ decD k ++ l = Lib.decDigits n ∧ Below w.heap.size w w1) (fun x _ _ _ => (-(intOf x)).toNat)
  case atStart => exact ⟨n, [], Nat.le_refl _, rfl, rfl, by rw [decD_pos n h0]; simp, Below.refl _ _⟩
  case round =>
    obtain ⟨k, l, hk, rfl, rfl, hl, hg⟩ := hrel
    have hlen := acc_len k n l (by omega) hl
    have HL : Hid (decD k ++ l = Lib.decDigits n) := hl
    clear hl
    by_cases hz : k = 0
    · subst hz
      go_wp2
      go_ret
      have e := HL.out
      rw [decD_zero, List.nil_append] at e
      subst e
      exact ⟨by rw [← join_one]; rfl, hg⟩
    · have t1 : (-(k : Int) != 0) = true := by simp; omega
      by_cases t2 : 0 < (k : Int) % 10
      · have hr := one_byte wr (48 + (k : Int) % 10) _ (digit_byte k)
        go_wp2
        refine ⟨⟨k / 10, (48 + UInt8.ofNat (k % 10)) :: l, by omega, by simp, by rw [join_one], acc_step k n (by omega) l HL.out, hg.alloc hg.size _⟩, ?_⟩
        simp [intOf]; omega
      · have hr := one_byte wr (48 + -((k : Int) % 10)) (48 + UInt8.ofNat (k % 10)) (by rw [digit_byte k]; omega)
        go_wp2
        refine ⟨⟨k / 10, (48 + UInt8.ofNat (k % 10)) :: l, by omega, by simp, by rw [join_one], acc_step k n (by omega) l HL.out, hg.alloc hg.size _⟩, ?_⟩
        simp [intOf]; omega

set_option maxHeartbeats 400000 in
theorem digits_zero (w : World) :
    Calls Tryd.prog 21 #[.int .i64 0] w fun e w' => e = .returned (.string ⟨#[48]⟩) ∧ Below w.heap.size w w' := by
  go_enter Tryd.func21, Tryd.ntmps21
  go_wp2
  go_ret
  exact ⟨rfl, Below.refl _ _⟩

/-- spec.Digits at every int. -/
theorem spec_digits (n : Int) (h0 : -9223372036854775808 ≤ n) (h1 : n ≤ 9223372036854775807) (w : World) :
    Calls Tryd.prog 21 #[.int .i64 n] w fun e w' => e = .returned (.string ⟨(Lib.itoa n).toArray⟩) ∧ Below w.heap.size w w' := by
  rcases Int.lt_trichotomy n 0 with h | h | h
  · have := digits_neg n.natAbs (by omega) (by omega) w
    rw [show -(n.natAbs : Int) = n from by omega] at this
    unfold Lib.itoa
    rw [if_pos h]
    exact this
  · subst h
    have := digits_zero w
    unfold Lib.itoa
    rw [if_neg (by omega), show (0 : Int).toNat = 0 from rfl, Lib.decDigits_one (by omega)]
    exact this
  · have := digits_pos n.toNat (by omega) (by omega) w
    rw [show (n.toNat : Int) = n from by omega] at this
    unfold Lib.itoa
    rw [if_neg (by omega)]
    exact this
end Go.Proofs.YtcmgbplnhapgbaaDoor
