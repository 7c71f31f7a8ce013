/- The words of a heap: what IntWord, RefWord, IsRef, WordInt, WordRef answer, of the program and of the specification. No conditions. -/
import Derived.Test.YtgcegjgjegkahabWordsOk
import Derived.WalkKit
import Derived.ProofKit
namespace Go.Proofs.Ytgcegjgjegkahab
open Go.ChangeShapes Go.WideShapes Go.ChangeAt Go.RowKit

theorem below17 (n e : Int) (R : Bool) (hR : R = (decide (0 ≤ n) && decide (n < e))) (w : World) : Calls Try.prog 77 #[.int .i64 n, .int .i64 e] w fun r w' => r = .returned (.bool R) ∧ w' = w := by
  by_cases h1 : 0 ≤ n
  · by_cases h2 : n < e
    · have HR : Hid (R = true) := by show _ = _; rw [hR, decide_eq_true h1, decide_eq_true h2]; rfl
      clear hR
      go_enter Try.func77, Try.ntmps77
      go_wp2
      go_ret
      exact ⟨by rw [HR.out]; rfl, rfl⟩
    · have HR : Hid (R = false) := by show _ = _; rw [hR, decide_eq_true h1, decide_eq_false h2]; rfl
      clear hR
      go_enter Try.func77, Try.ntmps77
      go_wp2
      go_ret
      exact ⟨by rw [HR.out]; rfl, rfl⟩
  · have HR : Hid (R = false) := by show _ = _; rw [hR, decide_eq_false h1]; rfl
    clear hR
    go_enter Try.func77, Try.ntmps77
    go_wp2
    go_ret
    exact ⟨by rw [HR.out]; rfl, rfl⟩

theorem in17 (k a b : Int) (R : Bool) (hR : R = (decide (a ≤ k) && decide (k ≤ b))) (w : World) : Calls Try.prog 52 #[.int .i64 k, .int .i64 a, .int .i64 b] w fun e w' => e = .returned (.bool R) ∧ w' = w := by
  by_cases h1 : a ≤ k
  · by_cases h2 : k ≤ b
    · have HR : Hid (R = true) := by show _ = _; rw [hR, decide_eq_true h1, decide_eq_true h2]; rfl
      clear hR
      go_enter Try.func52, Try.ntmps52
      go_wp2
      go_ret
      exact ⟨by rw [HR.out]; rfl, rfl⟩
    · have HR : Hid (R = false) := by show _ = _; rw [hR, decide_eq_true h1, decide_eq_false h2]; rfl
      clear hR
      go_enter Try.func52, Try.ntmps52
      go_wp2
      go_ret
      exact ⟨by rw [HR.out]; rfl, rfl⟩
  · have HR : Hid (R = false) := by show _ = _; rw [hR, decide_eq_false h1]; rfl
    clear hR
    go_enter Try.func52, Try.ntmps52
    go_wp2
    go_ret
    exact ⟨by rw [HR.out]; rfl, rfl⟩

/-- The word of an int, and of a place. -/
def intW (n : Int) : Int := if wokB n then 2 * n + 1 else 1
def refW (p : Int) : Int := if decide (0 ≤ p) && decide (p ≤ 6000) then 2 * p else 0
/-- Whether a word is a place. -/
def evenW (w : Int) : Bool := w % 2 == 0

theorem and_mask (n : Int) (k m : Nat) (hk : m = 2 ^ k) (h : m ≤ 1024) : bits .and .i64 n ((m : Int) - 1) = n % m := by
  show IntKind.i64.wrap (((BitVec.ofInt 64 n &&& BitVec.ofInt 64 ((m : Int) - 1)).toNat : Nat) : Int) = _
  have hm : 0 < m := by rw [hk]; exact Nat.two_pow_pos k
  have e1 : BitVec.ofInt 64 ((m : Int) - 1) = BitVec.ofNat 64 (m - 1) := by
    rw [show (m : Int) - 1 = ((m - 1 : Nat) : Int) by omega, BitVec.ofInt_natCast]
  have e2 : ((BitVec.ofInt 64 n).toNat : Int) = n % 18446744073709551616 := by
    rw [BitVec.toNat_ofInt]; omega
  rw [e1, BitVec.toNat_and, BitVec.toNat_ofNat, Nat.mod_eq_of_lt (show m - 1 < 2 ^ 64 by omega), hk, Nat.and_two_pow_sub_one_eq_mod, ← hk, Int.natCast_emod, e2, IntKind.wrap_i64]
  have hd : ((m : Nat) : Int) ∣ 18446744073709551616 := by
    have hk10 : k ≤ 10 := by
      rcases Nat.lt_or_ge 10 k with hh | hh
      · exfalso
        have := Nat.pow_le_pow_right (n := 2) (by omega) (show 11 ≤ k from hh)
        omega
      · exact hh
    refine ⟨2 ^ (64 - k), ?_⟩
    rw [hk, show (18446744073709551616 : Int) = (2 : Int) ^ (k + (64 - k)) by rw [show k + (64 - k) = 64 by omega]; rfl, Int.pow_add, Int.natCast_pow]
    rfl
  rw [Int.emod_emod_of_dvd _ hd]
  have h0 := Int.emod_nonneg n (show (m : Int) ≠ 0 by omega)
  have h1 := Int.emod_lt_of_pos n (show (0 : Int) < m by omega)
  omega
theorem and_1 (n : Int) : bits .and .i64 n 1 = n % 2 := and_mask n 1 2 rfl (by omega)
theorem and_63 (n : Int) : bits .and .i64 n 63 = n % 64 := and_mask n 6 64 rfl (by omega)
theorem tmod_even (n : Int) : (n.tmod 2 == 0) = (n % 2 == 0) := by
  rw [Bool.eq_iff_iff, beq_iff_eq, beq_iff_eq, ← Int.dvd_iff_emod_eq_zero, Int.dvd_iff_tmod_eq_zero]

theorem impl_isRef (n : Int) (w : World) : Calls Try.prog 48 #[.int .i64 n] w fun e w' => e = .returned (.bool (evenW n)) ∧ w' = w := by
  go_enter Try.func48, Try.ntmps48
  go_wp2
  go_ret
  exact ⟨by rw [evenW, ← tmod_even]; rfl, rfl⟩

theorem spec_isRef (n : Int) (w : World) : Calls Try.prog 49 #[.int .i64 n] w fun e w' => e = .returned (.bool (evenW n)) ∧ w' = w := by
  go_enter Try.func49, Try.ntmps49
  go_wp2
  go_ret
  exact ⟨by rw [evenW, ← and_1]; rfl, rfl⟩

theorem impl_half (n : Int) (w : World) : Calls Try.prog 79 #[.int .i64 n] w fun e w' => e = .returned (.int .i64 (n / 2)) ∧ w' = w := by
  go_enter Try.func79, Try.ntmps79
  go_wp2
  go_ret
  exact ⟨rfl, rfl⟩
theorem impl_wordInt (n : Int) (w : World) : Calls Try.prog 44 #[.int .i64 n] w fun e w' => e = .returned (.int .i64 (n / 2)) ∧ w' = w := by
  go_enter Try.func44, Try.ntmps44
  go_wp2_with (go_at_call 79; refine (impl_half n _).mono ?_; rintro e w1 ⟨rfl, rfl⟩)
  go_ret
  exact ⟨rfl, rfl⟩
theorem impl_wordRef (n : Int) (w : World) : Calls Try.prog 46 #[.int .i64 n] w fun e w' => e = .returned (.int .i64 (n / 2)) ∧ w' = w := by
  go_enter Try.func46, Try.ntmps46
  go_wp2_with (go_at_call 79; refine (impl_half n _).mono ?_; rintro e w1 ⟨rfl, rfl⟩)
  go_ret
  exact ⟨rfl, rfl⟩
theorem spec_wordInt (n : Int) (w : World) : Calls Try.prog 45 #[.int .i64 n] w fun e w' => e = .returned (.int .i64 (n / 2)) ∧ w' = w := by
  go_enter Try.func45, Try.ntmps45
  go_wp2
  go_ret
  exact ⟨rfl, rfl⟩
theorem spec_wordRef (n : Int) (w : World) : Calls Try.prog 47 #[.int .i64 n] w fun e w' => e = .returned (.int .i64 (n / 2)) ∧ w' = w := by
  go_enter Try.func47, Try.ntmps47
  go_wp2
  go_ret
  exact ⟨rfl, rfl⟩

theorem impl_intWord (n : Int) (w : World) : Calls Try.prog 37 #[.int .i64 n] w fun e w' => e = .returned (.int .i64 (intW n)) ∧ w' = w := by
  have HW : Hid (∀ w, Calls Try.prog 50 #[.int .i64 n] w fun e w' => e = .returned (.bool (wokB n)) ∧ w' = w) := fun w => impl_wordOk n w
  cases hb : wokB n with
  | true =>
    have hr : -1073741824 ≤ n ∧ n ≤ 1073741823 := by simpa [wokB] using hb
    rw [hb] at HW
    have HI : Hid (intW n = 2 * n + 1) := by show _ = _; rw [intW, if_pos hb]
    go_enter Try.func37, Try.ntmps37
    go_wp2_with (go_at_call 50; refine (HW.out _).mono ?_; rintro e w1 ⟨rfl, rfl⟩)
    go_ret
    exact ⟨by rw [HI.out]; rfl, rfl⟩
  | false =>
    rw [hb] at HW
    have HI : Hid (intW n = 1) := by show _ = _; rw [intW, if_neg (by rw [hb]; decide)]
    go_enter Try.func37, Try.ntmps37
    go_wp2_with (go_at_call 50; refine (HW.out _).mono ?_; rintro e w1 ⟨rfl, rfl⟩)
    go_ret
    exact ⟨by rw [HI.out]; rfl, rfl⟩
theorem spec_intWord (n : Int) (w : World) : Calls Try.prog 42 #[.int .i64 n] w fun e w' => e = .returned (.int .i64 (intW n)) ∧ w' = w := by
  have HW : Hid (∀ w, Calls Try.prog 78 #[.int .i64 n] w fun e w' => e = .returned (.bool (wokB n)) ∧ w' = w) := fun w => spec_wordOk n w
  cases hb : wokB n with
  | true =>
    have hr : -1073741824 ≤ n ∧ n ≤ 1073741823 := by simpa [wokB] using hb
    rw [hb] at HW
    have HI : Hid (intW n = 2 * n + 1) := by show _ = _; rw [intW, if_pos hb]
    go_enter Try.func42, Try.ntmps42
    go_wp2_with (go_at_call 78; refine (HW.out _).mono ?_; rintro e w1 ⟨rfl, rfl⟩)
    go_ret
    exact ⟨by rw [HI.out]; rfl, rfl⟩
  | false =>
    rw [hb] at HW
    have HI : Hid (intW n = 1) := by show _ = _; rw [intW, if_neg (by rw [hb]; decide)]
    go_enter Try.func42, Try.ntmps42
    go_wp2_with (go_at_call 78; refine (HW.out _).mono ?_; rintro e w1 ⟨rfl, rfl⟩)
    go_ret
    exact ⟨by rw [HI.out]; rfl, rfl⟩

theorem impl_refWord (n : Int) (w : World) : Calls Try.prog 38 #[.int .i64 n] w fun e w' => e = .returned (.int .i64 (refW n)) ∧ w' = w := by
  cases hb : (decide (0 ≤ n) && decide (n ≤ 6000)) with
  | true =>
    have hr : 0 ≤ n ∧ n ≤ 6000 := by simpa using hb
    have HW : Hid (∀ w, Calls Try.prog 77 #[.int .i64 n, .int .i64 6001] w fun e w' => e = .returned (.bool true) ∧ w' = w) := fun w => below17 n 6001 true (by rw [decide_eq_true hr.1, decide_eq_true (by omega : n < 6001)]; rfl) w
    have HI : Hid (refW n = 2 * n) := by show _ = _; rw [refW, if_pos hb]
    go_enter Try.func38, Try.ntmps38
    go_wp2_with (go_at_call 77; refine (HW.out _).mono ?_; rintro e w1 ⟨rfl, rfl⟩)
    go_ret
    exact ⟨by rw [HI.out]; rfl, rfl⟩
  | false =>
    have HW : Hid (∀ w, Calls Try.prog 77 #[.int .i64 n, .int .i64 6001] w fun e w' => e = .returned (.bool false) ∧ w' = w) := fun w => below17 n 6001 false (by rw [← hb, Bool.eq_iff_iff]; simp; omega) w
    have HI : Hid (refW n = 0) := by show _ = _; rw [refW, if_neg (by rw [hb]; decide)]
    go_enter Try.func38, Try.ntmps38
    go_wp2_with (go_at_call 77; refine (HW.out _).mono ?_; rintro e w1 ⟨rfl, rfl⟩)
    go_ret
    exact ⟨by rw [HI.out]; rfl, rfl⟩
theorem spec_refWord (n : Int) (w : World) : Calls Try.prog 43 #[.int .i64 n] w fun e w' => e = .returned (.int .i64 (refW n)) ∧ w' = w := by
  have HW : Hid (∀ w, Calls Try.prog 52 #[.int .i64 n, .int .i64 0, .int .i64 6000] w fun e w' => e = .returned (.bool (decide (0 ≤ n) && decide (n ≤ 6000))) ∧ w' = w) := fun w => in17 n 0 6000 _ rfl w
  cases hb : (decide (0 ≤ n) && decide (n ≤ 6000)) with
  | true =>
    have hr : 0 ≤ n ∧ n ≤ 6000 := by simpa using hb
    rw [hb] at HW
    have HI : Hid (refW n = 2 * n) := by show _ = _; rw [refW, if_pos hb]
    go_enter Try.func43, Try.ntmps43
    go_wp2_with (go_at_call 52; refine (HW.out _).mono ?_; rintro e w1 ⟨rfl, rfl⟩)
    go_ret
    exact ⟨by rw [HI.out]; rfl, rfl⟩
  | false =>
    rw [hb] at HW
    have HI : Hid (refW n = 0) := by show _ = _; rw [refW, if_neg (by rw [hb]; decide)]
    go_enter Try.func43, Try.ntmps43
    go_wp2_with (go_at_call 52; refine (HW.out _).mono ?_; rintro e w1 ⟨rfl, rfl⟩)
    go_ret
    exact ⟨by rw [HI.out]; rfl, rfl⟩
end Go.Proofs.Ytgcegjgjegkahab
