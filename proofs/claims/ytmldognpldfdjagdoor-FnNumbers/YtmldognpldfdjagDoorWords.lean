/- WordOk and Round of both packages at every int: the same answers, the world as it was. Condition: an int is one of 64 bits. -/
import Derived.Test.YtmldognpldfdjagDoorRows
import Derived.WalkKit
import Derived.ProofKit
import Derived.Below
import Derived.Laws.BitsLemmas
namespace Go.Proofs.YtmldognpldfdjagDoor
open Go.ChangeShapes Go.WideShapes Go.ChangeAt Go.RowKit

def wokB (n : Int) : Bool := decide (-1073741824 ≤ n ∧ n ≤ 1073741823)
def rnd (n : Int) : Int := (n + 1073741824) % 2147483648 - 1073741824

theorem wokB_yes {n : Int} (h0 : -1073741824 ≤ n) (h1 : n ≤ 1073741823) : wokB n = true := by simp [wokB, h0, h1]
theorem wokB_lo {n : Int} (h : ¬ -1073741824 ≤ n) : wokB n = false := by unfold wokB; rw [decide_eq_false_iff_not]; omega
theorem wokB_hi {n : Int} (h : ¬ n ≤ 1073741823) : wokB n = false := by unfold wokB; rw [decide_eq_false_iff_not]; omega
theorem wokB_rnd (n : Int) : wokB (rnd n) = true := wokB_yes (by unfold rnd; omega) (by unfold rnd; omega)
theorem rnd_eq (n : Int) : ((rnd n == n) == wokB n) = true := by
  by_cases h : -1073741824 ≤ n ∧ n ≤ 1073741823
  · rw [wokB_yes h.1 h.2]
    have : rnd n = n := by unfold rnd; omega
    simp [this]
  · have h2 : wokB n = false := by unfold wokB; rw [decide_eq_false_iff_not]; exact h
    have : ¬ rnd n = n := by unfold rnd; omega
    rw [h2]; simp [this]

theorem i64_and31 (n : Int) : bits .and .i64 n 2147483647 = n % 2147483648 := by
  have hm : (BitVec.ofInt 64 2147483647).toNat = 2 ^ 31 - 1 := by decide
  have key : (BitVec.ofInt 64 n &&& BitVec.ofInt 64 2147483647).toNat = (n % ((2 ^ 64 : Nat) : Int)).toNat % 2 ^ 31 := by
    rw [BitVec.toNat_and, BitVec.toNat_ofInt, hm, Nat.and_two_pow_sub_one_eq_mod]
  show IntKind.i64.wrap ((BitVec.ofInt 64 n &&& BitVec.ofInt 64 2147483647).toNat : Nat) = n % 2147483648
  rw [key, IntKind.wrap_i64]
  omega

theorem ret_int {k : IntKind} {a b : Int} (h : a = b) : Ending.returned (.int k a) = .returned (.int k b) := by rw [h]
theorem ret_bool {a b : Bool} (h : a = b) : Ending.returned (.bool a) = .returned (.bool b) := by rw [h]

theorem spec_wordOk (n : Int) (w : World) : Calls Tryd.prog 16 #[.int .i64 n] w fun e w' => e = .returned (.bool (wokB n)) ∧ w' = w := by
  by_cases c1 : -1073741824 ≤ n
  · by_cases c2 : n ≤ 1073741823
    · have H : Hid (wokB n = true) := wokB_yes c1 c2
      go_enter Tryd.func16, Tryd.ntmps16
      go_wp2
      go_ret
      exact ⟨ret_bool (by rw [H.out]), rfl⟩
    · have H : Hid (wokB n = false) := wokB_hi c2
      go_enter Tryd.func16, Tryd.ntmps16
      go_wp2
      go_ret
      exact ⟨ret_bool (by rw [H.out]), rfl⟩
  · have H : Hid (wokB n = false) := wokB_lo c1
    go_enter Tryd.func16, Tryd.ntmps16
    go_wp2
    go_ret
    exact ⟨ret_bool (by rw [H.out]), rfl⟩

theorem impl_wordOk (n : Int) (w : World) : Calls Tryd.prog 9 #[.int .i64 n] w fun e w' => e = .returned (.bool (wokB n)) ∧ w' = w := by
  by_cases c1 : -1073741824 ≤ n
  · by_cases c2 : n ≤ 1073741823
    · have H : Hid (wokB n = true) := wokB_yes c1 c2
      go_enter Tryd.func9, Tryd.ntmps9
      go_wp2
      go_ret
      exact ⟨ret_bool (by rw [H.out]), rfl⟩
    · have H : Hid (wokB n = false) := wokB_hi c2
      go_enter Tryd.func9, Tryd.ntmps9
      go_wp2
      go_ret
      exact ⟨ret_bool (by rw [H.out]), rfl⟩
  · have H : Hid (wokB n = false) := wokB_lo c1
    go_enter Tryd.func9, Tryd.ntmps9
    go_wp2
    go_ret
    exact ⟨ret_bool (by rw [H.out]), rfl⟩

theorem spec_round (n : Int) (w : World) : Calls Tryd.prog 15 #[.int .i64 n] w fun e w' => e = .returned (.int .i64 (rnd n)) ∧ w' = w := by
  have e := i64_and31 n
  by_cases c : (1073741823 : Int) < n % 2147483648
  · have H : Hid (n % 2147483648 - 2147483648 = rnd n) := by show _ = _; unfold rnd; omega
    go_enter Tryd.func15, Tryd.ntmps15
    go_wp2
    go_ret
    exact ⟨ret_int H.out, rfl⟩
  · have H : Hid (n % 2147483648 = rnd n) := by show _ = _; unfold rnd; omega
    go_enter Tryd.func15, Tryd.ntmps15
    go_wp2
    go_ret
    exact ⟨ret_int H.out, rfl⟩

theorem impl_round (n : Int) (w : World) : Calls Tryd.prog 14 #[.int .i64 n] w fun e w' => e = .returned (.int .i64 (rnd n)) ∧ w' = w := by
  have H : Hid (wrap64 (wrap32 (wrap32 n * 2) / 2) = rnd n) := by show _ = _; unfold rnd wrap32 wrap64; omega
  go_enter Tryd.func14, Tryd.ntmps14
  go_wp2
  go_ret
  exact ⟨ret_int H.out, rfl⟩
end Go.Proofs.YtmldognpldfdjagDoor
