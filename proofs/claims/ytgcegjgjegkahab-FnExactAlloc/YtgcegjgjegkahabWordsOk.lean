/- WordOk of both packages at every int: the same answers, the world as it was. No conditions. -/
import Derived.Test.YtgcegjgjegkahabRows
import Derived.WalkKit
import Derived.ProofKit
import Derived.Below
namespace Go.Proofs.Ytgcegjgjegkahab
open Go.ChangeShapes Go.WideShapes Go.ChangeAt Go.RowKit

def wokB (n : Int) : Bool := decide (-1073741824 ≤ n ∧ n ≤ 1073741823)

theorem wokB_yes {n : Int} (h0 : -1073741824 ≤ n) (h1 : n ≤ 1073741823) : wokB n = true := by simp [wokB, h0, h1]
theorem wokB_lo {n : Int} (h : ¬ -1073741824 ≤ n) : wokB n = false := by unfold wokB; rw [decide_eq_false_iff_not]; omega
theorem wokB_hi {n : Int} (h : ¬ n ≤ 1073741823) : wokB n = false := by unfold wokB; rw [decide_eq_false_iff_not]; omega
theorem ret_int {k : IntKind} {a b : Int} (h : a = b) : Ending.returned (.int k a) = .returned (.int k b) := by rw [h]
theorem ret_bool {a b : Bool} (h : a = b) : Ending.returned (.bool a) = .returned (.bool b) := by rw [h]

theorem spec_wordOk (n : Int) (w : World) : Calls Try.prog 78 #[.int .i64 n] w fun e w' => e = .returned (.bool (wokB n)) ∧ w' = w := by
  by_cases c1 : -1073741824 ≤ n
  · by_cases c2 : n ≤ 1073741823
    · have H : Hid (wokB n = true) := wokB_yes c1 c2
      go_enter Try.func78, Try.ntmps78
      go_wp2
      go_ret
      exact ⟨ret_bool (by rw [H.out]), rfl⟩
    · have H : Hid (wokB n = false) := wokB_hi c2
      go_enter Try.func78, Try.ntmps78
      go_wp2
      go_ret
      exact ⟨ret_bool (by rw [H.out]), rfl⟩
  · have H : Hid (wokB n = false) := wokB_lo c1
    go_enter Try.func78, Try.ntmps78
    go_wp2
    go_ret
    exact ⟨ret_bool (by rw [H.out]), rfl⟩

theorem impl_wordOk (n : Int) (w : World) : Calls Try.prog 50 #[.int .i64 n] w fun e w' => e = .returned (.bool (wokB n)) ∧ w' = w := by
  by_cases c1 : -1073741824 ≤ n
  · by_cases c2 : n ≤ 1073741823
    · have H : Hid (wokB n = true) := wokB_yes c1 c2
      go_enter Try.func50, Try.ntmps50
      go_wp2
      go_ret
      exact ⟨ret_bool (by rw [H.out]), rfl⟩
    · have H : Hid (wokB n = false) := wokB_hi c2
      go_enter Try.func50, Try.ntmps50
      go_wp2
      go_ret
      exact ⟨ret_bool (by rw [H.out]), rfl⟩
  · have H : Hid (wokB n = false) := wokB_lo c1
    go_enter Try.func50, Try.ntmps50
    go_wp2
    go_ret
    exact ⟨ret_bool (by rw [H.out]), rfl⟩

end Go.Proofs.Ytgcegjgjegkahab
