/- impl.isAmong: whether a place stands in a row that is ascending. Condition: at most 2^22 places, ascending. -/
import Derived.Test.YtgcegjgjegkahabSpecHeapOk17
import Derived.Test.YtgcegjgjegkahabSearch
namespace Go.Proofs.Ytgcegjgjegkahab
open Go.ChangeShapes Go.WideShapes Go.ChangeAt Go.RowKit

theorem contains_has (L : List Int) (x : Int) : L.contains x = hasB L x := by
  rw [Bool.eq_iff_iff, has_iff, List.contains_iff_mem]

theorem impl_among (L : List Int) (v : Value) (x : Int) (w : World) (hv : Rd w v L) (hl : L.length ≤ 4194304) (hs : L.Pairwise (· < ·)) :
    Calls Try.prog 58 #[v, .int .i64 x] w fun e w' => e = .returned (.bool (hasB L x)) ∧ ∃ q, w' = w.drewN q := by
  have HB : Hid (Calls Try.prog 84 #[v, .int .i64 x] w fun e w' => ∃ k, e = .returned (.tuple #[k, .bool (hasB L x)]) ∧ ∃ q, w' = w.drewN q) := by
    obtain ⟨a, cap, rfl, hc⟩ := hv.shape
    cases L with
    | nil =>
      refine (Try.slices_BinarySearch_int_empty a cap x w).mono ?_
      rintro e w1 ⟨rfl, hq⟩
      exact ⟨_, rfl, 0, hq⟩
    | cons y L =>
      obtain ⟨b, off, rfl, _⟩ := hc 0 (by simp)
      refine (Try.slices_BinarySearch_int b off (y :: L).length cap (y :: L) x w (Nat.le_refl _) (by omega) (fun j hj => ?_) ?_).mono ?_
      · obtain ⟨b', off', he, h2⟩ := hc j hj
        injection he with he
        injection he with e1 e2
        subst e1
        subst e2
        exact h2
      · rw [List.take_length]; exact hs.imp (fun h => Int.le_of_lt h)
      · rintro e w1 ⟨rfl, hq⟩
        rw [List.take_length, contains_has]
        exact ⟨_, rfl, hq⟩
  clear hv
  go_enter Try.func58, Try.ntmps58
  go_wp2_with fail
  refine HB.out.mono ?_
  rintro e w1 ⟨k, rfl, q, rfl⟩
  go_wp2_with fail
  go_ret
  exact ⟨rfl, q, rfl⟩
end Go.Proofs.Ytgcegjgjegkahab
