/- spec.l3Size, spec.l3Deep and spec.l1Max. Condition: at most 2^40 data. -/
import Derived.Test.YtefjnhkaampmcaaDoorRows
import Derived.Test.YtefjnhkaampmcaaDoorZDatOkP
import Derived.WalkKit
import Derived.ProofKit
import Derived.OwnWalk
namespace Go.Proofs.YtefjnhkaampmcaaDoor
open Go.ChangeShapes Go.WideShapes Go.ChangeAt Go.RowKit

theorem spec_max (a b : Nat) (w : World) : Calls Tryd.prog 19 #[.int .i64 a, .int .i64 b] w fun e w' => e = .returned (.int .i64 ((max a b : Nat) : Int)) ∧ w' = w := by
  by_cases h : (b : Int) < a
  · have H : Hid (max a b = a) := by show _ = _; omega
    go_enter Tryd.func19, Tryd.ntmps19
    go_wp2
    go_ret
    exact ⟨by rw [H.out]; rfl, rfl⟩
  · have H : Hid (max a b = b) := by show _ = _; omega
    go_enter Tryd.func19, Tryd.ntmps19
    go_wp2
    go_ret
    exact ⟨by rw [H.out]; rfl, rfl⟩

end Go.Proofs.YtefjnhkaampmcaaDoor
