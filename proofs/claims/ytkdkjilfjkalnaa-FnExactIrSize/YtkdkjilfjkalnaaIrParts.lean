/- impl.irKids. No conditions. -/
import Derived.Test.YtkdkjilfjkalnaaRows
import Derived.Test.YtkdkjilfjkalnaaIrRows
import Derived.WalkKit
import Derived.ProofKit
namespace Go.Proofs.Ytkdkjilfjkalnaa
open Go.ChangeShapes Go.WideShapes Go.ChangeAt Go.RowKit

set_option maxRecDepth 100000 in
theorem ir_kids (op n : Int) (v : Value) (w : World) :
    Calls Try.prog 12 #[.agg #[.int .i64 op, .int .i64 n, v]] w fun e w' => e = .returned v ∧ Below w.heap.size w w' := by
  go_enter Try.func12, Try.ntmps12
  go_wp2_with fail
  go_ret
  exact ⟨rfl, newb _ _⟩
end Go.Proofs.Ytkdkjilfjkalnaa
