/- impl.coreKids. No conditions. -/
import Derived.Test.YtefjnhkaampmcaaDoorRows
import Derived.Test.YtefjnhkaampmcaaDoorZCorRows
import Derived.WalkKit
import Derived.ProofKit
namespace Go.Proofs.YtefjnhkaampmcaaDoor
open Go.ChangeShapes Go.WideShapes Go.ChangeAt Go.RowKit

set_option maxRecDepth 100000 in
theorem core_kids (op n : Int) (s t2 : ByteArray) (v : Value) (w : World) :
    Calls Tryd.prog 15 #[.agg #[.int .i64 op, .int .i64 n, .string s, .string t2, v]] w fun e w' => e = .returned v ∧ Below w.heap.size w w' := by
  go_enter Tryd.func15, Tryd.ntmps15
  go_wp2_with fail
  go_ret
  exact ⟨rfl, newb _ _⟩
end Go.Proofs.YtefjnhkaampmcaaDoor
