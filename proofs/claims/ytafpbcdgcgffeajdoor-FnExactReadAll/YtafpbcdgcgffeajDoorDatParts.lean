/- impl.datKids. No conditions. -/
import Derived.Test.YtafpbcdgcgffeajDoorRows
import Derived.Test.YtafpbcdgcgffeajDoorDatRows
import Derived.WalkKit
import Derived.ProofKit
namespace Go.Proofs.YtafpbcdgcgffeajDoor
open Go.ChangeShapes Go.WideShapes Go.ChangeAt Go.RowKit

set_option maxRecDepth 100000 in
theorem dat_kids (op a n : Int) (s : ByteArray) (v : Value) (w : World) :
    Calls Tryd.prog 60 #[.agg #[.int .i64 op, .int .i64 a, .int .i64 n, .string s, v]] w fun e w' => e = .returned v ∧ Below w.heap.size w w' := by
  go_enter Tryd.func60, Tryd.ntmps60
  go_wp2_with fail
  go_ret
  exact ⟨rfl, newb _ _⟩
end Go.Proofs.YtafpbcdgcgffeajDoor
