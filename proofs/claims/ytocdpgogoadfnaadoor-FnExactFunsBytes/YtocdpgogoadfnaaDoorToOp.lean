/- laws.toOp: an op laid anew. No conditions. -/
import Derived.Test.YtocdpgogoadfnaaDoorRows
import Derived.Test.YtocdpgogoadfnaaDoorDatRows
namespace Go.Proofs.YtocdpgogoadfnaaDoor
open Go.ChangeShapes Go.WideShapes Go.ChangeAt Go.RowKit

set_option maxRecDepth 100000 in
set_option maxHeartbeats 2000000 in
theorem to_op (c n m : Int) (w : World) : Calls Tryd.prog 44 #[.agg #[.int .i64 c, .int .i64 n, .int .i64 m]] w fun e w' => e = .returned (.agg #[.int .i64 c, .int .i64 n, .int .i64 m]) ∧ Below w.heap.size w w' := by
  have HB : Hid (∀ o1 o2 o3, Below w.heap.size w (((w.alloc o1).alloc o2).alloc o3)) := fun o1 o2 o3 => (newb w _).trans (((newb _ _).mono (by simp)).trans ((newb _ _).mono (by simp; omega)))
  go_enter Tryd.func44, Tryd.ntmps44
  go_wp2_with fail
  refine bodyPost_ret (v := .agg #[.int .i64 c, .int .i64 n, .int .i64 m]) (by rw [results_cell1 (p := 2) (ty := 47) (by kernel_rfl)]; simp [go_sem]) rfl ⟨rfl, HB.out _ _ _⟩
end Go.Proofs.YtocdpgogoadfnaaDoor
