/- The closure of impl.DatOf: one datum, made of what is written. No conditions. -/
import Derived.Test.YtoifhaakieigcaaStxParts
import Derived.Test.YtoifhaakieigcaaSixCells
import Derived.Test.YtoifhaakieigcaaDatRows
namespace Go.Proofs.Ytoifhaakieigcaa
open Go.ChangeShapes Go.WideShapes Go.ChangeAt Go.RowKit

set_option maxRecDepth 100000 in
set_option maxHeartbeats 2000000 in
theorem made_dat (sv u : Value) (op a n : Int) (s : ByteArray) (kp : Option Addr) (kn kc : Nat) (w : World) :
    Calls Try.prog 52 #[.agg #[.int .i64 op, .int .i64 a, .int .i64 n, .string s, sv, u], .slice kp kn kc] w fun e w' => e = .returned (.agg #[.int .i64 op, .int .i64 a, .int .i64 n, .string s, .slice kp kn kc]) ∧ Below w.heap.size w w' := by
  have HB : Hid (∀ o1 o2, Below w.heap.size w ((w.alloc o1).alloc o2)) := fun o1 o2 => (newx w _).trans ((newx _ _).mono (by simp))
  go_enter Try.func52, Try.ntmps52
  go_wp2_with fail
  refine bodyPost_ret (v := .agg #[.int .i64 op, .int .i64 a, .int .i64 n, .string s, .slice kp kn kc]) (by rw [results_cellX (p := 4) (ty := 33) (by kernel_rfl)]; simp [go_sem]) rfl ⟨rfl, ?_⟩
  exact HB.out _ _
end Go.Proofs.Ytoifhaakieigcaa
