/- impl.datKids. No conditions. -/
import Derived.Test.YtoljphjmekkneabGreatDoorRows
import Derived.Test.YtoljphjmekkneabGreatDoorZG1DatOwn
import Derived.WalkKit
import Derived.ProofKit
namespace Go.Proofs.YtoljphjmekkneabGreatDoor
open Go.ChangeShapes Go.WideShapes Go.ChangeAt Go.RowKit

set_option maxRecDepth 100000 in
theorem dat_kids (op a n : Int) (s : ByteArray) (v : Value) (w : World) :
    Calls Tryz.prog 29 #[.agg #[.int .i64 op, .int .i64 a, .int .i64 n, .string s, v]] w fun e w' => e = .returned v ∧ Below w.heap.size w w' := by
  go_enter Tryz.func29, Tryz.ntmps29
  go_wp2_with fail
  go_ret
  exact ⟨rfl, newb _ _⟩
end Go.Proofs.YtoljphjmekkneabGreatDoor

/- Blocks of five cells. No conditions. -/
namespace Go.Proofs.YtoljphjmekkneabGreatDoor
open Go.ChangeShapes Go.WideShapes Go.ChangeAt Go.RowKit

def Five (w : World) (g : Nat) (a b c : Int) (s : ByteArray) (v : Value) (ty : TypeId) : Prop := w.heap[g]? = some (.cells #[.int .i64 a, .int .i64 b, .int .i64 c, .string s, v] ty (0, 0))
theorem Five.lt {w : World} {g : Nat} {a b c : Int} {s : ByteArray} {v : Value} {ty : TypeId} (h : Five w g a b c s v ty) : g < w.heap.size := (Array.getElem?_eq_some_iff.1 h).1
theorem Five.below {w w' : World} {g : Nat} {a b c : Int} {s : ByteArray} {v : Value} {ty : TypeId} (h : Five w g a b c s v ty) (hb : Below w.heap.size w w') : Five w' g a b c s v ty := (hb.block _ h.lt).trans h
theorem Five.cells {w : World} {g : Nat} {a b c : Int} {s : ByteArray} {v : Value} {ty : TypeId} (h : Five w g a b c s v ty) :
    w.cell? ⟨g, 0, none⟩ = some (.int .i64 a) ∧ w.cell? ⟨g, 1, none⟩ = some (.int .i64 b) ∧ w.cell? ⟨g, 2, none⟩ = some (.int .i64 c) ∧ w.cell? ⟨g, 3, none⟩ = some (.string s) ∧ w.cell? ⟨g, 4, none⟩ = some v :=
  ⟨cell_of_row w g 0 _ _ _ h, cell_of_row w g 1 _ _ _ h, cell_of_row w g 2 _ _ _ h, cell_of_row w g 3 _ _ _ h, cell_of_row w g 4 _ _ _ h⟩
theorem Five.fr {w : World} {g : Nat} {a b c : Int} {s : ByteArray} {v : Value} {ty : TypeId} (h : Five w g a b c s v ty) (j : Nat) : w.frozen? ⟨g, j, none⟩ = false := frozen_of_row w g j _ _ h
end Go.Proofs.YtoljphjmekkneabGreatDoor
