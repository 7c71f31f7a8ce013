/- Blocks of six cells: what they hold, and stored whole. No conditions. -/
import Derived.Test.YtgbfflpdpfgnbaaStxOwn
namespace Go.Proofs.Ytgbfflpdpfgnbaa
open Go.ChangeShapes Go.WideShapes Go.ChangeAt Go.RowKit

def Six (w : World) (g : Nat) (a b c : Int) (s : ByteArray) (u v : Value) (ty : TypeId) : Prop := w.heap[g]? = some (.cells #[.int .i64 a, .int .i64 b, .int .i64 c, .string s, u, v] ty (0, 0))
theorem Six.lt {w : World} {g : Nat} {a b c : Int} {s : ByteArray} {u v : Value} {ty : TypeId} (h : Six w g a b c s u v ty) : g < w.heap.size := (Array.getElem?_eq_some_iff.1 h).1
theorem Six.below {w w' : World} {g : Nat} {a b c : Int} {s : ByteArray} {u v : Value} {ty : TypeId} (h : Six w g a b c s u v ty) (hb : Below w.heap.size w w') : Six w' g a b c s u v ty := (hb.block _ h.lt).trans h
theorem Six.cells {w : World} {g : Nat} {a b c : Int} {s : ByteArray} {u v : Value} {ty : TypeId} (h : Six w g a b c s u v ty) :
    w.cell? ⟨g, 0, none⟩ = some (.int .i64 a) ∧ w.cell? ⟨g, 1, none⟩ = some (.int .i64 b) ∧ w.cell? ⟨g, 2, none⟩ = some (.int .i64 c) ∧ w.cell? ⟨g, 3, none⟩ = some (.string s) ∧ w.cell? ⟨g, 4, none⟩ = some u ∧ w.cell? ⟨g, 5, none⟩ = some v :=
  ⟨cell_of_row w g 0 _ _ _ h, cell_of_row w g 1 _ _ _ h, cell_of_row w g 2 _ _ _ h, cell_of_row w g 3 _ _ _ h, cell_of_row w g 4 _ _ _ h, cell_of_row w g 5 _ _ _ h⟩
theorem Six.fr {w : World} {g : Nat} {a b c : Int} {s : ByteArray} {u v : Value} {ty : TypeId} (h : Six w g a b c s u v ty) (j : Nat) : w.frozen? ⟨g, j, none⟩ = false := frozen_of_row w g j _ _ h
theorem Six.set4 {w : World} {g : Nat} {a b c : Int} {s : ByteArray} {u v : Value} {ty : TypeId} (h : Six w g a b c s u v ty) (u' : Value) : Six (w.setCell ⟨g, 4, none⟩ u') g a b c s u' v ty := heap_setCell_same w g 4 _ _ u' h
theorem Six.set5 {w : World} {g : Nat} {a b c : Int} {s : ByteArray} {u v : Value} {ty : TypeId} (h : Six w g a b c s u v ty) (v' : Value) : Six (w.setCell ⟨g, 5, none⟩ v') g a b c s u v' ty := heap_setCell_same w g 5 _ _ v' h

/-- Six stores into a block. -/
abbrev put6 (w : World) (g : Nat) (a b c : Int) (s : ByteArray) (u v : Value) : World :=
  (((((w.setCell ⟨g, 0, none⟩ (.int .i64 a)).setCell ⟨g, 1, none⟩ (.int .i64 b)).setCell ⟨g, 2, none⟩ (.int .i64 c)).setCell ⟨g, 3, none⟩ (.string s)).setCell ⟨g, 4, none⟩ u).setCell ⟨g, 5, none⟩ v
theorem put6_other (w : World) (g : Nat) (a b c : Int) (s : ByteArray) (u v : Value) (x : Nat) (hx : x ≠ g) : (put6 w g a b c s u v).heap[x]? = w.heap[x]? := by
  unfold put6
  rw [Below.heap_setCell _ _ _ _ (by exact hx), Below.heap_setCell _ _ _ _ (by exact hx), Below.heap_setCell _ _ _ _ (by exact hx), Below.heap_setCell _ _ _ _ (by exact hx), Below.heap_setCell _ _ _ _ (by exact hx), Below.heap_setCell _ _ _ _ (by exact hx)]
theorem put6_below {B : Nat} {w0 w : World} (hb : Below B w0 w) (g : Nat) (hg : B ≤ g) (a b c : Int) (s : ByteArray) (u v : Value) : Below B w0 (put6 w g a b c s u v) :=
  (((((hb.setCell hg _).setCell hg _).setCell hg _).setCell hg _).setCell hg _).setCell hg _

def Five (w : World) (g : Nat) (a b c : Int) (s : ByteArray) (v : Value) (ty : TypeId) : Prop := w.heap[g]? = some (.cells #[.int .i64 a, .int .i64 b, .int .i64 c, .string s, v] ty (0, 0))
theorem Five.lt {w : World} {g : Nat} {a b c : Int} {s : ByteArray} {v : Value} {ty : TypeId} (h : Five w g a b c s v ty) : g < w.heap.size := (Array.getElem?_eq_some_iff.1 h).1
theorem Five.below {w w' : World} {g : Nat} {a b c : Int} {s : ByteArray} {v : Value} {ty : TypeId} (h : Five w g a b c s v ty) (hb : Below w.heap.size w w') : Five w' g a b c s v ty := (hb.block _ h.lt).trans h
theorem Five.cells {w : World} {g : Nat} {a b c : Int} {s : ByteArray} {v : Value} {ty : TypeId} (h : Five w g a b c s v ty) :
    w.cell? ⟨g, 0, none⟩ = some (.int .i64 a) ∧ w.cell? ⟨g, 1, none⟩ = some (.int .i64 b) ∧ w.cell? ⟨g, 2, none⟩ = some (.int .i64 c) ∧ w.cell? ⟨g, 3, none⟩ = some (.string s) ∧ w.cell? ⟨g, 4, none⟩ = some v :=
  ⟨cell_of_row w g 0 _ _ _ h, cell_of_row w g 1 _ _ _ h, cell_of_row w g 2 _ _ _ h, cell_of_row w g 3 _ _ _ h, cell_of_row w g 4 _ _ _ h⟩
theorem Five.fr {w : World} {g : Nat} {a b c : Int} {s : ByteArray} {v : Value} {ty : TypeId} (h : Five w g a b c s v ty) (j : Nat) : w.frozen? ⟨g, j, none⟩ = false := frozen_of_row w g j _ _ h
abbrev put5 (w : World) (g : Nat) (a b c : Int) (s : ByteArray) (v : Value) : World :=
  ((((w.setCell ⟨g, 0, none⟩ (.int .i64 a)).setCell ⟨g, 1, none⟩ (.int .i64 b)).setCell ⟨g, 2, none⟩ (.int .i64 c)).setCell ⟨g, 3, none⟩ (.string s)).setCell ⟨g, 4, none⟩ v
theorem put5_other (w : World) (g : Nat) (a b c : Int) (s : ByteArray) (v : Value) (x : Nat) (hx : x ≠ g) : (put5 w g a b c s v).heap[x]? = w.heap[x]? := by
  unfold put5
  rw [Below.heap_setCell _ _ _ _ (by exact hx), Below.heap_setCell _ _ _ _ (by exact hx), Below.heap_setCell _ _ _ _ (by exact hx), Below.heap_setCell _ _ _ _ (by exact hx), Below.heap_setCell _ _ _ _ (by exact hx)]
theorem put5_below {B : Nat} {w0 w : World} (hb : Below B w0 w) (g : Nat) (hg : B ≤ g) (a b c : Int) (s : ByteArray) (v : Value) : Below B w0 (put5 w g a b c s v) :=
  ((((hb.setCell hg _).setCell hg _).setCell hg _).setCell hg _).setCell hg _
/-- Two new blocks, behind a call. -/
theorem twoX {w w1 : World} {o1 o2 : Obj} (hb : Below ((w.alloc o1).alloc o2).heap.size ((w.alloc o1).alloc o2) w1) :
    w1.heap[w.heap.size]? = some o1 ∧ w1.heap[w.heap.size + 1]? = some o2 ∧ w.heap.size + 2 ≤ w1.heap.size ∧ Below w.heap.size w w1 := by
  have e1 : (w.alloc o1).heap.size = w.heap.size + 1 := by simp
  have e2 : ((w.alloc o1).alloc o2).heap.size = w.heap.size + 1 + 1 := by simp
  have n2 := heap_alloc_new (w.alloc o1) o2
  have n1 := heap_alloc_new w o1
  rw [e1] at n2
  refine ⟨?_, ?_, by have := hb.size; omega, ((newx w o1).trans ((newx _ o2).mono (by omega))).trans (hb.mono (by omega))⟩
  · rw [hb.block _ (by omega), Below.heap_alloc _ _ _ (by omega)]; exact n1
  · rw [hb.block _ (by omega)]; exact n2
end Go.Proofs.Ytgbfflpdpfgnbaa
