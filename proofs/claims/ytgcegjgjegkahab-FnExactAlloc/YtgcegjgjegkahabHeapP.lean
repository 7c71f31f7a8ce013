/- A heap of two halves, plainly: its words, and the three numbers; how one lies. No conditions. -/
import Derived.Test.YtgcegjgjegkahabWord17
import Derived.Test.YtgcegjgjegkahabIntsOwn
import Derived.WalkKit
import Derived.ProofKit
import Derived.Deep.WholeRow
import Derived.OneCell
namespace Go.Proofs.Ytgcegjgjegkahab
open Go.ChangeShapes Go.WideShapes Go.ChangeAt Go.RowKit

/-- A heap. -/
structure Hp where
  ws : List Int
  half : Int
  base : Int
  next : Int

/-- A heap as a value, its words at v. -/
abbrev heapV (v : Value) (h : Hp) : Value := .agg #[v, .int .i64 h.half, .int .i64 h.base, .int .i64 h.next]
/-- What HeapNew answers. -/
def newHp (n : Int) : Hp := if decide (1 ≤ n) && decide (n ≤ 3000) then ⟨List.replicate (2 * n.toNat) 0, n, 0, 0⟩ else ⟨[], 0, 0, 0⟩
def newOk (n : Int) : Bool := decide (1 ≤ n) && decide (n ≤ 3000)

theorem results_cell_tmpH {fn : Func} {p q : Tmp} {ty : TypeId} (h : fn.results = #[.cell p ty, .tmp q]) (tmps : Array Value) (P : Program) (w : World) :
    (results fn tmps).run P w = ((asAddr (tmps.getD p undef)).run P w).andThen fun a w₁ => ((loadVar ty a).run P w₁).andThen fun v w₂ => .ok (.tuple #[v, tmps.getD q undef]) w₂ := by
  simp only [results, h]
  simp [Sem.run_bind, Result.andThen]

/-- Words that were made are all 0. -/
theorem made_zeros (n : Nat) : (madeCells (Value.int IntKind.i64 0).cells (n * 1)).toList = (List.replicate n (0 : Int)).map (Value.int .i64) := by
  have e : (Value.int IntKind.i64 0).cells = #[Value.int .i64 0] := rfl
  rw [Nat.mul_one, e, toList_madeCells_one]
  simp

/-- A heap in a box of its own. -/
abbrev hpO (v : Value) (h : Hp) : Obj := .cells #[v, .int .i64 h.half, .int .i64 h.base, .int .i64 h.next] 27
def BoxAt (w : World) (K : Nat) (v : Value) (h : Hp) : Prop := w.heap[K]? = some (hpO v h)
theorem BoxAt.below {w w' : World} {K : Nat} {v : Value} {h : Hp} (hx : BoxAt w K v h) (hb : Below w.heap.size w w') (hK : K < w.heap.size) : BoxAt w' K v h := (hb.block K hK).trans hx
theorem BoxAt.lt {w : World} {K : Nat} {v : Value} {h : Hp} (hx : BoxAt w K v h) : K < w.heap.size := by
  rcases Nat.lt_or_ge K w.heap.size with h1 | h1
  · exact h1
  · unfold BoxAt at hx; rw [Array.getElem?_eq_none h1] at hx; cases hx
theorem BoxAt.grown {w w' : World} {K : Nat} {v : Value} {h : Hp} {r : Option Nat} (hx : BoxAt w K v h) (hg : w.grownBy w' r) (hr : some K ≠ r) : BoxAt w' K v h := (hg.block K hx.lt hr).trans hx
theorem box_new (w : World) (v : Value) (h : Hp) {A : World} (hA : A = w.alloc (hpO v h)) : A.heap.size = w.heap.size + 1 ∧ Below w.heap.size w A ∧ BoxAt A w.heap.size v h := by
  rw [hA]
  exact ⟨by simp, (Below.refl _ _).alloc (Nat.le_refl _) _, heap_alloc_last _ _⟩
theorem BoxAt.cells {w : World} {K : Nat} {v : Value} {h : Hp} (hx : BoxAt w K v h) : w.cell? ⟨K, 0, none⟩ = some v ∧ w.cell? ⟨K, 1, none⟩ = some (.int .i64 h.half) ∧ w.cell? ⟨K, 2, none⟩ = some (.int .i64 h.base) ∧ w.cell? ⟨K, 3, none⟩ = some (.int .i64 h.next) :=
  ⟨cell_of_row w _ 0 _ _ _ hx, cell_of_row w _ 1 _ _ _ hx, cell_of_row w _ 2 _ _ _ hx, cell_of_row w _ 3 _ _ _ hx⟩

theorem BoxAt.more {w : World} {K : Nat} {v : Value} {h : Hp} (hx : BoxAt w K v h) : (∀ ob, (w.alloc ob).cell? ⟨K, 0, none⟩ = some v) ∧ (∀ ob, (w.alloc ob).cell? ⟨K, 1, none⟩ = some (.int .i64 h.half)) ∧ (∀ ob, (w.alloc ob).cell? ⟨K, 2, none⟩ = some (.int .i64 h.base)) ∧ (∀ ob, (w.alloc ob).cell? ⟨K, 3, none⟩ = some (.int .i64 h.next)) := by
  have hm : ∀ ob, BoxAt (w.alloc ob) K v h := fun ob => hx.below ((Below.refl _ _).alloc (Nat.le_refl _) ob) hx.lt
  exact ⟨fun ob => (hm ob).cells.1, fun ob => (hm ob).cells.2.1, fun ob => (hm ob).cells.2.2.1, fun ob => (hm ob).cells.2.2.2⟩

/-- What a function that answers a heap and a flag gives. -/
def HpRet (B : Nat) (w : World) (h : Hp) (b : Bool) (e : Ending) (w' : World) : Prop := ∃ u, e = .returned (.tuple #[heapV u h, .bool b]) ∧ Own w' B u h.ws ∧ Below B w w'
end Go.Proofs.Ytgcegjgjegkahab
