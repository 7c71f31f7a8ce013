/- impl's sets of ints, what makes a new list: copied, with. Condition: at most 2^22 of them. -/
import Derived.Test.YtgcegjgjegkahabIntsOwn
import Derived.Test.YtgcegjgjegkahabIntsImpl
namespace Go.Proofs.Ytgcegjgjegkahab
open Go.ChangeShapes Go.WideShapes Go.ChangeAt Go.RowKit

theorem row_facts {w : World} {g : Nat} {L : List Value} {at_ : Nat} (hg : w.heap[g]? = some (.cells L.toArray 3 (0, 0))) (h : at_ < L.length) :
    (∃ u, w.cell? ⟨g, at_, none⟩ = some u) ∧ w.frozen? ⟨g, at_, none⟩ = false := by
  refine ⟨⟨L[at_], ?_⟩, frozen_of_row w g at_ _ _ hg⟩
  rw [cell_of_row w g at_ _ _ _ hg]
  simp [h]

theorem row_set {w : World} {g : Nat} {L : List Value} {at_ : Nat} {u : Value} (hg : w.heap[g]? = some (.cells L.toArray 3 (0, 0))) :
    (w.setCell ⟨g, at_, none⟩ u).heap[g]? = some (.cells (L.set at_ u).toArray 3 (0, 0)) := by
  have := heap_setCell_same w g at_ L.toArray 3 u hg
  simpa using this

end Go.Proofs.Ytgcegjgjegkahab
