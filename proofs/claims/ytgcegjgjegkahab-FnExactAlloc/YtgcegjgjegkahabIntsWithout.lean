/- impl's and the specification's sets of ints: without a number, flipped. Condition: at most 2^22 of them. -/
import Derived.Test.YtgcegjgjegkahabIntsWith
namespace Go.Proofs.Ytgcegjgjegkahab
open Go.ChangeShapes Go.WideShapes Go.ChangeAt Go.RowKit

theorem one_new (w : World) (x : Value) (t : TypeId) : ∀ ad, some (⟨w.heap.size, 0, none⟩ : Addr) = some ad → ∀ j u, [x][j]? = some u → (w.alloc (.cells #[x] t)).cell? (ad.add j) = some u := by
  intro ad h j u hu
  obtain rfl := Option.some.inj h
  match j, hu with
  | 0, hu =>
    simp at hu
    subst hu
    rw [Addr.add_lit, cell_of_row _ _ _ _ _ _ (heap_alloc_new w (.cells #[x] t))]
    rfl

theorem own_push {B : Nat} {w wr w1 : World} {r0 v' : Value} {L : List Int} {x : Int} {t : TypeId} (h : Own wr B r0 L) (hb : Below B w wr) (hB : B ≤ wr.heap.size)
    (h1 : w1.ownsRow B 3 1 v' (L.length + 1) (L.map (Value.int .i64) ++ [.int .i64 x])) (hg : (wr.alloc (.cells #[.int .i64 x] t)).grownBy w1 r0.ownBlock) : Own w1 B v' (L ++ [x]) ∧ Below B w w1 := by
  refine ⟨?_, ?_⟩
  · unfold Own
    rw [List.length_append, List.length_singleton, List.map_append]
    exact h1
  · exact (hb.alloc hB _).grown hg (by simp; omega) (fun k hk => (h.lt k hk).1)

end Go.Proofs.Ytgcegjgjegkahab
