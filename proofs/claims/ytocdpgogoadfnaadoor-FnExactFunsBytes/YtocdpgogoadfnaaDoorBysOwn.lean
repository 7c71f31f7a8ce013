/- Rows of bytes that grow by one. No conditions of our own. -/
import Derived.Test.YtocdpgogoadfnaaDoorBysLaw
import Derived.Laws.AppendOwnNone
import Derived.Deep.OwnRows
namespace Go.Proofs.YtocdpgogoadfnaaDoor
open Go.ChangeShapes Go.WideShapes Go.ChangeAt Go.RowKit

theorem own_litY (w : World) (base : Nat) (hb : base ≤ w.heap.size) : OwnY (w.alloc (.cells #[] 5)) base (.slice (some ⟨w.heap.size, 0, none⟩) 0 0) [] :=
  World.ownsRow_lit w #[] 0 hb (Nat.zero_le _) rfl

theorem one_newY (w : World) (x : Value) (t : TypeId) : ∀ j u, [x][j]? = some u → (w.alloc (.cells #[x] t)).cell? ((⟨w.heap.size, 0, none⟩ : Addr).add j) = some u := by
  intro j u hu
  match j, hu with
  | 0, hu =>
    simp at hu
    subst hu
    rw [Addr.add_lit, cell_of_row _ _ _ _ _ _ (heap_alloc_new w (.cells #[x] t))]
    rfl

theorem own_pushY {B B0 : Nat} {w wr w1 : World} {r0 v' : Value} {L : List Nat} {x : Nat} {y : Int} {t : TypeId} (hy : y = x) (h : OwnY wr B r0 L) (hb : Below B0 w wr) (h0 : B0 ≤ B) (hB : B0 ≤ wr.heap.size)
    (h1 : w1.ownsRow B 5 1 v' (L.length + 1) (L.map byV ++ [.int .u8 y])) (hg : (wr.alloc (.cells #[.int .u8 y] t)).grownBy w1 r0.ownBlock) : OwnY w1 B v' (L ++ [x]) ∧ Below B0 w w1 := by
  subst hy
  refine ⟨?_, ?_⟩
  · unfold OwnY
    rw [List.length_append, List.length_singleton, List.map_append]
    exact h1
  · exact (hb.alloc hB _).grown hg (by simp; omega) (fun k hk => Nat.le_trans h0 (h.lt k hk).1)
end Go.Proofs.YtocdpgogoadfnaaDoor
