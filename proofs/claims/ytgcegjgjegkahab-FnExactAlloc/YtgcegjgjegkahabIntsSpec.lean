/- The specification's sets of ints: with a number, without it, flipped. Condition: at most 2^22 of them. -/
import Derived.Test.YtgcegjgjegkahabIntsWithout
import Derived.Test.YtgcegjgjegkahabIntsRead
namespace Go.Proofs.Ytgcegjgjegkahab
open Go.ChangeShapes Go.WideShapes Go.ChangeAt Go.RowKit

theorem own_lit (w : World) (B : Nat) (hB : B ≤ w.heap.size) : Own (w.alloc (.cells #[] 3)) B (.slice (some ⟨w.heap.size, 0, none⟩) 0 0) [] :=
  World.ownsRow_lit w #[] 0 hB (Nat.zero_le _) rfl

theorem own_join {B : Nat} {w wr w1 : World} {r0 v' : Value} {L M : List Int} (h : Own wr B r0 L) (hb : Below B w wr) (hB : B ≤ wr.heap.size)
    (h1 : w1.ownsRow B 3 1 v' (L.length + M.length) (L.map (Value.int .i64) ++ M.map (Value.int .i64))) (hg : wr.grownBy w1 r0.ownBlock) : Own w1 B v' (L ++ M) ∧ Below B w w1 := by
  refine ⟨?_, ?_⟩
  · unfold Own
    rw [List.length_append, List.map_append]
    exact h1
  · exact hb.grown hg hB (fun k hk => (h.lt k hk).1)

theorem Rd.src {w : World} {a : Option Addr} {m cap : Nat} {xs : List Int} (h : Rd w (.slice a m cap) xs) : (a = none → m = 0 ∧ cap = 0) ∧ ∀ ad, a = some ad → ∀ j u, (xs.map (Value.int .i64))[j]? = some u → w.cell? (ad.add j) = some u := by
  rcases h with ⟨h, rfl⟩ | ⟨b, off, cap', h, _, hc⟩
  · simp only [Value.slice.injEq] at h
    obtain ⟨rfl, rfl, rfl⟩ := h
    exact ⟨fun _ => ⟨rfl, rfl⟩, fun ad h => by cases h⟩
  · simp only [Value.slice.injEq] at h
    obtain ⟨rfl, rfl, rfl⟩ := h
    refine ⟨fun h => (by cases h), fun ad h j u hu => ?_⟩
    obtain rfl := Option.some.inj h
    have hj : j < xs.length := by
      have := (List.getElem?_eq_some_iff.1 hu).1
      simpa using this
    rw [Addr.add_lit, hc j hj, getD_int xs j hj]
    simpa [List.getElem?_eq_getElem hj] using hu

theorem drop_src {w : World} {b off cap p : Nat} {xs : List Int} (hl : xs.length ≤ cap) (hc : ∀ j, j < xs.length → w.cell? ⟨b, off + j, none⟩ = some (.int .i64 (xs.getD j 0))) {ao : Option Addr} (hao : ¬ cap = p → ao = some ⟨b, off + p, none⟩) :
    ∀ ad, ao = some ad → ∀ j u, ((xs.drop p).map (Value.int .i64))[j]? = some u → w.cell? (ad.add j) = some u :=
  cells_from rfl hl hc hao

end Go.Proofs.Ytgcegjgjegkahab
