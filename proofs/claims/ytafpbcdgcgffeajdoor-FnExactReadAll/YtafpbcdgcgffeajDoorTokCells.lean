/- The cells of a list of tokens. No conditions. -/
import Derived.Test.YtafpbcdgcgffeajDoorRows
import Derived.Test.YtafpbcdgcgffeajDoorTokGood
import Derived.WalkKit
import Derived.ProofKit
import Derived.Below
import Derived.OwnWalk
namespace Go.Proofs.YtafpbcdgcgffeajDoor
open Go.ChangeShapes Go.WideShapes Go.ChangeAt Go.RowKit

/-- The cells of a list of tokens at the value v. -/
def TokCells (w : World) (v : Value) (ts : List Tok) : Prop :=
  (v = .slice none 0 0 ∧ ts = []) ∨ ∃ g cap, v = .slice (some ⟨g, 0, none⟩) ts.length cap ∧ ts.length ≤ cap ∧ ∀ j u, (rows ts)[j]? = some u → w.cell? ⟨g, j, none⟩ = some u

theorem TokCells.of_own {w : World} {base : Nat} {v : Value} {ts : List Tok} (h : w.ownsRow base 44 4 v ts.length (rows ts)) : TokCells w v ts := by
  rcases h.2 with ⟨h1, h2⟩ | ⟨g, cap, cur, rfl, _, hgg, hcap, _, _, htake⟩
  · exact .inl ⟨h1, List.eq_nil_of_length_eq_zero h2⟩
  · refine .inr ⟨g, cap, rfl, hcap, ?_⟩
    intro j u hu
    rw [cell_of_row w g j cur _ _ hgg]
    rw [← htake, List.getElem?_take] at hu
    split at hu
    · simpa using hu
    · cases hu

theorem TokCells.below {w w' : World} {v : Value} {ts : List Tok} (h : TokCells w v ts) (hb : Below w.heap.size w w') : TokCells w' v ts := by
  rcases h with h | ⟨g, cap, h1, h2, h3⟩
  · exact .inl h
  · refine .inr ⟨g, cap, h1, h2, fun j u hu => ?_⟩
    have := h3 j u hu
    exact (hb.cell (World.block_lt_of_cell? w _ this)).trans this

theorem rows_at (ts : List Tok) (k : Nat) (h : k < ts.length) : (rows ts)[k * 4]? = some (.int .i64 ts[k].kind) ∧ (rows ts)[k * 4 + 1]? = some (.int .i64 ts[k].at_) ∧ (rows ts)[k * 4 + 2]? = some (.int .i64 ts[k].n) ∧ (rows ts)[k * 4 + 3]? = some (.string ts[k].text) := by
  induction ts generalizing k with
  | nil => simp at h
  | cons t r ih =>
    cases k with
    | zero => exact ⟨rfl, rfl, rfl, rfl⟩
    | succ k =>
      have := ih k (by simpa using h)
      have e : ∀ j, (rows (t :: r))[(k + 1) * 4 + j]? = (rows r)[k * 4 + j]? := by
        intro j
        have : rows (t :: r) = t.cells ++ rows r := rfl
        rw [this, List.getElem?_append_right (by simp [Tok.cells]; omega)]
        congr 1
        simp [Tok.cells]; omega
      have e0 := e 0; have e1 := e 1; have e2 := e 2; have e3 := e 3
      simp only [Nat.add_zero] at e0
      rw [e0, e1, e2, e3]
      exact this

theorem below_new (w : World) (o : Obj) : Below w.heap.size w (w.alloc o) :=
  ⟨rfl, rfl, rfl, by simp, fun k hk => (World.grownBy_alloc w o none).block k hk (by simp)⟩

end Go.Proofs.YtafpbcdgcgffeajDoor
