/- A slice of bytes that came in can be read as a draw's code. Condition: it has at most 2^20 bytes. -/
import Derived.Test.YtgcegjgjegkahabCur2
import Derived.OpenShut
namespace Go.Proofs.Ytgcegjgjegkahab
open Go.ChangeShapes Go.WideShapes Go.ChangeAt Go.RowKit

/-- What is told of a slice of bytes that came in: nil, or a row of cells. -/
def ByteRow (w : World) (a : Option Addr) (len cap : Nat) : Prop :=
  (a = none ∧ len = 0 ∧ cap = 0) ∨
  ∃ (x : Addr) (zs : List Int), a = some x ∧ len ≤ cap ∧ cap ≤ maxLen ∧ zs.length = cap ∧ (∀ i, i < zs.length → w.cell? (x.add i) = some (.int .u8 (zs.getD i 0))) ∧ ∀ n ∈ zs, (Lit.int .u8 n).wf = true

theorem codeOk_of_row {w : World} {a : Option Addr} {len cap : Nat} (h : ByteRow w a len cap) (hl : len ≤ 1048576) : CodeOk a len w.heap.size w := by
  refine ⟨hl, ?_⟩
  rcases h with ⟨_, h, _⟩ | ⟨x, zs, rfl, h1, _, h3, hc, hw⟩
  · exact .inl h
  by_cases h0 : len = 0
  · exact .inl h0
  obtain ⟨b, off, rfl, hc'⟩ := ints_at hc (by omega)
  have hin : ∀ j, j < len → w.cell? ⟨b, off + j, none⟩ = some (.int .u8 (zs.getD j 0)) := fun j hj => by first | exact hc' j (by omega) | simpa using hc' j (by omega)
  refine .inr ⟨b, off, rfl, cell_lt (hin 0 (by omega)), fun j hj => ⟨zs.getD j 0, ?_, ?_, hin j hj⟩⟩
  all_goals
    have hm : zs.getD j 0 ∈ zs := getD_mem (by omega) _
    have hb := bounds_u8 (hw _ hm)
    omega
end Go.Proofs.Ytgcegjgjegkahab
