/- The names of ops are such as may be told. No conditions. -/
import Derived.Test.YtocdpgogoadfnaaDoorOpName
namespace Go.Proofs.YtocdpgogoadfnaaDoor
open Go.ChangeShapes Go.WideShapes Go.ChangeAt Go.RowKit

/-- A name as it may be told. -/
def NameOk (l : List UInt8) : Prop := 1 ≤ l.length ∧ l.length ≤ 5 ∧ ∀ j, j < l.length → ((l.getD j 0).toNat : Int) ≠ 0
instance (l : List UInt8) : Decidable (NameOk l) := by unfold NameOk; infer_instance
theorem name_ok : ∀ i : Nat, 1 ≤ i → i ≤ 21 → NameOk (opL.getD i [])
  | 0, h, _ => absurd h (by omega)
  | 1, _, _ => by decide
  | 2, _, _ => by decide
  | 3, _, _ => by decide
  | 4, _, _ => by decide
  | 5, _, _ => by decide
  | 6, _, _ => by decide
  | 7, _, _ => by decide
  | 8, _, _ => by decide
  | 9, _, _ => by decide
  | 10, _, _ => by decide
  | 11, _, _ => by decide
  | 12, _, _ => by decide
  | 13, _, _ => by decide
  | 14, _, _ => by decide
  | 15, _, _ => by decide
  | 16, _, _ => by decide
  | 17, _, _ => by decide
  | 18, _, _ => by decide
  | 19, _, _ => by decide
  | 20, _, _ => by decide
  | 21, _, _ => by decide
  | n + 22, _, h => absurd h (by omega)
theorem name_full {l : List UInt8} (h : NameOk l) : (five l == [0, 0, 0, 0, 0]) = false := by
  have := h.2.2 0 h.1
  unfold five
  rw [Bool.eq_false_iff]
  intro hb
  have hb' := eq_of_beq hb
  injection hb' with h1 _
  rw [h1] at this
  exact this rfl

end Go.Proofs.YtocdpgogoadfnaaDoor
