/- laws.eqStringS, laws.markStringS, laws.heldStringS. Condition: at most 2^22 texts, numbers below 10^15. -/
import Derived.Test.YtaflnjhknnnaoaaStrRow
import Derived.Test.YtaflnjhknnnaoaaMarkText
import Derived.BigQuiet
import Derived.Deep.QuietTactic
import Derived.Deep.RegionWith
namespace Go.Proofs.Ytaflnjhknnnaoaa
open Go.ChangeShapes Go.WideShapes Go.ChangeAt Go.RowKit

/-- The marks from q on. -/
def marksS (q n : Nat) : List ByteArray := (List.range n).map fun i => markB (q + i)
theorem marksS_len (q n : Nat) : (marksS q n).length = n := by simp [marksS]
theorem marksS_get (q n k : Nat) (h : k < n) : (marksS q n).getD k ⟨#[]⟩ = markB (q + k) := by simp [marksS, List.getD_eq_getElem?_getD, h]
theorem row_setV {A Z : List Value} {k : Nat} {x : Value} (hk : A[k]? = some x) (hZ : Z.length = A.length) : (A.take k ++ Z.drop k).set k x = A.take (k + 1) ++ Z.drop (k + 1) := by
  have hk' : k < A.length := (List.getElem?_eq_some_iff.1 hk).1
  have hl : (A.take k).length = k := by rw [List.length_take]; omega
  rw [List.set_append_right _ _ (by omega), hl, Nat.sub_self, List.drop_eq_getElem_cons (by omega : k < Z.length), List.set_cons_zero, List.take_add_one, hk]
  simp

end Go.Proofs.Ytaflnjhknnnaoaa
