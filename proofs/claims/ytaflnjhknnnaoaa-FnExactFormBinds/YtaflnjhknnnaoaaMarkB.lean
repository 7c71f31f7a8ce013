/- What a mark's text is. No conditions. -/
import Derived.Lib.ItoaNum
import Derived.Lib.ItoaLen
namespace Go.Proofs.Ytaflnjhknnnaoaa

/-- What markText answers at k. -/
def markB (k : Nat) : ByteArray := ⟨(109 :: Lib.decDigits k).toArray⟩

theorem markB_sizeX (c : Nat) (h : c ≤ 100000000000000) : (markB c).size ≤ maxLen := by
  have h1 : (markB c).size = 1 + (Lib.decDigits c).length := by show ((109 :: Lib.decDigits c).toArray).size = _; simp; omega
  have h2 : (Lib.decDigits c).length ≤ 20 := by rw [Lib.decDigits_length]; exact Lib.nDigits_le20 c (by omega)
  unfold maxLen; omega
end Go.Proofs.Ytaflnjhknnnaoaa
