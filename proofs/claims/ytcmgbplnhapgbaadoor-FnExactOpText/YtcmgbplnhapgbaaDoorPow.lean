/- The library's table of powers of ten, and (impl.word).digits at every int: the decimal digits, a minus ahead of one below 0. Condition: the table reads as its text lays it. -/
import Derived.Test.YtcmgbplnhapgbaaDoorRows
import Derived.Test.YtcmgbplnhapgbaaDoorItoa
import Derived.WalkKit
import Derived.ProofKit
import Derived.Below
import Derived.WalkSmall
namespace Go.Proofs.YtcmgbplnhapgbaaDoor
open Go.ChangeShapes Go.WideShapes Go.ChangeAt Go.RowKit

/-- The library's table of powers of ten lies as its text has it. -/
def PowTab (w : World) : Prop := Lib.TabIs Tryd.prog w "internal/strconv.uint64pow10" .u64 Lib.pow10Tab

theorem gPow : Tryd.prog.globalNamed "internal/strconv.uint64pow10" = some 3 := by kernel_rfl

theorem PowTab.lt {w : World} (h : PowTab w) : 3 < w.heap.size := by
  unfold PowTab Lib.TabIs World.var? at h
  rw [gPow] at h
  simp only [Option.bind_some] at h
  rcases Nat.lt_or_ge 3 w.heap.size with hl | hl
  · exact hl
  · rw [Array.getElem?_eq_none hl] at h
    simp at h

theorem PowTab.below {w w' : World} (h : PowTab w) (hb : Below w.heap.size w w') : PowTab w' :=
  var?_below hb gPow h.lt h

theorem below_grow (w : World) (k : Nat) (os : Array Obj) : Below w.heap.size w (Sort.grow (w.drewN k) os) := by
  refine ⟨rfl, rfl, rfl, ?_, ?_⟩
  · simp [Sort.grow]
  · intro j hj
    simp [Sort.grow, Array.getElem?_append, hj]

/-- (impl.word).digits at every int. -/
theorem word_digits (n : Int) (h0 : -9223372036854775808 ≤ n) (h1 : n ≤ 9223372036854775807) (w : World) (ht : PowTab w) :
    Calls Tryd.prog 34 #[.int .i64 n] w fun e w' => e = .returned (.string ⟨(Lib.itoa n).toArray⟩) ∧ Below w.heap.size w w' := by
  have HS : Hid (Calls Tryd.prog 42 #[.int .i64 n] w fun e w' => e = .returned (.string ⟨(Lib.itoa n).toArray⟩) ∧ ∃ k os, w' = Sort.grow (w.drewN k) os) := Tryd.strconv_Itoa n h0 h1 w ht
  go_enter Tryd.func34, Tryd.ntmps34
  go_wp2_with (go_at_call 42; refine HS.out.mono ?_; rintro e w' ⟨rfl, k, os, rfl⟩)
  go_ret
  exact ⟨rfl, below_grow w k os⟩

end Go.Proofs.YtcmgbplnhapgbaaDoor
