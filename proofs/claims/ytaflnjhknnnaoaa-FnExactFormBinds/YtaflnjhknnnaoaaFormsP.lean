/- spec.Forms: the names of the forms, in a row of its own. No conditions. -/
import Derived.Test.YtaflnjhknnnaoaaStrRow
namespace Go.Proofs.Ytaflnjhknnnaoaa
open Go.ChangeShapes Go.WideShapes Go.ChangeAt Go.RowKit

/-- The forms. -/
def formsL : List ByteArray := [⟨#[108, 97, 109, 98, 100, 97]⟩, ⟨#[108, 101, 116]⟩, ⟨#[108, 101, 116, 114, 101, 99]⟩, ⟨#[105, 102]⟩, ⟨#[113, 117, 111, 116, 101]⟩, ⟨#[108, 101, 116, 45, 115, 121, 110, 116, 97, 120]⟩, ⟨#[43]⟩, ⟨#[45]⟩, ⟨#[42]⟩, ⟨#[60]⟩, ⟨#[61]⟩, ⟨#[99, 111, 110, 115]⟩, ⟨#[99, 97, 114]⟩, ⟨#[99, 100, 114]⟩, ⟨#[112, 97, 105, 114, 63]⟩, ⟨#[112, 117, 116]⟩, ⟨#[100, 101, 102, 105, 110, 101]⟩, ⟨#[100, 101, 102, 45, 115, 121, 110, 116, 97, 120]⟩]

set_option maxRecDepth 100000 in
set_option maxHeartbeats 2000000 in
theorem spec_forms (w : World) : Calls Try.prog 15 #[] w fun e w' => ∃ u, e = .returned u ∧ Below w.heap.size w w' ∧ OwnS w' w.heap.size u formsL := by
  have HO : Hid (OwnS (w.alloc (.cells (formsL.map Value.string).toArray 9)) w.heap.size (.slice (some ⟨w.heap.size, 0, none⟩) 18 18) formsL) :=
    World.ownsRow_lit w (formsL.map Value.string).toArray 18 (Nat.le_refl _) (by unfold maxLen; omega) rfl
  go_enter Try.func15, Try.ntmps15
  go_wp2_with fail
  go_ret
  exact ⟨_, rfl, new_below w _, HO.out⟩
end Go.Proofs.Ytaflnjhknnnaoaa
