/-
  DERIVED. GIVEN WITH THE SEED: THE CARDS: each row of YtmobpjokmngdgaaDoorRows.lean that lists a variable, with what it lists TIED to the program's text (the seventh form; the later family's looks); each row that meets fmt, with fmt's text TOLD by the authors' own Lean function (tested against real Go, not proved from fmt's source: count such statements apart). THE CARD IS WHAT COUNTS. Prove the row's statement (the work); the ties are given (YtmobpjokmngdgaaDoorTie.lean); close each card by the builder's one call (the guide's Derived/Test/ToyasCard.lean, 'card_holds'). Laid BY PROGRAM, IN A SANDBOX (cutbox-door.mjs). By AI agents, Wed Nov 11 2026. No macro, syntax, notation, axiom, sorry.
-/
import Derived.Test.YtmobpjokmngdgaaDoorRows
import GoSem.ClaimSeven
namespace Go.Proofs.YtmobpjokmngdgaaDoor
namespace Rows

/-- THE TIED CARD OF 'laws.FnExactBlocksOk'. -/
def fnExactBlocksOkCard : Claim7 := { stood := { row := fnExactBlocksOkRow, standIns := [], harness := (true, "c5fb7a1df88a95e51525b9e099a17ca0da7fa293cfa02c4c4467304ef8d25da5"), looks := false }, kinds := [], alts := [], laidByText := true, laidKinds := [.data], laidTests := true, laidLooks := .later }
def FnExactBlocksOkCardSaid : Prop := Claim7.holds Tryd.pinned (.plain (OpenSpec.ofChange fnExactBlocksOkSpec)) fnExactBlocksOkCard

/-- THE SECOND FORM's CARD OF 'laws.FnExactBlocksOk'. -/
def fnExactBlocksOkUptoCard : Claim7 := { stood := { row := fnExactBlocksOkUptoRow, standIns := [], harness := (true, "c5fb7a1df88a95e51525b9e099a17ca0da7fa293cfa02c4c4467304ef8d25da5"), looks := false }, kinds := [], alts := [], laidByText := true, laidKinds := [.data], laidTests := true, laidLooks := .later }
def FnExactBlocksOkUptoCardSaid : Prop := Claim7.holds Tryd.pinned (.plain (OpenSpec.upto fnExactBlocksOkSpec)) fnExactBlocksOkUptoCard
end Rows
end Go.Proofs.YtmobpjokmngdgaaDoor
