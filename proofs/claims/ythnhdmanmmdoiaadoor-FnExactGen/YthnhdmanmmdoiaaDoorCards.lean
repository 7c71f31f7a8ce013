/-
  DERIVED. GIVEN WITH THE SEED: THE CARDS: each row of YthnhdmanmmdoiaaDoorRows.lean that lists a variable, with what it lists TIED to the program's text (the seventh form; the later family's looks); each row that meets fmt, with fmt's text TOLD by the authors' own Lean function (tested against real Go, not proved from fmt's source: count such statements apart). THE CARD IS WHAT COUNTS. Prove the row's statement (the work); the ties are given (YthnhdmanmmdoiaaDoorTie.lean); close each card by the builder's one call (the guide's Derived/Test/ToyasCard.lean, 'card_holds'). Laid BY PROGRAM, IN A SANDBOX (cutbox-door.mjs). By AI agents, Wed Nov 11 2026. No macro, syntax, notation, axiom, sorry.
-/
import Derived.Test.YthnhdmanmmdoiaaDoorRows
import GoSem.ClaimSeven
namespace Go.Proofs.YthnhdmanmmdoiaaDoor
namespace Rows

/-- THE TIED CARD OF 'laws.FnExactGen'. -/
def fnExactGenCard : Claim7 := { stood := { row := fnExactGenRow, standIns := [], harness := (true, "9222c8cb9a367ee4c97c03fee70355a17c3449e199978734a3478bbf41db290f"), looks := false }, kinds := [], alts := [], laidByText := true, laidKinds := [.data, .data, .data], laidTests := true, laidLooks := .later }
def FnExactGenCardSaid : Prop := Claim7.holds Tryd.pinned (.plain (OpenSpec.ofChange fnExactGenSpec)) fnExactGenCard

/-- THE SECOND FORM's CARD OF 'laws.FnExactGen'. -/
def fnExactGenUptoCard : Claim7 := { stood := { row := fnExactGenUptoRow, standIns := [], harness := (true, "9222c8cb9a367ee4c97c03fee70355a17c3449e199978734a3478bbf41db290f"), looks := false }, kinds := [], alts := [], laidByText := true, laidKinds := [.data, .data, .data], laidTests := true, laidLooks := .later }
def FnExactGenUptoCardSaid : Prop := Claim7.holds Tryd.pinned (.plain (OpenSpec.upto fnExactGenSpec)) fnExactGenUptoCard
end Rows
end Go.Proofs.YthnhdmanmmdoiaaDoor
