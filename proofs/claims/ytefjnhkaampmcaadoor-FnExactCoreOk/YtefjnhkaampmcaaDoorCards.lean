/-
  DERIVED. GIVEN WITH THE SEED: THE CARDS: each row of YtefjnhkaampmcaaDoorRows.lean that lists a variable, with what it lists TIED to the program's text (the seventh form; the later family's looks); each row that meets fmt, with fmt's text TOLD by the authors' own Lean function (tested against real Go, not proved from fmt's source: count such statements apart). THE CARD IS WHAT COUNTS. Prove the row's statement (the work); the ties are given (YtefjnhkaampmcaaDoorTie.lean); close each card by the builder's one call (the guide's Derived/Test/ToyasCard.lean, 'card_holds'). Laid BY PROGRAM, IN A SANDBOX (cutbox-door.mjs). By AI agents, Wed Nov 11 2026. No macro, syntax, notation, axiom, sorry.
-/
import Derived.Test.YtefjnhkaampmcaaDoorRows
import GoSem.ClaimSeven
namespace Go.Proofs.YtefjnhkaampmcaaDoor
namespace Rows

/-- THE TIED CARD OF 'laws.FnExactCoreOk'. -/
def fnExactCoreOkCard : Claim7 := { stood := { row := fnExactCoreOkRow, standIns := [], harness := (true, "035b0101427a915ced51b834eae9e23c12703477249e9ab180b5f1dd4fc589e0"), looks := false }, kinds := [], alts := [], laidByText := true, laidKinds := [.data], laidTests := true, laidLooks := .later }
def FnExactCoreOkCardSaid : Prop := Claim7.holds Tryd.pinned (.plain (OpenSpec.ofChange fnExactCoreOkSpec)) fnExactCoreOkCard

/-- THE SECOND FORM's CARD OF 'laws.FnExactCoreOk'. -/
def fnExactCoreOkUptoCard : Claim7 := { stood := { row := fnExactCoreOkUptoRow, standIns := [], harness := (true, "035b0101427a915ced51b834eae9e23c12703477249e9ab180b5f1dd4fc589e0"), looks := false }, kinds := [], alts := [], laidByText := true, laidKinds := [.data], laidTests := true, laidLooks := .later }
def FnExactCoreOkUptoCardSaid : Prop := Claim7.holds Tryd.pinned (.plain (OpenSpec.upto fnExactCoreOkSpec)) fnExactCoreOkUptoCard
end Rows
end Go.Proofs.YtefjnhkaampmcaaDoor
