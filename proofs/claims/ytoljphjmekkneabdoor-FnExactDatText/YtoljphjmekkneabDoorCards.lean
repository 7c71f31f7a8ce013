/-
  DERIVED. GIVEN WITH THE SEED: THE CARDS: each row of YtoljphjmekkneabDoorRows.lean that lists a variable, with what it lists TIED to the program's text (the seventh form; the later family's looks); each row that meets fmt, with fmt's text TOLD by the authors' own Lean function (tested against real Go, not proved from fmt's source: count such statements apart). THE CARD IS WHAT COUNTS. Prove the row's statement (the work); the ties are given (YtoljphjmekkneabDoorTie.lean); close each card by the builder's one call (the guide's Derived/Test/ToyasCard.lean, 'card_holds'). Laid BY PROGRAM, IN A SANDBOX (cutbox-door.mjs). By AI agents, Wed Nov 11 2026. No macro, syntax, notation, axiom, sorry.
-/
import Derived.Test.YtoljphjmekkneabDoorRows
import GoSem.ClaimSeven
namespace Go.Proofs.YtoljphjmekkneabDoor
namespace Rows

/-- THE TIED CARD OF 'laws.FnExactDatText'. -/
def fnExactDatTextCard : Claim7 := { stood := { row := fnExactDatTextRow, standIns := [], harness := (true, "4fac75a2dfbf338951ad41098b6a99ef3062417dabd9b03a25b3a8c381f97116"), looks := false }, kinds := [], alts := [], laidByText := true, laidKinds := [.data, .data, .data], laidTests := true, laidLooks := .later }
def FnExactDatTextCardSaid : Prop := Claim7.holds Tryd.pinned (.plain (OpenSpec.ofChange fnExactDatTextSpec)) fnExactDatTextCard

/-- THE SECOND FORM's CARD OF 'laws.FnExactDatText'. -/
def fnExactDatTextUptoCard : Claim7 := { stood := { row := fnExactDatTextUptoRow, standIns := [], harness := (true, "4fac75a2dfbf338951ad41098b6a99ef3062417dabd9b03a25b3a8c381f97116"), looks := false }, kinds := [], alts := [], laidByText := true, laidKinds := [.data, .data, .data], laidTests := true, laidLooks := .later }
def FnExactDatTextUptoCardSaid : Prop := Claim7.holds Tryd.pinned (.plain (OpenSpec.upto fnExactDatTextSpec)) fnExactDatTextUptoCard
end Rows
end Go.Proofs.YtoljphjmekkneabDoor
