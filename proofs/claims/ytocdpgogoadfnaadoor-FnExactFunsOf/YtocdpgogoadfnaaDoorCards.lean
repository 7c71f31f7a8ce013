/-
  DERIVED. GIVEN WITH THE SEED: THE CARDS: each row of YtocdpgogoadfnaaDoorRows.lean that lists a variable, with what it lists TIED to the program's text (the seventh form; the later family's looks); each row that meets fmt, with fmt's text TOLD by the authors' own Lean function (tested against real Go, not proved from fmt's source: count such statements apart). THE CARD IS WHAT COUNTS. Prove the row's statement (the work); the ties are given (YtocdpgogoadfnaaDoorTie.lean); close each card by the builder's one call (the guide's Derived/Test/ToyasCard.lean, 'card_holds'). Laid BY PROGRAM, IN A SANDBOX (cutbox-door.mjs). By AI agents, Wed Nov 11 2026. No macro, syntax, notation, axiom, sorry.
-/
import Derived.Test.YtocdpgogoadfnaaDoorRows
import GoSem.ClaimSeven
namespace Go.Proofs.YtocdpgogoadfnaaDoor
namespace Rows

/-- THE TIED CARD OF 'laws.FnExactFunsBytes'. -/
def fnExactFunsBytesCard : Claim7 := { stood := { row := fnExactFunsBytesRow, standIns := [], harness := (true, "a7e8fa8c40a670e1e64ea5592409d2f9c70c63331d8b092feb11004f4326d09c"), looks := false }, kinds := [], alts := [], laidByText := true, laidKinds := [.data], laidTests := true, laidLooks := .later }
def FnExactFunsBytesCardSaid : Prop := Claim7.holds Tryd.pinned (.plain (OpenSpec.ofChange fnExactFunsBytesSpec)) fnExactFunsBytesCard

/-- THE TIED CARD OF 'laws.FnExactFunsOf'. -/
def fnExactFunsOfCard : Claim7 := { stood := { row := fnExactFunsOfRow, standIns := [], harness := (true, "a7e8fa8c40a670e1e64ea5592409d2f9c70c63331d8b092feb11004f4326d09c"), looks := false }, kinds := [], alts := [], laidByText := true, laidKinds := [.data], laidTests := true, laidLooks := .later }
def FnExactFunsOfCardSaid : Prop := Claim7.holds Tryd.pinned (.plain (OpenSpec.ofChange fnExactFunsOfSpec)) fnExactFunsOfCard

/-- THE SECOND FORM's CARD OF 'laws.FnExactFunsBytes'. -/
def fnExactFunsBytesUptoCard : Claim7 := { stood := { row := fnExactFunsBytesUptoRow, standIns := [], harness := (true, "a7e8fa8c40a670e1e64ea5592409d2f9c70c63331d8b092feb11004f4326d09c"), looks := false }, kinds := [], alts := [], laidByText := true, laidKinds := [.data], laidTests := true, laidLooks := .later }
def FnExactFunsBytesUptoCardSaid : Prop := Claim7.holds Tryd.pinned (.plain (OpenSpec.upto fnExactFunsBytesSpec)) fnExactFunsBytesUptoCard

/-- THE SECOND FORM's CARD OF 'laws.FnExactFunsOf'. -/
def fnExactFunsOfUptoCard : Claim7 := { stood := { row := fnExactFunsOfUptoRow, standIns := [], harness := (true, "a7e8fa8c40a670e1e64ea5592409d2f9c70c63331d8b092feb11004f4326d09c"), looks := false }, kinds := [], alts := [], laidByText := true, laidKinds := [.data], laidTests := true, laidLooks := .later }
def FnExactFunsOfUptoCardSaid : Prop := Claim7.holds Tryd.pinned (.plain (OpenSpec.upto fnExactFunsOfSpec)) fnExactFunsOfUptoCard
end Rows
end Go.Proofs.YtocdpgogoadfnaaDoor
