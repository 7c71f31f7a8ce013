/-
  DERIVED. GIVEN WITH THE SEED: THE CARDS: each row of YtafpbcdgcgffeajDoorRows.lean that lists a variable, with what it lists TIED to the program's text (the seventh form; the later family's looks); each row that meets fmt, with fmt's text TOLD by the authors' own Lean function (tested against real Go, not proved from fmt's source: count such statements apart). THE CARD IS WHAT COUNTS. Prove the row's statement (the work); the ties are given (YtafpbcdgcgffeajDoorTie.lean); close each card by the builder's one call (the guide's Derived/Test/ToyasCard.lean, 'card_holds'). Laid BY PROGRAM, IN A SANDBOX (cutbox-door.mjs). By AI agents, Wed Nov 11 2026. No macro, syntax, notation, axiom, sorry.
-/
import Derived.Test.YtafpbcdgcgffeajDoorRows
import GoSem.ClaimSeven
namespace Go.Proofs.YtafpbcdgcgffeajDoor
namespace Rows

/-- THE TIED CARD OF 'laws.FnExactTokens'. -/
def fnExactTokensCard : Claim7 := { stood := { row := fnExactTokensRow, standIns := [], harness := (true, "b4af8df5c754d6e38c185d803aaca2a211374408fd3dab13bc36fce12b8b14ab"), looks := true }, kinds := [], alts := [], laidByText := true, laidKinds := [.data, .data, .data, .sentinel, .sentinel], laidTests := true, laidLooks := .later }
def FnExactTokensCardSaid : Prop := Claim7.holds Tryd.pinned (.plain (OpenSpec.ofChange fnExactTokensSpec)) fnExactTokensCard

/-- THE TIED CARD OF 'laws.FnExactReadAll'. -/
def fnExactReadAllCard : Claim7 := { stood := { row := fnExactReadAllRow, standIns := [], harness := (true, "b4af8df5c754d6e38c185d803aaca2a211374408fd3dab13bc36fce12b8b14ab"), looks := true }, kinds := [], alts := [], laidByText := true, laidKinds := [.data, .data, .data, .sentinel, .sentinel], laidTests := true, laidLooks := .later }
def FnExactReadAllCardSaid : Prop := Claim7.holds Tryd.pinned (.plain (OpenSpec.ofChange fnExactReadAllSpec)) fnExactReadAllCard

/-- THE TIED CARD OF 'laws.FnExactDatText'. -/
def fnExactDatTextCard : Claim7 := { stood := { row := fnExactDatTextRow, standIns := [], harness := (true, "b4af8df5c754d6e38c185d803aaca2a211374408fd3dab13bc36fce12b8b14ab"), looks := true }, kinds := [], alts := [], laidByText := true, laidKinds := [.data, .data, .data], laidTests := true, laidLooks := .later }
def FnExactDatTextCardSaid : Prop := Claim7.holds Tryd.pinned (.plain (OpenSpec.ofChange fnExactDatTextSpec)) fnExactDatTextCard

/-- THE SECOND FORM's CARD OF 'laws.FnExactTokens'. -/
def fnExactTokensUptoCard : Claim7 := { stood := { row := fnExactTokensUptoRow, standIns := [], harness := (true, "b4af8df5c754d6e38c185d803aaca2a211374408fd3dab13bc36fce12b8b14ab"), looks := true }, kinds := [], alts := [], laidByText := true, laidKinds := [.data, .data, .data, .sentinel, .sentinel], laidTests := true, laidLooks := .later }
def FnExactTokensUptoCardSaid : Prop := Claim7.holds Tryd.pinned (.plain (OpenSpec.upto fnExactTokensSpec)) fnExactTokensUptoCard

/-- THE SECOND FORM's CARD OF 'laws.FnExactReadAll'. -/
def fnExactReadAllUptoCard : Claim7 := { stood := { row := fnExactReadAllUptoRow, standIns := [], harness := (true, "b4af8df5c754d6e38c185d803aaca2a211374408fd3dab13bc36fce12b8b14ab"), looks := true }, kinds := [], alts := [], laidByText := true, laidKinds := [.data, .data, .data, .sentinel, .sentinel], laidTests := true, laidLooks := .later }
def FnExactReadAllUptoCardSaid : Prop := Claim7.holds Tryd.pinned (.plain (OpenSpec.upto fnExactReadAllSpec)) fnExactReadAllUptoCard

/-- THE SECOND FORM's CARD OF 'laws.FnExactDatText'. -/
def fnExactDatTextUptoCard : Claim7 := { stood := { row := fnExactDatTextUptoRow, standIns := [], harness := (true, "b4af8df5c754d6e38c185d803aaca2a211374408fd3dab13bc36fce12b8b14ab"), looks := true }, kinds := [], alts := [], laidByText := true, laidKinds := [.data, .data, .data], laidTests := true, laidLooks := .later }
def FnExactDatTextUptoCardSaid : Prop := Claim7.holds Tryd.pinned (.plain (OpenSpec.upto fnExactDatTextSpec)) fnExactDatTextUptoCard
end Rows
end Go.Proofs.YtafpbcdgcgffeajDoor
