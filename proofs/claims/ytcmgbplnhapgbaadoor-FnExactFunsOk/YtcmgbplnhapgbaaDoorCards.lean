/-
  DERIVED. GIVEN WITH THE SEED: THE CARDS: each row of YtcmgbplnhapgbaaDoorRows.lean that lists a variable, with what it lists TIED to the program's text (the seventh form; the later family's looks); each row that meets fmt, with fmt's text TOLD by the authors' own Lean function (tested against real Go, not proved from fmt's source: count such statements apart). THE CARD IS WHAT COUNTS. Prove the row's statement (the work); the ties are given (YtcmgbplnhapgbaaDoorTie.lean); close each card by the builder's one call (the guide's Derived/Test/ToyasCard.lean, 'card_holds'). Laid BY PROGRAM, IN A SANDBOX (cutbox-door.mjs). By AI agents, Wed Nov 11 2026. No macro, syntax, notation, axiom, sorry.
-/
import Derived.Test.YtcmgbplnhapgbaaDoorRows
import GoSem.ClaimSeven
namespace Go.Proofs.YtcmgbplnhapgbaaDoor
namespace Rows

/-- THE TIED CARD OF 'laws.FnExactFunsOk'. -/
def fnExactFunsOkCard : Claim7 := { stood := { row := fnExactFunsOkRow, standIns := [], harness := (true, "9839c3d47579b997c4ec88bba4651fde0b41d7c3fc21953cbfd15153ccc1e8fb"), looks := false }, kinds := [], alts := [], laidByText := true, laidKinds := [.data], laidTests := true, laidLooks := .later }
def FnExactFunsOkCardSaid : Prop := Claim7.holds Tryd.pinned (.plain (OpenSpec.ofChange fnExactFunsOkSpec)) fnExactFunsOkCard

/-- THE TIED CARD OF 'laws.FnExactOpText'. -/
def fnExactOpTextCard : Claim7 := { stood := { row := fnExactOpTextRow, standIns := [], harness := (true, "9839c3d47579b997c4ec88bba4651fde0b41d7c3fc21953cbfd15153ccc1e8fb"), looks := false }, kinds := [], alts := [], laidByText := true, laidKinds := [.data, .data, .data, .data, .data, .pinned], laidTests := true, laidLooks := .later }
def FnExactOpTextCardSaid : Prop := Claim7.holds Tryd.pinned (.plain (OpenSpec.ofChange fnExactOpTextSpec)) fnExactOpTextCard

/-- THE SECOND FORM's CARD OF 'laws.FnExactFunsOk'. -/
def fnExactFunsOkUptoCard : Claim7 := { stood := { row := fnExactFunsOkUptoRow, standIns := [], harness := (true, "9839c3d47579b997c4ec88bba4651fde0b41d7c3fc21953cbfd15153ccc1e8fb"), looks := false }, kinds := [], alts := [], laidByText := true, laidKinds := [.data], laidTests := true, laidLooks := .later }
def FnExactFunsOkUptoCardSaid : Prop := Claim7.holds Tryd.pinned (.plain (OpenSpec.upto fnExactFunsOkSpec)) fnExactFunsOkUptoCard

/-- THE SECOND FORM's CARD OF 'laws.FnExactOpText'. -/
def fnExactOpTextUptoCard : Claim7 := { stood := { row := fnExactOpTextUptoRow, standIns := [], harness := (true, "9839c3d47579b997c4ec88bba4651fde0b41d7c3fc21953cbfd15153ccc1e8fb"), looks := false }, kinds := [], alts := [], laidByText := true, laidKinds := [.data, .data, .data, .data, .data, .pinned], laidTests := true, laidLooks := .later }
def FnExactOpTextUptoCardSaid : Prop := Claim7.holds Tryd.pinned (.plain (OpenSpec.upto fnExactOpTextSpec)) fnExactOpTextUptoCard
end Rows
end Go.Proofs.YtcmgbplnhapgbaaDoor
