/-
  DERIVED. GIVEN WITH THE SEED: THE CARDS: each row of YtoljphjmekkneaaDoorRows.lean that lists a variable, with what it lists TIED to the program's text (the seventh form; the later family's looks); each row that meets fmt, with fmt's text TOLD by the authors' own Lean function (tested against real Go, not proved from fmt's source: count such statements apart). THE CARD IS WHAT COUNTS. Prove the row's statement (the work); the ties are given (YtoljphjmekkneaaDoorTie.lean); close each card by the builder's one call (the guide's Derived/Test/ToyasCard.lean, 'card_holds'). Laid BY PROGRAM, IN A SANDBOX (cutbox-door.mjs). By AI agents, Wed Nov 11 2026. No macro, syntax, notation, axiom, sorry.
-/
import Derived.Test.YtoljphjmekkneaaDoorRows
import GoSem.ClaimSeven
namespace Go.Proofs.YtoljphjmekkneaaDoor
namespace Rows

/-- THE TIED CARD OF 'laws.FnExactCoreText'. -/
def fnExactCoreTextCard : Claim7 := { stood := { row := fnExactCoreTextRow, standIns := [], harness := (true, "ef3094edf3f3278291e409d2238b38aa2a30a48061b28e0915f4dbc768acda4f"), looks := false }, kinds := [], alts := [], laidByText := true, laidKinds := [.data, .data, .data, .data], laidTests := true, laidLooks := .later }
def FnExactCoreTextCardSaid : Prop := Claim7.holds Tryd.pinned (.plain (OpenSpec.ofChange fnExactCoreTextSpec)) fnExactCoreTextCard

/-- THE TIED CARD OF 'laws.FnExactCoreOk'. -/
def fnExactCoreOkCard : Claim7 := { stood := { row := fnExactCoreOkRow, standIns := [], harness := (true, "ef3094edf3f3278291e409d2238b38aa2a30a48061b28e0915f4dbc768acda4f"), looks := false }, kinds := [], alts := [], laidByText := true, laidKinds := [.data], laidTests := true, laidLooks := .later }
def FnExactCoreOkCardSaid : Prop := Claim7.holds Tryd.pinned (.plain (OpenSpec.ofChange fnExactCoreOkSpec)) fnExactCoreOkCard

/-- THE SECOND FORM's CARD OF 'laws.FnExactCoreText'. -/
def fnExactCoreTextUptoCard : Claim7 := { stood := { row := fnExactCoreTextUptoRow, standIns := [], harness := (true, "ef3094edf3f3278291e409d2238b38aa2a30a48061b28e0915f4dbc768acda4f"), looks := false }, kinds := [], alts := [], laidByText := true, laidKinds := [.data, .data, .data, .data], laidTests := true, laidLooks := .later }
def FnExactCoreTextUptoCardSaid : Prop := Claim7.holds Tryd.pinned (.plain (OpenSpec.upto fnExactCoreTextSpec)) fnExactCoreTextUptoCard

/-- THE SECOND FORM's CARD OF 'laws.FnExactCoreOk'. -/
def fnExactCoreOkUptoCard : Claim7 := { stood := { row := fnExactCoreOkUptoRow, standIns := [], harness := (true, "ef3094edf3f3278291e409d2238b38aa2a30a48061b28e0915f4dbc768acda4f"), looks := false }, kinds := [], alts := [], laidByText := true, laidKinds := [.data], laidTests := true, laidLooks := .later }
def FnExactCoreOkUptoCardSaid : Prop := Claim7.holds Tryd.pinned (.plain (OpenSpec.upto fnExactCoreOkSpec)) fnExactCoreOkUptoCard
end Rows
end Go.Proofs.YtoljphjmekkneaaDoor
