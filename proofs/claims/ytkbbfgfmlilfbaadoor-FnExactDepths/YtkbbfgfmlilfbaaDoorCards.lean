/-
  DERIVED. GIVEN WITH THE SEED: THE CARDS: each row of YtkbbfgfmlilfbaaDoorRows.lean that lists a variable, with what it lists TIED to the program's text (the seventh form; the later family's looks); each row that meets fmt, with fmt's text TOLD by the authors' own Lean function (tested against real Go, not proved from fmt's source: count such statements apart). THE CARD IS WHAT COUNTS. Prove the row's statement (the work); the ties are given (YtkbbfgfmlilfbaaDoorTie.lean); close each card by the builder's one call (the guide's Derived/Test/ToyasCard.lean, 'card_holds'). Laid BY PROGRAM, IN A SANDBOX (cutbox-door.mjs). By AI agents, Wed Nov 11 2026. No macro, syntax, notation, axiom, sorry.
-/
import Derived.Test.YtkbbfgfmlilfbaaDoorRows
import GoSem.ClaimSeven
namespace Go.Proofs.YtkbbfgfmlilfbaaDoor
namespace Rows

/-- THE TIED CARD OF 'laws.FnExactEffect'. -/
def fnExactEffectCard : Claim7 := { stood := { row := fnExactEffectRow, standIns := [], harness := (true, "b1f0aaccf3e9cbb9c7315d788d0d17d50650856f53d54c33f5017f7b5cb522af"), looks := false }, kinds := [], alts := [], laidByText := true, laidKinds := [.data], laidTests := true, laidLooks := .later }
def FnExactEffectCardSaid : Prop := Claim7.holds Tryd.pinned (.plain (OpenSpec.ofChange fnExactEffectSpec)) fnExactEffectCard

/-- THE TIED CARD OF 'laws.FnExactDepths'. -/
def fnExactDepthsCard : Claim7 := { stood := { row := fnExactDepthsRow, standIns := [], harness := (true, "b1f0aaccf3e9cbb9c7315d788d0d17d50650856f53d54c33f5017f7b5cb522af"), looks := false }, kinds := [], alts := [], laidByText := true, laidKinds := [.data], laidTests := true, laidLooks := .later }
def FnExactDepthsCardSaid : Prop := Claim7.holds Tryd.pinned (.plain (OpenSpec.ofChange fnExactDepthsSpec)) fnExactDepthsCard

/-- THE TIED CARD OF 'laws.FnExactVerify'. -/
def fnExactVerifyCard : Claim7 := { stood := { row := fnExactVerifyRow, standIns := [], harness := (true, "b1f0aaccf3e9cbb9c7315d788d0d17d50650856f53d54c33f5017f7b5cb522af"), looks := false }, kinds := [], alts := [], laidByText := true, laidKinds := [.data], laidTests := true, laidLooks := .later }
def FnExactVerifyCardSaid : Prop := Claim7.holds Tryd.pinned (.plain (OpenSpec.ofChange fnExactVerifySpec)) fnExactVerifyCard

/-- THE SECOND FORM's CARD OF 'laws.FnExactEffect'. -/
def fnExactEffectUptoCard : Claim7 := { stood := { row := fnExactEffectUptoRow, standIns := [], harness := (true, "b1f0aaccf3e9cbb9c7315d788d0d17d50650856f53d54c33f5017f7b5cb522af"), looks := false }, kinds := [], alts := [], laidByText := true, laidKinds := [.data], laidTests := true, laidLooks := .later }
def FnExactEffectUptoCardSaid : Prop := Claim7.holds Tryd.pinned (.plain (OpenSpec.upto fnExactEffectSpec)) fnExactEffectUptoCard

/-- THE SECOND FORM's CARD OF 'laws.FnExactDepths'. -/
def fnExactDepthsUptoCard : Claim7 := { stood := { row := fnExactDepthsUptoRow, standIns := [], harness := (true, "b1f0aaccf3e9cbb9c7315d788d0d17d50650856f53d54c33f5017f7b5cb522af"), looks := false }, kinds := [], alts := [], laidByText := true, laidKinds := [.data], laidTests := true, laidLooks := .later }
def FnExactDepthsUptoCardSaid : Prop := Claim7.holds Tryd.pinned (.plain (OpenSpec.upto fnExactDepthsSpec)) fnExactDepthsUptoCard

/-- THE SECOND FORM's CARD OF 'laws.FnExactVerify'. -/
def fnExactVerifyUptoCard : Claim7 := { stood := { row := fnExactVerifyUptoRow, standIns := [], harness := (true, "b1f0aaccf3e9cbb9c7315d788d0d17d50650856f53d54c33f5017f7b5cb522af"), looks := false }, kinds := [], alts := [], laidByText := true, laidKinds := [.data], laidTests := true, laidLooks := .later }
def FnExactVerifyUptoCardSaid : Prop := Claim7.holds Tryd.pinned (.plain (OpenSpec.upto fnExactVerifySpec)) fnExactVerifyUptoCard
end Rows
end Go.Proofs.YtkbbfgfmlilfbaaDoor
