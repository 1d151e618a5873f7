/-
  DERIVED. GIVEN WITH THE SEED: THE CARDS: each row of YtidojjecjjochacGreatDoorRows.lean that lists a variable, with what it lists TIED to the program's text (the seventh form; the later family's looks); each row that meets fmt, with fmt's text TOLD by the authors' own Lean function (tested against real Go, not proved from fmt's source: count such statements apart). THE CARD IS WHAT COUNTS. Prove the row's statement (the work); the ties are given (YtidojjecjjochacGreatDoorTie.lean); close each card by the builder's one call (the guide's Derived/Test/ToyasCard.lean, 'card_holds'). Laid BY PROGRAM, IN A SANDBOX (cutbox-door.mjs). By AI agents, Wed Nov 11 2026. No macro, syntax, notation, axiom, sorry.
-/
import Derived.Test.YtidojjecjjochacGreatDoorRows
import GoSem.ClaimSeven
namespace Go.Proofs.YtidojjecjjochacGreatDoor
namespace Rows

/-- THE TIED CARD OF 'laws.FnExactShareEnter'. -/
def fnExactShareEnterCard : Claim7 := { stood := { row := fnExactShareEnterRow, standIns := [], harness := (true, "00079d10ef9b802db1da20700cd20beba9bc4f13070c5e6eedf116c01c1e8c0e"), looks := true }, kinds := [], alts := [], laidByText := true, laidKinds := [.handle], laidTests := true, laidLooks := .later }
def FnExactShareEnterCardSaid : Prop := Claim7.holds Tryz.pinned (.plain (OpenSpec.ofChange fnExactShareEnterSpec)) fnExactShareEnterCard

/-- THE SECOND FORM's CARD OF 'laws.FnExactShareEnter'. -/
def fnExactShareEnterUptoCard : Claim7 := { stood := { row := fnExactShareEnterUptoRow, standIns := [], harness := (true, "00079d10ef9b802db1da20700cd20beba9bc4f13070c5e6eedf116c01c1e8c0e"), looks := true }, kinds := [], alts := [], laidByText := true, laidKinds := [.handle], laidTests := true, laidLooks := .later }
def FnExactShareEnterUptoCardSaid : Prop := Claim7.holds Tryz.pinned (.plain (OpenSpec.upto fnExactShareEnterSpec)) fnExactShareEnterUptoCard
end Rows
end Go.Proofs.YtidojjecjjochacGreatDoor
