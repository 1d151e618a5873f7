/-
  DERIVED. GIVEN WITH THE SEED: THE CARDS: each row of YtidojjecjjochaaGreatDoorRows.lean that lists a variable, with what it lists TIED to the program's text (the seventh form; the later family's looks); each row that meets fmt, with fmt's text TOLD by the authors' own Lean function (tested against real Go, not proved from fmt's source: count such statements apart). THE CARD IS WHAT COUNTS. Prove the row's statement (the work); the ties are given (YtidojjecjjochaaGreatDoorTie.lean); close each card by the builder's one call (the guide's Derived/Test/ToyasCard.lean, 'card_holds'). Laid BY PROGRAM, IN A SANDBOX (cutbox-door.mjs). By AI agents, Wed Nov 11 2026. No macro, syntax, notation, axiom, sorry.
-/
import Derived.Test.YtidojjecjjochaaGreatDoorRows
import GoSem.ClaimSeven
namespace Go.Proofs.YtidojjecjjochaaGreatDoor
namespace Rows

/-- THE TIED CARD OF 'laws.FnExactShareLeave'. -/
def fnExactShareLeaveCard : Claim7 := { stood := { row := fnExactShareLeaveRow, standIns := [], harness := (true, "4b99d6689ff7a89ffc12f845782f53093ba38f6e018fff34ccca961b35dca914"), looks := true }, kinds := [], alts := [], laidByText := true, laidKinds := [.handle], laidTests := true, laidLooks := .later }
def FnExactShareLeaveCardSaid : Prop := Claim7.holds Tryz.pinned (.plain (OpenSpec.ofChange fnExactShareLeaveSpec)) fnExactShareLeaveCard

/-- THE SECOND FORM's CARD OF 'laws.FnExactShareLeave'. -/
def fnExactShareLeaveUptoCard : Claim7 := { stood := { row := fnExactShareLeaveUptoRow, standIns := [], harness := (true, "4b99d6689ff7a89ffc12f845782f53093ba38f6e018fff34ccca961b35dca914"), looks := true }, kinds := [], alts := [], laidByText := true, laidKinds := [.handle], laidTests := true, laidLooks := .later }
def FnExactShareLeaveUptoCardSaid : Prop := Claim7.holds Tryz.pinned (.plain (OpenSpec.upto fnExactShareLeaveSpec)) fnExactShareLeaveUptoCard
end Rows
end Go.Proofs.YtidojjecjjochaaGreatDoor
