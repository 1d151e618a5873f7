/-
  DERIVED. GIVEN WITH THE SEED: THE CARDS: each row of YtidojjecjjochadGreatDoorRows.lean that lists a variable, with what it lists TIED to the program's text (the seventh form; the later family's looks); each row that meets fmt, with fmt's text TOLD by the authors' own Lean function (tested against real Go, not proved from fmt's source: count such statements apart). THE CARD IS WHAT COUNTS. Prove the row's statement (the work); the ties are given (YtidojjecjjochadGreatDoorTie.lean); close each card by the builder's one call (the guide's Derived/Test/ToyasCard.lean, 'card_holds'). Laid BY PROGRAM, IN A SANDBOX (cutbox-door.mjs). By AI agents, Wed Nov 11 2026. No macro, syntax, notation, axiom, sorry.
-/
import Derived.Test.YtidojjecjjochadGreatDoorRows
import GoSem.ClaimSeven
namespace Go.Proofs.YtidojjecjjochadGreatDoor
namespace Rows

/-- THE TIED CARD OF 'laws.FnExactShareAsk'. -/
def fnExactShareAskCard : Claim7 := { stood := { row := fnExactShareAskRow, standIns := [], harness := (true, "41ecdd076db024c64712cda4cbca3c0c4b0c0f07bc6284df08aae737595b535a"), looks := true }, kinds := [], alts := [], laidByText := true, laidKinds := [.handle], laidTests := true, laidLooks := .later }
def FnExactShareAskCardSaid : Prop := Claim7.holds Tryz.pinned (.plain (OpenSpec.ofChange fnExactShareAskSpec)) fnExactShareAskCard

/-- THE SECOND FORM's CARD OF 'laws.FnExactShareAsk'. -/
def fnExactShareAskUptoCard : Claim7 := { stood := { row := fnExactShareAskUptoRow, standIns := [], harness := (true, "41ecdd076db024c64712cda4cbca3c0c4b0c0f07bc6284df08aae737595b535a"), looks := true }, kinds := [], alts := [], laidByText := true, laidKinds := [.handle], laidTests := true, laidLooks := .later }
def FnExactShareAskUptoCardSaid : Prop := Claim7.holds Tryz.pinned (.plain (OpenSpec.upto fnExactShareAskSpec)) fnExactShareAskUptoCard
end Rows
end Go.Proofs.YtidojjecjjochadGreatDoor
