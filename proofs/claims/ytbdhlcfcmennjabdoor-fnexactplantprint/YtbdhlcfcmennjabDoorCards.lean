/-
  DERIVED. GIVEN WITH THE SEED: THE CARDS: each row of YtbdhlcfcmennjabDoorRows.lean that lists a variable, with what it lists TIED to the program's text (the seventh form; the later family's looks); each row that meets fmt, with fmt's text TOLD by the authors' own Lean function (tested against real Go, not proved from fmt's source: count such statements apart). THE CARD IS WHAT COUNTS. Prove the row's statement (the work); the ties are given (YtbdhlcfcmennjabDoorTie.lean); close each card by the builder's one call (the guide's Derived/Test/ToyasCard.lean, 'card_holds'). Laid BY PROGRAM, IN A SANDBOX (cutbox-door.mjs). By AI agents, Wed Nov 11 2026. No macro, syntax, notation, axiom, sorry.
-/
import Derived.Test.YtbdhlcfcmennjabDoorRows
import GoSem.ClaimSeven
namespace Go.Proofs.YtbdhlcfcmennjabDoor
namespace Rows

/-- THE TIED CARD OF 'laws.FnExactPlantPrint'. -/
def fnExactPlantPrintCard : Claim7 := { stood := { row := fnExactPlantPrintRow, standIns := [], harness := (true, "a9c769a6ac83e790f4a5739b67e768585d1bce05896a147ce9f92e610a94aa69"), looks := false }, kinds := [], alts := [], laidByText := true, laidKinds := [.data, .data, .data], laidTests := true, laidLooks := .later }
def FnExactPlantPrintCardSaid : Prop := Claim7.holds Tryd.pinned (.plain (OpenSpec.ofChange fnExactPlantPrintSpec)) fnExactPlantPrintCard

/-- THE SECOND FORM's CARD OF 'laws.FnExactPlantPrint'. -/
def fnExactPlantPrintUptoCard : Claim7 := { stood := { row := fnExactPlantPrintUptoRow, standIns := [], harness := (true, "a9c769a6ac83e790f4a5739b67e768585d1bce05896a147ce9f92e610a94aa69"), looks := false }, kinds := [], alts := [], laidByText := true, laidKinds := [.data, .data, .data], laidTests := true, laidLooks := .later }
def FnExactPlantPrintUptoCardSaid : Prop := Claim7.holds Tryd.pinned (.plain (OpenSpec.upto fnExactPlantPrintSpec)) fnExactPlantPrintUptoCard
end Rows
end Go.Proofs.YtbdhlcfcmennjabDoor
