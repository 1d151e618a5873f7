/-
  DERIVED. GIVEN WITH THE SEED: THE CARDS: each row of YtidojjecjjochabGreatDoorRows.lean that lists a variable, with what it lists TIED to the program's text (the seventh form; the later family's looks); each row that meets fmt, with fmt's text TOLD by the authors' own Lean function (tested against real Go, not proved from fmt's source: count such statements apart). THE CARD IS WHAT COUNTS. Prove the row's statement (the work); the ties are given (YtidojjecjjochabGreatDoorTie.lean); close each card by the builder's one call (the guide's Derived/Test/ToyasCard.lean, 'card_holds'). Laid BY PROGRAM, IN A SANDBOX (cutbox-door.mjs). By AI agents, Wed Nov 11 2026. No macro, syntax, notation, axiom, sorry.
-/
import Derived.Test.YtidojjecjjochabGreatDoorRows
import GoSem.ClaimSeven
namespace Go.Proofs.YtidojjecjjochabGreatDoor
namespace Rows

/-- THE TIED CARD OF 'laws.FnExactShareLess'. -/
def fnExactShareLessCard : Claim7 := { stood := { row := fnExactShareLessRow, standIns := [], harness := (true, "a20dc82959f6588bd85deb8eb809238ff87f2dc35e7614dcee5847cde312f92d"), looks := true }, kinds := [], alts := [], laidByText := true, laidKinds := [.handle], laidTests := true, laidLooks := .later }
def FnExactShareLessCardSaid : Prop := Claim7.holds Tryz.pinned (.plain (OpenSpec.ofChange fnExactShareLessSpec)) fnExactShareLessCard

/-- THE SECOND FORM's CARD OF 'laws.FnExactShareLess'. -/
def fnExactShareLessUptoCard : Claim7 := { stood := { row := fnExactShareLessUptoRow, standIns := [], harness := (true, "a20dc82959f6588bd85deb8eb809238ff87f2dc35e7614dcee5847cde312f92d"), looks := true }, kinds := [], alts := [], laidByText := true, laidKinds := [.handle], laidTests := true, laidLooks := .later }
def FnExactShareLessUptoCardSaid : Prop := Claim7.holds Tryz.pinned (.plain (OpenSpec.upto fnExactShareLessSpec)) fnExactShareLessUptoCard
end Rows
end Go.Proofs.YtidojjecjjochabGreatDoor
