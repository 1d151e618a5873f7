/-
  DERIVED. GIVEN WITH THE SEED: THE CARDS: each row of YtaejlcanccfmmaaGreatDoorRows.lean that lists a variable, with what it lists TIED to the program's text (the seventh form; the later family's looks); each row that meets fmt, with fmt's text TOLD by the authors' own Lean function (tested against real Go, not proved from fmt's source: count such statements apart). THE CARD IS WHAT COUNTS. Prove the row's statement (the work); the ties are given (YtaejlcanccfmmaaGreatDoorTie.lean); close each card by the builder's one call (the guide's Derived/Test/ToyasCard.lean, 'card_holds'). Laid BY PROGRAM, IN A SANDBOX (cutbox-door.mjs). By AI agents, Wed Nov 11 2026. No macro, syntax, notation, axiom, sorry.
-/
import Derived.Test.YtaejlcanccfmmaaGreatDoorRows
import GoSem.ClaimSeven
namespace Go.Proofs.YtaejlcanccfmmaaGreatDoor
namespace Rows

/-- THE TIED CARD OF 'laws.FnShareLess'. -/
def fnShareLessCard : Claim7 := { stood := { row := fnShareLessRow, standIns := [], harness := (true, "ba86aa284d1cd13500d7da5d69f87709becd36e4babcdd80ffdf3d606b8b0f49"), looks := true }, kinds := [], alts := [], laidByText := true, laidKinds := [.handle], laidTests := true, laidLooks := .later }
def FnShareLessCardSaid : Prop := Claim7.holds Tryz.pinned (.plain (OpenSpec.ofChange fnShareLessSpec)) fnShareLessCard

/-- THE SECOND FORM's CARD OF 'laws.FnShareLess'. -/
def fnShareLessUptoCard : Claim7 := { stood := { row := fnShareLessUptoRow, standIns := [], harness := (true, "ba86aa284d1cd13500d7da5d69f87709becd36e4babcdd80ffdf3d606b8b0f49"), looks := true }, kinds := [], alts := [], laidByText := true, laidKinds := [.handle], laidTests := true, laidLooks := .later }
def FnShareLessUptoCardSaid : Prop := Claim7.holds Tryz.pinned (.plain (OpenSpec.upto fnShareLessSpec)) fnShareLessUptoCard
end Rows
end Go.Proofs.YtaejlcanccfmmaaGreatDoor
