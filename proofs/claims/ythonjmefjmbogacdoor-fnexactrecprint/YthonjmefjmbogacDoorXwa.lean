/-
  Types of the laws as data.
-/
import Derived.Test.YthonjmefjmbogacDoorXra
namespace Go.Proofs.YthonjmefjmbogacDoor
open Go.RowKit

end Go.Proofs.YthonjmefjmbogacDoor
