/-
  Types of the laws as data.
-/
import Derived.Test.YtkongeofapbbladXra
namespace Go.Proofs.Ytkongeofapbblad
open Go.RowKit

end Go.Proofs.Ytkongeofapbblad
