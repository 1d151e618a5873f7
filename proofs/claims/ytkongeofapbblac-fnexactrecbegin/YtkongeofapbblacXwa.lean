/-
  Types of the laws as data.
-/
import Derived.Test.YtkongeofapbblacXra
namespace Go.Proofs.Ytkongeofapbblac
open Go.RowKit

end Go.Proofs.Ytkongeofapbblac
