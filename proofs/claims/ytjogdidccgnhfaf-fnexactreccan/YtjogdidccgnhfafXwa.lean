/-
  Types of the laws as data.
-/
import Derived.Test.YtjogdidccgnhfafXra
namespace Go.Proofs.Ytjogdidccgnhfaf
open Go.RowKit

end Go.Proofs.Ytjogdidccgnhfaf
