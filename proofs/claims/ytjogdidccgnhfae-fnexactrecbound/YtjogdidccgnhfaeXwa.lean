/-
  Types of the laws as data.
-/
import Derived.Test.YtjogdidccgnhfaeXra
namespace Go.Proofs.Ytjogdidccgnhfae
open Go.RowKit

end Go.Proofs.Ytjogdidccgnhfae
