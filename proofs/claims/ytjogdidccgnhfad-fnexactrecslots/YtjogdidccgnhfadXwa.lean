/-
  Types of the laws as data.
-/
import Derived.Test.YtjogdidccgnhfadXra
namespace Go.Proofs.Ytjogdidccgnhfad
open Go.RowKit

end Go.Proofs.Ytjogdidccgnhfad
