/-
  Types of the laws as data.
-/
import Derived.Test.YtjogdidccgnhfacXra
namespace Go.Proofs.Ytjogdidccgnhfac
open Go.RowKit

end Go.Proofs.Ytjogdidccgnhfac
