/-
  Types of the laws as data.
-/
import Derived.Test.YtkongeofapbbladLy
namespace Go.Proofs.Ytkongeofapbblad
open Go.RowKit
abbrev DRecSay := Int × Bool
theorem width_DRecSay : Lay.width DRecSay = 2 := rfl
theorem at_DRecSay {S : Nat → Prop} {w : World} {a : DRecSay} {c : Nat → Value} : Lay.At S w a c ↔ (c 0 = .int .i64 a.1 ∧ -9223372036854775808 ≤ a.1 ∧ a.1 ≤ 9223372036854775807) ∧ c 1 = .bool a.2 := Iff.rfl
theorem tot_DRecSay {a : DRecSay} : Lay.tot a = 0 + (0) := rfl

end Go.Proofs.Ytkongeofapbblad
