/-
  Types of the laws as data.
-/
import Derived.Test.YtkongeofapbbladLy
namespace Go.Proofs.Ytkongeofapbblad
open Go.RowKit
abbrev DRecState := ByteArray × Int × Int
theorem width_DRecState : Lay.width DRecState = 3 := rfl
theorem at_DRecState {S : Nat → Prop} {w : World} {a : DRecState} {c : Nat → Value} : Lay.At S w a c ↔ (c 0 = .string a.1 ∧ a.1.size ≤ maxLen) ∧ (c 1 = .int .i64 a.2.1 ∧ -9223372036854775808 ≤ a.2.1 ∧ a.2.1 ≤ 9223372036854775807) ∧ (c 2 = .int .i64 a.2.2 ∧ -9223372036854775808 ≤ a.2.2 ∧ a.2.2 ≤ 9223372036854775807) := Iff.rfl
theorem tot_DRecState {a : DRecState} : Lay.tot a = a.1.size + (0 + (0)) := rfl

end Go.Proofs.Ytkongeofapbblad
