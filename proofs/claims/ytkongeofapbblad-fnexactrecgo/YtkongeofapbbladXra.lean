/-
  Types of the laws as data.
-/
import Derived.Test.YtkongeofapbbladLy
namespace Go.Proofs.Ytkongeofapbblad
open Go.RowKit
abbrev DRecPhase := ByteArray × Int × ByteArray × ByteArray × Int × Int × ByteArray × ByteArray
theorem width_DRecPhase : Lay.width DRecPhase = 8 := rfl
theorem at_DRecPhase {S : Nat → Prop} {w : World} {a : DRecPhase} {c : Nat → Value} : Lay.At S w a c ↔ (c 0 = .string a.1 ∧ a.1.size ≤ maxLen) ∧ (c 1 = .int .i64 a.2.1 ∧ -9223372036854775808 ≤ a.2.1 ∧ a.2.1 ≤ 9223372036854775807) ∧ (c 2 = .string a.2.2.1 ∧ a.2.2.1.size ≤ maxLen) ∧ (c 3 = .string a.2.2.2.1 ∧ a.2.2.2.1.size ≤ maxLen) ∧ (c 4 = .int .i64 a.2.2.2.2.1 ∧ -9223372036854775808 ≤ a.2.2.2.2.1 ∧ a.2.2.2.2.1 ≤ 9223372036854775807) ∧ (c 5 = .int .i64 a.2.2.2.2.2.1 ∧ -9223372036854775808 ≤ a.2.2.2.2.2.1 ∧ a.2.2.2.2.2.1 ≤ 9223372036854775807) ∧ (c 6 = .string a.2.2.2.2.2.2.1 ∧ a.2.2.2.2.2.2.1.size ≤ maxLen) ∧ (c 7 = .string a.2.2.2.2.2.2.2 ∧ a.2.2.2.2.2.2.2.size ≤ maxLen) := Iff.rfl
theorem tot_DRecPhase {a : DRecPhase} : Lay.tot a = a.1.size + (0 + (a.2.2.1.size + (a.2.2.2.1.size + (0 + (0 + (a.2.2.2.2.2.2.1.size + (a.2.2.2.2.2.2.2.size))))))) := rfl

end Go.Proofs.Ytkongeofapbblad
