/-
  Types of the laws as data.
-/
import Derived.Test.YtciembgenlcogaeGreatLy
namespace Go.Proofs.YtciembgenlcogaeGreat.C
open Go.RowKit
abbrev DClaimUse := ByteArray × Int × Int
abbrev DClaimWant := Int × Int × List ByteArray × List DClaimUse × List ByteArray × List ByteArray
theorem width_DClaimUse : Lay.width DClaimUse = 3 := rfl
theorem at_DClaimUse {S : Nat → Prop} {w : World} {a : DClaimUse} {c : Nat → Value} : Lay.At S w a c ↔ (c 0 = .string a.1 ∧ a.1.size ≤ maxLen) ∧ (c 1 = .int .i64 a.2.1 ∧ -9223372036854775808 ≤ a.2.1 ∧ a.2.1 ≤ 9223372036854775807) ∧ (c 2 = .int .i64 a.2.2 ∧ -9223372036854775808 ≤ a.2.2 ∧ a.2.2 ≤ 9223372036854775807) := Iff.rfl
theorem tot_DClaimUse {a : DClaimUse} : Lay.tot a = a.1.size + (0 + (0)) := rfl
theorem width_DClaimWant : Lay.width DClaimWant = 6 := rfl
theorem at_DClaimWant {S : Nat → Prop} {w : World} {a : DClaimWant} {c : Nat → Value} : Lay.At S w a c ↔ (c 0 = .int .i64 a.1 ∧ -9223372036854775808 ≤ a.1 ∧ a.1 ≤ 9223372036854775807) ∧ (c 1 = .int .i64 a.2.1 ∧ -9223372036854775808 ≤ a.2.1 ∧ a.2.1 ≤ 9223372036854775807) ∧ AtL S w a.2.2.1 (c 2) ∧ AtL S w a.2.2.2.1 (c 3) ∧ AtL S w a.2.2.2.2.1 (c 4) ∧ AtL S w a.2.2.2.2.2 (c 5) := Iff.rfl
theorem tot_DClaimWant {a : DClaimWant} : Lay.tot a = 0 + (0 + (totL a.2.2.1 + (totL a.2.2.2.1 + (totL a.2.2.2.2.1 + (totL a.2.2.2.2.2))))) := rfl

end Go.Proofs.YtciembgenlcogaeGreat.C
