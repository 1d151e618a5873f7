/-
  Several texts in one.
-/
import Derived.Test.YtciembgenlcogacLy

/-
  Types of the laws as data.
-/
namespace Go.Proofs.Ytciembgenlcogac
open Go.RowKit
abbrev DClaimUse := ByteArray × Int × Int
abbrev DClaimWant := Int × Int × List ByteArray × List DClaimUse × List ByteArray × List ByteArray
theorem width_DClaimUse : Lay.width DClaimUse = 3 := rfl
theorem at_DClaimUse {S : Nat → Prop} {w : World} {a : DClaimUse} {c : Nat → Value} : Lay.At S w a c ↔ (c 0 = .string a.1 ∧ a.1.size ≤ maxLen) ∧ (c 1 = .int .i64 a.2.1 ∧ -9223372036854775808 ≤ a.2.1 ∧ a.2.1 ≤ 9223372036854775807) ∧ (c 2 = .int .i64 a.2.2 ∧ -9223372036854775808 ≤ a.2.2 ∧ a.2.2 ≤ 9223372036854775807) := Iff.rfl
theorem tot_DClaimUse {a : DClaimUse} : Lay.tot a = a.1.size + (0 + (0)) := rfl
theorem width_DClaimWant : Lay.width DClaimWant = 6 := rfl
theorem at_DClaimWant {S : Nat → Prop} {w : World} {a : DClaimWant} {c : Nat → Value} : Lay.At S w a c ↔ (c 0 = .int .i64 a.1 ∧ -9223372036854775808 ≤ a.1 ∧ a.1 ≤ 9223372036854775807) ∧ (c 1 = .int .i64 a.2.1 ∧ -9223372036854775808 ≤ a.2.1 ∧ a.2.1 ≤ 9223372036854775807) ∧ AtL S w a.2.2.1 (c 2) ∧ AtL S w a.2.2.2.1 (c 3) ∧ AtL S w a.2.2.2.2.1 (c 4) ∧ AtL S w a.2.2.2.2.2 (c 5) := Iff.rfl
theorem tot_DClaimWant {a : DClaimWant} : Lay.tot a = 0 + (0 + (totL a.2.2.1 + (totL a.2.2.2.1 + (totL a.2.2.2.2.1 + (totL a.2.2.2.2.2))))) := rfl

end Go.Proofs.Ytciembgenlcogac

/-
  Types of the laws as data.
-/
namespace Go.Proofs.Ytciembgenlcogac
open Go.RowKit
abbrev DClaimFoe := ByteArray × ByteArray
abbrev DClaimSpot := ByteArray × Int × Int × Int × List ByteArray
abbrev DClaimPart := Int × Int × List ByteArray × List DClaimUse × List ByteArray × List ByteArray × Bool
abbrev DClaimBook := List DClaimFoe × List DClaimSpot × List ByteArray × List DClaimPart × Int
theorem width_DClaimFoe : Lay.width DClaimFoe = 2 := rfl
theorem at_DClaimFoe {S : Nat → Prop} {w : World} {a : DClaimFoe} {c : Nat → Value} : Lay.At S w a c ↔ (c 0 = .string a.1 ∧ a.1.size ≤ maxLen) ∧ (c 1 = .string a.2 ∧ a.2.size ≤ maxLen) := Iff.rfl
theorem tot_DClaimFoe {a : DClaimFoe} : Lay.tot a = a.1.size + (a.2.size) := rfl
theorem width_DClaimSpot : Lay.width DClaimSpot = 5 := rfl
theorem at_DClaimSpot {S : Nat → Prop} {w : World} {a : DClaimSpot} {c : Nat → Value} : Lay.At S w a c ↔ (c 0 = .string a.1 ∧ a.1.size ≤ maxLen) ∧ (c 1 = .int .i64 a.2.1 ∧ -9223372036854775808 ≤ a.2.1 ∧ a.2.1 ≤ 9223372036854775807) ∧ (c 2 = .int .i64 a.2.2.1 ∧ -9223372036854775808 ≤ a.2.2.1 ∧ a.2.2.1 ≤ 9223372036854775807) ∧ (c 3 = .int .i64 a.2.2.2.1 ∧ -9223372036854775808 ≤ a.2.2.2.1 ∧ a.2.2.2.1 ≤ 9223372036854775807) ∧ AtL S w a.2.2.2.2 (c 4) := Iff.rfl
theorem tot_DClaimSpot {a : DClaimSpot} : Lay.tot a = a.1.size + (0 + (0 + (0 + (totL a.2.2.2.2)))) := rfl
theorem width_DClaimPart : Lay.width DClaimPart = 7 := rfl
theorem at_DClaimPart {S : Nat → Prop} {w : World} {a : DClaimPart} {c : Nat → Value} : Lay.At S w a c ↔ (c 0 = .int .i64 a.1 ∧ -9223372036854775808 ≤ a.1 ∧ a.1 ≤ 9223372036854775807) ∧ (c 1 = .int .i64 a.2.1 ∧ -9223372036854775808 ≤ a.2.1 ∧ a.2.1 ≤ 9223372036854775807) ∧ AtL S w a.2.2.1 (c 2) ∧ AtL S w a.2.2.2.1 (c 3) ∧ AtL S w a.2.2.2.2.1 (c 4) ∧ AtL S w a.2.2.2.2.2.1 (c 5) ∧ c 6 = .bool a.2.2.2.2.2.2 := Iff.rfl
theorem tot_DClaimPart {a : DClaimPart} : Lay.tot a = 0 + (0 + (totL a.2.2.1 + (totL a.2.2.2.1 + (totL a.2.2.2.2.1 + (totL a.2.2.2.2.2.1 + (0)))))) := rfl
theorem width_DClaimBook : Lay.width DClaimBook = 5 := rfl
theorem at_DClaimBook {S : Nat → Prop} {w : World} {a : DClaimBook} {c : Nat → Value} : Lay.At S w a c ↔ AtL S w a.1 (c 0) ∧ AtL S w a.2.1 (c 1) ∧ AtL S w a.2.2.1 (c 2) ∧ AtL S w a.2.2.2.1 (c 3) ∧ (c 4 = .int .i64 a.2.2.2.2 ∧ -9223372036854775808 ≤ a.2.2.2.2 ∧ a.2.2.2.2 ≤ 9223372036854775807) := Iff.rfl
theorem tot_DClaimBook {a : DClaimBook} : Lay.tot a = totL a.1 + (totL a.2.1 + (totL a.2.2.1 + (totL a.2.2.2.1 + (0)))) := rfl

end Go.Proofs.Ytciembgenlcogac
