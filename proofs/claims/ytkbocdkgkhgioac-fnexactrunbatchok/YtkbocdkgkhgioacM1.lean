/-
  Several texts in one.
-/
import Derived.Test.YtkbocdkgkhgioacLy
/-
  Types of the laws as data.
-/
namespace Go.Proofs.Ytkbocdkgkhgioac
open Go.RowKit
abbrev DRecPhase := ByteArray × Int × ByteArray × ByteArray × Int × Int × ByteArray × ByteArray
theorem width_DRecPhase : Lay.width DRecPhase = 8 := rfl
theorem at_DRecPhase {S : Nat → Prop} {w : World} {a : DRecPhase} {c : Nat → Value} : Lay.At S w a c ↔ (c 0 = .string a.1 ∧ a.1.size ≤ maxLen) ∧ (c 1 = .int .i64 a.2.1 ∧ -9223372036854775808 ≤ a.2.1 ∧ a.2.1 ≤ 9223372036854775807) ∧ (c 2 = .string a.2.2.1 ∧ a.2.2.1.size ≤ maxLen) ∧ (c 3 = .string a.2.2.2.1 ∧ a.2.2.2.1.size ≤ maxLen) ∧ (c 4 = .int .i64 a.2.2.2.2.1 ∧ -9223372036854775808 ≤ a.2.2.2.2.1 ∧ a.2.2.2.2.1 ≤ 9223372036854775807) ∧ (c 5 = .int .i64 a.2.2.2.2.2.1 ∧ -9223372036854775808 ≤ a.2.2.2.2.2.1 ∧ a.2.2.2.2.2.1 ≤ 9223372036854775807) ∧ (c 6 = .string a.2.2.2.2.2.2.1 ∧ a.2.2.2.2.2.2.1.size ≤ maxLen) ∧ (c 7 = .string a.2.2.2.2.2.2.2 ∧ a.2.2.2.2.2.2.2.size ≤ maxLen) := Iff.rfl
theorem tot_DRecPhase {a : DRecPhase} : Lay.tot a = a.1.size + (0 + (a.2.2.1.size + (a.2.2.2.1.size + (0 + (0 + (a.2.2.2.2.2.2.1.size + (a.2.2.2.2.2.2.2.size))))))) := rfl

end Go.Proofs.Ytkbocdkgkhgioac

/-
  Types of the laws as data.
-/
namespace Go.Proofs.Ytkbocdkgkhgioac
open Go.RowKit

end Go.Proofs.Ytkbocdkgkhgioac

/-
  Types of the laws as data.
-/
namespace Go.Proofs.Ytkbocdkgkhgioac
open Go.RowKit
abbrev DRunSlot := ByteArray × ByteArray
abbrev DRunBatch := ByteArray × List DRecPhase × List DRunSlot × ByteArray × Int × Int
theorem width_DRunSlot : Lay.width DRunSlot = 2 := rfl
theorem at_DRunSlot {S : Nat → Prop} {w : World} {a : DRunSlot} {c : Nat → Value} : Lay.At S w a c ↔ (c 0 = .string a.1 ∧ a.1.size ≤ maxLen) ∧ (c 1 = .string a.2 ∧ a.2.size ≤ maxLen) := Iff.rfl
theorem tot_DRunSlot {a : DRunSlot} : Lay.tot a = a.1.size + (a.2.size) := rfl
theorem width_DRunBatch : Lay.width DRunBatch = 6 := rfl
theorem at_DRunBatch {S : Nat → Prop} {w : World} {a : DRunBatch} {c : Nat → Value} : Lay.At S w a c ↔ (c 0 = .string a.1 ∧ a.1.size ≤ maxLen) ∧ AtL S w a.2.1 (c 1) ∧ AtL S w a.2.2.1 (c 2) ∧ (c 3 = .string a.2.2.2.1 ∧ a.2.2.2.1.size ≤ maxLen) ∧ (c 4 = .int .i64 a.2.2.2.2.1 ∧ -9223372036854775808 ≤ a.2.2.2.2.1 ∧ a.2.2.2.2.1 ≤ 9223372036854775807) ∧ (c 5 = .int .i64 a.2.2.2.2.2 ∧ -9223372036854775808 ≤ a.2.2.2.2.2 ∧ a.2.2.2.2.2 ≤ 9223372036854775807) := Iff.rfl
theorem tot_DRunBatch {a : DRunBatch} : Lay.tot a = a.1.size + (totL a.2.1 + (totL a.2.2.1 + (a.2.2.2.1.size + (0 + (0))))) := rfl

end Go.Proofs.Ytkbocdkgkhgioac
