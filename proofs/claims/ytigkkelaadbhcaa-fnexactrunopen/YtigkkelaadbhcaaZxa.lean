/-
  Types of the laws as data.
-/
import Derived.Test.YtigkkelaadbhcaaLy
namespace Go.Proofs.Ytigkkelaadbhcaa
open Go.RowKit
abbrev DShareBatch := ByteArray × List ByteArray × List ByteArray
abbrev DShareBook := List ByteArray × List DShareBatch
theorem width_DShareBatch : Lay.width DShareBatch = 3 := rfl
theorem at_DShareBatch {S : Nat → Prop} {w : World} {a : DShareBatch} {c : Nat → Value} : Lay.At S w a c ↔ (c 0 = .string a.1 ∧ a.1.size ≤ maxLen) ∧ AtL S w a.2.1 (c 1) ∧ AtL S w a.2.2 (c 2) := Iff.rfl
theorem tot_DShareBatch {a : DShareBatch} : Lay.tot a = a.1.size + (totL a.2.1 + (totL a.2.2)) := rfl
theorem at_DShareBook {S : Nat → Prop} {w : World} {a : DShareBook} {c : Nat → Value} : Lay.At S w a c ↔ AtL S w a.1 (c 0) ∧ AtL S w a.2 (c 1) := Iff.rfl
theorem tot_DShareBook {a : DShareBook} : Lay.tot a = totL a.1 + (totL a.2) := rfl
end Go.Proofs.Ytigkkelaadbhcaa
