/-
  Types of the laws as data.
-/
import Derived.Test.YthleodbbppgadaaGreatLy
namespace Go.Proofs.YthleodbbppgadaaGreat
open Go.RowKit
abbrev DStuffFoe := ByteArray × ByteArray
abbrev DStuffLot := ByteArray × ByteArray
abbrev DStuffPart := ByteArray × Int
abbrev DStuffVessel := ByteArray × Int × List DStuffPart × List ByteArray
abbrev DStuffOut := ByteArray × List DStuffPart × List ByteArray
abbrev DStuffBook := List DStuffFoe × List DStuffLot × List DStuffVessel × List DStuffOut
theorem width_DStuffFoe : Lay.width DStuffFoe = 2 := rfl
theorem at_DStuffFoe {S : Nat → Prop} {w : World} {a : DStuffFoe} {c : Nat → Value} : Lay.At S w a c ↔ (c 0 = .string a.1 ∧ a.1.size ≤ maxLen) ∧ (c 1 = .string a.2 ∧ a.2.size ≤ maxLen) := Iff.rfl
theorem tot_DStuffFoe {a : DStuffFoe} : Lay.tot a = a.1.size + (a.2.size) := rfl
theorem width_DStuffLot : Lay.width DStuffLot = 2 := rfl
theorem at_DStuffLot {S : Nat → Prop} {w : World} {a : DStuffLot} {c : Nat → Value} : Lay.At S w a c ↔ (c 0 = .string a.1 ∧ a.1.size ≤ maxLen) ∧ (c 1 = .string a.2 ∧ a.2.size ≤ maxLen) := Iff.rfl
theorem tot_DStuffLot {a : DStuffLot} : Lay.tot a = a.1.size + (a.2.size) := rfl
theorem width_DStuffPart : Lay.width DStuffPart = 2 := rfl
theorem at_DStuffPart {S : Nat → Prop} {w : World} {a : DStuffPart} {c : Nat → Value} : Lay.At S w a c ↔ (c 0 = .string a.1 ∧ a.1.size ≤ maxLen) ∧ (c 1 = .int .i64 a.2 ∧ -9223372036854775808 ≤ a.2 ∧ a.2 ≤ 9223372036854775807) := Iff.rfl
theorem tot_DStuffPart {a : DStuffPart} : Lay.tot a = a.1.size + (0) := rfl
theorem width_DStuffVessel : Lay.width DStuffVessel = 4 := rfl
theorem at_DStuffVessel {S : Nat → Prop} {w : World} {a : DStuffVessel} {c : Nat → Value} : Lay.At S w a c ↔ (c 0 = .string a.1 ∧ a.1.size ≤ maxLen) ∧ (c 1 = .int .i64 a.2.1 ∧ -9223372036854775808 ≤ a.2.1 ∧ a.2.1 ≤ 9223372036854775807) ∧ AtL S w a.2.2.1 (c 2) ∧ AtL S w a.2.2.2 (c 3) := Iff.rfl
theorem tot_DStuffVessel {a : DStuffVessel} : Lay.tot a = a.1.size + (0 + (totL a.2.2.1 + (totL a.2.2.2))) := rfl
theorem width_DStuffOut : Lay.width DStuffOut = 3 := rfl
theorem at_DStuffOut {S : Nat → Prop} {w : World} {a : DStuffOut} {c : Nat → Value} : Lay.At S w a c ↔ (c 0 = .string a.1 ∧ a.1.size ≤ maxLen) ∧ AtL S w a.2.1 (c 1) ∧ AtL S w a.2.2 (c 2) := Iff.rfl
theorem tot_DStuffOut {a : DStuffOut} : Lay.tot a = a.1.size + (totL a.2.1 + (totL a.2.2)) := rfl
theorem width_DStuffBook : Lay.width DStuffBook = 4 := rfl
theorem at_DStuffBook {S : Nat → Prop} {w : World} {a : DStuffBook} {c : Nat → Value} : Lay.At S w a c ↔ AtL S w a.1 (c 0) ∧ AtL S w a.2.1 (c 1) ∧ AtL S w a.2.2.1 (c 2) ∧ AtL S w a.2.2.2 (c 3) := Iff.rfl
theorem tot_DStuffBook {a : DStuffBook} : Lay.tot a = totL a.1 + (totL a.2.1 + (totL a.2.2.1 + (totL a.2.2.2))) := rfl

end Go.Proofs.YthleodbbppgadaaGreat
