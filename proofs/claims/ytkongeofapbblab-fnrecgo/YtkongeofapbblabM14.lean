/-
  Several texts in one.
-/
import Derived.Test.YtkongeofapbblabXdd
import Derived.Test.YtkongeofapbblabPq
import Derived.Test.YtkongeofapbblabLy
/-
  The names that are drawn from.
-/
namespace Go.Proofs.Ytkongeofapbblab
open Go.RowKit Go.Sort

set_option maxRecDepth 100000 in
set_option maxHeartbeats 4000000 in
theorem names_any (w : World) : Calls Try.prog 35 #[] w fun e w' => e = .returned (.slice (some ⟨w.heap.size, 0, none⟩) 8 8) ∧ w' = w.alloc (.cells #[.string ⟨#[98, 114, 101, 119]⟩, .string ⟨#[102, 49]⟩, .string ⟨#[102, 50]⟩, .string ⟨#[103]⟩, .string ⟨#[104]⟩, .string ⟨#[109, 97, 115, 104]⟩, .string ⟨#[114, 101, 115, 116]⟩, .string ⟨#[120, 45, 57]⟩] 9) := by
  go_enter Try.func35, Try.ntmps35
  go_wp2
  go_ret
  exact ⟨rfl, rfl⟩

end Go.Proofs.Ytkongeofapbblab

/-
  The ends of a recipe, by the model.
-/
namespace Go.Proofs.Ytkongeofapbblab
open Go.RowKit

/-- Is it this text? -/
def isT (s : ByteArray) (l : List UInt8) : Bool := s.toList == l
/-- The number of an end, 0 of any other text. -/
def endI (s : ByteArray) : Int := if isT s [103, 111, 111, 100] = true then 1 else if isT s [115, 97, 118, 101, 100] = true then 2 else if isT s [115, 99, 114, 97, 112, 112, 101, 100] = true then 3 else 0

set_option maxRecDepth 100000 in
set_option maxHeartbeats 4000000 in
theorem endX_any (s : ByteArray) (w : World) : Calls Try.prog 34 #[.string s] w fun e w' => e = .returned (.int .i64 (endI s)) ∧ w' = w := by
  unfold endI
  cases h1 : isT s [103, 111, 111, 100]
  · cases h2 : isT s [115, 97, 118, 101, 100]
    · cases h3 : isT s [115, 99, 114, 97, 112, 112, 101, 100]
      · unfold isT at h1 h2 h3
        go_enter Try.func34, Try.ntmps34
        go_wp2
        go_ret
        exact ⟨rfl, rfl⟩
      · unfold isT at h1 h2 h3
        go_enter Try.func34, Try.ntmps34
        go_wp2
        go_ret
        exact ⟨rfl, rfl⟩
    · unfold isT at h1 h2
      go_enter Try.func34, Try.ntmps34
      go_wp2
      go_ret
      exact ⟨rfl, rfl⟩
  · unfold isT at h1
    go_enter Try.func34, Try.ntmps34
    go_wp2
    go_ret
    exact ⟨rfl, rfl⟩

end Go.Proofs.Ytkongeofapbblab

/-
  Types of the laws as data.
-/
namespace Go.Proofs.Ytkongeofapbblab
open Go.RowKit
abbrev DRecPhase := ByteArray × Int × ByteArray × ByteArray × Int × Int × ByteArray × ByteArray
theorem width_DRecPhase : Lay.width DRecPhase = 8 := rfl
theorem at_DRecPhase {S : Nat → Prop} {w : World} {a : DRecPhase} {c : Nat → Value} : Lay.At S w a c ↔ (c 0 = .string a.1 ∧ a.1.size ≤ maxLen) ∧ (c 1 = .int .i64 a.2.1 ∧ -9223372036854775808 ≤ a.2.1 ∧ a.2.1 ≤ 9223372036854775807) ∧ (c 2 = .string a.2.2.1 ∧ a.2.2.1.size ≤ maxLen) ∧ (c 3 = .string a.2.2.2.1 ∧ a.2.2.2.1.size ≤ maxLen) ∧ (c 4 = .int .i64 a.2.2.2.2.1 ∧ -9223372036854775808 ≤ a.2.2.2.2.1 ∧ a.2.2.2.2.1 ≤ 9223372036854775807) ∧ (c 5 = .int .i64 a.2.2.2.2.2.1 ∧ -9223372036854775808 ≤ a.2.2.2.2.2.1 ∧ a.2.2.2.2.2.1 ≤ 9223372036854775807) ∧ (c 6 = .string a.2.2.2.2.2.2.1 ∧ a.2.2.2.2.2.2.1.size ≤ maxLen) ∧ (c 7 = .string a.2.2.2.2.2.2.2 ∧ a.2.2.2.2.2.2.2.size ≤ maxLen) := Iff.rfl
theorem tot_DRecPhase {a : DRecPhase} : Lay.tot a = a.1.size + (0 + (a.2.2.1.size + (a.2.2.2.1.size + (0 + (0 + (a.2.2.2.2.2.2.1.size + (a.2.2.2.2.2.2.2.size))))))) := rfl

end Go.Proofs.Ytkongeofapbblab
