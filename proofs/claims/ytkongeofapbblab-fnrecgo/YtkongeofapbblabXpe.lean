/-
  The ends of a recipe, by the program.
-/
import Derived.Test.YtkongeofapbblabM14
namespace Go.Proofs.Ytkongeofapbblab
open Go.RowKit

set_option maxRecDepth 100000 in
set_option maxHeartbeats 4000000 in
theorem endP_any (s : ByteArray) (w : World) : Calls Try.prog 41 #[.string s] w fun e w' => e = .returned (.int .i64 (endI s)) ∧ w' = w := by
  unfold endI
  cases h1 : isT s [103, 111, 111, 100]
  · cases h2 : isT s [115, 97, 118, 101, 100]
    · cases h3 : isT s [115, 99, 114, 97, 112, 112, 101, 100]
      · unfold isT at h1 h2 h3
        go_enter Try.func41, Try.ntmps41
        go_wp2
        go_ret
        exact ⟨rfl, rfl⟩
      · unfold isT at h1 h2 h3
        go_enter Try.func41, Try.ntmps41
        go_wp2
        go_ret
        exact ⟨rfl, rfl⟩
    · unfold isT at h1 h2
      go_enter Try.func41, Try.ntmps41
      go_wp2
      go_ret
      exact ⟨rfl, rfl⟩
  · unfold isT at h1
    go_enter Try.func41, Try.ntmps41
    go_wp2
    go_ret
    exact ⟨rfl, rfl⟩

theorem endI_any (x : ByteArray) (w : World) (_ : x.size ≤ 1048576) : Calls Try.prog 41 #[.string x] w fun e w' => e = .returned (.int .i64 (endI x)) ∧ Below w.heap.size w w' :=
  (endP_any x w).mono fun _ _ h => ⟨h.1, by have := h.2; subst this; exact Below.refl _ _⟩

end Go.Proofs.Ytkongeofapbblab
