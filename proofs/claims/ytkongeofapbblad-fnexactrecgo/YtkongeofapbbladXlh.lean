/-
  Comparing two states of a run that are the same.
-/
import Derived.Test.YtkongeofapbbladXga
namespace Go.Proofs.Ytkongeofapbblad
open Go.RowKit

set_option maxRecDepth 100000 in
set_option maxHeartbeats 4000000 in
theorem eqSt_any (x : ByteArray) (n l : Int) (w : World) :
    Calls Try.prog 11 #[.agg #[.string x, .int .i64 n, .int .i64 l], .agg #[.string x, .int .i64 n, .int .i64 l]] w fun e w' => e = .returned (.bool true) ∧ Below w.heap.size w w' := by
  have k0 : Hid (Below w.heap.size w ((w.alloc (.cells #[.string x, .int .i64 n, .int .i64 l] 29)).alloc (.cells #[.string x, .int .i64 n, .int .i64 l] 29))) := ((Below.refl _ _).alloc (Nat.le_refl _) _).alloc (by simp) _
  go_enter Try.func11, Try.ntmps11
  go_wp2
  go_ret
  exact ⟨rfl, k0.out⟩

end Go.Proofs.Ytkongeofapbblad
