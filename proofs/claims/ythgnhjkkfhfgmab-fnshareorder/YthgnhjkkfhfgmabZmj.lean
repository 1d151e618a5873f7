/-
  The model's ShareSafe.
-/
import Derived.Test.YthgnhjkkfhfgmabZmf
namespace Go.Proofs.Ythgnhjkkfhfgmab
open Go.RowKit Go.Sort

set_option maxRecDepth 100000 in
set_option maxHeartbeats 8000000 in
theorem safeZ_any (S : Nat → Prop) (T : List ByteArray) (Bs : List DShareBatch) (o0 oa : Option Addr) (n0 k0 nb kb : Nat) (w : World) (h0 : AtL S w T (.slice o0 n0 k0)) (h1 : AtL S w Bs (.slice oa nb kb)) (hS : ∀ b, S b → b < w.heap.size) :
    Calls Try.prog 81 #[.agg #[.slice o0 n0 k0, .slice oa nb kb]] w fun e w' => e = .returned (.bool (ordS (T, Bs)).2) ∧ Below w.heap.size w w' := by
  go_enter Try.func81, Try.ntmps81
  go_wp2_with fail
  refine (orderZ_any S T Bs _ _ _ _ _ _ _ (h0.same (Same.of_alloc w _ hS)) (h1.same (Same.of_alloc w _ hS)) (fun b hb => by have := hS b hb; simp; omega)).mono ?_; rintro e u ⟨q, rfl, _, hbu⟩
  go_wp2_with fail
  go_ret
  exact ⟨rfl, ((Below.refl _ _).alloc (Nat.le_refl _) _).trans (hbu.mono (by simp))⟩

end Go.Proofs.Ythgnhjkkfhfgmab
