/-
  A contract of how the program compares two pairs of foes.
-/
import Derived.Test.YthpmlhjckgpclabDoorZa
namespace Go.Proofs.YthpmlhjckgpclabDoor
open Go.RowKit

set_option maxRecDepth 100000 in
set_option maxHeartbeats 20000000 in
theorem cmpF_any (a1 a2 b1 b2 : ByteArray) (w : World) :
    Calls Tryd.prog 57 #[.agg #[.string a1, .string a2], .agg #[.string b1, .string b2]] w fun e w' => e = .returned (.int .i64 (cmpF (a1, a2) (b1, b2))) ∧ Below w.heap.size w w' := by
  go_enter Tryd.func57, Tryd.ntmps57
  go_wp2
  go_region_with (first
    | (go_at_call 54; refine (cmpS_any _ _ _).mono ?_; rintro e w1 ⟨rfl, rfl⟩)
    | (go_at_call 69; refine (or_at w _ _ a1 a2 b1 b2).mono ?_; rintro e w1 ⟨rfl, rfl⟩))
  all_goals (go_wp2; go_ret)
  all_goals exact ⟨rfl, (((((Below.refl _ _).alloc (Nat.le_refl _) _).alloc (by simp) _).alloc (by simp; omega) _).drew)⟩

end Go.Proofs.YthpmlhjckgpclabDoor
