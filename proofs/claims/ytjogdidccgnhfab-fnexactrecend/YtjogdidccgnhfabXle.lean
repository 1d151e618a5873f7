/-
  The law FnExactRecEnd, walked: whatever the text, the call returns true, and nothing that was there before has turned.
-/
import Derived.Test.YtjogdidccgnhfabXna
namespace Go.Proofs.Ytjogdidccgnhfab
open Go.RowKit

set_option maxRecDepth 100000 in
set_option maxHeartbeats 4000000 in
theorem lawe_any (PI : ∀ (x : ByteArray) (w : World), x.size ≤ 1048576 → Calls Try.prog 5 #[.string x] w fun e w' => e = .returned (.int .i64 (endI x)) ∧ Below w.heap.size w w') (x : ByteArray) (w : World) (hx : x.size ≤ maxLen) :
    Calls Try.prog 3 #[.string x] w fun e w' => e = .returned (.bool true) ∧ Below w.heap.size w w' := by
  unfold maxLen at hx
  by_cases hxx : (x.size : Int) ≤ 1048576
  case neg =>
    go_enter Try.func3, Try.ntmps3
    go_wp2_with fail
    go_ret
    exact ⟨rfl, Below.refl _ _⟩
  have MM := endX_any x w
  have PP := PI x w (by omega)
  obtain ⟨R, hR⟩ : ∃ R, R = endI x := ⟨_, rfl⟩
  rw [← hR] at PP MM
  have HM : Hid (Calls Try.prog 4 #[.string x] w fun e w' => e = .returned (.int .i64 R) ∧ w' = w) := MM
  have HP : Hid (Calls Try.prog 5 #[.string x] w fun e w' => e = .returned (.int .i64 R) ∧ Below w.heap.size w w') := PP
  clear hR MM PP PI
  go_enter Try.func3, Try.ntmps3
  go_wp2_with fail
  refine HM.out.mono ?_; rintro e w1 ⟨rfl, rfl⟩
  go_wp2_with fail
  refine HP.out.mono ?_; rintro e w2 ⟨rfl, hb⟩
  go_wp2_with fail
  go_ret
  exact ⟨rfl, hb⟩

end Go.Proofs.Ytjogdidccgnhfab
