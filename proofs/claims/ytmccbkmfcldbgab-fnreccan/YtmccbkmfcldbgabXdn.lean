/-
  The names that are drawn from.
-/
import Derived.Test.YtmccbkmfcldbgabXdd
namespace Go.Proofs.Ytmccbkmfcldbgab
open Go.RowKit Go.Sort

set_option maxRecDepth 100000 in
set_option maxHeartbeats 4000000 in
theorem names_any (w : World) : Calls Try.prog 35 #[] w fun e w' => e = .returned (.slice (some ⟨w.heap.size, 0, none⟩) 8 8) ∧ w' = w.alloc (.cells #[.string ⟨#[98, 114, 101, 119]⟩, .string ⟨#[102, 49]⟩, .string ⟨#[102, 50]⟩, .string ⟨#[103]⟩, .string ⟨#[104]⟩, .string ⟨#[109, 97, 115, 104]⟩, .string ⟨#[114, 101, 115, 116]⟩, .string ⟨#[120, 45, 57]⟩] 9) := by
  go_enter Try.func35, Try.ntmps35
  go_wp2
  go_ret
  exact ⟨rfl, rfl⟩

end Go.Proofs.Ytmccbkmfcldbgab
