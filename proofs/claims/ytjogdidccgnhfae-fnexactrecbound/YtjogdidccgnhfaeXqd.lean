/-
  How long the model's recipes may take: RecBound.
-/
import Derived.Test.YtjogdidccgnhfaeXqb
namespace Go.Proofs.Ytjogdidccgnhfae
open Go.RowKit

set_option maxRecDepth 100000 in
set_option maxHeartbeats 4000000 in
theorem boundX_any (S : Nat → Prop) (r : List DRecPhase) (v : Value) (x : ByteArray) (w : World) (h : AtL S w r v) (hS : ∀ b, S b → b < w.heap.size) :
    Calls Try.prog 5 #[v, .string x] w fun e w' => e = .returned (.int .i64 (if recB r = true then bndF 12 r x else 0)) ∧ Below w.heap.size w w' := by
  have H : Hid (∀ w', Below w.heap.size w w' → AtL S w' r v) := fun w' hb => h.same (Same.of_below hb hS)
  cases c : recB r
  · rw [if_neg (by simp)]
    go_enter Try.func5, Try.ntmps5
    go_wp2_with fail
    refine (okX_any S r v w h hS).mono ?_; rintro e w1 ⟨rfl, hb⟩; rw [c]
    go_wp2_with fail
    go_ret
    exact ⟨rfl, hb⟩
  · have hR := rec_iff.1 c
    rw [if_pos rfl]
    go_enter Try.func5, Try.ntmps5
    go_wp2_with fail
    refine (okX_any S r v w h hS).mono ?_; rintro e w1 ⟨rfl, hb⟩; rw [c]
    go_wp2_with fail
    refine (bndX_any S r hR 12 v x w1 (Nat.le_refl _) (H.out _ hb) (fun k _ => by have := hR.1; omega)).mono ?_; rintro e w2 ⟨rfl, rfl⟩
    go_wp2_with fail
    go_ret
    exact ⟨rfl, hb⟩

end Go.Proofs.Ytjogdidccgnhfae
