/-
  The model's runs of a recipe: where a run stands, how a phase goes.
-/
import Derived.Test.YtkongeofapbblabM22
namespace Go.Proofs.Ytkongeofapbblab
open Go.RowKit


set_option maxRecDepth 100000 in
set_option maxHeartbeats 4000000 in
theorem stX_any (S : Nat → Prop) (r : List DRecPhase) (hR : RecP r) (v : Value) (x : ByteArray) (now : Int) (w : World) (h : AtL S w r v) (hS : ∀ b, S b → b < w.heap.size) :
    Calls Try.prog 25 #[v, .string x, .int .i64 now] w fun e w' => e = .returned (.agg #[.string x, .int .i64 now, .int .i64 (bndF 12 r x)]) ∧ Below w.heap.size w w' := by
  have b0 : Hid (Below w.heap.size w (w.alloc (.cells #[.string ⟨#[]⟩, .int .i64 0, .int .i64 0] 25))) := (Below.refl _ _).alloc (Nat.le_refl _) _
  have H : Hid (AtL S (w.alloc (.cells #[.string ⟨#[]⟩, .int .i64 0, .int .i64 0] 25)) r v) := h.same (Same.of_below b0.out hS)
  obtain ⟨R, hRR⟩ : ∃ R, R = bndF 12 r x := ⟨_, rfl⟩
  have CB : Hid (Calls Try.prog 39 #[v, .string x] (w.alloc (.cells #[.string ⟨#[]⟩, .int .i64 0, .int .i64 0] 25)) fun e w' => e = .returned (.int .i64 R) ∧ w' = (w.alloc (.cells #[.string ⟨#[]⟩, .int .i64 0, .int .i64 0] 25))) := by rw [hRR]; exact bndX_any S r hR 12 v x _ (Nat.le_refl _) H.out (fun k _ => by have := hR.1; omega)
  rw [← hRR]
  clear hRR h
  go_enter Try.func25, Try.ntmps25
  go_wp2_with fail
  refine CB.out.mono ?_; rintro e w1 ⟨rfl, rfl⟩
  go_wp2_with fail
  exact bodyPost_ret (v := .agg #[.string x, .int .i64 now, .int .i64 R]) (by simp [results, Try.results25, go_sem]) rfl ⟨rfl, (Below.refl _ _).alloc (Nat.le_refl _) _⟩

end Go.Proofs.Ytkongeofapbblab
