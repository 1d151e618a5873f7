/-
  Contracts of the laws' own comparing of data that hold the same.
-/
import Derived.Test.YtkongeofapbbladXrt
namespace Go.Proofs.Ytkongeofapbblad
open Go.RowKit

set_option maxRecDepth 100000 in
set_option maxHeartbeats 4000000 in
theorem eqRecPhase_any (S S' : Nat → Prop) (a : DRecPhase) (c c' : Nat → Value) (w : World) (h : Lay.At S w a c) (h' : Lay.At S' w a c') (_hS : ∀ b, S b → b < w.heap.size) (_hS' : ∀ b, S' b → b < w.heap.size) :
    Calls Try.prog 25 #[.agg #[c 0, c 1, c 2, c 3, c 4, c 5, c 6, c 7], .agg #[c' 0, c' 1, c' 2, c' 3, c' 4, c' 5, c' 6, c' 7]] w fun e w' => e = .returned (.bool true) ∧ Below w.heap.size w w' := by
  rw [at_DRecPhase] at h
  obtain ⟨⟨ep0, _⟩, ⟨ep1, _, _⟩, ⟨ep2, _⟩, ⟨ep3, _⟩, ⟨ep4, _, _⟩, ⟨ep5, _, _⟩, ⟨ep6, _⟩, ⟨ep7, _⟩⟩ := h
  rw [ep0, ep1, ep2, ep3, ep4, ep5, ep6, ep7]
  clear ep0 ep1 ep2 ep3 ep4 ep5 ep6 ep7
  rw [at_DRecPhase] at h'
  obtain ⟨⟨eq0, _⟩, ⟨eq1, _, _⟩, ⟨eq2, _⟩, ⟨eq3, _⟩, ⟨eq4, _, _⟩, ⟨eq5, _, _⟩, ⟨eq6, _⟩, ⟨eq7, _⟩⟩ := h'
  rw [eq0, eq1, eq2, eq3, eq4, eq5, eq6, eq7]
  clear eq0 eq1 eq2 eq3 eq4 eq5 eq6 eq7
  have k0 : Hid (Below w.heap.size w ((w.alloc (.cells #[.string a.1, .int .i64 a.2.1, .string a.2.2.1, .string a.2.2.2.1, .int .i64 a.2.2.2.2.1, .int .i64 a.2.2.2.2.2.1, .string a.2.2.2.2.2.2.1, .string a.2.2.2.2.2.2.2] 47)).alloc (.cells #[.string a.1, .int .i64 a.2.1, .string a.2.2.1, .string a.2.2.2.1, .int .i64 a.2.2.2.2.1, .int .i64 a.2.2.2.2.2.1, .string a.2.2.2.2.2.2.1, .string a.2.2.2.2.2.2.2] 47))) := ((Below.refl _ _).alloc (Nat.le_refl _) _).alloc (by simp) _
  go_enter Try.func25, Try.ntmps25
  go_wp2
  go_ret
  exact ⟨rfl, k0.out⟩
open Go.Sort in
theorem eqRecPhaseq (S S' : Nat → Prop) (a : DRecPhase) (c c' : Nat → Value) (wr : World) (h : Lay.At S wr a c) (h' : Lay.At S' wr a c') (hS : ∀ b, S b → b < wr.heap.size) (hS' : ∀ b, S' b → b < wr.heap.size) (d : Nat) (os : Array Obj) : Calls Try.prog 25 #[.agg #[c 0, c 1, c 2, c 3, c 4, c 5, c 6, c 7], .agg #[c' 0, c' 1, c' 2, c' 3, c' 4, c' 5, c' 6, c' 7]] (grow (redrawn wr d) os) fun e w'' => e = .returned (.bool true) ∧ ∃ p : Regrown, w'' = grow (redrawn wr p.d) p.os :=
  Calls.regrown_of (eqRecPhase_any S S' a c c' _ (Lay.same h (Same.of_below (below_regrown wr d os) hS)) (Lay.same h' (Same.of_below (below_regrown wr d os) hS')) (fun b hb => Nat.lt_of_lt_of_le (hS b hb) (below_regrown wr d os).size) (fun b hb => Nat.lt_of_lt_of_le (hS' b hb) (below_regrown wr d os).size))

end Go.Proofs.Ytkongeofapbblad
