/-
  Contracts of the laws' own measure of data.
-/
import Derived.Test.YtkongeofapbbladXra
namespace Go.Proofs.Ytkongeofapbblad
open Go.RowKit

set_option maxRecDepth 100000 in
set_option maxHeartbeats 4000000 in
theorem szRecPhase_any (S : Nat → Prop) (a : DRecPhase) (c : Nat → Value) (x : Int) (w : World) (h : Lay.At S w a c) (_hS : ∀ b, S b → b < w.heap.size) (h0 : 0 ≤ x) (h1 : x ≤ 1048576) :
    Calls Try.prog 13 #[.agg #[c 0, c 1, c 2, c 3, c 4, c 5, c 6, c 7], .int .i64 x] w fun e w' => ∃ y : Int, e = .returned (.int .i64 y) ∧ (y < 0 ∨ y + (Lay.tot a : Int) = x) ∧ Below w.heap.size w w' := by
  rw [tot_DRecPhase]
  rw [at_DRecPhase] at h
  obtain ⟨⟨e0, z0⟩, ⟨e1, z1, y1⟩, ⟨e2, z2⟩, ⟨e3, z3⟩, ⟨e4, z4, y4⟩, ⟨e5, z5, y5⟩, ⟨e6, z6⟩, ⟨e7, z7⟩⟩ := h
  rw [e0, e1, e2, e3, e4, e5, e6, e7]
  clear e0 e1 e2 e3 e4 e5 e6 e7
  unfold maxLen at z0
  unfold maxLen at z2
  unfold maxLen at z3
  unfold maxLen at z6
  unfold maxLen at z7
  have b0 : Hid (Below w.heap.size w (w.alloc (.cells #[.string a.1, .int .i64 a.2.1, .string a.2.2.1, .string a.2.2.2.1, .int .i64 a.2.2.2.2.1, .int .i64 a.2.2.2.2.2.1, .string a.2.2.2.2.2.2.1, .string a.2.2.2.2.2.2.2] 42))) := (Below.refl _ _).alloc (Nat.le_refl _) _
  go_enter Try.func13, Try.ntmps13
  by_cases n0 : x < (a.1.size : Int)
  · go_wp2_with fail
    go_ret
    exact ⟨_, rfl, Or.inl (by omega), b0.out⟩
  · have _u := trivial
    by_cases n2 : (x - (a.1.size : Int)) < (a.2.2.1.size : Int)
    · go_wp2_with fail
      go_ret
      exact ⟨_, rfl, Or.inl (by omega), b0.out⟩
    · have _u := trivial
      by_cases n3 : ((x - (a.1.size : Int)) - (a.2.2.1.size : Int)) < (a.2.2.2.1.size : Int)
      · go_wp2_with fail
        go_ret
        exact ⟨_, rfl, Or.inl (by omega), b0.out⟩
      · have _u := trivial
        by_cases n6 : (((x - (a.1.size : Int)) - (a.2.2.1.size : Int)) - (a.2.2.2.1.size : Int)) < (a.2.2.2.2.2.2.1.size : Int)
        · go_wp2_with fail
          go_ret
          exact ⟨_, rfl, Or.inl (by omega), b0.out⟩
        · have _u := trivial
          by_cases n7 : ((((x - (a.1.size : Int)) - (a.2.2.1.size : Int)) - (a.2.2.2.1.size : Int)) - (a.2.2.2.2.2.2.1.size : Int)) < (a.2.2.2.2.2.2.2.size : Int)
          · go_wp2_with fail
            go_ret
            exact ⟨_, rfl, Or.inl (by omega), b0.out⟩
          · have _u := trivial
            go_wp2_with fail
            go_ret
            exact ⟨_, rfl, Or.inr (by omega), b0.out⟩

end Go.Proofs.Ytkongeofapbblad
