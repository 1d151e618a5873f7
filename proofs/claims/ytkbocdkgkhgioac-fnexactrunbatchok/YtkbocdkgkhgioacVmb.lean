/-
  The things of slots, plain.
-/
import Derived.Test.YtkbocdkgkhgioacVma
import Derived.Test.YtkbocdkgkhgioacXsb
namespace Go.Proofs.Ytkbocdkgkhgioac
open Go.RowKit

theorem thO_hit : ∀ {l : List DRunSlot} {x : ByteArray} {q : Nat} (hq : q < l.length), (∀ j (hj : j < l.length), j < q → l[j].1 ≠ x) → l[q].1 = x → thO l x = some l[q].2
  | [], _, _, hq, _, _ => absurd hq (Nat.not_lt_zero _)
  | s :: l, x, 0, _, _, h => by
    have h' : s.1 = x := h
    unfold thO
    rw [if_pos h']; rfl
  | s :: l, x, q + 1, hq, hno, h => by
    have h0 : s.1 ≠ x := hno 0 (by simp) (by omega)
    unfold thO
    rw [if_neg h0]
    have hq' : q < l.length := by simpa using hq
    exact thO_hit (l := l) hq' (fun j hj hjq => hno (j + 1) (by simpa using hj) (by omega)) h
theorem thT_hit {l : List DRunSlot} {x : ByteArray} {q : Nat} (hq : q < l.length) (hno : ∀ j (hj : j < l.length), j < q → eqB l[j].1 x = false) (h : eqB l[q].1 x = true) : thT l x = l[q].2 := by
  unfold thT kyT
  rw [thO_hit hq (fun j hj hjq e => by have := hno j hj hjq; rw [(eqB_iff _ _).2 e] at this; cases this) ((eqB_iff _ _).1 h)]
theorem thT_none {l : List DRunSlot} {x : ByteArray} (hno : ∀ j (hj : j < l.length), eqB l[j].1 x = false) : thT l x = ByteArray.empty := by
  unfold thT kyT
  rw [thO_none (fun s hs e => by
    obtain ⟨j, hj, ej⟩ := List.getElem_of_mem hs
    have := hno j hj
    rw [ej, (eqB_iff _ _).2 e] at this; cases this)]

/-- The things of some slots, each once, in order. -/
def thL (sl : List DRunSlot) (l : List ByteArray) : List ByteArray := bothL [] (l.map (thT sl))
theorem thL_take (sl : List DRunSlot) (l : List ByteArray) {k : Nat} (h : k < l.length) : thL sl (l.take (k + 1)) = insR (thL sl (l.take k)) (thT sl (nthB l k)) := by
  unfold thL
  have h' : k < (l.map (thT sl)).length := by simpa using h
  have := both_take [] (l.map (thT sl)) h'
  rw [← List.map_take, ← List.map_take] at this
  rw [this]
  simp [nthB, h]
theorem thL_len (sl : List DRunSlot) (l : List ByteArray) : (thL sl l).length ≤ l.length := by
  have := both_len (l.map (thT sl)) []
  simpa [thL] using this

end Go.Proofs.Ytkbocdkgkhgioac
