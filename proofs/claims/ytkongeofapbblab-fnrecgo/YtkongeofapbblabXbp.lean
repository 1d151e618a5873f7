/-
  What is told of a phase of an ok recipe, by what is told of where it goes on to (plain).
-/
import Derived.Test.YtkongeofapbblabM22
namespace Go.Proofs.Ytkongeofapbblab

theorem bnd_fuel {r : List DRecPhase} (h : RecP r) : ∀ (n m : Nat) (x : ByteArray), (∀ k : Nat, atI r x = (k : Int) → r.length ≤ k + n) → (∀ k : Nat, atI r x = (k : Int) → r.length ≤ k + m) → bndF n r x = bndF m r x
  | 0, m, x, h1, h2 => by
    rcases at_cases r x with e | ⟨k, hk, e, _⟩
    · cases m with
      | zero => rfl
      | succ m => simp [bndF, e]
    · have := h1 k e; omega
  | n + 1, 0, x, h1, h2 => by
    rcases at_cases r x with e | ⟨k, hk, e, _⟩
    · simp [bndF, e]
    · have := h2 k e; omega
  | n + 1, m + 1, x, h1, h2 => by
    rcases at_cases r x with e | ⟨k, hk, e, _⟩
    · simp [bndF, e]
    · have hx : ¬ (atI r x < 0) := by omega
      simp only [bndF, if_neg hx]
      have hs := step_of h hk
      rw [← ph_at hk e] at hs
      have g1 := h1 k e
      have g2 := h2 k e
      rw [bnd_fuel h n m _ (fun j hj => by have := go_next h hs.2.1 j hj; omega) (fun j hj => by have := go_next h hs.2.1 j hj; omega),
        bnd_fuel h n m _ (fun j hj => by have := go_next h hs.2.2 j hj; omega) (fun j hj => by have := go_next h hs.2.2 j hj; omega)]
theorem bnd_none {r : List DRecPhase} {x : ByteArray} (e : atI r x = -1) (n : Nat) : bndF n r x = 0 := by
  cases n with
  | zero => rfl
  | succ n => simp [bndF, e]
theorem bnd_same {r : List DRecPhase} {x y : ByteArray} (e : atI r x = atI r y) (n : Nat) : bndF n r x = bndF n r y := by
  cases n with
  | zero => rfl
  | succ n => simp only [bndF, phX, e]
theorem at_self {r : List DRecPhase} (h : RecP r) {i : Nat} (hi : i < r.length) : atI r r[i].1 = (i : Int) := by
  have := h.2 i hi
  simp only [stepB, Bool.and_eq_true, beq_iff_eq] at this
  exact this.1.1.2
theorem bnd_succ {r : List DRecPhase} {x : ByteArray} (n : Nat) (h : ¬ (atI r x < 0)) : bndF (n + 1) r x = max (bndF n r (phX r x).2.2.2.2.2.2.1) (bndF n r (phX r x).2.2.2.2.2.2.2) + (phX r x).2.2.2.2.2.1 := by simp only [bndF, if_neg h]
theorem bnd_step {r : List DRecPhase} (h : RecP r) {i : Nat} (hi : i < r.length) : bndF 12 r r[i].1 = max (bndF 12 r r[i].2.2.2.2.2.2.1) (bndF 12 r r[i].2.2.2.2.2.2.2) + r[i].2.2.2.2.2.1 := by
  have e := at_self h hi
  have hx : ¬ (atI r r[i].1 < 0) := by omega
  have hs := step_of h hi
  have h12 := h.1.2
  have e1 := bnd_succ 11 hx
  rw [ph_at hi e] at e1
  refine e1.trans ?_
  rw [bnd_fuel h 11 12 _ (fun j hj => by have := go_next h hs.2.1 j hj; omega) (fun j _ => by omega), bnd_fuel h 11 12 _ (fun j hj => by have := go_next h hs.2.2 j hj; omega) (fun j _ => by omega)]
theorem later_of {r : List DRecPhase} (h : RecP r) {i : Nat} (hi : i < r.length) : (∀ j : Nat, atI r r[i].2.2.2.2.2.2.1 = (j : Int) → i < j) ∧ (∀ j : Nat, atI r r[i].2.2.2.2.2.2.2 = (j : Int) → i < j) :=
  ⟨fun j hj => go_next h (step_of h hi).2.1 j hj, fun j hj => go_next h (step_of h hi).2.2 j hj⟩
theorem bnd_at {r : List DRecPhase} (h : RecP r) {x : ByteArray} {k : Nat} (hk : k < r.length) (e : atI r x = (k : Int)) (n : Nat) : bndF n r x = bndF n r r[k].1 := bnd_same (by rw [e, at_self h hk]) n

end Go.Proofs.Ytkongeofapbblab
