/-
  To which ends a phase of an ok recipe may come, by where it goes on to (plain).
-/
import Derived.Test.YtmccbkmfcldbgabXbp
namespace Go.Proofs.Ytmccbkmfcldbgab

theorem can_fuel {r : List DRecPhase} (h : RecP r) (q : Int) : ∀ (n m : Nat) (x : ByteArray), (∀ k : Nat, atI r x = (k : Int) → r.length ≤ k + n) → (∀ k : Nat, atI r x = (k : Int) → r.length ≤ k + m) → canF n r x q = canF m r x q
  | 0, m, x, h1, h2 => by
    rcases at_cases r x with e | ⟨k, hk, e, _⟩
    · cases m with
      | zero => rfl
      | succ m => simp [canF, e]
    · have := h1 k e; omega
  | n + 1, 0, x, h1, h2 => by
    rcases at_cases r x with e | ⟨k, hk, e, _⟩
    · simp [canF, e]
    · have := h2 k e; omega
  | n + 1, m + 1, x, h1, h2 => by
    rcases at_cases r x with e | ⟨k, hk, e, _⟩
    · simp [canF, e]
    · have hx : ¬ (atI r x < 0) := by omega
      simp only [canF, if_neg hx]
      have hs := step_of h hk
      rw [← ph_at hk e] at hs
      have g1 := h1 k e
      have g2 := h2 k e
      rw [can_fuel h q n m _ (fun j hj => by have := go_next h hs.2.1 j hj; omega) (fun j hj => by have := go_next h hs.2.1 j hj; omega),
        can_fuel h q n m _ (fun j hj => by have := go_next h hs.2.2 j hj; omega) (fun j hj => by have := go_next h hs.2.2 j hj; omega)]
theorem can_none {r : List DRecPhase} {x : ByteArray} (e : atI r x = -1) (n : Nat) (q : Int) : canF n r x q = (endI x == q) := by
  cases n with
  | zero => rfl
  | succ n => simp [canF, e]
theorem can_succ {r : List DRecPhase} {x : ByteArray} (n : Nat) (q : Int) (h : ¬ (atI r x < 0)) : canF (n + 1) r x q = (canF n r (phX r x).2.2.2.2.2.2.1 q || canF n r (phX r x).2.2.2.2.2.2.2 q) := by simp only [canF, if_neg h]
theorem can_at {r : List DRecPhase} (h : RecP r) {x : ByteArray} {k : Nat} (hk : k < r.length) (e : atI r x = (k : Int)) (n : Nat) (q : Int) : canF (n + 1) r x q = canF (n + 1) r r[k].1 q := by
  have e2 := at_self h hk
  rw [can_succ n q (by omega), can_succ n q (by omega), ph_at hk e, ph_at hk e2]
theorem can_step {r : List DRecPhase} (h : RecP r) {i : Nat} (hi : i < r.length) (q : Int) : canF 12 r r[i].1 q = (canF 12 r r[i].2.2.2.2.2.2.1 q || canF 12 r r[i].2.2.2.2.2.2.2 q) := by
  have e := at_self h hi
  have hx : ¬ (atI r r[i].1 < 0) := by omega
  have hs := step_of h hi
  have h12 := h.1.2
  have e1 := can_succ 11 q hx
  rw [ph_at hi e] at e1
  refine e1.trans ?_
  rw [can_fuel h q 11 12 _ (fun j hj => by have := go_next h hs.2.1 j hj; omega) (fun j _ => by omega), can_fuel h q 11 12 _ (fun j hj => by have := go_next h hs.2.2 j hj; omega) (fun j _ => by omega)]

end Go.Proofs.Ytmccbkmfcldbgab
