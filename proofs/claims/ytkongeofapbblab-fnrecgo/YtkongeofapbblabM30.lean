/-
  Several texts in one.
-/
import Derived.Test.YtkongeofapbblabM22
import Derived.Test.YtkongeofapbblabXsp
import Derived.Test.YtkongeofapbblabXbp
/-
  By the definition: can a recipe come from here to there (plain)?
-/
namespace Go.Proofs.Ytkongeofapbblab
open Go.RowKit Go.Sort

/-- Can it come from here to there, by at most so many phases? -/
def rchF : Nat → List DRecPhase → ByteArray → ByteArray → Bool
  | 0, _, x, y => eqB x y
  | n + 1, r, x, y => eqB x y || (if atI r x < 0 then false else rchF n r (phX r x).2.2.2.2.2.2.1 y || rchF n r (phX r x).2.2.2.2.2.2.2 y)
theorem rch_eq {n : Nat} {r : List DRecPhase} {x y : ByteArray} (h : eqB x y = true) : rchF n r x y = true := by
  cases n with
  | zero => exact h
  | succ n => simp [rchF, h]
theorem rch_none {n : Nat} {r : List DRecPhase} {x y : ByteArray} (h : eqB x y = false) (e : atI r x = -1) : rchF n r x y = false := by
  cases n with
  | zero => exact h
  | succ n => simp [rchF, h, e]
theorem rch_step {n : Nat} {r : List DRecPhase} {x y : ByteArray} (h : eqB x y = false) {k : Nat} (hk : k < r.length) (e : atI r x = (k : Int)) : rchF (n + 1) r x y = (rchF n r r[k].2.2.2.2.2.2.1 y || rchF n r r[k].2.2.2.2.2.2.2 y) := by
  have hx : ¬ (atI r x < 0) := by omega
  simp only [rchF, h, Bool.false_or, if_neg hx, ph_at hk e]

end Go.Proofs.Ytkongeofapbblab

/-
  The slots that a recipe uses from here are those of the phases that it can come to (plain).
-/
namespace Go.Proofs.Ytkongeofapbblab
open Go.RowKit

theorem eqB_self (a : ByteArray) : eqB a a = true := by simp [eqB]
theorem eqB_sym {a b : ByteArray} (h : eqB a b = true) : eqB b a = true := by
  have e : a.toList = b.toList := by simpa [eqB] using h
  simp [eqB, e]
theorem at_eq {r : List DRecPhase} {x y : ByteArray} (h : eqB x y = true) : atI r x = atI r y := by
  have e : x.toList = y.toList := by simpa [eqB] using h
  have : (fun p : DRecPhase => eqB p.1 x) = (fun p : DRecPhase => eqB p.1 y) := by funext p; simp [eqB, e]
  unfold atI
  rw [this]
theorem slt_mem {r : List DRecPhase} (h : RecP r) : ∀ (n : Nat) (x y : ByteArray), (∀ k : Nat, atI r x = (k : Int) → r.length ≤ k + n) → (y ∈ sltF n r x ↔ ∃ k, ∃ hk : k < r.length, rchF n r x r[k].1 = true ∧ y ∈ ofL r[k])
  | n, x, y, hd => by
    rcases at_cases r x with e | ⟨i, hi, e, hx⟩
    · rw [slt_none e n]
      constructor
      · intro hy; cases hy
      · rintro ⟨k, hk, hr, _⟩
        cases c : eqB x r[k].1
        · rw [rch_none c e] at hr; cases hr
        · have := at_eq (r := r) c
          rw [at_self h hk] at this
          omega
    · cases n with
      | zero => have := hd i e; omega
      | succ n =>
        have hnx : ¬ (atI r x < 0) := by omega
        have hs := step_of h hi
        have i1 := slt_mem h n r[i].2.2.2.2.2.2.1 y (fun j hj => by have := go_next h hs.2.1 j hj; have := hd i e; omega)
        have i2 := slt_mem h n r[i].2.2.2.2.2.2.2 y (fun j hj => by have := go_next h hs.2.2 j hj; have := hd i e; omega)
        rw [slt_succ n hnx, ph_at hi e, both_memI, both_memI, i1, i2]
        have hst : ∀ z : ByteArray, rchF (n + 1) r x z = (eqB x z || (rchF n r r[i].2.2.2.2.2.2.1 z || rchF n r r[i].2.2.2.2.2.2.2 z)) := fun z => by
          simp only [rchF, if_neg hnx, ph_at hi e]
        constructor
        · rintro ((hy | ⟨k, hk, h1, h2⟩) | ⟨k, hk, h1, h2⟩)
          · exact ⟨i, hi, by rw [hst, eqB_sym hx, Bool.true_or], hy⟩
          · exact ⟨k, hk, by rw [hst, h1]; simp, h2⟩
          · exact ⟨k, hk, by rw [hst, h1]; simp, h2⟩
        · rintro ⟨k, hk, h1, h2⟩
          rw [hst, Bool.or_eq_true, Bool.or_eq_true] at h1
          rcases h1 with c | c | c
          · have := at_eq (r := r) c
            rw [at_self h hk, e] at this
            obtain rfl : i = k := by omega
            exact .inl (.inl h2)
          · exact .inl (.inr ⟨k, hk, c, h2⟩)
          · exact .inr ⟨k, hk, c, h2⟩

end Go.Proofs.Ytkongeofapbblab

/-
  To which ends a phase of an ok recipe may come, by where it goes on to (plain).
-/
namespace Go.Proofs.Ytkongeofapbblab

theorem can_fuel {r : List DRecPhase} (h : RecP r) (q : Int) : ∀ (n m : Nat) (x : ByteArray), (∀ k : Nat, atI r x = (k : Int) → r.length ≤ k + n) → (∀ k : Nat, atI r x = (k : Int) → r.length ≤ k + m) → canF n r x q = canF m r x q
  | 0, m, x, h1, h2 => by
    rcases at_cases r x with e | ⟨k, hk, e, _⟩
    · cases m with
      | zero => rfl
      | succ m => simp [canF, e]
    · have := h1 k e; omega
  | n + 1, 0, x, h1, h2 => by
    rcases at_cases r x with e | ⟨k, hk, e, _⟩
    · simp [canF, e]
    · have := h2 k e; omega
  | n + 1, m + 1, x, h1, h2 => by
    rcases at_cases r x with e | ⟨k, hk, e, _⟩
    · simp [canF, e]
    · have hx : ¬ (atI r x < 0) := by omega
      simp only [canF, if_neg hx]
      have hs := step_of h hk
      rw [← ph_at hk e] at hs
      have g1 := h1 k e
      have g2 := h2 k e
      rw [can_fuel h q n m _ (fun j hj => by have := go_next h hs.2.1 j hj; omega) (fun j hj => by have := go_next h hs.2.1 j hj; omega),
        can_fuel h q n m _ (fun j hj => by have := go_next h hs.2.2 j hj; omega) (fun j hj => by have := go_next h hs.2.2 j hj; omega)]
theorem can_none {r : List DRecPhase} {x : ByteArray} (e : atI r x = -1) (n : Nat) (q : Int) : canF n r x q = (endI x == q) := by
  cases n with
  | zero => rfl
  | succ n => simp [canF, e]
theorem can_succ {r : List DRecPhase} {x : ByteArray} (n : Nat) (q : Int) (h : ¬ (atI r x < 0)) : canF (n + 1) r x q = (canF n r (phX r x).2.2.2.2.2.2.1 q || canF n r (phX r x).2.2.2.2.2.2.2 q) := by simp only [canF, if_neg h]
theorem can_at {r : List DRecPhase} (h : RecP r) {x : ByteArray} {k : Nat} (hk : k < r.length) (e : atI r x = (k : Int)) (n : Nat) (q : Int) : canF (n + 1) r x q = canF (n + 1) r r[k].1 q := by
  have e2 := at_self h hk
  rw [can_succ n q (by omega), can_succ n q (by omega), ph_at hk e, ph_at hk e2]
theorem can_step {r : List DRecPhase} (h : RecP r) {i : Nat} (hi : i < r.length) (q : Int) : canF 12 r r[i].1 q = (canF 12 r r[i].2.2.2.2.2.2.1 q || canF 12 r r[i].2.2.2.2.2.2.2 q) := by
  have e := at_self h hi
  have hx : ¬ (atI r r[i].1 < 0) := by omega
  have hs := step_of h hi
  have h12 := h.1.2
  have e1 := can_succ 11 q hx
  rw [ph_at hi e] at e1
  refine e1.trans ?_
  rw [can_fuel h q 11 12 _ (fun j hj => by have := go_next h hs.2.1 j hj; omega) (fun j _ => by omega), can_fuel h q 11 12 _ (fun j hj => by have := go_next h hs.2.2 j hj; omega) (fun j _ => by omega)]

end Go.Proofs.Ytkongeofapbblab
