/-
  The model's recipes: how long they may take, to which ends they may come.
-/
import Derived.Test.YtkbocdkgkhgioacXo
namespace Go.Proofs.Ytkbocdkgkhgioac
open Go.RowKit

theorem at_cases (r : List DRecPhase) (x : ByteArray) : atI r x = -1 ∨ ∃ (k : Nat) (hk : k < r.length), atI r x = (k : Int) ∧ eqB r[k].1 x = true := by
  unfold atI idxI
  cases h : r.findIdx? (fun p : DRecPhase => eqB p.1 x) with
  | none => exact Or.inl rfl
  | some i =>
    obtain ⟨hi, hp, _⟩ := List.findIdx?_eq_some_iff_getElem.1 h
    exact Or.inr ⟨i, hi, rfl, hp⟩
theorem end_eq {a b : ByteArray} (h : eqB a b = true) : endI a = endI b := by
  have e : a.toList = b.toList := by simpa [eqB] using h
  unfold endI isT
  rw [e]
/-- The phase of a name. -/
def phX (r : List DRecPhase) (x : ByteArray) : DRecPhase := (r[(atI r x).toNat]?).getD default
theorem ph_at {r : List DRecPhase} {x : ByteArray} {k : Nat} (hk : k < r.length) (h : atI r x = (k : Int)) : phX r x = r[k] := by
  unfold phX
  rw [h, Int.toNat_natCast, List.getElem?_eq_getElem hk]; rfl
theorem step_of {r : List DRecPhase} (h : RecP r) {k : Nat} (hk : k < r.length) : phaseB r[k] = true ∧ goesB r k r[k].2.2.2.2.2.2.1 = true ∧ goesB r k r[k].2.2.2.2.2.2.2 = true := by
  have := h.2 k hk
  simp only [stepB, Bool.and_eq_true] at this
  exact ⟨this.1.1.1, this.1.2, this.2⟩
theorem ph_name {p : DRecPhase} (h : phaseB p = true) : nameB p.1 = true ∧ endI p.1 = 0 ∧ (1 ≤ p.2.2.2.2.2.1 ∧ p.2.2.2.2.2.1 ≤ 1000) ∧ nameB p.2.2.1 = true := by
  simp only [phaseB, plainB, Bool.and_eq_true, inB, decide_eq_true_eq, beq_iff_eq] at h
  refine ⟨h.1.1.1.1.1, h.1.1.1.1.2, h.1.1.1.2, ?_⟩
  have ha := h.1.1.2
  unfold argsB at ha
  repeat' split at ha
  all_goals simp_all
theorem go_next {r : List DRecPhase} (h : RecP r) {k : Nat} {x : ByteArray} (hg : goesB r k x = true) (j : Nat) (hj : atI r x = (j : Int)) : k < j := by
  by_cases c : endI x = 0
  · simp [goesB, c] at hg; omega
  · exfalso
    rcases at_cases r x with e | ⟨i, hi, _, hx⟩
    · omega
    · exact c (by rw [← end_eq hx]; exact (ph_name (step_of h hi).1).2.1)
/-- How long a way from here may be, by at most so many phases. -/
def bndF : Nat → List DRecPhase → ByteArray → Int
  | 0, _, _ => 0
  | n + 1, r, x => if atI r x < 0 then 0 else max (bndF n r (phX r x).2.2.2.2.2.2.1) (bndF n r (phX r x).2.2.2.2.2.2.2) + (phX r x).2.2.2.2.2.1
/-- May this end come from here, by at most so many phases? -/
def canF : Nat → List DRecPhase → ByteArray → Int → Bool
  | 0, _, x, e => endI x == e
  | n + 1, r, x, e => if atI r x < 0 then endI x == e else canF n r (phX r x).2.2.2.2.2.2.1 e || canF n r (phX r x).2.2.2.2.2.2.2 e
theorem bnd_le {r : List DRecPhase} (h : RecP r) : ∀ (n : Nat) (x : ByteArray), 0 ≤ bndF n r x ∧ bndF n r x ≤ 1000 * n
  | 0, x => by simp [bndF]
  | n + 1, x => by
    rcases at_cases r x with e | ⟨k, hk, e, _⟩
    · simp [bndF, e]; omega
    · have h1 := bnd_le h n (phX r x).2.2.2.2.2.2.1
      have h2 := bnd_le h n (phX r x).2.2.2.2.2.2.2
      have h3 := (ph_name (step_of h hk).1).2.2.1
      rw [← ph_at hk e] at h3
      have hx : ¬ (atI r x < 0) := by omega
      simp only [bndF, if_neg hx]
      omega

end Go.Proofs.Ytkbocdkgkhgioac
