/-
  What one step of a run does (plain).
-/
import Derived.Test.YtkongeofapbblabXg
import Derived.Test.YtkongeofapbblabXsp
import Derived.Test.YtkongeofapbblabM30
import Derived.Test.YtkongeofapbblabXbp
import Derived.Test.YtkongeofapbblabM27
namespace Go.Proofs.Ytkongeofapbblab
open Go.RowKit

theorem eq_of_B {a b : ByteArray} (h : eqB a b = true) : a = b := ByteArray.ext (by
  have e : a.toList = b.toList := by simpa [eqB] using h
  rw [ByteArray.toList_eq, ByteArray.toList_eq] at e
  exact Array.toList_inj.1 e)
/-- A phase of this name is this one. -/
theorem nameAtU {r : List DRecPhase} {x : ByteArray} {k : Nat} (hk : k < r.length) (e : atI r x = (k : Int)) : r[k].1 = x := by
  rcases at_cases r x with h | ⟨j, hj, h, hx⟩
  · omega
  · obtain rfl : j = k := by omega
    exact eq_of_B hx
theorem at_neg {r : List DRecPhase} {x : ByteArray} (h : atI r x < 0) : atI r x = -1 := by
  rcases at_cases r x with h | ⟨j, hj, h, hx⟩ <;> omega
/-- RecGo at a phase. -/
theorem goS_at {r : List DRecPhase} (hR : RecP r) {x : ByteArray} {now lf t : Int} {well : Bool} {k : Nat} (hk : k < r.length) (e : atI r x = (k : Int)) (h0 : 0 ≤ now) (h1 : now ≤ 12000) :
    goS r x now lf t well = ((nxT r[k] (goT r[k] t well).2, now + (goT r[k] t well).1, bndF 12 r (nxT r[k] (goT r[k] t well).2)), true) := by
  have hi : inB now 0 12000 = true := by simp [inB]; omega
  have hn0 : 0 ≤ atI r x := by omega
  simp only [goS, rec_yes hR, hn0, hi, and_self, if_true, ph_at hk e]
theorem nxT_or (p : DRecPhase) (ok : Bool) : nxT p ok = p.2.2.2.2.2.2.1 ∨ nxT p ok = p.2.2.2.2.2.2.2 := by
  unfold nxT
  split
  · exact .inl rfl
  · exact .inr rfl
theorem goT_in (p : DRecPhase) (t : Int) (well : Bool) (h : 1 ≤ p.2.2.2.2.2.1 ∧ p.2.2.2.2.2.1 ≤ 1000) (hn : 0 ≤ p.2.2.2.2.1) : 0 ≤ (goT p t well).1 ∧ (goT p t well).1 ≤ p.2.2.2.2.2.1 := by
  unfold goT
  simp only
  repeat' split
  all_goals omega
/-- What one step does. -/
structure StepP (r : List DRecPhase) (x : ByteArray) (now : Int) (k : Nat) (g : (ByteArray × Int × Int) × Bool) : Prop where
  ok : g.2 = true
  lo : now ≤ g.1.2.1
  hi : g.1.2.1 ≤ now + 1000
  left : g.1.2.2 = bndF 12 r g.1.1
  less : g.1.2.1 + g.1.2.2 ≤ now + bndF 12 r x
  slots : ∀ y ∈ sltF 12 r g.1.1, y ∈ sltF 12 r x
  can : ∀ q, canF 12 r g.1.1 q = true → canF 12 r x q = true
  fin : atI r g.1.1 = -1 → ¬ endI g.1.1 = 0
  next : ∀ q : Nat, atI r g.1.1 = (q : Int) → k < q
  size : g.1.1.size ≤ 8
  here : x.size ≤ 8
theorem both_l {a b : List ByteArray} {y : ByteArray} (h : y ∈ a) : y ∈ bothL a b := (both_memI b a y).2 (.inl h)
theorem both_r {a b : List ByteArray} {y : ByteArray} (h : y ∈ b) : y ∈ bothL a b := (both_memI b a y).2 (.inr h)
theorem step_all {r : List DRecPhase} (hR : RecP r) {x : ByteArray} {now lf t : Int} {well : Bool} {k : Nat} (hk : k < r.length) (e : atI r x = (k : Int)) (h0 : 0 ≤ now) (h1 : now ≤ 12000) : StepP r x now k (goS r x now lf t well) := by
  have hst := step_of hR hk
  have hin := (ph_name hst.1).2.2.1
  have hn := nameAtU hk e
  have hb := bnd_step hR hk
  have hc := fun q => can_step hR hk q
  have hs := slt_step hR hk
  have hg := goT_le r[k] t well hin
  have hw : (goT r[k] t well).1 ≤ r[k].2.2.2.2.2.1 := by
    unfold goT
    simp only
    repeat' split
    all_goals omega
  rw [hn] at hb hs
  have hgo : ∀ z, (z = r[k].2.2.2.2.2.2.1 ∨ z = r[k].2.2.2.2.2.2.2) → bndF 12 r z + r[k].2.2.2.2.2.1 ≤ bndF 12 r x ∧ (∀ y ∈ sltF 12 r z, y ∈ sltF 12 r x) ∧ (∀ q, canF 12 r z q = true → canF 12 r x q = true) ∧ (atI r z = -1 → ¬ endI z = 0) ∧ ∀ q : Nat, atI r z = (q : Int) → k < q := by
    intro z hz
    have hgz : goesB r k z = true := by
      rcases hz with rfl | rfl
      · exact hst.2.1
      · exact hst.2.2
    refine ⟨by rcases hz with rfl | rfl <;> omega, ?_, ?_, ?_, go_next hR hgz⟩
    · intro y hy
      rw [hs]
      rcases hz with rfl | rfl
      · exact both_l (both_l hy)
      · exact both_l (both_r hy)
    · intro q hq
      have := hc q
      rw [hn] at this
      rw [this]
      rcases hz with rfl | rfl <;> simp [hq]
    · intro hz1 hz2
      have := goes_no (r := r) (i := k) hz2 (by omega)
      rw [this] at hgz
      cases hgz
  obtain ⟨g1, g2, g3, g4, g5⟩ := hgo _ (nxT_or r[k] (goT r[k] t well).2)
  have hz : (nxT r[k] (goT r[k] t well).2).size ≤ 8 := by
    have hp := hst.1
    simp only [phaseB, Bool.and_eq_true] at hp
    rcases nxT_or r[k] (goT r[k] t well).2 with h | h
    · rw [h]; exact name_le hp.1.2
    · rw [h]; exact name_le hp.2
  have hx : x.size ≤ 8 := by rw [← hn]; exact name_le (ph_name hst.1).1
  rw [goS_at hR hk e h0 h1]
  exact ⟨rfl, by simp only; omega, by simp only; omega, rfl, by simp only; omega, g2, g3, g4, g5, hz, hx⟩

end Go.Proofs.Ytkongeofapbblab
