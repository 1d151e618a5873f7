/-
  What a whole run does (plain): how many phases are met, and that it ends where the recipe has an end.
-/
import Derived.Test.YtkongeofapbblaeXh
import Derived.Test.YtkongeofapbblaeM25
namespace Go.Proofs.Ytkongeofapbblae
open Go.RowKit

theorem eqG_eq {a b : ByteArray} (h : eqB a b = true) : a = b := by
  rw [eqB, beq_iff_eq, ByteArray.toList_eq, ByteArray.toList_eq] at h
  exact ByteArray.ext (Array.ext' h)
theorem nameG {r : List DRecPhase} {x : ByteArray} {k : Nat} (hk : k < r.length) (e : atI r x = (k : Int)) : r[k].1 = x := by
  rcases at_cases r x with h | ⟨j, hj, h, hx⟩
  · omega
  · obtain rfl : j = k := by omega
    exact eqG_eq hx
/-- Where a run is behind so many phases. -/
noncomputable def stG (r : List DRecPhase) (L : List DRecSay) : Nat → ByteArray × Int × Int
  | 0 => begS r
  | i + 1 => (goS r (stG r L i).1 (stG r L i).2.1 (stG r L i).2.2 (sayT L i).1 (sayT L i).2).1
noncomputable def paG (r : List DRecPhase) (L : List DRecSay) (i : Nat) : List ByteArray := (List.range i).map fun q => (stG r L q).1
theorem paG_succ (r : List DRecPhase) (L : List DRecSay) (i : Nat) : paG r L (i + 1) = paG r L i ++ [(stG r L i).1] := by simp [paG, List.range_succ]
theorem paG_len (r : List DRecPhase) (L : List DRecSay) (i : Nat) : (paG r L i).length = i := by simp [paG]
/-- A state on the way. -/
structure StG (s : ByteArray × Int × Int) (j : Nat) : Prop where
  lo : 0 ≤ s.2.1
  hi : s.2.1 ≤ 1000 * j
  sz : s.1.size ≤ 8
/-- How far it is yet, at most. -/
def mzG (r : List DRecPhase) (x : ByteArray) : Nat := if atI r x < 0 then 0 else (13 - atI r x).toNat
theorem mz_at {r : List DRecPhase} {x : ByteArray} {k : Nat} (h : atI r x = (k : Int)) : mzG r x = 13 - k := by
  unfold mzG
  rw [if_neg (by omega), h]; omega
theorem mz_no {r : List DRecPhase} {x : ByteArray} (h : atI r x = -1) : mzG r x = 0 := by
  unfold mzG
  rw [if_pos (by omega)]
/-- A whole run. -/
structure RunG (r : List DRecPhase) (L : List DRecSay) (m : Nat) : Prop where
  le : m ≤ 12
  go : ∀ i, i < m → (goS r (stG r L i).1 (stG r L i).2.1 (stG r L i).2.2 (sayT L i).1 (sayT L i).2).2 = true
  mid : ∀ i, i < m → endI (stG r L i).1 = 0
  less : ∀ i, i < m → mzG r (stG r L (i + 1)).1 < mzG r (stG r L i).1
  fin : endI (stG r L m).1 ≠ 0
  st : ∀ i, i ≤ m → StG (stG r L i) i
  run : runS r L = (stG r L m, paG r L m)
theorem goG_at {r : List DRecPhase} (hR : RecP r) {x : ByteArray} {now lf t : Int} {well : Bool} {k : Nat} (hk : k < r.length) (e : atI r x = (k : Int)) (h0 : 0 ≤ now) (h1 : now ≤ 12000) :
    (goS r x now lf t well).2 = true ∧ (goS r x now lf t well).1.1.size ≤ 8 ∧ (atI r (goS r x now lf t well).1.1 = -1 → endI (goS r x now lf t well).1.1 ≠ 0) := by
  have hst := step_of hR hk
  have hi : inB now 0 12000 = true := by simp [inB]; omega
  have hr : goS r x now lf t well = ((nxT r[k] (goT r[k] t well).2, now + (goT r[k] t well).1, bndF 12 r (nxT r[k] (goT r[k] t well).2)), true) := by
    have hn0 : 0 ≤ atI r x := by omega
    simp only [goS, rec_yes hR, hn0, hi, and_self, if_true, ph_at hk e]
  rw [hr]
  have hz := ph_goes hst.1
  have hg : goesB r k (nxT r[k] (goT r[k] t well).2) = true := by
    unfold nxT
    split
    · exact hst.2.1
    · exact hst.2.2
  refine ⟨rfl, ?_, fun h => ?_⟩
  · show (nxT r[k] _).size ≤ 8
    unfold nxT
    split
    · exact hz.1
    · exact hz.2
  · intro h0
    simp only at h h0
    rw [goes_no h0 (by omega)] at hg
    cases hg
theorem runG_go {r : List DRecPhase} (hR : RecP r) (L : List DRecSay) : ∀ (n j : Nat), StG (stG r L j) j → (∀ k : Nat, atI r (stG r L j).1 = (k : Int) → r.length ≤ k + n ∧ j ≤ k) → (atI r (stG r L j).1 = -1 → endI (stG r L j).1 ≠ 0) → j ≤ 12 →
    ∃ m, j ≤ m ∧ m ≤ 12 ∧ (∀ i, j ≤ i → i < m → (goS r (stG r L i).1 (stG r L i).2.1 (stG r L i).2.2 (sayT L i).1 (sayT L i).2).2 = true) ∧ (∀ i, j ≤ i → i < m → endI (stG r L i).1 = 0 ∧ mzG r (stG r L (i + 1)).1 < mzG r (stG r L i).1) ∧ endI (stG r L m).1 ≠ 0 ∧ (∀ i, j ≤ i → i ≤ m → StG (stG r L i) i) ∧ runF n r L j (stG r L j) (paG r L j) = (stG r L m, paG r L m) := by
  intro n
  induction n with
  | zero =>
    intro j hq hd he hj
    rcases at_cases r (stG r L j).1 with e | ⟨k, hk, e, _⟩
    · exact ⟨j, Nat.le_refl _, hj, fun i h1 h2 => by omega, fun i h1 h2 => by omega, he e, fun i h1 h2 => by obtain rfl : i = j := (by omega); exact hq, rfl⟩
    · have := (hd k e).1; omega
  | succ n ih =>
    intro j hq hd he hj
    rcases at_cases r (stG r L j).1 with e | ⟨k, hk, e, _⟩
    · exact ⟨j, Nat.le_refl _, hj, fun i h1 h2 => by omega, fun i h1 h2 => by omega, he e, fun i h1 h2 => by obtain rfl : i = j := (by omega); exact hq, run_end (by omega)⟩
    · have hl := hR.1
      obtain ⟨d1, d2⟩ := hd k e
      have hj12 : j < 12 := by omega
      have S := go_step hR (x := (stG r L j).1) (now := (stG r L j).2.1) (lf := (stG r L j).2.2) (t := (sayT L j).1) (well := (sayT L j).2) hk e hq.lo (by have := hq.hi; omega)
      have G := goG_at hR (x := (stG r L j).1) (now := (stG r L j).2.1) (lf := (stG r L j).2.2) (t := (sayT L j).1) (well := (sayT L j).2) hk e hq.lo (by have := hq.hi; omega)
      have es : stG r L (j + 1) = (goS r (stG r L j).1 (stG r L j).2.1 (stG r L j).2.2 (sayT L j).1 (sayT L j).2).1 := rfl
      have hz : endI (stG r L j).1 = 0 := by rw [← nameG hk e]; exact (ph_name (step_of hR hk).1).2.1
      have hm : mzG r (stG r L (j + 1)).1 < mzG r (stG r L j).1 := by
        rw [mz_at e]
        rcases at_cases r (stG r L (j + 1)).1 with e2 | ⟨q, hq2, e2, _⟩
        · rw [mz_no e2]; omega
        · have := S.1 q (by rw [← es]; exact e2)
          rw [mz_at e2]; omega
      have hq' : StG (stG r L (j + 1)) (j + 1) := by
        rw [es]
        have := hq.lo; have := hq.hi; have := S.2.1; have := S.2.2
        exact ⟨by omega, by omega, G.2.1⟩
      obtain ⟨m, m1, m2, m3, m4, m5, m6, m7⟩ := ih (j + 1) hq' (fun q hq2 => by rw [es] at hq2; have := S.1 q hq2; omega) (by rw [es]; exact G.2.2) (by omega)
      refine ⟨m, by omega, m2, fun i h1 h2 => ?_, fun i h1 h2 => ?_, m5, fun i h1 h2 => ?_, ?_⟩
      · by_cases hij : i = j
        · subst hij; exact G.1
        · exact m3 i (by omega) h2
      · by_cases hij : i = j
        · subst hij; exact ⟨hz, hm⟩
        · exact m4 i (by omega) h2
      · by_cases hij : i = j
        · subst hij; exact hq
        · exact m6 i (by omega) h2
      · rw [run_next (by omega), ← paG_succ, ← es]
        exact m7
theorem runG_all {r : List DRecPhase} (hR : RecP r) (L : List DRecSay) : ∃ m, RunG r L m := by
  have hl : 0 < r.length := hR.1.1
  have hb : begS r = (r[0].1, (0 : Int), bndF 12 r r[0].1) := by
    unfold begS
    rw [if_pos (rec_yes hR), List.getElem?_eq_getElem hl]
    rfl
  have h0 : atI r (stG r L 0).1 = ((0 : Nat) : Int) := by
    show atI r (begS r).1 = _
    rw [hb]
    exact at_self hR hl
  have hq : StG (stG r L 0) 0 := by
    show StG (begS r) 0
    rw [hb]
    exact ⟨by simp, by simp, name_le8 (ph_name (step_of hR hl).1).1⟩
  obtain ⟨m, m1, m2, m3, m4, m5, m6, m7⟩ := runG_go hR L 12 0 hq (fun k hk => by have := hR.1; omega) (fun h => by omega) (by omega)
  refine ⟨m, m2, fun i h => m3 i (by omega) h, fun i h => (m4 i (by omega) h).1, fun i h => (m4 i (by omega) h).2, m5, fun i h => m6 i (by omega) h, ?_⟩
  unfold runS
  rw [if_pos (rec_yes hR)]
  exact m7

end Go.Proofs.Ytkongeofapbblae
