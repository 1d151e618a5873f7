/-
  By the definition: can a recipe come from here to there?
-/
import Derived.Test.YtmccbkmfcldbgabXqc
import Derived.Test.YtmccbkmfcldbgabXbe
namespace Go.Proofs.Ytmccbkmfcldbgab
open Go.RowKit Go.Sort

/-- Can it come from here to there, by at most so many phases? -/
def rchF : Nat → List DRecPhase → ByteArray → ByteArray → Bool
  | 0, _, x, y => eqB x y
  | n + 1, r, x, y => eqB x y || (if atI r x < 0 then false else rchF n r (phX r x).2.2.2.2.2.2.1 y || rchF n r (phX r x).2.2.2.2.2.2.2 y)
theorem rch_eq {n : Nat} {r : List DRecPhase} {x y : ByteArray} (h : eqB x y = true) : rchF n r x y = true := by
  cases n with
  | zero => exact h
  | succ n => simp [rchF, h]
theorem rch_none {n : Nat} {r : List DRecPhase} {x y : ByteArray} (h : eqB x y = false) (e : atI r x = -1) : rchF n r x y = false := by
  cases n with
  | zero => exact h
  | succ n => simp [rchF, h, e]
theorem rch_step {n : Nat} {r : List DRecPhase} {x y : ByteArray} (h : eqB x y = false) {k : Nat} (hk : k < r.length) (e : atI r x = (k : Int)) : rchF (n + 1) r x y = (rchF n r r[k].2.2.2.2.2.2.1 y || rchF n r r[k].2.2.2.2.2.2.2 y) := by
  have hx : ¬ (atI r x < 0) := by omega
  simp only [rchF, h, Bool.false_or, if_neg hx, ph_at hk e]
/-- The text of an end. -/
def endT (e : Int) : ByteArray := if e = 1 then ⟨#[103, 111, 111, 100]⟩ else if e = 2 then ⟨#[115, 97, 118, 101, 100]⟩ else ⟨#[115, 99, 114, 97, 112, 112, 101, 100]⟩
theorem end_is (x : ByteArray) (e : Int) (he : e = 1 ∨ e = 2 ∨ e = 3) : eqB x (endT e) = (endI x == e) := by
  have l1 : (⟨#[103, 111, 111, 100]⟩ : ByteArray).toList = [103, 111, 111, 100] := by rw [ByteArray.toList_eq]
  have l2 : (⟨#[115, 97, 118, 101, 100]⟩ : ByteArray).toList = [115, 97, 118, 101, 100] := by rw [ByteArray.toList_eq]
  have l3 : (⟨#[115, 99, 114, 97, 112, 112, 101, 100]⟩ : ByteArray).toList = [115, 99, 114, 97, 112, 112, 101, 100] := by rw [ByteArray.toList_eq]
  rw [Bool.eq_iff_iff]
  unfold eqB endI isT
  rcases he with rfl | rfl | rfl
  · show (x.toList == (⟨#[103, 111, 111, 100]⟩ : ByteArray).toList) = true ↔ _
    rw [l1]
    simp only [beq_iff_eq]
    constructor
    · intro h; rw [h]; rfl
    · intro h
      repeat' split at h
      all_goals (first | assumption | (exfalso; omega))
  · show (x.toList == (⟨#[115, 97, 118, 101, 100]⟩ : ByteArray).toList) = true ↔ _
    rw [l2]
    simp only [beq_iff_eq]
    constructor
    · intro h; rw [h]; rfl
    · intro h
      repeat' split at h
      all_goals (first | assumption | (exfalso; omega))
  · show (x.toList == (⟨#[115, 99, 114, 97, 112, 112, 101, 100]⟩ : ByteArray).toList) = true ↔ _
    rw [l3]
    simp only [beq_iff_eq]
    constructor
    · intro h; rw [h]; rfl
    · intro h
      repeat' split at h
      all_goals (first | assumption | (exfalso; omega))
theorem rch_can {r : List DRecPhase} (h : RecP r) (e : Int) (he : e = 1 ∨ e = 2 ∨ e = 3) : ∀ (n : Nat) (x : ByteArray), rchF n r x (endT e) = canF n r x e
  | 0, x => end_is x e he
  | n + 1, x => by
    rcases at_cases r x with c | ⟨k, hk, c, hx⟩
    · have hn : atI r x < 0 := by omega
      simp only [rchF, canF, if_pos hn, Bool.or_false]
      exact end_is x e he
    · have hn : ¬ atI r x < 0 := by omega
      have h0 : endI x = 0 := by rw [← end_eq hx]; exact (ph_name (step_of h hk).1).2.1
      have hne : eqB x (endT e) = false := by
        rw [end_is x e he, h0]
        rcases he with rfl | rfl | rfl <;> rfl
      simp only [rchF, canF, if_neg hn, hne, Bool.false_or]
      rw [rch_can h e he n, rch_can h e he n]
theorem some_end {r : List DRecPhase} (h : RecP r) : ∀ (n k : Nat) (hk : k < r.length), r.length ≤ k + n → ∃ e : Int, (e = 1 ∨ e = 2 ∨ e = 3) ∧ canF n r r[k].1 e = true
  | 0, k, hk, hn => by omega
  | n + 1, k, hk, hn => by
    have e := at_self h hk
    have hx : ¬ (atI r r[k].1 < 0) := by omega
    have hg := (step_of h hk).2.1
    have hn' := can_succ (r := r) (x := r[k].1) n
    by_cases c : endI r[k].2.2.2.2.2.2.1 = 0
    · have hlt : (k : Int) < atI r r[k].2.2.2.2.2.2.1 := by simpa [goesB, c] using hg
      rcases at_cases r r[k].2.2.2.2.2.2.1 with d | ⟨j, hj, d, hx2⟩
      · omega
      · obtain ⟨q, hq, hc⟩ := some_end h n j hj (by omega)
        refine ⟨q, hq, ?_⟩
        rw [hn' q hx, ph_at hk e]
        have : canF n r r[k].2.2.2.2.2.2.1 q = true := by
          cases n with
          | zero => omega
          | succ n => rw [can_at h hj d n q]; exact hc
        rw [this, Bool.true_or]
    · have hr : endI r[k].2.2.2.2.2.2.1 = 1 ∨ endI r[k].2.2.2.2.2.2.1 = 2 ∨ endI r[k].2.2.2.2.2.2.1 = 3 := by
        rcases end_range r[k].2.2.2.2.2.2.1 with d | d | d | d
        · exact absurd d c
        · exact .inl d
        · exact .inr (.inl d)
        · exact .inr (.inr d)
      refine ⟨endI r[k].2.2.2.2.2.2.1, hr, ?_⟩
      rw [hn' _ hx, ph_at hk e]
      have hna : atI r r[k].2.2.2.2.2.2.1 = -1 := by
        rcases at_cases r r[k].2.2.2.2.2.2.1 with d | ⟨j, hj, d, hx2⟩
        · exact d
        · exact absurd ((end_eq hx2).symm.trans (ph_name (step_of h hj).1).2.1) c
      rw [can_none hna n, beq_self_eq_true, Bool.true_or]

end Go.Proofs.Ytmccbkmfcldbgab
