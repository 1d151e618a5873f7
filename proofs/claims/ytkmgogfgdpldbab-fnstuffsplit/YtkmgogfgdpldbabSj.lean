/-
  Sharing out, as plain lists: whole parts first, then one each where most is left; why a heap of remainders hands out the same places. No program is named here.
-/
import Derived.Test.YtkmgogfgdpldbabHp
namespace Go.Proofs.Ytkmgogfgdpldbab

/-- The place with the greatest number among the first i, the first of several. -/
def mostK (l : List Int) : Nat → Nat
  | 0 => 0
  | i + 1 => if l.getD (mostK l i) 0 < l.getD i 0 then i else mostK l i
def mostI (l : List Int) : Nat := mostK l l.length
theorem mostK_lt (l : List Int) : ∀ i, 0 < i → mostK l i < i
  | 0, h => by omega
  | 1, _ => by unfold mostK; split <;> simp [mostK]
  | i + 2, _ => by
    have := mostK_lt l (i + 1) (by omega)
    rw [mostK]; split <;> omega
theorem mostK_max (l : List Int) : ∀ i, 0 < i → (∀ j, j < i → l.getD j 0 ≤ l.getD (mostK l i) 0) ∧ ∀ j, j < mostK l i → l.getD j 0 < l.getD (mostK l i) 0
  | 0, h => by omega
  | 1, _ => by
    have : mostK l 1 = 0 := by have := mostK_lt l 1 (by omega); omega
    rw [this]
    exact ⟨fun j hj => by have : j = 0 := by omega
                          subst this; exact Int.le_refl _, fun j hj => by omega⟩
  | i + 2, _ => by
    obtain ⟨h1, h2⟩ := mostK_max l (i + 1) (by omega)
    rw [mostK]
    split
    · rename_i hc
      refine ⟨fun j hj => ?_, fun j hj => ?_⟩
      · by_cases e : j = i + 1
        · subst e; exact Int.le_refl _
        · have := h1 j (by omega); omega
      · have := h1 j (by omega); omega
    · rename_i hc
      refine ⟨fun j hj => ?_, h2⟩
      by_cases e : j = i + 1
      · subst e; omega
      · exact h1 j (by omega)
theorem most_eq (l : List Int) (p : Nat) (hp : p < l.length) (h1 : ∀ j, j < l.length → l.getD j 0 ≤ l.getD p 0) (h2 : ∀ j, j < p → l.getD j 0 < l.getD p 0) : mostI l = p := by
  obtain ⟨g1, g2⟩ := mostK_max l l.length (by omega)
  have hlt := mostK_lt l l.length (by omega)
  unfold mostI
  rcases Nat.lt_trichotomy (mostK l l.length) p with h | h | h
  · have := h2 _ h; have := g1 p hp; omega
  · exact h
  · have := g2 _ h; have := h1 _ hlt; omega

/-- What is still to be had: in the heap just those that are left. -/
def Inv (L : List (Int × Int)) (lf : List Int) : Prop := L.Nodup ∧ ∀ x, x ∈ L ↔ ∃ p : Nat, p < lf.length ∧ 0 ≤ lf.getD p 0 ∧ x = ((p : Int), lf.getD p 0)
theorem inv_pop {L L' : List (Int × Int)} {lf : List Int} (hI : Inv L lf) (hH : Heap L) (h0 : 0 < L.length) (hP : (nE L 0 :: L').Perm L) :
    mostI lf < lf.length ∧ nE L 0 = (((mostI lf : Nat) : Int), lf.getD (mostI lf) 0) ∧ Inv L' (lf.set (mostI lf) (-1)) := by
  obtain ⟨hn, hm⟩ := hI
  have hmem : nE L 0 ∈ L := by rw [nE_at h0]; exact List.getElem_mem h0
  obtain ⟨p, hp, hp0, he⟩ := (hm _).1 hmem
  have hmin : ∀ x ∈ L, leE (nE L 0) x := fun x hx => by
    obtain ⟨i, hi, rfl⟩ := List.getElem_of_mem hx
    have := heap_min hH i hi
    rwa [nE_at hi] at this
  have hle : ∀ j, j < lf.length → lf.getD j 0 ≤ lf.getD p 0 ∧ (j < p → lf.getD j 0 < lf.getD p 0) := fun j hj => by
    by_cases hj0 : 0 ≤ lf.getD j 0
    · have h1 := hmin _ ((hm _).2 ⟨j, hj, hj0, rfl⟩)
      rw [he] at h1
      unfold leE at h1
      simp only at h1
      omega
    · omega
  have hmost : mostI lf = p := most_eq lf p hp (fun j hj => (hle j hj).1) (fun j hj => (hle j (by omega)).2 hj)
  rw [hmost]
  have hn' : (nE L 0 :: L').Nodup := hP.nodup_iff.2 hn
  obtain ⟨hnot, hn2⟩ := List.nodup_cons.1 hn'
  refine ⟨hp, he, hn2, fun x => ?_⟩
  have hx : x ∈ L' ↔ x ∈ L ∧ x ≠ nE L 0 := by
    constructor
    · intro h
      exact ⟨hP.mem_iff.1 (List.mem_cons_of_mem _ h), fun e => hnot (e ▸ h)⟩
    · rintro ⟨h1, h2⟩
      rcases List.mem_cons.1 (hP.mem_iff.2 h1) with h | h
      · exact absurd h h2
      · exact h
  have hget : ∀ q, (lf.set p (-1)).getD q 0 = if q = p then -1 else lf.getD q 0 := fun q => by
    simp only [List.getD_eq_getElem?_getD, List.getElem?_set]
    by_cases e : q = p
    · subst e; simp [hp]
    · simp [e, Ne.symm e]
  rw [hx, hm]
  constructor
  · rintro ⟨⟨q, hq, hq0, rfl⟩, hne⟩
    have hqp : q ≠ p := fun e => hne (by rw [he, e])
    exact ⟨q, by rw [List.length_set]; exact hq, by rw [hget, if_neg hqp]; exact hq0, by rw [hget, if_neg hqp]⟩
  · rintro ⟨q, hq, hq0, rfl⟩
    rw [List.length_set] at hq
    rw [hget] at hq0 ⊢
    have hqp : q ≠ p := fun e => by rw [if_pos e] at hq0; omega
    rw [if_neg hqp] at hq0 ⊢
    exact ⟨⟨q, hq, hq0, rfl⟩, fun e => hqp (by rw [he] at e; have := (Prod.mk.inj e).1; omega)⟩

/-- One more to where most is left; so many times. -/
def stepS (s : List Int × List Int) : List Int × List Int := (s.1.set (mostI s.2) (s.1.getD (mostI s.2) 0 + 1), s.2.set (mostI s.2) (-1))
def runS : Nat → List Int × List Int → List Int × List Int
  | 0, s => s
  | k + 1, s => stepS (runS k s)
theorem runS_len (s : List Int × List Int) : ∀ k, (runS k s).1.length = s.1.length ∧ (runS k s).2.length = s.2.length
  | 0 => ⟨rfl, rfl⟩
  | k + 1 => by
    have := runS_len s k
    simp only [runS, stepS, List.length_set]
    exact this
theorem runS_bound (s : List Int × List Int) (b : Int) (h : ∀ x ∈ s.1, 0 ≤ x ∧ x ≤ b) (hb : 0 ≤ b) : ∀ (k : Nat), ∀ x ∈ (runS k s).1, 0 ≤ x ∧ x ≤ b + k
  | 0, x, hx => by have := h x hx; simp; omega
  | k + 1, x, hx => by
    have ih := runS_bound s b h hb k
    simp only [runS, stepS] at hx
    rcases List.mem_or_eq_of_mem_set hx with h1 | h1
    · have := ih x h1; omega
    · have hg : 0 ≤ (runS k s).1.getD (mostI (runS k s).2) 0 ∧ (runS k s).1.getD (mostI (runS k s).2) 0 ≤ b + k := by
        by_cases hl : mostI (runS k s).2 < (runS k s).1.length
        · have := ih _ (List.getElem_mem hl)
          simpa [List.getD_eq_getElem?_getD, hl] using this
        · rw [List.getD_eq_getElem?_getD, List.getElem?_eq_none (by omega)]
          simp; omega
      omega

/-- Amounts that are ok; the whole parts, and what is left over; how many are missing. -/
def OkA (A : List Int) : Prop := A.length ≤ 16 ∧ ∀ x ∈ A, 0 ≤ x ∧ x ≤ 1000
def whole (A : List Int) (N : Int) : List Int := A.map fun x => N * x / A.sum
def over (A : List Int) (N : Int) : List Int := A.map fun x => N * x % A.sum
def miss (A : List Int) (N : Int) : Int := N - (whole A N).sum
def OkN (A : List Int) (N : Int) : Prop := OkA A ∧ 0 ≤ N ∧ N ≤ A.sum
noncomputable def splitL (A : List Int) (N : Int) : List Int :=
  @ite _ (OkN A N) (Classical.propDecidable _) (if A.sum = 0 then A.map (fun _ => 0) else (runS (miss A N).toNat (whole A N, over A N)).1) []
theorem split_no {A : List Int} {N : Int} (h : ¬ OkN A N) : splitL A N = [] := by unfold splitL; rw [if_neg h]
theorem split_zero {A : List Int} {N : Int} (h : OkN A N) (h0 : A.sum = 0) : splitL A N = A.map (fun _ => 0) := by unfold splitL; rw [if_pos h, if_pos h0]
theorem split_run {A : List Int} {N : Int} (h : OkN A N) (h0 : A.sum ≠ 0) : splitL A N = (runS (miss A N).toNat (whole A N, over A N)).1 := by unfold splitL; rw [if_pos h, if_neg h0]

theorem sum_bound : ∀ A : List Int, (∀ x ∈ A, 0 ≤ x ∧ x ≤ 1000) → 0 ≤ A.sum ∧ A.sum ≤ 1000 * A.length
  | [], _ => by simp
  | a :: A, h => by
    have ih := sum_bound A (fun x hx => h x (by simp [hx]))
    have := h a (by simp)
    simp only [List.sum_cons, List.length_cons]
    omega
theorem sum_split (N T : Int) (hT : 0 < T) : ∀ A : List Int, N * A.sum = T * (A.map fun x => N * x / T).sum + (A.map fun x => N * x % T).sum ∧ 0 ≤ (A.map fun x => N * x % T).sum ∧ (A.map fun x => N * x % T).sum ≤ (T - 1) * A.length
  | [] => by simp
  | a :: A => by
    obtain ⟨h1, h2, h3⟩ := sum_split N T hT A
    have e := Int.mul_ediv_add_emod (N * a) T
    have m1 := Int.emod_nonneg (N * a) (show T ≠ 0 by omega)
    have m2 := Int.emod_lt_of_pos (N * a) hT
    simp only [List.map_cons, List.sum_cons, List.length_cons]
    refine ⟨?_, by omega, ?_⟩
    · rw [Int.mul_add, h1, Int.mul_add]; omega
    · rw [Int.natCast_add, Int.mul_add]; simp; omega
theorem miss_bound {A : List Int} {N : Int} (h : OkN A N) (h0 : A.sum ≠ 0) : 0 ≤ miss A N ∧ miss A N ≤ A.length := by
  have hs := sum_bound A h.1.2
  have hT : 0 < A.sum := by omega
  obtain ⟨h1, h2, h3⟩ := sum_split N A.sum hT A
  have e : A.sum * miss A N = (over A N).sum := by
    unfold miss whole over
    rw [Int.mul_sub, Int.mul_comm A.sum N]
    omega
  have e2 : (over A N).sum ≤ (A.sum - 1) * A.length := h3
  have e3 : 0 ≤ (over A N).sum := h2
  constructor
  · rcases Int.lt_or_le (miss A N) 0 with hm | hm
    · have : A.sum * miss A N < 0 := Int.mul_neg_of_pos_of_neg hT hm
      omega
    · exact hm
  · rcases Int.lt_or_le (A.length : Int) (miss A N) with hm | hm
    · have h5 : A.sum * ((A.length : Int) + 1) ≤ A.sum * miss A N := Int.mul_le_mul_of_nonneg_left (by omega) (by omega)
      rw [Int.mul_add] at h5
      rw [Int.sub_mul] at e2
      omega
    · exact hm
/-- The pairs of places and what is left over, of the first k. -/
def prs (lf : List Int) (k : Nat) : List (Int × Int) := (List.range k).map fun i : Nat => ((i : Int), lf.getD i 0)
theorem prs_succ (lf : List Int) (k : Nat) : prs lf (k + 1) = prs lf k ++ [((k : Int), lf.getD k 0)] := by simp [prs, List.range_succ]
theorem inv_prs {lf : List Int} (h : ∀ x ∈ lf, 0 ≤ x) {L : List (Int × Int)} (hP : L.Perm (prs lf lf.length)) : Inv L lf := by
  refine ⟨hP.nodup_iff.2 ?_, fun x => ?_⟩
  · unfold prs
    rw [List.nodup_iff_pairwise_ne, List.pairwise_map]
    refine List.Pairwise.imp ?_ (List.nodup_iff_pairwise_ne.1 List.nodup_range)
    intro a b hab e
    exact hab (by have := (Prod.mk.inj e).1; omega)
  · rw [hP.mem_iff]
    unfold prs
    rw [List.mem_map]
    constructor
    · rintro ⟨i, hi, rfl⟩
      have hi' := List.mem_range.1 hi
      refine ⟨i, hi', ?_, rfl⟩
      have := h _ (List.getElem_mem hi')
      simpa [List.getD_eq_getElem?_getD, hi'] using this
    · rintro ⟨p, hp, _, rfl⟩
      exact ⟨p, List.mem_range.2 hp, rfl⟩

end Go.Proofs.Ytkmgogfgdpldbab
