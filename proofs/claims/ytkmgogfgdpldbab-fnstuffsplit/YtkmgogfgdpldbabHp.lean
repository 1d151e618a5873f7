/-
  A heap in a list of places with sizes: the first is never behind another; put, and take the first. Plain lists, no program is named here.
-/
import Derived.Test.YtkmgogfgdpldbabLy
namespace Go.Proofs.Ytkmgogfgdpldbab

/-- Is one ahead of the other: greater, or as great and placed before it? Is it not behind it? -/
def ahd (a b : Int × Int) : Bool := decide (b.2 < a.2 ∨ (a.2 = b.2 ∧ a.1 < b.1))
def leE (a b : Int × Int) : Prop := b.2 < a.2 ∨ (a.2 = b.2 ∧ a.1 ≤ b.1)
theorem leE_refl (a : Int × Int) : leE a a := Or.inr ⟨rfl, Int.le_refl _⟩
theorem leE_trans {a b c : Int × Int} (h1 : leE a b) (h2 : leE b c) : leE a c := by unfold leE at *; omega
theorem leE_of_ahd {a b : Int × Int} (h : ahd a b = true) : leE a b := by
  have := of_decide_eq_true h
  unfold leE; omega
theorem leE_of_not {a b : Int × Int} (h : ahd a b = false) : leE b a := by
  have := of_decide_eq_false h
  unfold leE; omega

/-- Element i; the parent's place; two changed for each other. -/
def nE (l : List (Int × Int)) (i : Nat) : Int × Int := l.getD i (0, 0)
def par (i : Nat) : Nat := (i - 1) / 2
def sw (l : List (Int × Int)) (i j : Nat) : List (Int × Int) := (l.set i (nE l j)).set j (nE l i)
theorem nE_at {l : List (Int × Int)} {i : Nat} (h : i < l.length) : nE l i = l[i] := by simp [nE, h]
theorem sw_len (l : List (Int × Int)) (i j : Nat) : (sw l i j).length = l.length := by simp [sw]
theorem nE_sw (l : List (Int × Int)) (i j k : Nat) (hi : i < l.length) (hj : j < l.length) : nE (sw l i j) k = if k = j then nE l i else if k = i then nE l j else nE l k := by
  unfold sw nE
  simp only [List.getD_eq_getElem?_getD, List.getElem?_set, List.length_set]
  by_cases h1 : k = j
  · subst h1; simp [hj]
  · by_cases h2 : k = i
    · subst h2; simp [Ne.symm h1, h1, hi]
    · simp [Ne.symm h1, Ne.symm h2, h1, h2]
theorem sw_perm (l : List (Int × Int)) (i j : Nat) (hi : i < l.length) (hj : j < l.length) : (sw l i j).Perm l := by
  unfold sw
  rw [nE_at hi, nE_at hj]
  exact List.set_set_perm hi hj

def Heap (l : List (Int × Int)) : Prop := ∀ i, 0 < i → i < l.length → leE (nE l (par i)) (nE l i)
theorem heap_min {l : List (Int × Int)} (h : Heap l) : ∀ i, i < l.length → leE (nE l 0) (nE l i) := by
  intro i
  induction i using Nat.strongRecOn with
  | _ i ih =>
    intro hi
    by_cases h0 : i = 0
    · subst h0; exact leE_refl _
    · exact leE_trans (ih (par i) (by unfold par; omega) (by unfold par; omega)) (h i (by omega) hi)

/-- A heap but at one place that may be ahead of its parent; but at one place that may be behind its children. -/
def Up (l : List (Int × Int)) (t : Nat) : Prop := (∀ i, 0 < i → i < l.length → i ≠ t → leE (nE l (par i)) (nE l i)) ∧ (0 < t → ∀ i, 0 < i → i < l.length → par i = t → leE (nE l (par t)) (nE l i))
def Down (l : List (Int × Int)) (t : Nat) : Prop := (∀ i, 0 < i → i < l.length → par i ≠ t → leE (nE l (par i)) (nE l i)) ∧ (0 < t → ∀ i, 0 < i → i < l.length → par i = t → leE (nE l (par t)) (nE l i))

theorem up_push {l : List (Int × Int)} (h : Heap l) (x : Int × Int) : Up (l ++ [x]) l.length := by
  have e : ∀ i, i < l.length → nE (l ++ [x]) i = nE l i := fun i hi => by simp [nE, List.getElem?_append_left hi]
  refine ⟨fun i h0 hi hne => ?_, fun h0 i hi hil hp => ?_⟩
  · have hi' : i < l.length := by simp at hi; omega
    rw [e i hi', e (par i) (by unfold par; omega)]
    exact h i h0 hi'
  · simp at hil; unfold par at hp; omega
theorem up_step {l : List (Int × Int)} {t : Nat} (h : Up l t) (ht : t < l.length) (h0 : 0 < t) (ha : ahd (nE l t) (nE l (par t)) = true) : Up (sw l t (par t)) (par t) := by
  have hpt : par t < t := by unfold par; omega
  have hle := leE_of_ahd ha
  have hsw := fun k => nE_sw l t (par t) k ht (by omega)
  refine ⟨fun i hi0 hi hne => ?_, fun hp0 i hi0 hi hpi => ?_⟩
  · rw [sw_len] at hi
    rw [hsw, hsw]
    by_cases e1 : i = t
    · subst e1
      rw [if_pos rfl, if_neg hne, if_pos rfl]
      exact hle
    · rw [if_neg hne, if_neg e1]
      by_cases e2 : par i = t
      · rw [if_neg (by omega), if_pos e2]
        exact h.2 h0 i hi0 hi e2
      · by_cases e3 : par i = par t
        · rw [if_pos e3]
          have := h.1 i hi0 hi e1
          rw [e3] at this
          exact leE_trans hle this
        · rw [if_neg e3, if_neg e2]
          exact h.1 i hi0 hi e1
  · rw [sw_len] at hi
    have hpp : par (par t) < par t := by unfold par at *; omega
    rw [hsw, hsw, if_neg (by omega), if_neg (by omega)]
    have hpt1 := h.1 (par t) hp0 (by omega) (by omega)
    by_cases e1 : i = t
    · subst e1
      rw [if_neg (by omega), if_pos rfl]
      exact hpt1
    · rw [if_neg (by unfold par at *; omega), if_neg e1]
      have := h.1 i hi0 hi e1
      rw [hpi] at this
      exact leE_trans hpt1 this
theorem up_end {l : List (Int × Int)} {t : Nat} (h : Up l t) (he : t = 0 ∨ ahd (nE l t) (nE l (par t)) = false) : Heap l := fun i h0 hi => by
  by_cases e : i = t
  · subst e
    rcases he with he | he
    · omega
    · exact leE_of_not he
  · exact h.1 i h0 hi e

/-- The first taken away, the last in its place. -/
def hole (l : List (Int × Int)) : List (Int × Int) := (l.set 0 (nE l (l.length - 1))).take (l.length - 1)
theorem hole_len (l : List (Int × Int)) : (hole l).length = l.length - 1 := by simp [hole]
theorem nE_hole (l : List (Int × Int)) (i : Nat) (h0 : 0 < i) (hi : i < l.length - 1) : nE (hole l) i = nE l i := by
  unfold hole nE
  simp only [List.getD_eq_getElem?_getD]
  rw [List.getElem?_take_of_lt hi, List.getElem?_set_ne (by omega)]
theorem down_hole {l : List (Int × Int)} (h : Heap l) : Down (hole l) 0 := by
  refine ⟨fun i h0 hi hp => ?_, fun h0 => by omega⟩
  rw [hole_len] at hi
  rw [nE_hole l i h0 hi, nE_hole l (par i) (by omega) (by unfold par; omega)]
  exact h i h0 (by omega)
theorem hole_perm (l : List (Int × Int)) (h : 0 < l.length) : (nE l 0 :: hole l).Perm l := by
  have h1 : (sw l 0 (l.length - 1)).Perm l := sw_perm l 0 (l.length - 1) h (by omega)
  have h2 : sw l 0 (l.length - 1) = hole l ++ [nE l 0] := by
    apply List.ext_getElem?
    intro k
    unfold sw hole
    by_cases hk : k < l.length - 1
    · rw [List.getElem?_set_ne (by omega), List.getElem?_append_left (by simp; omega), List.getElem?_take_of_lt hk]
    · by_cases hk2 : k = l.length - 1
      · subst hk2
        have hlen : ((l.set 0 (nE l (l.length - 1))).take (l.length - 1)).length = l.length - 1 := by simp
        rw [List.getElem?_append_right (by rw [hlen]; omega), hlen, Nat.sub_self, List.getElem?_set_self (by simp; omega)]
        rfl
      · rw [List.getElem?_eq_none (by simp; omega), List.getElem?_eq_none (by simp; omega)]
  rw [h2] at h1
  exact (List.perm_append_singleton (nE l 0) (hole l)).symm.trans h1
/-- That of the two below one which is ahead of the other. -/
def fbel (l : List (Int × Int)) (t : Nat) : Nat := if 2 * t + 2 < l.length ∧ ahd (nE l (2 * t + 2)) (nE l (2 * t + 1)) = true then 2 * t + 2 else 2 * t + 1
theorem fbel_par (l : List (Int × Int)) (t : Nat) : par (fbel l t) = t ∧ t < fbel l t := by
  unfold fbel par; split <;> omega
theorem fbel_le (l : List (Int × Int)) (t i : Nat) (hi0 : 0 < i) (hi : i < l.length) (hp : par i = t) : leE (nE l (fbel l t)) (nE l i) := by
  have hi2 : i = 2 * t + 1 ∨ i = 2 * t + 2 := by unfold par at hp; omega
  unfold fbel
  split
  · rename_i hc
    rcases hi2 with rfl | rfl
    · exact leE_of_ahd hc.2
    · exact leE_refl _
  · rename_i hc
    rcases hi2 with rfl | rfl
    · exact leE_refl _
    · refine leE_of_not ?_
      cases h : ahd (nE l (2 * t + 2)) (nE l (2 * t + 1))
      · rfl
      · exact absurd ⟨hi, h⟩ hc
theorem down_step {l : List (Int × Int)} {t : Nat} (h : Down l t) (hc : fbel l t < l.length) (ha : ahd (nE l (fbel l t)) (nE l t) = true) : Down (sw l (fbel l t) t) (fbel l t) := by
  obtain ⟨hp, htc⟩ := fbel_par l t
  have hfl := fbel_le l t
  generalize fbel l t = c at *
  have hle := leE_of_ahd ha
  have hsw := fun k => nE_sw l c t k hc (by omega)
  refine ⟨fun i hi0 hi hne => ?_, fun hc0 i hi0 hi hpi => ?_⟩
  · rw [sw_len] at hi
    rw [hsw, hsw]
    by_cases e1 : i = c
    · subst e1
      rw [if_pos hp, if_neg (by omega), if_pos rfl]
      exact hle
    · by_cases e2 : i = t
      · subst e2
        have hpi : par i < i := by unfold par; omega
        rw [if_neg (by omega), if_neg (by omega), if_pos rfl]
        exact h.2 (by omega) c (by omega) hc hp
      · rw [if_neg e2, if_neg e1]
        by_cases e3 : par i = t
        · rw [if_pos e3]
          exact hfl i hi0 hi e3
        · rw [if_neg e3, if_neg hne]
          exact h.1 i hi0 hi e3
  · rw [sw_len] at hi
    have hci : c < i := by unfold par at hpi; omega
    rw [hsw, hsw, hp, if_pos rfl, if_neg (by omega), if_neg (by omega)]
    have := h.1 i hi0 hi (by omega)
    rw [hpi] at this
    exact this
theorem down_end {l : List (Int × Int)} {t : Nat} (h : Down l t) (he : l.length ≤ fbel l t ∨ ahd (nE l (fbel l t)) (nE l t) = false) : Heap l := fun i h0 hi => by
  by_cases e : par i = t
  · have hl := fbel_le l t i h0 hi e
    rcases he with he | he
    · exfalso
      unfold fbel at he
      split at he
      · rename_i hc; omega
      · unfold par at e; omega
    · rw [e]
      exact leE_trans (leE_of_not he) hl
  · exact h.1 i h0 hi e

end Go.Proofs.Ytkmgogfgdpldbab
