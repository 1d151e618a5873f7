/-
  Sharing out, as plain lists: just n is shared out; no share is more than its amount, or a whole one away from its part; of all it is the amounts. No program is named here.
-/
import Derived.Test.YtkmgogfgdpldbabSk
namespace Go.Proofs.Ytkmgogfgdpldbab

theorem sum_set : ∀ (l : List Int) (k : Nat) (x : Int), k < l.length → (l.set k x).sum = l.sum - l.getD k 0 + x
  | [], k, x, h => by simp at h
  | a :: l, 0, x, _ => by simp; omega
  | a :: l, k + 1, x, h => by
    have ih := sum_set l k x (by simpa using h)
    simp only [List.set_cons_succ, List.sum_cons, ih, List.getD_cons_succ]
    omega
theorem getD_set (l : List Int) (k i : Nat) (x : Int) (hk : k < l.length) : (l.set k x).getD i 0 = if i = k then x else l.getD i 0 := by
  simp only [List.getD_eq_getElem?_getD, List.getElem?_set]
  by_cases e : i = k
  · subst e; simp [hk]
  · simp [e, Ne.symm e]
/-- What is left over, of those that are left. -/
def posS (l : List Int) : Int := (l.map fun x => if x < 0 then 0 else x).sum
theorem posS_nonneg : ∀ l : List Int, 0 ≤ posS l
  | [] => by simp [posS]
  | a :: l => by
    have := posS_nonneg l
    simp only [posS, List.map_cons, List.sum_cons] at *
    split <;> omega
theorem posS_set : ∀ (l : List Int) (k : Nat), k < l.length → 0 ≤ l.getD k 0 → posS (l.set k (-1)) = posS l - l.getD k 0
  | [], k, h, _ => by simp at h
  | a :: l, 0, _, h0 => by
    simp only [posS, List.set_cons_zero, List.map_cons, List.sum_cons, List.getD_cons_zero] at *
    rw [if_pos (by omega), if_neg (by omega)]
    omega
  | a :: l, k + 1, h, h0 => by
    have ih := posS_set l k (by simpa using h) (by simpa using h0)
    simp only [posS, List.set_cons_succ, List.map_cons, List.sum_cons, List.getD_cons_succ] at *
    omega
theorem posS_zero : ∀ l : List Int, (∀ x ∈ l, x ≤ 0) → posS l = 0
  | [], _ => by simp [posS]
  | a :: l, h => by
    have ih := posS_zero l (fun x hx => h x (by simp [hx]))
    have := h a (by simp)
    simp only [posS, List.map_cons, List.sum_cons] at *
    split <;> omega
theorem posS_all : ∀ l : List Int, (∀ x ∈ l, 0 ≤ x) → posS l = l.sum
  | [], _ => by simp [posS]
  | a :: l, h => by
    have ih := posS_all l (fun x hx => h x (by simp [hx]))
    have := h a (by simp)
    simp only [posS, List.map_cons, List.sum_cons] at *
    rw [if_neg (by omega)]
    omega

/-- Where the sharing out stands behind j of those that are missing. -/
structure Stand (W O : List Int) (T : Int) (j : Nat) (o lf : List Int) : Prop where
  lo : o.length = W.length
  ll : lf.length = W.length
  at_ : ∀ i, i < W.length → (lf.getD i 0 = O.getD i 0 ∧ o.getD i 0 = W.getD i 0) ∨ (lf.getD i 0 = -1 ∧ o.getD i 0 = W.getD i 0 + 1 ∧ 0 < O.getD i 0)
  sum : o.sum = W.sum + j
  pos : O.sum ≤ posS lf + (T - 1) * j

theorem getD_mem (l : List Int) (i : Nat) (h : i < l.length) : l.getD i 0 ∈ l := by
  simp only [List.getD_eq_getElem?_getD, List.getElem?_eq_getElem h]
  exact List.getElem_mem h
theorem stand_run {W O : List Int} {T : Int} {m : Nat} (hl : O.length = W.length) (hO : ∀ x ∈ O, 0 ≤ x ∧ x ≤ T - 1) (hT : 0 < T) (hs : O.sum = T * m) :
    ∀ j, j ≤ m → Stand W O T j (runS j (W, O)).1 (runS j (W, O)).2
  | 0, _ => ⟨rfl, hl, fun i _ => Or.inl ⟨rfl, rfl⟩, by simp [runS], by simp only [runS]; rw [posS_all O (fun x hx => (hO x hx).1)]; simp⟩
  | j + 1, hj => by
    have st := stand_run hl hO hT hs j (by omega)
    show Stand W O T (j + 1) (stepS (runS j (W, O))).1 (stepS (runS j (W, O))).2
    generalize (runS j (W, O)) = s at *
    obtain ⟨o, lf⟩ := s
    simp only at st ⊢
    have hpos : 0 < posS lf := by
      have h1 := st.pos
      rw [hs] at h1
      have h2 : T * (m : Int) ≥ T * ((j : Int) + 1) := Int.mul_le_mul_of_nonneg_left (by omega) (by omega)
      rw [Int.mul_add] at h2
      rw [Int.sub_mul] at h1
      have h3 := posS_nonneg lf
      omega
    have hn : 0 < lf.length := by
      rcases Nat.eq_zero_or_pos lf.length with h | h
      · rw [List.eq_nil_of_length_eq_zero h] at hpos; simp [posS] at hpos
      · exact h
    have hkl : mostI lf < lf.length := mostK_lt lf lf.length hn
    obtain ⟨hmax, _⟩ := mostK_max lf lf.length hn
    have hkp : 0 < lf.getD (mostI lf) 0 := by
      rcases Int.lt_or_le 0 (lf.getD (mostI lf) 0) with h | h
      · exact h
      · exfalso
        have : posS lf = 0 := posS_zero lf (fun x hx => by
          obtain ⟨i, hi, rfl⟩ := List.getElem_of_mem hx
          have h1 := hmax i hi
          have h2 : lf.getD i 0 = lf[i] := by simp [hi]
          have h3 : lf.getD (mostK lf lf.length) 0 = lf.getD (mostI lf) 0 := rfl
          omega)
        omega
    have hlo := st.lo
    have hll := st.ll
    generalize hk : mostI lf = k at *
    simp only [stepS, hk]
    rcases st.at_ k (by omega) with ⟨h1, h2⟩ | ⟨h1, _⟩
    · refine ⟨by rw [List.length_set]; exact st.lo, by rw [List.length_set]; exact st.ll, fun i hi => ?_, ?_, ?_⟩
      · rw [getD_set lf k i _ hkl, getD_set o k i _ (by omega)]
        by_cases e : i = k
        · subst e
          rw [if_pos rfl, if_pos rfl]
          exact Or.inr ⟨rfl, by rw [h2], by rw [← h1]; exact hkp⟩
        · rw [if_neg e, if_neg e]
          exact st.at_ i hi
      · rw [sum_set o k _ (by omega), st.sum]
        omega
      · rw [posS_set lf k hkl (by omega)]
        have h3 := st.pos
        have h4 : lf.getD k 0 ≤ T - 1 := by rw [h1]; exact (hO _ (getD_mem O k (by omega))).2
        have h5 : (T - 1) * ((j + 1 : Nat) : Int) = (T - 1) * j + (T - 1) := by rw [Int.natCast_add, Int.mul_add]; simp
        rw [h5]
        omega
    · omega

theorem split_len {A : List Int} {N : Int} (h : OkN A N) : (splitL A N).length = A.length := by
  by_cases h0 : A.sum = 0
  · rw [split_zero h h0]; simp
  · rw [split_run h h0, (runS_len _ _).1]; simp [whole]
theorem zeros_of : ∀ A : List Int, (∀ x ∈ A, 0 ≤ x ∧ x ≤ 1000) → A.sum = 0 → ∀ x ∈ A, x = 0
  | [], _, _, x, hx => by simp at hx
  | a :: A, h, hs, x, hx => by
    have h1 := sum_bound A (fun y hy => h y (by simp [hy]))
    have h2 := h a (by simp)
    simp only [List.sum_cons] at hs
    rcases List.mem_cons.1 hx with rfl | hx
    · omega
    · exact zeros_of A (fun y hy => h y (by simp [hy])) (by omega) x hx
theorem sum_zero (A : List Int) : (A.map (fun _ => (0 : Int))).sum = 0 := by
  induction A with
  | nil => rfl
  | cons a A ih => simp only [List.map_cons, List.sum_cons, ih]; rfl
/-- What is shared out. -/
theorem split_props {A : List Int} {N : Int} (h : OkN A N) : (splitL A N).sum = N ∧ ∀ i, i < A.length → 0 ≤ (splitL A N).getD i 0 ∧ (splitL A N).getD i 0 ≤ A.getD i 0 ∧ (0 < A.sum → (splitL A N).getD i 0 * A.sum - N * A.getD i 0 < A.sum ∧ - A.sum < (splitL A N).getD i 0 * A.sum - N * A.getD i 0) := by
  have hsb := sum_bound A h.1.2
  by_cases h0 : A.sum = 0
  · rw [split_zero h h0]
    have hN : N = 0 := by have := h.2; omega
    refine ⟨by rw [sum_zero, hN], fun i hi => ?_⟩
    have h1 := h.1.2 _ (getD_mem A i hi)
    have h2 : (A.map (fun _ => (0 : Int))).getD i 0 = 0 := by simp [hi]
    rw [h2]
    exact ⟨Int.le_refl _, h1.1, fun hp => by omega⟩
  · have hT : 0 < A.sum := by omega
    obtain ⟨e1, e2, e3⟩ := sum_split N A.sum hT A
    have hm := miss_bound h h0
    have hs : (over A N).sum = A.sum * ((miss A N).toNat : Int) := by
      rw [Int.toNat_of_nonneg hm.1]
      unfold miss whole over
      rw [Int.mul_sub, Int.mul_comm A.sum N]
      omega
    have hO : ∀ x ∈ over A N, 0 ≤ x ∧ x ≤ A.sum - 1 := fun x hx => by
      obtain ⟨y, _, rfl⟩ := List.mem_map.1 hx
      have m1 := Int.emod_nonneg (N * y) (show A.sum ≠ 0 by omega)
      have m2 := Int.emod_lt_of_pos (N * y) hT
      omega
    have st := stand_run (W := whole A N) (O := over A N) (T := A.sum) (m := (miss A N).toNat) (by simp [whole, over]) hO hT hs _ (Nat.le_refl _)
    rw [split_run h h0]
    refine ⟨?_, fun i hi => ?_⟩
    · rw [st.sum, Int.toNat_of_nonneg hm.1]; unfold miss; omega
    · have hx := h.1.2 _ (getD_mem A i hi)
      have hw : (whole A N).getD i 0 = N * A.getD i 0 / A.sum := by simp [whole, hi]
      have ho : (over A N).getD i 0 = N * A.getD i 0 % A.sum := by simp [over, hi]
      have hd := Int.mul_ediv_add_emod (N * A.getD i 0) A.sum
      have hlt := Int.emod_lt_of_pos (N * A.getD i 0) hT
      have hge := Int.emod_nonneg (N * A.getD i 0) (show A.sum ≠ 0 by omega)
      have hN := h.2
      have hle : N * A.getD i 0 ≤ A.sum * A.getD i 0 := Int.mul_le_mul_of_nonneg_right hN.2 hx.1
      have hnn : 0 ≤ N * A.getD i 0 := Int.mul_nonneg hN.1 hx.1
      have hqn : 0 ≤ N * A.getD i 0 / A.sum := Int.ediv_nonneg hnn (by omega)
      have hst := st.at_ i (by simp [whole]; exact hi)
      rw [hw, ho] at hst
      generalize N * A.getD i 0 / A.sum = q at *
      generalize N * A.getD i 0 % A.sum = r at *
      generalize (runS (miss A N).toNat (whole A N, over A N)).1.getD i 0 = y at *
      generalize A.getD i 0 = x at *
      generalize A.sum = T at *
      have hcm : q * T = T * q := Int.mul_comm q T
      rcases hst with ⟨_, hy⟩ | ⟨_, hy, hr⟩
      · subst hy
        refine ⟨hqn, ?_, fun _ => by omega⟩
        rcases Int.lt_or_le x y with hxy | hxy
        · have : T * (x + 1) ≤ T * y := Int.mul_le_mul_of_nonneg_left (by omega) (by omega)
          rw [Int.mul_add] at this
          omega
        · exact hxy
      · subst hy
        have he : (q + 1) * T = T * q + T := by rw [Int.add_mul, hcm]; omega
        refine ⟨by omega, ?_, fun _ => by omega⟩
        rcases Int.lt_or_le q x with hxy | hxy
        · omega
        · have : T * x ≤ T * q := Int.mul_le_mul_of_nonneg_left hxy (by omega)
          omega
/-- Of all together it is the amounts. -/
theorem split_all {A : List Int} (h : OkA A) : splitL A A.sum = A := by
  have hsb := sum_bound A h.2
  have hOk : OkN A A.sum := ⟨h, hsb.1, Int.le_refl _⟩
  by_cases h0 : A.sum = 0
  · rw [split_zero hOk h0]
    have hz := zeros_of A h.2 h0
    exact (List.map_congr_left (g := id) (fun x hx => (hz x hx).symm)).trans (List.map_id A)
  · rw [split_run hOk h0]
    have hw : whole A A.sum = A := by
      unfold whole
      exact (List.map_congr_left (g := id) (fun x _ => Int.mul_ediv_cancel_left x h0)).trans (List.map_id A)
    have hm : miss A A.sum = 0 := by unfold miss; rw [hw]; omega
    rw [hm, hw]
    rfl

end Go.Proofs.Ytkmgogfgdpldbab
