/-
  The pairs of foes, in both orders, in a map: one pair more, and whether a pair is there. How often a pair was counted.
-/
import Derived.Test.YticojnepejboaacGreatFm
namespace Go.Proofs.YticojnepejboaacGreat
open Go.RowKit

/-- A pair counted once more, and the pair turned round. -/
def addN (M : ByteArray → ByteArray → Int) (x y : ByteArray) : ByteArray → ByteArray → Int :=
  putN (putN M x y (M x y + 1)) y x (putN M x y (M x y + 1) y x + 1)

set_option maxRecDepth 100000 in
set_option maxHeartbeats 4000000 in
theorem add_any (b : Nat) (M : ByteArray → ByteArray → Int) (x y : ByteArray) (w : World) (h : Mp w b M) (hx : x.size ≤ maxLen) (hy : y.size ≤ maxLen) (hM : ∀ p q, 0 ≤ M p q ∧ M p q ≤ 4611686018427387904) :
    Calls Tryz.prog 119 #[.map (some b), .string x, .string y] w fun e w' => e = .returned (.tuple #[]) ∧ Mp w' b (addN M x y) ∧ Below b w w' := by
  have hlt := h.lt
  have mA : Mp w.drew b M := h
  obtain ⟨st, w1, w3, he, m1, _, hst, m3, g3⟩ := mA.entry hx hy (M x y + 1)
  have l0 := mA.look hx hy
  have l1 := m1.look hx hy
  have hcb := hM x y
  have M3 : Hid (Mp w3 b (putN M x y (M x y + 1))) := m3
  have B3 : Hid (Below b w w3) := ((Below.refl b w).drew).grown g3 (by show b ≤ w.heap.size; omega) (fun j hj => by cases hj; exact Nat.le_refl _)
  clear m3 g3 m1 mA
  have mB : Mp w3.drew b _ := M3.out
  obtain ⟨st', w5, w6, he', m5, _, hst', m6, g6⟩ := mB.entry hy hx (putN M x y (M x y + 1) y x + 1)
  have l2 := mB.look hy hx
  have l3 := m5.look hy hx
  have M6 : Hid (Mp w6 b (addN M x y)) := m6
  have B6 : Hid (Below b w w6) := (B3.out.drew).grown g6 (by show b ≤ w3.heap.size; have := M3.out.lt; omega) (fun j hj => by cases hj; exact Nat.le_refl _)
  have hcb' : 0 ≤ putN M x y (M x y + 1) y x ∧ putN M x y (M x y + 1) y x ≤ 4611686018427387905 := by
    have := hM y x
    unfold putN
    split <;> omega
  clear M3 m6 g6 m5 mB B3 hM h
  generalize hcd : putN M x y (M x y + 1) y x = d at *
  generalize hcc : M x y = c at *
  clear hcc hcd
  go_enter Tryz.func119, Tryz.ntmps119
  go_wp2
  go_region
  go_wp2
  go_region
  go_wp2
  go_end0
  exact ⟨rfl, M6.out, B6.out⟩

set_option maxRecDepth 100000 in
set_option maxHeartbeats 4000000 in
theorem hasP_any (b : Nat) (M : ByteArray → ByteArray → Int) (x y : ByteArray) (w : World) (h : Mp w b M) (hx : x.size ≤ maxLen) (hy : y.size ≤ maxLen) :
    Calls Tryz.prog 97 #[.map (some b), .string x, .string y] w fun e w' => e = .returned (.bool (decide (0 < M x y))) ∧ w' = w := by
  have l0 := h.look hx hy
  clear h
  generalize M x y = c at *
  go_enter Tryz.func97, Tryz.ntmps97
  go_wp2
  go_ret
  exact ⟨rfl, rfl⟩

/-- How often a pair was counted over the first k foes. -/
def cntF (f : Nat → ByteArray × ByteArray) : Nat → ByteArray → ByteArray → Int
  | 0 => fun _ _ => 0
  | k + 1 => addN (cntF f k) (f k).1 (f k).2

theorem cnt_bound (f : Nat → ByteArray × ByteArray) : ∀ (k : Nat) (x y : ByteArray), 0 ≤ cntF f k x y ∧ cntF f k x y ≤ 2 * k
  | 0, _, _ => by simp [cntF]
  | k + 1, x, y => by
    have h := cnt_bound f k
    have h1 := h (f k).1 (f k).2
    have h2 := h (f k).2 (f k).1
    have h3 := h x y
    simp only [cntF, addN, putN]
    split <;> split <;> omega

theorem cnt_iff (f : Nat → ByteArray × ByteArray) (a b : ByteArray) : ∀ k : Nat, 0 < cntF f k a b ↔ ∃ i, i < k ∧ ((a = (f i).1 ∧ b = (f i).2) ∨ (a = (f i).2 ∧ b = (f i).1))
  | 0 => by simp [cntF]
  | k + 1 => by
    have ih := cnt_iff f a b k
    have hs : (∃ i, i < k + 1 ∧ ((a = (f i).1 ∧ b = (f i).2) ∨ (a = (f i).2 ∧ b = (f i).1))) ↔ (∃ i, i < k ∧ ((a = (f i).1 ∧ b = (f i).2) ∨ (a = (f i).2 ∧ b = (f i).1))) ∨ ((a = (f k).1 ∧ b = (f k).2) ∨ (a = (f k).2 ∧ b = (f k).1)) := by
      constructor
      · rintro ⟨i, hi, h⟩
        by_cases e : i = k
        · subst e; exact Or.inr h
        · exact Or.inl ⟨i, by omega, h⟩
      · rintro (⟨i, hi, h⟩ | h)
        · exact ⟨i, by omega, h⟩
        · exact ⟨k, by omega, h⟩
    rw [hs, ← ih]
    have h0 := cnt_bound f k a b
    have h1 := cnt_bound f k (f k).1 (f k).2
    have h2 := cnt_bound f k (f k).2 (f k).1
    simp only [cntF, addN, putN]
    by_cases e1 : a = (f k).2 ∧ b = (f k).1
    · rw [if_pos e1]
      constructor
      · intro _; exact Or.inr (Or.inr e1)
      · intro _; split <;> omega
    · rw [if_neg e1]
      by_cases e2 : a = (f k).1 ∧ b = (f k).2
      · rw [if_pos e2]
        constructor
        · intro _; exact Or.inr (Or.inl e2)
        · intro _; omega
      · rw [if_neg e2]
        constructor
        · exact Or.inl
        · rintro (h | h | h)
          · exact h
          · exact absurd h e2
          · exact absurd h e1

end Go.Proofs.YticojnepejboaacGreat
