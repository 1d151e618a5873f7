/-
  Several texts in one.
-/
import Derived.Test.YtkbocdkgkhgioacM10
import Derived.Test.YtkbocdkgkhgioacXq
/-
  The slots of a recipe (plain): which texts they are, how many; a row of texts that owns its memory is a list.
-/
namespace Go.Proofs.Ytkbocdkgkhgioac
open Go.RowKit

/-- The slots of a recipe, none if it is not ok. -/
noncomputable def slL (r : List DRecPhase) (x : ByteArray) : List ByteArray := if recB r = true then sltF 12 r x else []
theorem ins_memX : ∀ (l : List ByteArray) (x y : ByteArray), y ∈ insR l x → y = x ∨ y ∈ l
  | [], x, y, h => by simp [insR] at h; exact Or.inl h
  | z :: l, x, y, h => by
    unfold insR at h
    cases h1 : ltB z x
    · cases h2 : eqB z x
      · simp [h1, h2] at h
        rcases h with h | h | h
        · exact Or.inl h
        · exact Or.inr (by simp [h])
        · exact Or.inr (by simp [h])
      · simp [h1, h2] at h
        rcases h with h | h
        · exact Or.inr (by simp [h])
        · exact Or.inr (by simp [h])
    · simp [h1] at h
      rcases h with h | h
      · exact Or.inr (by simp [h])
      · rcases ins_memX l x y h with h | h
        · exact Or.inl h
        · exact Or.inr (by simp [h])
theorem both_mem : ∀ (b a : List ByteArray) (y : ByteArray), y ∈ bothL a b → y ∈ a ∨ y ∈ b
  | [], a, y, h => Or.inl h
  | x :: b, a, y, h => by
    rcases both_mem b (insR a x) y h with h | h
    · rcases ins_memX a x y h with h | h
      · exact Or.inr (by simp [h])
      · exact Or.inl h
    · exact Or.inr (by simp [h])
theorem name_le {s : ByteArray} (h : nameB s = true) : s.size ≤ 8 := by
  unfold nameB at h
  simp only [Bool.and_eq_true, decide_eq_true_eq] at h
  exact h.1.2
theorem ph_args {p : DRecPhase} (h : phaseB p = true) : nameB p.2.2.1 = true ∧ (p.2.1 = 2 → nameB p.2.2.2.1 = true) := by
  refine ⟨(ph_name h).2.2.2, fun e => ?_⟩
  simp only [phaseB, Bool.and_eq_true] at h
  have ha := h.1.1.2
  unfold argsB at ha
  rw [if_neg (by omega), if_pos e] at ha
  simp only [Bool.and_eq_true] at ha
  exact ha.1.1.2
theorem slt_names {r : List DRecPhase} (h : RecP r) : ∀ (n : Nat) (x y : ByteArray), y ∈ sltF n r x → y.size ≤ 8
  | 0, x, y, hy => by simp [sltF] at hy
  | n + 1, x, y, hy => by
    rcases at_cases r x with e | ⟨k, hk, e, _⟩
    · simp [sltF, e] at hy
    · have hx : ¬ (atI r x < 0) := by omega
      have hp := ph_args (step_of h hk).1
      rw [← ph_at hk e] at hp
      simp only [sltF, if_neg hx] at hy
      rcases both_mem _ _ y hy with hy | hy
      · rcases both_mem _ _ y hy with hy | hy
        · unfold ofL at hy
          split at hy
          case isTrue c =>
            rcases ins_memX _ _ y hy with hy | hy
            · rw [hy]; exact name_le (hp.2 c)
            · simp at hy; rw [hy]; exact name_le hp.1
          case isFalse c => simp at hy; rw [hy]; exact name_le hp.1
        · exact slt_names h n _ y hy
      · exact slt_names h n _ y hy
theorem sl_names (r : List DRecPhase) (x y : ByteArray) (hy : y ∈ slL r x) : y.size ≤ maxLen := by
  unfold slL at hy
  split at hy
  case isTrue c => exact Nat.le_trans (slt_names (rec_iff.1 c) 12 x y hy) (by decide)
  case isFalse => simp at hy
theorem sl_len (r : List DRecPhase) (x : ByteArray) : (slL r x).length ≤ 8192 := by
  unfold slL
  split
  · exact slt_small r (Nat.le_refl _) x
  · simp
theorem at_rowX {base : Nat} {w : World} {v : Value} {l : List ByteArray} (h : w.ownsRow base 9 1 v l.length (l.map .string)) (hz : ∀ x ∈ l, x.size ≤ maxLen) (hl : l.length ≤ 8192) : AtL (fun b => base ≤ b ∧ b < w.heap.size) w l v := by
  rcases id h.2 with ⟨e, hn⟩ | ⟨g, cap, cur, e, hb, hg, hc, hm, _, _⟩
  · have hl0 : l = [] := List.eq_nil_of_length_eq_zero hn
    subst hl0
    exact ⟨none, 0, e, ⟨by unfold maxLen; simp, Nat.le_refl _, fun _ => rfl⟩, fun i hi => by simp at hi⟩
  · subst e
    refine ⟨_, cap, rfl, ⟨by unfold maxLen; omega, hc, fun h => nomatch h⟩, fun i hi => ⟨g, 0, rfl, ⟨hb, (Array.getElem?_eq_some_iff.1 hg).1⟩, fun _ => .string l[i], fun j hj => ?_, ?_⟩⟩
    · rw [width_str] at hj ⊢
      have ej : j = 0 := by omega
      subst ej
      have := (own_cells h).2 i hi
      rw [Nat.zero_add, Nat.mul_one, Nat.add_zero, this]
      simp [nthB, hi]
    · rw [at_str]
      exact ⟨rfl, hz _ (List.getElem_mem hi)⟩

end Go.Proofs.Ytkbocdkgkhgioac

/-
  What is told of a phase of an ok recipe, by what is told of where it goes on to (plain).
-/
namespace Go.Proofs.Ytkbocdkgkhgioac

theorem bnd_fuel {r : List DRecPhase} (h : RecP r) : ∀ (n m : Nat) (x : ByteArray), (∀ k : Nat, atI r x = (k : Int) → r.length ≤ k + n) → (∀ k : Nat, atI r x = (k : Int) → r.length ≤ k + m) → bndF n r x = bndF m r x
  | 0, m, x, h1, h2 => by
    rcases at_cases r x with e | ⟨k, hk, e, _⟩
    · cases m with
      | zero => rfl
      | succ m => simp [bndF, e]
    · have := h1 k e; omega
  | n + 1, 0, x, h1, h2 => by
    rcases at_cases r x with e | ⟨k, hk, e, _⟩
    · simp [bndF, e]
    · have := h2 k e; omega
  | n + 1, m + 1, x, h1, h2 => by
    rcases at_cases r x with e | ⟨k, hk, e, _⟩
    · simp [bndF, e]
    · have hx : ¬ (atI r x < 0) := by omega
      simp only [bndF, if_neg hx]
      have hs := step_of h hk
      rw [← ph_at hk e] at hs
      have g1 := h1 k e
      have g2 := h2 k e
      rw [bnd_fuel h n m _ (fun j hj => by have := go_next h hs.2.1 j hj; omega) (fun j hj => by have := go_next h hs.2.1 j hj; omega),
        bnd_fuel h n m _ (fun j hj => by have := go_next h hs.2.2 j hj; omega) (fun j hj => by have := go_next h hs.2.2 j hj; omega)]
theorem bnd_none {r : List DRecPhase} {x : ByteArray} (e : atI r x = -1) (n : Nat) : bndF n r x = 0 := by
  cases n with
  | zero => rfl
  | succ n => simp [bndF, e]
theorem bnd_same {r : List DRecPhase} {x y : ByteArray} (e : atI r x = atI r y) (n : Nat) : bndF n r x = bndF n r y := by
  cases n with
  | zero => rfl
  | succ n => simp only [bndF, phX, e]
theorem at_self {r : List DRecPhase} (h : RecP r) {i : Nat} (hi : i < r.length) : atI r r[i].1 = (i : Int) := by
  have := h.2 i hi
  simp only [stepB, Bool.and_eq_true, beq_iff_eq] at this
  exact this.1.1.2
theorem bnd_succ {r : List DRecPhase} {x : ByteArray} (n : Nat) (h : ¬ (atI r x < 0)) : bndF (n + 1) r x = max (bndF n r (phX r x).2.2.2.2.2.2.1) (bndF n r (phX r x).2.2.2.2.2.2.2) + (phX r x).2.2.2.2.2.1 := by simp only [bndF, if_neg h]
theorem bnd_step {r : List DRecPhase} (h : RecP r) {i : Nat} (hi : i < r.length) : bndF 12 r r[i].1 = max (bndF 12 r r[i].2.2.2.2.2.2.1) (bndF 12 r r[i].2.2.2.2.2.2.2) + r[i].2.2.2.2.2.1 := by
  have e := at_self h hi
  have hx : ¬ (atI r r[i].1 < 0) := by omega
  have hs := step_of h hi
  have h12 := h.1.2
  have e1 := bnd_succ 11 hx
  rw [ph_at hi e] at e1
  refine e1.trans ?_
  rw [bnd_fuel h 11 12 _ (fun j hj => by have := go_next h hs.2.1 j hj; omega) (fun j _ => by omega), bnd_fuel h 11 12 _ (fun j hj => by have := go_next h hs.2.2 j hj; omega) (fun j _ => by omega)]
theorem later_of {r : List DRecPhase} (h : RecP r) {i : Nat} (hi : i < r.length) : (∀ j : Nat, atI r r[i].2.2.2.2.2.2.1 = (j : Int) → i < j) ∧ (∀ j : Nat, atI r r[i].2.2.2.2.2.2.2 = (j : Int) → i < j) :=
  ⟨fun j hj => go_next h (step_of h hi).2.1 j hj, fun j hj => go_next h (step_of h hi).2.2 j hj⟩
theorem bnd_at {r : List DRecPhase} (h : RecP r) {x : ByteArray} {k : Nat} (hk : k < r.length) (e : atI r x = (k : Int)) (n : Nat) : bndF n r x = bndF n r r[k].1 := bnd_same (by rw [e, at_self h hk]) n

end Go.Proofs.Ytkbocdkgkhgioac
