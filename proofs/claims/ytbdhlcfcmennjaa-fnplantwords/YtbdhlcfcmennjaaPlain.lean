/-
  Plain functions on lists of bytes that say what cutting a line into words gives, by the letter of both texts, and that the two agree. No program is named here.
-/
import Derived.KernelRfl
namespace Go.Proofs.Ytbdhlcfcmennjaa.Pl

/-- What stands ahead of the first number sign. -/
def bare : List UInt8 → List UInt8
  | [] => []
  | c :: r => if c == 35 then [] else c :: bare r

/-- May a word hold this byte? -/
def inW (c : UInt8) : Bool := decide (33 ≤ c.toNat ∧ c.toNat ≤ 126)

/-- The first text, byte by byte: words that have ended, the word that stands open. -/
def sp : List UInt8 → List (List UInt8) → List UInt8 → Option (List (List UInt8))
  | [], out, _ => some out
  | c :: r, out, word =>
    if c = 32 then (if word = [] then sp r out [] else sp r (out ++ [word]) [])
    else if inW c && decide (word.length + 1 ≤ 24) then sp r out (word ++ [c]) else none

/-- What the first text answers over what is left of a line. -/
def fin : Option (List (List UInt8)) → List (List UInt8) × Bool
  | none => ([], false)
  | some out => if out.length ≤ 16 then (out, true) else ([], false)

def words (l : List UInt8) : List (List UInt8) × Bool := fin (sp (bare l ++ [32]) [] [])

/-- Words never become fewer. -/
theorem sp_more : ∀ (l : List UInt8) (out : List (List UInt8)) (word : List UInt8) (x : List (List UInt8)), sp l out word = some x → out.length ≤ x.length
  | [], out, word, x, h => by simp [sp] at h; subst h; exact Nat.le_refl _
  | c :: r, out, word, x, h => by
    unfold sp at h
    split at h
    · split at h
      · exact sp_more r _ _ x h
      · have := sp_more r _ _ x h
        simp at this; omega
    · split at h
      · exact sp_more r _ _ x h
      · cases h

/-- A word that stands open is one more in the end. -/
theorem sp_open : ∀ (l : List UInt8) (out : List (List UInt8)) (word : List UInt8) (x : List (List UInt8)), word ≠ [] → sp (l ++ [32]) out word = some x → out.length + 1 ≤ x.length
  | [], out, word, x, hw, h => by
    simp [sp, hw] at h; subst h; simp
  | c :: r, out, word, x, hw, h => by
    rw [List.cons_append] at h
    unfold sp at h
    split at h
    · have := sp_more _ _ _ x h
      simp at this; omega
    · split at h
      · exact sp_open r out (word ++ [c]) x (by simp) h
      · cases h

/-- What is refused in the middle is refused in the end. -/
theorem fin_open (l : List UInt8) (out : List (List UInt8)) (word : List UInt8) (hw : word ≠ []) (ho : 16 ≤ out.length) : fin (sp (l ++ [32]) out word) = ([], false) := by
  cases h : sp (l ++ [32]) out word with
  | none => rfl
  | some x =>
    have := sp_open l out word x hw h
    simp only [fin]
    rw [if_neg (by omega)]

theorem sp_space_gap (r : List UInt8) (out : List (List UInt8)) : sp (32 :: r) out [] = sp r out [] := by simp [sp]
theorem sp_space_word (r : List UInt8) (out : List (List UInt8)) (word : List UInt8) (hw : word ≠ []) : sp (32 :: r) out word = sp r (out ++ [word]) [] := by simp [sp, hw]
theorem sp_byte (c : UInt8) (r : List UInt8) (out : List (List UInt8)) (word : List UInt8) (hc : c ≠ 32) (h1 : inW c = true) (h2 : word.length + 1 ≤ 24) : sp (c :: r) out word = sp r out (word ++ [c]) := by simp [sp, hc, h1, h2]
theorem sp_bad (c : UInt8) (r : List UInt8) (out : List (List UInt8)) (word : List UInt8) (hc : c ≠ 32) (h1 : inW c = false) : sp (c :: r) out word = none := by simp [sp, hc, h1]
theorem sp_long (c : UInt8) (r : List UInt8) (out : List (List UInt8)) (word : List UInt8) (hc : c ≠ 32) (h2 : 24 ≤ word.length) : sp (c :: r) out word = none := by
  unfold sp
  rw [if_neg hc, if_neg]
  simp; omega

/-- Where the first number sign stands. -/
theorem bare_take : ∀ (l : List UInt8), ∃ k, k ≤ l.length ∧ bare l = l.take k ∧ (∀ j, j < k → l[j]? ≠ some 35) ∧ (k = l.length ∨ l[k]? = some 35)
  | [] => ⟨0, Nat.le_refl _, rfl, fun _ h => by omega, Or.inl rfl⟩
  | c :: r => by
    by_cases hc : c = 35
    · subst hc
      exact ⟨0, Nat.zero_le _, by simp [bare], fun _ h => by omega, Or.inr rfl⟩
    · obtain ⟨k, h1, h2, h3, h4⟩ := bare_take r
      refine ⟨k + 1, by simp; omega, by simp [bare, hc, h2], ?_, ?_⟩
      · intro j hj
        cases j with
        | zero => simpa using hc
        | succ j => simpa using h3 j (by omega)
      · rcases h4 with h4 | h4
        · left; simp [h4]
        · right; simpa using h4

theorem bare_of (l : List UInt8) (k : Nat) (hk : k ≤ l.length) (h3 : ∀ j, j < k → l[j]? ≠ some 35) (h4 : k = l.length ∨ l[k]? = some 35) : bare l = l.take k := by
  obtain ⟨m, g1, g2, g3, g4⟩ := bare_take l
  have : m = k := by
    rcases Nat.lt_trichotomy m k with h | h | h
    · rcases g4 with g4 | g4
      · omega
      · exact absurd g4 (h3 m h)
    · exact h
    · rcases h4 with h4 | h4
      · omega
      · exact absurd h4 (g3 k h)
  rw [g2, this]

end Go.Proofs.Ytbdhlcfcmennjaa.Pl
