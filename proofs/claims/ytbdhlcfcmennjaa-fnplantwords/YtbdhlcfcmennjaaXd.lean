/-
  Plain: words that were cut out of a line, written with a space ahead of each and a remark behind, are cut as the same words.
-/
import Derived.Test.YtbdhlcfcmennjaaPlain
namespace Go.Proofs.Ytbdhlcfcmennjaa.Pl

/-- A byte that a word ahead of a remark may hold. -/
def okB (c : UInt8) : Prop := inW c = true ∧ c ≠ 35
/-- A word as it comes out. -/
def okW (w : List UInt8) : Prop := w.length ≤ 24 ∧ ∀ c ∈ w, okB c
def Good (ws : List (List UInt8)) : Prop := ∀ w ∈ ws, w ≠ [] ∧ okW w

theorem not32_of {c : UInt8} (h : inW c = true) : c ≠ 32 := by
  intro e; subst e; exact absurd h (by decide)

theorem bare_no35 : ∀ (l : List UInt8), ∀ c ∈ bare l, c ≠ 35
  | [], c, h => by simp [bare] at h
  | a :: r, c, h => by
    unfold bare at h
    split at h
    · simp at h
    · rename_i hne
      rcases List.mem_cons.1 h with rfl | h
      · simpa using hne
      · exact bare_no35 r c h

theorem sp_good : ∀ (l : List UInt8) (out : List (List UInt8)) (word : List UInt8) (x : List (List UInt8)), (∀ c ∈ l, c ≠ 35) → Good out → okW word → sp l out word = some x → Good x
  | [], out, word, x, _, ho, _, h => by simp [sp] at h; subst h; exact ho
  | c :: r, out, word, x, hl, ho, hw, h => by
    have hr : ∀ c ∈ r, c ≠ 35 := fun a ha => hl a (List.mem_cons_of_mem _ ha)
    unfold sp at h
    split at h
    · split at h
      · exact sp_good r _ _ x hr ho ⟨by simp, by simp⟩ h
      · rename_i hne
        refine sp_good r _ _ x hr ?_ ⟨by simp, by simp⟩ h
        intro w hw2
        rcases List.mem_append.1 hw2 with h1 | h1
        · exact ho w h1
        · simp at h1; subst h1; exact ⟨hne, hw⟩
    · split at h
      · rename_i hin
        simp at hin
        refine sp_good r _ _ x hr ho ⟨by simp; omega, ?_⟩ h
        intro a ha
        rcases List.mem_append.1 ha with h1 | h1
        · exact hw.2 a h1
        · simp at h1; subst h1; exact ⟨hin.1, hl _ (List.mem_cons_self ..)⟩
      · cases h

theorem words_good (l : List UInt8) : Good (words l).1 := by
  unfold words
  cases h : sp (bare l ++ [32]) [] [] with
  | none => intro w hw; simp [fin] at hw
  | some x =>
    have hx : Good x := sp_good _ [] [] x (fun c hc => by
      rcases List.mem_append.1 hc with h1 | h1
      · exact bare_no35 l c h1
      · simp at h1; subst h1; decide) (fun w hw => by simp at hw) ⟨by simp, by simp⟩ h
    simp only [fin]
    split
    · exact hx
    · intro w hw; simp at hw

/-- Words, a space ahead of each. -/
def join : List (List UInt8) → List UInt8
  | [] => []
  | w :: ws => 32 :: (w ++ join ws)

theorem sp_run : ∀ (w r : List UInt8) (out : List (List UInt8)) (word : List UInt8), (∀ c ∈ w, okB c) → word.length + w.length ≤ 24 → sp (w ++ r) out word = sp r out (word ++ w)
  | [], r, out, word, _, _ => by simp
  | c :: w, r, out, word, h, hl => by
    have hc := h c (List.mem_cons_self ..)
    rw [List.cons_append, sp_byte c (w ++ r) out word (not32_of hc.1) hc.1 (by simp at hl; omega), sp_run w r out (word ++ [c]) (fun a ha => h a (List.mem_cons_of_mem _ ha)) (by simp at hl ⊢; omega)]
    simp

theorem sp_join : ∀ (ws : List (List UInt8)) (out : List (List UInt8)) (word : List UInt8), Good ws → sp (join ws ++ [32, 32]) out word = some ((if word = [] then out else out ++ [word]) ++ ws)
  | [], out, word, _ => by
    by_cases hw : word = []
    · subst hw; simp [join, sp]
    · simp [join, sp, hw]
  | w :: ws, out, word, h => by
    have hw := h w (List.mem_cons_self ..)
    have hr : Good ws := fun x hx => h x (List.mem_cons_of_mem _ hx)
    have e : join (w :: ws) ++ [32, 32] = 32 :: (w ++ (join ws ++ [32, 32])) := by simp [join]
    rw [e]
    by_cases hwd : word = []
    · subst hwd
      rw [sp_space_gap, sp_run w _ out [] hw.2.2 (by simpa using hw.2.1), sp_join ws out ([] ++ w) hr]
      simp [hw.1]
    · rw [sp_space_word _ _ _ hwd, sp_run w _ (out ++ [word]) [] hw.2.2 (by simpa using hw.2.1), sp_join ws (out ++ [word]) ([] ++ w) hr]
      simp [hw.1, hwd]

theorem bare_app : ∀ (a b : List UInt8), (∀ c ∈ a, c ≠ 35) → bare (a ++ 35 :: b) = a
  | [], b, _ => by simp [bare]
  | c :: a, b, h => by
    have hc : (c == 35) = false := by simpa using h c (List.mem_cons_self ..)
    simp [bare, hc, bare_app a b (fun x hx => h x (List.mem_cons_of_mem _ hx))]

theorem join_no35 : ∀ (ws : List (List UInt8)), Good ws → ∀ c ∈ join ws, c ≠ 35
  | [], _, c, h => by simp [join] at h
  | w :: ws, hg, c, h => by
    unfold join at h
    rcases List.mem_cons.1 h with rfl | h
    · decide
    · rcases List.mem_append.1 h with h | h
      · exact ((hg w (List.mem_cons_self ..)).2.2 c h).2
      · exact join_no35 ws (fun x hx => hg x (List.mem_cons_of_mem _ hx)) c h

theorem words_again (ws : List (List UInt8)) (l : List UInt8) (hg : Good ws) (hn : ws.length ≤ 16) : words (join ws ++ [32, 35, 32] ++ l) = (ws, true) := by
  have e : join ws ++ [32, 35, 32] ++ l = (join ws ++ [32]) ++ 35 :: (32 :: l) := by simp
  unfold words
  rw [e, bare_app _ _ (fun c hc => by
    rcases List.mem_append.1 hc with h | h
    · exact join_no35 ws hg c h
    · simp at h; subst h; decide)]
  have e2 : join ws ++ [32] ++ [32] = join ws ++ [32, 32] := by simp
  rw [e2, sp_join ws [] [] hg]
  simp [fin, hn]

theorem join_snoc : ∀ (ws : List (List UInt8)) (w : List UInt8), join (ws ++ [w]) = join ws ++ (32 :: w)
  | [], w => by simp [join]
  | v :: ws, w => by simp [join, join_snoc ws w]

theorem join_len : ∀ (ws : List (List UInt8)), Good ws → (join ws).length ≤ 25 * ws.length
  | [], _ => by simp [join]
  | w :: ws, hg => by
    have h1 := (hg w (List.mem_cons_self ..)).2.1
    have h2 := join_len ws (fun x hx => hg x (List.mem_cons_of_mem _ hx))
    simp [join]; omega

end Go.Proofs.Ytbdhlcfcmennjaa.Pl
