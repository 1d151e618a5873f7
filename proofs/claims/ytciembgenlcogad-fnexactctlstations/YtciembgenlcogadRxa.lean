/-
  Lists of names that ascend: what an insertion gives, and why such a list is known by what it holds. No program is named here.
-/
import Derived.Test.YtciembgenlcogadKa
namespace Go.Proofs.Ytciembgenlcogad
open Go.RowKit

/-- Names that ascend, as a list. -/
def AscL (l : List ByteArray) : Prop := l.Pairwise fun a b => ltB a b = true
theorem AscL.nodup {l : List ByteArray} (h : AscL l) : l.Nodup := by
  refine h.imp fun {a b} hab e => ?_
  rw [e, ltB_irrefl] at hab; cases hab
theorem ltB_tri {a b : ByteArray} (h1 : ltB a b = false) (h2 : eqB a b = false) : ltB b a = true := by
  rw [ltB_iff]
  have n1 : ¬ a.toList < b.toList := fun h => by rw [(ltB_iff _ _).2 h] at h1; cases h1
  have n2 : a.toList ≠ b.toList := fun h => by
    have : eqB a b = true := by unfold eqB; rw [h]; simp
    rw [this] at h2; cases h2
  rcases List.le_iff_lt_or_eq.1 (List.not_lt.1 n1) with h | h
  · exact h
  · exact absurd h.symm n2
theorem ins_mem : ∀ (l : List ByteArray) (x y : ByteArray), y ∈ insR l x ↔ y ∈ l ∨ y = x
  | [], x, y => by simp [insR]
  | z :: l, x, y => by
    have ih := ins_mem l x y
    unfold insR
    cases h1 : ltB z x
    · cases h2 : eqB z x
      · simp only [cond_false, List.mem_cons]
        constructor
        · rintro (h | h | h)
          · exact .inr h
          · exact .inl (.inl h)
          · exact .inl (.inr h)
        · rintro ((h | h) | h)
          · exact .inr (.inl h)
          · exact .inr (.inr h)
          · exact .inl h
      · simp only [cond_false, cond_true, List.mem_cons]
        have := (eqB_iff _ _).1 h2
        constructor
        · exact .inl
        · rintro (h | h)
          · exact h
          · exact .inl (by rw [h, this])
    · simp only [cond_true, List.mem_cons, ih, or_assoc]
theorem ins_asc : ∀ (l : List ByteArray) (x : ByteArray), AscL l → AscL (insR l x)
  | [], x, _ => List.pairwise_singleton _ _
  | z :: l, x, h => by
    obtain ⟨hz, hl⟩ := List.pairwise_cons.1 h
    have ih := ins_asc l x hl
    unfold insR
    cases h1 : ltB z x
    · cases h2 : eqB z x
      · simp only [cond_false]
        have hxz := ltB_tri h1 h2
        refine List.pairwise_cons.2 ⟨fun y hy => ?_, h⟩
        rcases List.mem_cons.1 hy with rfl | hy
        · exact hxz
        · exact ltB_trans hxz (hz y hy)
      · exact h
    · simp only [cond_true]
      refine List.pairwise_cons.2 ⟨fun y hy => ?_, ih⟩
      rcases (ins_mem _ _ _).1 hy with hy | rfl
      · exact hz y hy
      · exact h1
theorem asc_unique : ∀ (l m : List ByteArray), AscL l → AscL m → (∀ y, y ∈ l ↔ y ∈ m) → l = m
  | [], [], _, _, _ => rfl
  | [], b :: m, _, _, h => absurd ((h b).2 List.mem_cons_self) (by simp)
  | a :: l, [], _, _, h => absurd ((h a).1 List.mem_cons_self) (by simp)
  | a :: l, b :: m, hl, hm, h => by
    obtain ⟨ha, hl'⟩ := List.pairwise_cons.1 hl
    obtain ⟨hb, hm'⟩ := List.pairwise_cons.1 hm
    have e : a = b := by
      rcases List.mem_cons.1 ((h a).1 List.mem_cons_self) with e | h1
      · exact e
      · rcases List.mem_cons.1 ((h b).2 List.mem_cons_self) with e | h2
        · exact e.symm
        · have := ltB_asymm (hb a h1)
          rw [ha b h2] at this; cases this
    subst e
    have na : a ∉ l := (List.nodup_cons.1 (AscL.nodup hl)).1
    have nb : a ∉ m := (List.nodup_cons.1 (AscL.nodup hm)).1
    rw [asc_unique l m hl' hm' (fun y => ?_)]
    have := h y
    simp only [List.mem_cons] at this
    constructor
    · intro hy
      rcases this.1 (.inr hy) with e | h'
      · rw [e] at hy; exact absurd hy na
      · exact h'
    · intro hy
      rcases this.2 (.inr hy) with e | h'
      · rw [e] at hy; exact absurd hy nb
      · exact h'

end Go.Proofs.Ytciembgenlcogad
