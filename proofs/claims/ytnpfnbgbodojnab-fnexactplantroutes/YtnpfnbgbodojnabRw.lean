/-
  What can be come to from a place along valves: plain functions, and what a list of all that can be come to is. No program is named here.
-/
import Derived.Test.YtnpfnbgbodojnabKa
namespace Go.Proofs.Ytnpfnbgbodojnab
open Go.RowKit

/-- The places behind the valves at a place. -/
def nx (n : Nat) (f : Nat → ByteArray × ByteArray × ByteArray × ByteArray) (x : ByteArray) : List ByteArray := ((List.range n).filter fun i => endB (f i) x).map fun i => behS (f i) x
/-- What can be come to from a place. -/
inductive Rch (n : Nat) (f : Nat → ByteArray × ByteArray × ByteArray × ByteArray) (x : ByteArray) : ByteArray → Prop
  | start : Rch n f x x
  | step {y z : ByteArray} : Rch n f x y → z ∈ nx n f y → Rch n f x z
/-- A list of all that can be come to, each once. -/
structure Good (n : Nat) (f : Nat → ByteArray × ByteArray × ByteArray × ByteArray) (x : ByteArray) (L : List ByteArray) : Prop where
  once : L.Nodup
  here : x ∈ L
  only : ∀ y ∈ L, Rch n f x y
  all : ∀ y ∈ L, ∀ z ∈ nx n f y, z ∈ L
theorem Good.iff {n : Nat} {f : Nat → ByteArray × ByteArray × ByteArray × ByteArray} {x : ByteArray} {L : List ByteArray} (h : Good n f x L) (y : ByteArray) : y ∈ L ↔ Rch n f x y := by
  refine ⟨h.only y, fun hr => ?_⟩
  induction hr with
  | start => exact h.here
  | step _ hz ih => exact h.all _ ih _ hz

/-- One more, if it is not there. -/
def addL (L : List ByteArray) (y : ByteArray) : List ByteArray := bif L.any (fun z => eqB z y) then L else L ++ [y]
def stepL (L ys : List ByteArray) : List ByteArray := ys.foldl addL L
theorem stepL_snoc (L ys : List ByteArray) (y : ByteArray) : stepL L (ys ++ [y]) = addL (stepL L ys) y := by simp [stepL, List.foldl_append]
theorem any_mem (L : List ByteArray) (y : ByteArray) : L.any (fun z => eqB z y) = true ↔ y ∈ L := by
  rw [List.any_eq_true]
  constructor
  · rintro ⟨z, hz, he⟩; rw [(eqB_iff _ _).1 he] at hz; exact hz
  · intro h; exact ⟨y, h, eqB_refl y⟩
theorem add_mem (L : List ByteArray) (y z : ByteArray) : z ∈ addL L y ↔ z ∈ L ∨ z = y := by
  unfold addL
  cases h : L.any (fun z => eqB z y)
  · simp
  · rw [cond_true]
    refine ⟨.inl, fun h' => ?_⟩
    rcases h' with h' | rfl
    · exact h'
    · exact (any_mem _ _).1 h
theorem add_nodup {L : List ByteArray} {y : ByteArray} (h : L.Nodup) : (addL L y).Nodup := by
  unfold addL
  cases h' : L.any (fun z => eqB z y)
  · rw [cond_false, List.nodup_append]
    refine ⟨h, by simp, fun a ha b hb => ?_⟩
    simp at hb
    subst hb
    intro e
    subst e
    rw [(any_mem _ _).2 ha] at h'
    cases h'
  · exact h
theorem add_pre (L : List ByteArray) (y : ByteArray) : L <+: addL L y := by
  unfold addL
  cases L.any (fun z => eqB z y)
  · exact List.prefix_append _ _
  · exact List.prefix_refl _
theorem add_len (L : List ByteArray) (y : ByteArray) : (addL L y).length ≤ L.length + 1 := by
  unfold addL
  cases L.any (fun z => eqB z y) <;> simp
theorem step_mem : ∀ (ys L : List ByteArray) (z : ByteArray), z ∈ stepL L ys ↔ z ∈ L ∨ z ∈ ys
  | [], L, z => by simp [stepL]
  | y :: ys, L, z => by
    have := step_mem ys (addL L y) z
    show z ∈ stepL (addL L y) ys ↔ _
    rw [this, add_mem]
    simp [or_assoc]
theorem step_nodup : ∀ (ys L : List ByteArray), L.Nodup → (stepL L ys).Nodup
  | [], _, h => h
  | _ :: ys, _, h => step_nodup ys _ (add_nodup h)
theorem step_pre : ∀ (ys L : List ByteArray), L <+: stepL L ys
  | [], L => List.prefix_refl L
  | y :: ys, L => (add_pre L y).trans (step_pre ys (addL L y))
theorem step_len : ∀ (ys L : List ByteArray), (stepL L ys).length ≤ L.length + ys.length
  | [], L => by simp [stepL]
  | y :: ys, L => by
    have h1 := step_len ys (addL L y)
    have h2 := add_len L y
    show (stepL (addL L y) ys).length ≤ _
    simp; omega

/-- Where the search stands: the first q have been gone on from. -/
structure LI (n : Nat) (f : Nat → ByteArray × ByteArray × ByteArray × ByteArray) (x : ByteArray) (q : Nat) (L : List ByteArray) : Prop where
  once : L.Nodup
  here : x ∈ L
  only : ∀ y ∈ L, Rch n f x y
  gone : ∀ j y, j < q → L[j]? = some y → ∀ z ∈ nx n f y, z ∈ L
theorem LI.first (n : Nat) (f : Nat → ByteArray × ByteArray × ByteArray × ByteArray) (x : ByteArray) : LI n f x 0 [x] :=
  ⟨by simp, by simp, fun y hy => by simp at hy; subst hy; exact .start, fun j y hj => by omega⟩
theorem LI.next {n : Nat} {f : Nat → ByteArray × ByteArray × ByteArray × ByteArray} {x : ByteArray} {q : Nat} {L : List ByteArray} (h : LI n f x q L) {y : ByteArray} (hy : L[q]? = some y) : LI n f x (q + 1) (stepL L (nx n f y)) := by
  have hp := step_pre (nx n f y) L
  refine ⟨step_nodup _ _ h.once, (step_mem _ _ _).2 (.inl h.here), fun z hz => ?_, fun j z hj hz u hu => ?_⟩
  · rcases (step_mem _ _ _).1 hz with hz | hz
    · exact h.only z hz
    · exact .step (h.only y (List.mem_of_getElem? hy)) hz
  · have hq : q < L.length := (List.getElem?_eq_some_iff.1 hy).1
    obtain ⟨t, ht⟩ := hp
    rw [← ht, List.getElem?_append_left (by omega)] at hz
    rw [step_mem]
    by_cases e : j = q
    · subst e
      rw [hy] at hz; cases hz
      exact .inr hu
    · exact .inl (h.gone j z (by omega) hz u hu)
theorem LI.good {n : Nat} {f : Nat → ByteArray × ByteArray × ByteArray × ByteArray} {x : ByteArray} {L : List ByteArray} (h : LI n f x L.length L) : Good n f x L :=
  ⟨h.once, h.here, h.only, fun y hy z hz => by
    obtain ⟨j, hj, e⟩ := List.mem_iff_getElem.1 hy
    exact h.gone j y hj (by rw [List.getElem?_eq_getElem hj, e]) z hz⟩

theorem nodup_le : ∀ (L U : List ByteArray), L.Nodup → (∀ y ∈ L, y ∈ U) → L.length ≤ U.length
  | [], U, _, _ => Nat.zero_le _
  | y :: L, U, h, hs => by
    have hy := hs y List.mem_cons_self
    have hn := List.nodup_cons.1 h
    obtain ⟨A, C, rfl⟩ := List.append_of_mem hy
    have ih := nodup_le L (A ++ C) hn.2 (fun z hz => by
      have := hs z (List.mem_cons_of_mem _ hz)
      rcases List.mem_append.1 this with h1 | h1
      · exact List.mem_append_left _ h1
      · rcases List.mem_cons.1 h1 with h2 | h2
        · exact absurd hz (by rw [h2]; exact hn.1)
        · exact List.mem_append_right _ h2)
    simp at ih ⊢; omega
theorem LI.short {n : Nat} {f : Nat → ByteArray × ByteArray × ByteArray × ByteArray} {x : ByteArray} {q : Nat} {L : List ByteArray} (h : LI n f x q L) : L.length ≤ 1 + (n + n) := by
  have hr : ∀ y, Rch n f x y → y = x ∨ ∃ i, i < n ∧ (y = (f i).2.1 ∨ y = (f i).2.2.1) := by
    intro y hy
    cases hy with
    | start => exact .inl rfl
    | @step u _ _ hz =>
      obtain ⟨i, hi, rfl⟩ := List.mem_map.1 hz
      obtain ⟨hi, he⟩ := List.mem_filter.1 hi
      refine .inr ⟨i, List.mem_range.1 hi, ?_⟩
      unfold behS
      unfold endB at he
      cases h1 : eqB u (f i).2.1
      · rw [h1, Bool.false_or] at he
        rw [he]; exact .inl rfl
      · exact .inr rfl
  have := nodup_le L (x :: ((List.range n).map (fun i => (f i).2.1) ++ (List.range n).map (fun i => (f i).2.2.1))) h.once (fun y hy => by
    rcases hr y (h.only y hy) with rfl | ⟨i, hi, rfl | rfl⟩
    · simp
    · exact List.mem_cons_of_mem _ (List.mem_append_left _ (List.mem_map.2 ⟨i, List.mem_range.2 hi, rfl⟩))
    · exact List.mem_cons_of_mem _ (List.mem_append_right _ (List.mem_map.2 ⟨i, List.mem_range.2 hi, rfl⟩)))
  simp at this
  omega

end Go.Proofs.Ytnpfnbgbodojnab
