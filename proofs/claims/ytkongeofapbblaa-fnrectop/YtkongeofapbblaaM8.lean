/-
  Several texts in one.
-/
import Derived.Test.YtkongeofapbblaaM7
import Derived.Test.YtkongeofapbblaaM2
import Derived.Test.YtkongeofapbblaaXg
/-
  Plain: rows of texts that ascend; the slots of a phase by those of where it goes on to.
-/
namespace Go.Proofs.Ytkongeofapbblaa
open Go.RowKit

theorem ltB_asymm {a b : ByteArray} (h : ltB a b = true) : ltB b a = false := by
  cases c : ltB b a
  · rfl
  · have := ltB_trans h c; rw [ltB_irrefl] at this; cases this
/-- Names that ascend, as a list. -/
def AscL (l : List ByteArray) : Prop := l.Pairwise fun a b => ltB a b = true

theorem AscL.nodup {l : List ByteArray} (h : AscL l) : l.Nodup := by
  refine h.imp fun {a b} hab e => ?_
  rw [e, ltB_irrefl] at hab; cases hab

theorem ltB_tri {a b : ByteArray} (h1 : ltB a b = false) (h2 : eqB a b = false) : ltB b a = true := by
  rw [ltB_iff]
  have n1 : ¬ a.toList < b.toList := fun h => by rw [(ltB_iff _ _).2 h] at h1; cases h1
  have n2 : a.toList ≠ b.toList := fun h => by
    have : eqB a b = true := by unfold eqB; rw [h]; simp
    rw [this] at h2; cases h2
  rcases List.le_iff_lt_or_eq.1 (List.not_lt.1 n1) with h | h
  · exact h
  · exact absurd h.symm n2

theorem ins_mem : ∀ (l : List ByteArray) (x y : ByteArray), y ∈ insR l x ↔ y ∈ l ∨ y = x
  | [], x, y => by simp [insR]
  | z :: l, x, y => by
    have ih := ins_mem l x y
    unfold insR
    cases h1 : ltB z x
    · cases h2 : eqB z x
      · simp only [cond_false, List.mem_cons]
        constructor
        · rintro (h | h | h)
          · exact .inr h
          · exact .inl (.inl h)
          · exact .inl (.inr h)
        · rintro ((h | h) | h)
          · exact .inr (.inl h)
          · exact .inr (.inr h)
          · exact .inl h
      · simp only [cond_false, cond_true, List.mem_cons]
        have := (eqB_iff _ _).1 h2
        constructor
        · exact .inl
        · rintro (h | h)
          · exact h
          · exact .inl (by rw [h, this])
    · simp only [cond_true, List.mem_cons, ih, or_assoc]

theorem ins_asc : ∀ (l : List ByteArray) (x : ByteArray), AscL l → AscL (insR l x)
  | [], x, _ => List.pairwise_singleton _ _
  | z :: l, x, h => by
    obtain ⟨hz, hl⟩ := List.pairwise_cons.1 h
    have ih := ins_asc l x hl
    unfold insR
    cases h1 : ltB z x
    · cases h2 : eqB z x
      · simp only [cond_false]
        have hxz := ltB_tri h1 h2
        refine List.pairwise_cons.2 ⟨fun y hy => ?_, h⟩
        rcases List.mem_cons.1 hy with rfl | hy
        · exact hxz
        · exact ltB_trans hxz (hz y hy)
      · exact h
    · simp only [cond_true]
      refine List.pairwise_cons.2 ⟨fun y hy => ?_, ih⟩
      rcases (ins_mem _ _ _).1 hy with hy | rfl
      · exact hz y hy
      · exact h1

theorem asc_unique : ∀ (l m : List ByteArray), AscL l → AscL m → (∀ y, y ∈ l ↔ y ∈ m) → l = m
  | [], [], _, _, _ => rfl
  | [], b :: m, _, _, h => absurd ((h b).2 List.mem_cons_self) (by simp)
  | a :: l, [], _, _, h => absurd ((h a).1 List.mem_cons_self) (by simp)
  | a :: l, b :: m, hl, hm, h => by
    obtain ⟨ha, hl'⟩ := List.pairwise_cons.1 hl
    obtain ⟨hb, hm'⟩ := List.pairwise_cons.1 hm
    have e : a = b := by
      rcases List.mem_cons.1 ((h a).1 List.mem_cons_self) with e | h1
      · exact e
      · rcases List.mem_cons.1 ((h b).2 List.mem_cons_self) with e | h2
        · exact e.symm
        · have := ltB_asymm (hb a h1)
          rw [ha b h2] at this; cases this
    subst e
    have na : a ∉ l := (List.nodup_cons.1 (AscL.nodup hl)).1
    have nb : a ∉ m := (List.nodup_cons.1 (AscL.nodup hm)).1
    rw [asc_unique l m hl' hm' (fun y => ?_)]
    have := h y
    simp only [List.mem_cons] at this
    constructor
    · intro hy
      rcases this.1 (.inr hy) with e | h'
      · rw [e] at hy; exact absurd hy na
      · exact h'
    · intro hy
      rcases this.2 (.inr hy) with e | h'
      · rw [e] at hy; exact absurd hy nb
      · exact h'

theorem both_memI : ∀ (b a : List ByteArray) (y : ByteArray), y ∈ bothL a b ↔ y ∈ a ∨ y ∈ b
  | [], a, y => by simp [bothL]
  | x :: b, a, y => by
    have e : bothL a (x :: b) = bothL (insR a x) b := rfl
    rw [e, both_memI b (insR a x) y, ins_mem, List.mem_cons]
    constructor
    · rintro ((h | h) | h)
      · exact .inl h
      · exact .inr (.inl h)
      · exact .inr (.inr h)
    · rintro (h | h | h)
      · exact .inl (.inl h)
      · exact .inl (.inr h)
      · exact .inr h
theorem both_asc : ∀ (b a : List ByteArray), AscL a → AscL (bothL a b)
  | [], _, h => h
  | x :: b, a, h => both_asc b (insR a x) (ins_asc a x h)
theorem of_asc (p : DRecPhase) : AscL (ofL p) := by
  unfold ofL
  split
  · exact ins_asc _ _ (List.pairwise_singleton _ _)
  · exact List.pairwise_singleton _ _
/-- The slots of a phase, as the program lists them. -/
def ownL (kd : Int) (a b : ByteArray) : List ByteArray := if kd = 2 then [a, b] else [a]
theorem own_mem (p : DRecPhase) (y : ByteArray) : y ∈ ownL p.2.1 p.2.2.1 p.2.2.2.1 ↔ y ∈ ofL p := by
  unfold ownL ofL
  split
  · rw [ins_mem]; simp
  · simp
theorem slt_asc (r : List DRecPhase) : ∀ (n : Nat) (x : ByteArray), AscL (sltF n r x)
  | 0, x => List.Pairwise.nil
  | n + 1, x => by
    unfold sltF
    split
    · exact List.Pairwise.nil
    · exact both_asc _ _ (both_asc _ _ (of_asc _))
theorem slt_fuel {r : List DRecPhase} (h : RecP r) : ∀ (n m : Nat) (x : ByteArray), (∀ k : Nat, atI r x = (k : Int) → r.length ≤ k + n) → (∀ k : Nat, atI r x = (k : Int) → r.length ≤ k + m) → sltF n r x = sltF m r x
  | 0, m, x, h1, h2 => by
    rcases at_cases r x with e | ⟨k, hk, e, _⟩
    · cases m with
      | zero => rfl
      | succ m => simp [sltF, e]
    · have := h1 k e; omega
  | n + 1, 0, x, h1, h2 => by
    rcases at_cases r x with e | ⟨k, hk, e, _⟩
    · simp [sltF, e]
    · have := h2 k e; omega
  | n + 1, m + 1, x, h1, h2 => by
    rcases at_cases r x with e | ⟨k, hk, e, _⟩
    · simp [sltF, e]
    · have hx : ¬ (atI r x < 0) := by omega
      simp only [sltF, if_neg hx]
      have hs := step_of h hk
      rw [← ph_at hk e] at hs
      have g1 := h1 k e
      have g2 := h2 k e
      rw [slt_fuel h n m _ (fun j hj => by have := go_next h hs.2.1 j hj; omega) (fun j hj => by have := go_next h hs.2.1 j hj; omega),
        slt_fuel h n m _ (fun j hj => by have := go_next h hs.2.2 j hj; omega) (fun j hj => by have := go_next h hs.2.2 j hj; omega)]
theorem slt_none {r : List DRecPhase} {x : ByteArray} (e : atI r x = -1) (n : Nat) : sltF n r x = [] := by
  cases n with
  | zero => rfl
  | succ n => simp [sltF, e]
theorem slt_succ {r : List DRecPhase} {x : ByteArray} (n : Nat) (h : ¬ (atI r x < 0)) : sltF (n + 1) r x = bothL (bothL (ofL (phX r x)) (sltF n r (phX r x).2.2.2.2.2.2.1)) (sltF n r (phX r x).2.2.2.2.2.2.2) := by simp only [sltF, if_neg h]
theorem slt_at {r : List DRecPhase} (h : RecP r) {x : ByteArray} {k : Nat} (hk : k < r.length) (e : atI r x = (k : Int)) (n : Nat) : sltF (n + 1) r x = sltF (n + 1) r r[k].1 := by
  have e2 := at_self h hk
  rw [slt_succ n (by omega), slt_succ n (by omega), ph_at hk e, ph_at hk e2]
theorem slt_step {r : List DRecPhase} (h : RecP r) {i : Nat} (hi : i < r.length) : sltF 12 r r[i].1 = bothL (bothL (sltF 12 r r[i].2.2.2.2.2.2.1) (sltF 12 r r[i].2.2.2.2.2.2.2)) (ownL r[i].2.1 r[i].2.2.1 r[i].2.2.2.1) := by
  have e := at_self h hi
  have hx : ¬ (atI r r[i].1 < 0) := by omega
  have hs := step_of h hi
  have h12 := h.1.2
  have e1 := slt_succ 11 hx
  rw [ph_at hi e] at e1
  refine e1.trans ?_
  rw [slt_fuel h 11 12 _ (fun j hj => by have := go_next h hs.2.1 j hj; omega) (fun j _ => by omega), slt_fuel h 11 12 _ (fun j hj => by have := go_next h hs.2.2 j hj; omega) (fun j _ => by omega)]
  refine asc_unique _ _ (both_asc _ _ (both_asc _ _ (of_asc _))) (both_asc _ _ (both_asc _ _ (slt_asc r 12 _))) (fun y => ?_)
  rw [both_memI, both_memI, both_memI, both_memI, own_mem]
  constructor
  · rintro ((h | h) | h)
    · exact .inr h
    · exact .inl (.inl h)
    · exact .inl (.inr h)
  · rintro ((h | h) | h)
    · exact .inl (.inr h)
    · exact .inr h
    · exact .inl (.inl h)
theorem asc_mono {l : List ByteArray} (h : AscL l) (x : ByteArray) : ∀ p q (hq : q < l.length) (hpq : p ≤ q), ltB l[q] x = true → ltB (l[p]'(by omega)) x = true := fun p q hq hpq hx => by
  by_cases e : p = q
  · subst e; exact hx
  · exact ltB_trans ((List.pairwise_iff_getElem.1 h) p q (by omega) hq (by omega)) hx
theorem kind_of {p : DRecPhase} (h : phaseB p = true) : p.2.1 = 1 ∨ p.2.1 = 2 ∨ p.2.1 = 3 ∨ p.2.1 = 4 ∨ p.2.1 = 5 := by
  simp only [phaseB, Bool.and_eq_true] at h
  have ha := h.1.1.2
  unfold argsB at ha
  repeat' split at ha
  all_goals (first | omega | (cases ha))
theorem nth_is {l : List ByteArray} {i : Nat} (h : i < l.length) : nthB l i = l[i] := by simp [nthB, h]

end Go.Proofs.Ytkongeofapbblaa

/-
  By the definition: can a recipe come from here to there (plain)?
-/
namespace Go.Proofs.Ytkongeofapbblaa
open Go.RowKit Go.Sort

/-- Can it come from here to there, by at most so many phases? -/
def rchF : Nat → List DRecPhase → ByteArray → ByteArray → Bool
  | 0, _, x, y => eqB x y
  | n + 1, r, x, y => eqB x y || (if atI r x < 0 then false else rchF n r (phX r x).2.2.2.2.2.2.1 y || rchF n r (phX r x).2.2.2.2.2.2.2 y)
theorem rch_eq {n : Nat} {r : List DRecPhase} {x y : ByteArray} (h : eqB x y = true) : rchF n r x y = true := by
  cases n with
  | zero => exact h
  | succ n => simp [rchF, h]
theorem rch_none {n : Nat} {r : List DRecPhase} {x y : ByteArray} (h : eqB x y = false) (e : atI r x = -1) : rchF n r x y = false := by
  cases n with
  | zero => exact h
  | succ n => simp [rchF, h, e]
theorem rch_step {n : Nat} {r : List DRecPhase} {x y : ByteArray} (h : eqB x y = false) {k : Nat} (hk : k < r.length) (e : atI r x = (k : Int)) : rchF (n + 1) r x y = (rchF n r r[k].2.2.2.2.2.2.1 y || rchF n r r[k].2.2.2.2.2.2.2 y) := by
  have hx : ¬ (atI r x < 0) := by omega
  simp only [rchF, h, Bool.false_or, if_neg hx, ph_at hk e]

end Go.Proofs.Ytkongeofapbblaa

/-
  The slots that a recipe uses from here are those of the phases that it can come to (plain).
-/
namespace Go.Proofs.Ytkongeofapbblaa
open Go.RowKit

theorem eqB_self (a : ByteArray) : eqB a a = true := by simp [eqB]
theorem eqB_sym {a b : ByteArray} (h : eqB a b = true) : eqB b a = true := by
  have e : a.toList = b.toList := by simpa [eqB] using h
  simp [eqB, e]
theorem at_eq {r : List DRecPhase} {x y : ByteArray} (h : eqB x y = true) : atI r x = atI r y := by
  have e : x.toList = y.toList := by simpa [eqB] using h
  have : (fun p : DRecPhase => eqB p.1 x) = (fun p : DRecPhase => eqB p.1 y) := by funext p; simp [eqB, e]
  unfold atI
  rw [this]
theorem slt_mem {r : List DRecPhase} (h : RecP r) : ∀ (n : Nat) (x y : ByteArray), (∀ k : Nat, atI r x = (k : Int) → r.length ≤ k + n) → (y ∈ sltF n r x ↔ ∃ k, ∃ hk : k < r.length, rchF n r x r[k].1 = true ∧ y ∈ ofL r[k])
  | n, x, y, hd => by
    rcases at_cases r x with e | ⟨i, hi, e, hx⟩
    · rw [slt_none e n]
      constructor
      · intro hy; cases hy
      · rintro ⟨k, hk, hr, _⟩
        cases c : eqB x r[k].1
        · rw [rch_none c e] at hr; cases hr
        · have := at_eq (r := r) c
          rw [at_self h hk] at this
          omega
    · cases n with
      | zero => have := hd i e; omega
      | succ n =>
        have hnx : ¬ (atI r x < 0) := by omega
        have hs := step_of h hi
        have i1 := slt_mem h n r[i].2.2.2.2.2.2.1 y (fun j hj => by have := go_next h hs.2.1 j hj; have := hd i e; omega)
        have i2 := slt_mem h n r[i].2.2.2.2.2.2.2 y (fun j hj => by have := go_next h hs.2.2 j hj; have := hd i e; omega)
        rw [slt_succ n hnx, ph_at hi e, both_memI, both_memI, i1, i2]
        have hst : ∀ z : ByteArray, rchF (n + 1) r x z = (eqB x z || (rchF n r r[i].2.2.2.2.2.2.1 z || rchF n r r[i].2.2.2.2.2.2.2 z)) := fun z => by
          simp only [rchF, if_neg hnx, ph_at hi e]
        constructor
        · rintro ((hy | ⟨k, hk, h1, h2⟩) | ⟨k, hk, h1, h2⟩)
          · exact ⟨i, hi, by rw [hst, eqB_sym hx, Bool.true_or], hy⟩
          · exact ⟨k, hk, by rw [hst, h1]; simp, h2⟩
          · exact ⟨k, hk, by rw [hst, h1]; simp, h2⟩
        · rintro ⟨k, hk, h1, h2⟩
          rw [hst, Bool.or_eq_true, Bool.or_eq_true] at h1
          rcases h1 with c | c | c
          · have := at_eq (r := r) c
            rw [at_self h hk, e] at this
            obtain rfl : i = k := by omega
            exact .inl (.inl h2)
          · exact .inl (.inr ⟨k, hk, c, h2⟩)
          · exact .inr ⟨k, hk, c, h2⟩

end Go.Proofs.Ytkongeofapbblaa

/-
  To which ends a phase of an ok recipe may come, by where it goes on to (plain).
-/
namespace Go.Proofs.Ytkongeofapbblaa

theorem can_fuel {r : List DRecPhase} (h : RecP r) (q : Int) : ∀ (n m : Nat) (x : ByteArray), (∀ k : Nat, atI r x = (k : Int) → r.length ≤ k + n) → (∀ k : Nat, atI r x = (k : Int) → r.length ≤ k + m) → canF n r x q = canF m r x q
  | 0, m, x, h1, h2 => by
    rcases at_cases r x with e | ⟨k, hk, e, _⟩
    · cases m with
      | zero => rfl
      | succ m => simp [canF, e]
    · have := h1 k e; omega
  | n + 1, 0, x, h1, h2 => by
    rcases at_cases r x with e | ⟨k, hk, e, _⟩
    · simp [canF, e]
    · have := h2 k e; omega
  | n + 1, m + 1, x, h1, h2 => by
    rcases at_cases r x with e | ⟨k, hk, e, _⟩
    · simp [canF, e]
    · have hx : ¬ (atI r x < 0) := by omega
      simp only [canF, if_neg hx]
      have hs := step_of h hk
      rw [← ph_at hk e] at hs
      have g1 := h1 k e
      have g2 := h2 k e
      rw [can_fuel h q n m _ (fun j hj => by have := go_next h hs.2.1 j hj; omega) (fun j hj => by have := go_next h hs.2.1 j hj; omega),
        can_fuel h q n m _ (fun j hj => by have := go_next h hs.2.2 j hj; omega) (fun j hj => by have := go_next h hs.2.2 j hj; omega)]
theorem can_none {r : List DRecPhase} {x : ByteArray} (e : atI r x = -1) (n : Nat) (q : Int) : canF n r x q = (endI x == q) := by
  cases n with
  | zero => rfl
  | succ n => simp [canF, e]
theorem can_succ {r : List DRecPhase} {x : ByteArray} (n : Nat) (q : Int) (h : ¬ (atI r x < 0)) : canF (n + 1) r x q = (canF n r (phX r x).2.2.2.2.2.2.1 q || canF n r (phX r x).2.2.2.2.2.2.2 q) := by simp only [canF, if_neg h]
theorem can_at {r : List DRecPhase} (h : RecP r) {x : ByteArray} {k : Nat} (hk : k < r.length) (e : atI r x = (k : Int)) (n : Nat) (q : Int) : canF (n + 1) r x q = canF (n + 1) r r[k].1 q := by
  have e2 := at_self h hk
  rw [can_succ n q (by omega), can_succ n q (by omega), ph_at hk e, ph_at hk e2]
theorem can_step {r : List DRecPhase} (h : RecP r) {i : Nat} (hi : i < r.length) (q : Int) : canF 12 r r[i].1 q = (canF 12 r r[i].2.2.2.2.2.2.1 q || canF 12 r r[i].2.2.2.2.2.2.2 q) := by
  have e := at_self h hi
  have hx : ¬ (atI r r[i].1 < 0) := by omega
  have hs := step_of h hi
  have h12 := h.1.2
  have e1 := can_succ 11 q hx
  rw [ph_at hi e] at e1
  refine e1.trans ?_
  rw [can_fuel h q 11 12 _ (fun j hj => by have := go_next h hs.2.1 j hj; omega) (fun j _ => by omega), can_fuel h q 11 12 _ (fun j hj => by have := go_next h hs.2.2 j hj; omega) (fun j _ => by omega)]

end Go.Proofs.Ytkongeofapbblaa

/-
  What one step of a run does (plain).
-/
namespace Go.Proofs.Ytkongeofapbblaa
open Go.RowKit

theorem eq_of_B {a b : ByteArray} (h : eqB a b = true) : a = b := ByteArray.ext (by
  have e : a.toList = b.toList := by simpa [eqB] using h
  rw [ByteArray.toList_eq, ByteArray.toList_eq] at e
  exact Array.toList_inj.1 e)
/-- A phase of this name is this one. -/
theorem nameAtU {r : List DRecPhase} {x : ByteArray} {k : Nat} (hk : k < r.length) (e : atI r x = (k : Int)) : r[k].1 = x := by
  rcases at_cases r x with h | ⟨j, hj, h, hx⟩
  · omega
  · obtain rfl : j = k := by omega
    exact eq_of_B hx
theorem at_neg {r : List DRecPhase} {x : ByteArray} (h : atI r x < 0) : atI r x = -1 := by
  rcases at_cases r x with h | ⟨j, hj, h, hx⟩ <;> omega
/-- RecGo at a phase. -/
theorem goS_at {r : List DRecPhase} (hR : RecP r) {x : ByteArray} {now lf t : Int} {well : Bool} {k : Nat} (hk : k < r.length) (e : atI r x = (k : Int)) (h0 : 0 ≤ now) (h1 : now ≤ 12000) :
    goS r x now lf t well = ((nxT r[k] (goT r[k] t well).2, now + (goT r[k] t well).1, bndF 12 r (nxT r[k] (goT r[k] t well).2)), true) := by
  have hi : inB now 0 12000 = true := by simp [inB]; omega
  have hn0 : 0 ≤ atI r x := by omega
  simp only [goS, rec_yes hR, hn0, hi, and_self, if_true, ph_at hk e]
theorem nxT_or (p : DRecPhase) (ok : Bool) : nxT p ok = p.2.2.2.2.2.2.1 ∨ nxT p ok = p.2.2.2.2.2.2.2 := by
  unfold nxT
  split
  · exact .inl rfl
  · exact .inr rfl
theorem goT_in (p : DRecPhase) (t : Int) (well : Bool) (h : 1 ≤ p.2.2.2.2.2.1 ∧ p.2.2.2.2.2.1 ≤ 1000) (hn : 0 ≤ p.2.2.2.2.1) : 0 ≤ (goT p t well).1 ∧ (goT p t well).1 ≤ p.2.2.2.2.2.1 := by
  unfold goT
  simp only
  repeat' split
  all_goals omega
/-- What one step does. -/
structure StepP (r : List DRecPhase) (x : ByteArray) (now : Int) (k : Nat) (g : (ByteArray × Int × Int) × Bool) : Prop where
  ok : g.2 = true
  lo : now ≤ g.1.2.1
  hi : g.1.2.1 ≤ now + 1000
  left : g.1.2.2 = bndF 12 r g.1.1
  less : g.1.2.1 + g.1.2.2 ≤ now + bndF 12 r x
  slots : ∀ y ∈ sltF 12 r g.1.1, y ∈ sltF 12 r x
  can : ∀ q, canF 12 r g.1.1 q = true → canF 12 r x q = true
  fin : atI r g.1.1 = -1 → ¬ endI g.1.1 = 0
  next : ∀ q : Nat, atI r g.1.1 = (q : Int) → k < q
  size : g.1.1.size ≤ 8
  here : x.size ≤ 8
theorem both_l {a b : List ByteArray} {y : ByteArray} (h : y ∈ a) : y ∈ bothL a b := (both_memI b a y).2 (.inl h)
theorem both_r {a b : List ByteArray} {y : ByteArray} (h : y ∈ b) : y ∈ bothL a b := (both_memI b a y).2 (.inr h)
theorem step_all {r : List DRecPhase} (hR : RecP r) {x : ByteArray} {now lf t : Int} {well : Bool} {k : Nat} (hk : k < r.length) (e : atI r x = (k : Int)) (h0 : 0 ≤ now) (h1 : now ≤ 12000) : StepP r x now k (goS r x now lf t well) := by
  have hst := step_of hR hk
  have hin := (ph_name hst.1).2.2.1
  have hn := nameAtU hk e
  have hb := bnd_step hR hk
  have hc := fun q => can_step hR hk q
  have hs := slt_step hR hk
  have hg := goT_le r[k] t well hin
  have hw : (goT r[k] t well).1 ≤ r[k].2.2.2.2.2.1 := by
    unfold goT
    simp only
    repeat' split
    all_goals omega
  rw [hn] at hb hs
  have hgo : ∀ z, (z = r[k].2.2.2.2.2.2.1 ∨ z = r[k].2.2.2.2.2.2.2) → bndF 12 r z + r[k].2.2.2.2.2.1 ≤ bndF 12 r x ∧ (∀ y ∈ sltF 12 r z, y ∈ sltF 12 r x) ∧ (∀ q, canF 12 r z q = true → canF 12 r x q = true) ∧ (atI r z = -1 → ¬ endI z = 0) ∧ ∀ q : Nat, atI r z = (q : Int) → k < q := by
    intro z hz
    have hgz : goesB r k z = true := by
      rcases hz with rfl | rfl
      · exact hst.2.1
      · exact hst.2.2
    refine ⟨by rcases hz with rfl | rfl <;> omega, ?_, ?_, ?_, go_next hR hgz⟩
    · intro y hy
      rw [hs]
      rcases hz with rfl | rfl
      · exact both_l (both_l hy)
      · exact both_l (both_r hy)
    · intro q hq
      have := hc q
      rw [hn] at this
      rw [this]
      rcases hz with rfl | rfl <;> simp [hq]
    · intro hz1 hz2
      have := goes_no (r := r) (i := k) hz2 (by omega)
      rw [this] at hgz
      cases hgz
  obtain ⟨g1, g2, g3, g4, g5⟩ := hgo _ (nxT_or r[k] (goT r[k] t well).2)
  have hz : (nxT r[k] (goT r[k] t well).2).size ≤ 8 := by
    have hp := hst.1
    simp only [phaseB, Bool.and_eq_true] at hp
    rcases nxT_or r[k] (goT r[k] t well).2 with h | h
    · rw [h]; exact name_le hp.1.2
    · rw [h]; exact name_le hp.2
  have hx : x.size ≤ 8 := by rw [← hn]; exact name_le (ph_name hst.1).1
  rw [goS_at hR hk e h0 h1]
  exact ⟨rfl, by simp only; omega, by simp only; omega, rfl, by simp only; omega, g2, g3, g4, g5, hz, hx⟩

end Go.Proofs.Ytkongeofapbblaa
