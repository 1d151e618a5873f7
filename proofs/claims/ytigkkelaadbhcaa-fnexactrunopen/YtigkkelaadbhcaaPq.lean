/-
  Plain: what a name is, texts that are compared, lists that are searched, lists whose every element is tested with the one ahead of it. No program is named here.
-/
import Derived.Test.YtigkkelaadbhcaaLy
namespace Go.Proofs.Ytigkkelaadbhcaa
open Go.RowKit

/-- May a name hold this number of a byte or a rune? -/
def okn (c : Int) : Bool := decide ((97 ≤ c ∧ c ≤ 122) ∨ (48 ≤ c ∧ c ≤ 57) ∨ c = 45)
/-- Is this text a name? -/
def nameB (s : ByteArray) : Bool := decide (1 ≤ s.size ∧ s.size ≤ 8) && s.data.toList.all fun c => okn c.toNat
theorem sz_list (s : ByteArray) : s.size = s.data.toList.length := by simp
theorem gt_list (s : ByteArray) (k : Nat) (h : k < s.size) : s.data.toList[k]? = some s[k] := by
  rw [List.getElem?_eq_getElem (by rw [← sz_list]; exact h)]; rfl
theorem name_short {s : ByteArray} (h : ¬ (1 ≤ s.size ∧ s.size ≤ 8)) : nameB s = false := by simp [nameB]; omega
theorem name_bad {s : ByteArray} {k : Nat} (h : k < s.size) (hc : okn s[k].toNat = false) : nameB s = false := by
  have : (s.data.toList.all fun c => okn c.toNat) = false := by
    rw [List.all_eq_false]
    exact ⟨s[k], List.mem_of_getElem? (gt_list s k h), by simp [hc]⟩
  simp only [nameB, this, Bool.and_false]
theorem name_all {s : ByteArray} (h : 1 ≤ s.size ∧ s.size ≤ 8) (ha : ∀ j (hj : j < s.size), okn s[j].toNat = true) : nameB s = true := by
  have : (s.data.toList.all fun c => okn c.toNat) = true := by
    rw [List.all_eq_true]
    intro c hc
    obtain ⟨j, hj, e⟩ := List.mem_iff_getElem.1 hc
    have hj' : j < s.size := by rw [sz_list]; exact hj
    have := ha j hj'
    rw [← e]; exact this
  simp only [nameB, this, Bool.and_true]
  exact decide_eq_true h
def inB (n lo hi : Int) : Bool := decide (lo ≤ n ∧ n ≤ hi)
def eqB (a b : ByteArray) : Bool := a.toList == b.toList
def ltB (a b : ByteArray) : Bool := Op.bytesLess a.toList b.toList
theorem eqB_refl (a : ByteArray) : eqB a a = true := by simp [eqB]
section
variable {α : Type} {p : α → Bool} {l : List α}
theorem any_yes {k : Nat} (hk : k < l.length) (h : p l[k] = true) : l.any p = true := List.any_eq_true.2 ⟨_, List.getElem_mem hk, h⟩
theorem any_no (h : ∀ j (hj : j < l.length), p l[j] = false) : l.any p = false := by
  rw [List.any_eq_false]
  intro x hx
  obtain ⟨j, hj, rfl⟩ := List.mem_iff_getElem.1 hx
  simp [h j hj]
/-- Where the first stands, -1 if there is none. -/
def idxI (l : List α) (p : α → Bool) : Int := match l.findIdx? p with | some i => i | none => -1
theorem idx_yes {k : Nat} (hk : k < l.length) (h : p l[k] = true) (hno : ∀ j (hj : j < l.length), j < k → p l[j] = false) : idxI l p = k := by
  have : l.findIdx? p = some k := by
    rw [List.findIdx?_eq_some_iff_getElem]
    exact ⟨hk, h, fun j hj => by simp [hno j (by omega) hj]⟩
  simp only [idxI, this]
theorem idx_no (h : ∀ j (hj : j < l.length), p l[j] = false) : idxI l p = -1 := by
  have : l.findIdx? p = none := by
    rw [List.findIdx?_eq_none_iff]
    intro x hx
    obtain ⟨j, hj, rfl⟩ := List.mem_iff_getElem.1 hx
    exact h j hj
  simp only [idxI, this]
end

def hasB (l : List ByteArray) (x : ByteArray) : Bool := l.any fun f => eqB f x
section
variable {α : Type}
/-- The element ahead of one, if there is one. -/
def prevO (l : List α) (i : Nat) : Option α := if i = 0 then none else l[i - 1]?
theorem prev_zero (l : List α) : prevO l 0 = none := rfl
theorem prev_succ (l : List α) (m : Nat) (h : m < l.length) : prevO l (m + 1) = some l[m] := by
  simp [prevO, List.getElem?_eq_getElem h]
/-- Is a list short enough, and does each element pass, with the one ahead of it? -/
noncomputable def okB (lim : Nat) (T : Option α → α → Bool) (l : List α) : Bool := @decide (l.length ≤ lim ∧ ∀ i (h : i < l.length), T (prevO l i) l[i] = true) (Classical.propDecidable _)
theorem ok_yes {lim : Nat} {T : Option α → α → Bool} {l : List α} (h0 : l.length ≤ lim) (h : ∀ i (h : i < l.length), T (prevO l i) l[i] = true) : okB lim T l = true := by
  unfold okB; exact @decide_eq_true _ (Classical.propDecidable _) ⟨h0, h⟩
theorem ok_long {lim : Nat} {T : Option α → α → Bool} {l : List α} (h0 : ¬ l.length ≤ lim) : okB lim T l = false := by
  unfold okB; exact @decide_eq_false _ (Classical.propDecidable _) (fun h => h0 h.1)
theorem ok_no {lim : Nat} {T : Option α → α → Bool} {l : List α} {k : Nat} (hk : k < l.length) (h : T (prevO l k) l[k] = false) : okB lim T l = false := by
  unfold okB; exact @decide_eq_false _ (Classical.propDecidable _) (fun h' => by have := h'.2 k hk; rw [h] at this; cases this)
theorem ok_iff {lim : Nat} {T : Option α → α → Bool} {l : List α} : okB lim T l = true ↔ l.length ≤ lim ∧ ∀ i (h : i < l.length), T (prevO l i) l[i] = true := by
  unfold okB; exact @decide_eq_true_iff _ (Classical.propDecidable _)
end

section
variable {α : Type}
/-- An element behind the one ahead of it; an element that passes besides. -/
def asO (R : α → α → Bool) : Option α → α → Bool
  | none, _ => true
  | some p, x => R p x
def tst (P : α → Bool) (R : α → α → Bool) (o : Option α) (x : α) : Bool := P x && asO R o x
theorem as_zero {R : α → α → Bool} {l : List α} (j : Nat) (hj : j < l.length) (h : j = 0) : asO R (prevO l j) l[j] = true := by
  subst h; rw [prev_zero]; rfl
noncomputable def ascB (R : α → α → Bool) (l : List α) : Bool := okB l.length (asO R) l
theorem tst_asc {lim : Nat} {P : α → Bool} {R : α → α → Bool} {l : List α} (h0 : l.length ≤ lim) (hP : ∀ j (hj : j < l.length), P l[j] = true) : okB lim (tst P R) l = ascB R l := by
  rw [Bool.eq_iff_iff, ascB, ok_iff, ok_iff]
  constructor
  · rintro ⟨_, h⟩
    exact ⟨Nat.le_refl _, fun i hi => by have := h i hi; rw [tst, hP i hi, Bool.true_and] at this; exact this⟩
  · rintro ⟨_, h⟩
    exact ⟨h0, fun i hi => by rw [tst, hP i hi, h i hi]; rfl⟩
theorem tst_no {lim : Nat} {P : α → Bool} {R : α → α → Bool} {l : List α} {k : Nat} (hk : k < l.length) (h : P l[k] = false) : okB lim (tst P R) l = false :=
  ok_no hk (by rw [tst, h]; rfl)
end

theorem box_at {w : World} (o : Array Value) (t : TypeId) {wr : World} (hb : Below (w.heap.size + 1) (w.alloc (.cells o t)) wr) (j : Nat) (v : Value) (h : o[j]? = some v) : wr.cell? ⟨w.heap.size, j, none⟩ = some v := by
  refine (hb.cell (p := ⟨w.heap.size, j, none⟩) (by show w.heap.size < _; omega)).trans ?_
  simp only [World.cell?, heap_alloc_new, h]; rfl
theorem below_end {w wr : World} {o : Obj} (hb : Below (w.heap.size + 1) (w.alloc o) wr) : Below w.heap.size w wr :=
  ((Below.refl _ _).alloc (Nat.le_refl _) o).trans (hb.mono (by omega))
theorem below_of {w wr wr' : World} {o : Obj} (hb : Below (w.heap.size + 1) (w.alloc o) wr) (h : Below wr.heap.size wr wr') : Below (w.heap.size + 1) (w.alloc o) wr' :=
  hb.trans (h.mono (by have := hb.size; simp at this; exact this))
end Go.Proofs.Ytigkkelaadbhcaa
