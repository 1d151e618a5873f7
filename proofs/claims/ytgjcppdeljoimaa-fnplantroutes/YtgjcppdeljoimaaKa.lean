import Derived.Test.YtgjcppdeljoimaaM6
import Derived.Test.YtgjcppdeljoimaaRz
namespace Go.Proofs.Ytgjcppdeljoimaa
open Go.RowKit
theorem eqB_size {a b : ByteArray} (h : eqB a b = true) : a.size = b.size := by
  unfold eqB at h
  have h1 : a.toList = b.toList := by simpa using h
  rw [ByteArray.toList_eq, ByteArray.toList_eq] at h1
  rw [sz_list, sz_list, h1]
theorem less_dec : ∀ x y : List UInt8, Op.bytesLess x y = decide (x < y)
  | [], [] => by simp [Op.bytesLess]
  | _ :: _, [] => by simp [Op.bytesLess]
  | [], _ :: _ => by simp [Op.bytesLess]
  | a :: x, b :: y => by
    have ih := less_dec x y
    unfold Op.bytesLess
    rw [ih]
    by_cases h1 : a < b <;> by_cases h2 : a = b <;> by_cases h3 : x < y <;> simp [List.cons_lt_cons_iff, h1, h2, h3]
theorem ltB_iff (a b : ByteArray) : ltB a b = true ↔ a.toList < b.toList := by simp [ltB, less_dec]
theorem eqB_iff (a b : ByteArray) : eqB a b = true ↔ a = b := by
  unfold eqB
  rw [beq_iff_eq, ByteArray.toList_eq, ByteArray.toList_eq]
  constructor
  · intro h; exact ByteArray.ext (Array.toList_inj.1 h)
  · intro h; rw [h]
theorem ltB_trans {a b c : ByteArray} (h1 : ltB a b = true) (h2 : ltB b c = true) : ltB a c = true := by
  rw [ltB_iff] at *; exact List.lt_trans h1 h2
theorem ltB_irrefl (a : ByteArray) : ltB a a = false := by
  cases h : ltB a a
  · rfl
  · exact absurd ((ltB_iff _ _).1 h) (List.lt_irrefl _)
theorem ltB_ne {a b : ByteArray} (h : ltB a b = true) : eqB a b = false := by
  cases h' : eqB a b
  · rfl
  · have := (eqB_iff _ _).1 h'; subst this; rw [ltB_irrefl] at h; cases h
def ascB (n : Nat) (f : Nat → ByteArray) : Prop := ∀ i j, i < j → j < n → ltB (f i) (f j) = true
theorem ascB_of {n : Nat} {f : Nat → ByteArray} (h : ∀ i, i < n → 0 < i → ltB (f (i - 1)) (f i) = true) : ascB n f := by
  intro i j
  induction j with
  | zero => intro h; omega
  | succ j ih =>
    intro hi hj
    have h1 : ltB (f j) (f (j + 1)) = true := h (j + 1) hj (by omega)
    by_cases e : i = j
    · subst e; exact h1
    · exact ltB_trans (ih (by omega) (by omega)) h1
theorem ascB_inj {n : Nat} {f : Nat → ByteArray} (h : ascB n f) {i j : Nat} (hi : i < n) (hj : j < n) (he : f i = f j) : i = j := by
  rcases Nat.lt_trichotomy i j with g | g | g
  · have := ltB_ne (h i j g hj); rw [he] at this; rw [eqB_refl] at this; cases this
  · exact g
  · have := ltB_ne (h j i g hi); rw [he] at this; rw [eqB_refl] at this; cases this
def capI (n : Nat) (f : Nat → ByteArray × Int × ByteArray) (x : ByteArray) : Int := if placeI n f x < 0 then -1 else (f (placeI n f x).toNat).2.1
def vesB (n : Nat) (f : Nat → ByteArray × Int × ByteArray) (x : ByteArray) : Bool := (List.range n).any fun i => eqB (f i).1 x && decide (0 < (f i).2.1)
def joiB (n : Nat) (f : Nat → ByteArray × Int × ByteArray) (x : ByteArray) : Bool := (List.range n).any fun i => eqB (f i).1 x && ((f i).2.1 == 0)
theorem first_of {n : Nat} {f : Nat → ByteArray} {x : ByteArray} (ha : ascB n f) (q : Nat → Bool) :
    match (List.range n).find? (fun i => eqB (f i) x) with
    | some k => k < n ∧ eqB (f k) x = true ∧ ((List.range n).any fun i => eqB (f i) x && q i) = q k
    | none => ((List.range n).any fun i => eqB (f i) x && q i) = false := by
  cases h : (List.range n).find? (fun i => eqB (f i) x) with
  | none =>
    rw [List.find?_eq_none] at h
    show ((List.range n).any fun i => eqB (f i) x && q i) = false
    rw [List.any_eq_false]
    intro i hi
    have := h i hi
    simp at this
    simp [this]
  | some k =>
    have h1 := List.find?_some h
    have h2 := List.mem_range.1 (List.mem_of_find?_eq_some h)
    refine ⟨h2, h1, ?_⟩
    rw [Bool.eq_iff_iff, List.any_eq_true]
    constructor
    · rintro ⟨i, hi, hq⟩
      rw [Bool.and_eq_true] at hq
      have e : i = k := ascB_inj ha (List.mem_range.1 hi) h2 (((eqB_iff _ _).1 hq.1).trans ((eqB_iff _ _).1 h1).symm)
      subst e; exact hq.2
    · intro hq
      exact ⟨k, List.mem_range.2 h2, by rw [Bool.and_eq_true]; exact ⟨h1, hq⟩⟩
theorem vesB_iff {n : Nat} {f : Nat → ByteArray × Int × ByteArray} {x : ByteArray} (ha : ascB n fun i => (f i).1) : vesB n f x = true ↔ 1 ≤ capI n f x := by
  have h := first_of (x := x) ha (fun i => decide (0 < (f i).2.1))
  unfold vesB capI placeI
  cases hf : (List.range n).find? (fun i => eqB (f i).1 x) with
  | none => rw [hf] at h; simp only at h; rw [h]; simp
  | some k => rw [hf] at h; simp only at h; rw [h.2.2]; simp; omega
theorem joiB_iff {n : Nat} {f : Nat → ByteArray × Int × ByteArray} {x : ByteArray} (ha : ascB n fun i => (f i).1) : joiB n f x = true ↔ capI n f x = 0 := by
  have h := first_of (x := x) ha (fun i => (f i).2.1 == 0)
  unfold joiB capI placeI
  cases hf : (List.range n).find? (fun i => eqB (f i).1 x) with
  | none => rw [hf] at h; simp only at h; rw [h]; simp
  | some k => rw [hf] at h; simp only at h; rw [h.2.2]; simp; omega
theorem V_places {D : PD} (h : D.V) : ascB D.np fun i => (D.fp i).1 := ascB_of fun i hi h0 => (h.2.1.2 i hi).2.1 h0
theorem cap_size {D : PD} (h : D.V) {x : ByteArray} (hc : 0 ≤ capI D.np D.fp x) : 1 ≤ x.size := by
  unfold capI placeI at hc
  cases hf : (List.range D.np).find? (fun i => eqB (D.fp i).1 x) with
  | none => rw [hf] at hc; simp at hc
  | some i =>
    have h1 := List.find?_some hf
    have h2 := List.mem_range.1 (List.mem_of_find?_eq_some hf)
    rw [← eqB_size h1]
    have := (h.2.1.2 i h2).1
    unfold nameB at this
    simp only [Bool.and_eq_true, decide_eq_true_eq] at this
    exact this.1.1
end Go.Proofs.Ytgjcppdeljoimaa
