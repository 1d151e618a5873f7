/-
  Plain: small books; what leaving, coming in and needing less make of a book of shares.
-/
import Derived.Test.YtigkkelaadbhcaaZrap
import Derived.Test.YtigkkelaadbhcaaZmg
namespace Go.Proofs.Ytigkkelaadbhcaa
open Go.RowKit

theorem eqB_iffM (a b : ByteArray) : eqB a b = true ↔ a = b := by
  constructor
  · intro h
    simp only [eqB, beq_iff_eq, ByteArray.toList_eq] at h
    exact ByteArray.ext (Array.toList_inj.1 h)
  · rintro rfl
    exact eqB_refl a
theorem hasB_memM (l : List ByteArray) (x : ByteArray) : hasB l x = true → x ∈ l := by
  unfold hasB
  rw [List.any_eq_true]
  rintro ⟨y, hy, he⟩; rw [eqB_iffM] at he; exact he ▸ hy
/-- Lists and books that are small. -/
def SmL (l : List ByteArray) : Prop := l.length ≤ 64 ∧ ∀ x ∈ l, x.size ≤ 64
def SmB (Bs : List DShareBatch) : Prop := Bs.length ≤ 64 ∧ ∀ f ∈ Bs, f.1.size ≤ 64 ∧ SmL f.2.1 ∧ SmL f.2.2
def SmD (D : DShareBook) : Prop := SmL D.1 ∧ SmB D.2
theorem sum_bound {α : Type} [Lay α] {c : Nat} : ∀ (l : List α), (∀ x ∈ l, Lay.tot x ≤ c) → (l.map Lay.tot).sum ≤ l.length * c
  | [], _ => by simp
  | x :: l, h => by
    have h1 := h x (by simp)
    have h2 := sum_bound l (fun y hy => h y (by simp [hy]))
    rw [List.map_cons, List.sum_cons, List.length_cons, Nat.add_mul]
    omega
theorem totL_bound {α : Type} [Lay α] {c : Nat} (l : List α) (h : ∀ x ∈ l, Lay.tot x ≤ c) : totL l ≤ l.length + l.length * c := by
  unfold totL sumTo
  rw [List.take_length]
  have := sum_bound l h
  omega
theorem SmL.tot {l : List ByteArray} (h : SmL l) : totL l ≤ 4160 := by
  have h1 := totL_bound (c := 64) l (fun x hx => h.2 x hx)
  have h2 := h.1
  have h3 : l.length * 64 ≤ 64 * 64 := Nat.mul_le_mul_right _ h2
  omega
theorem SmB.tot {Bs : List DShareBatch} (h : SmB Bs) : totL Bs ≤ 536640 := by
  have h1 := totL_bound (c := 8384) Bs (fun f hf => by
    obtain ⟨a, b, c⟩ := h.2 f hf
    have := b.tot
    have := c.tot
    rw [tot_DShareBatch]
    omega)
  have h2 := h.1
  have h3 : Bs.length * 8384 ≤ 64 * 8384 := Nat.mul_le_mul_right _ h2
  omega
theorem SmD.tot {D : DShareBook} (h : SmD D) : Lay.tot D ≤ 1048576 := by
  have := h.1.tot
  have := h.2.tot
  rw [tot_DShareBook]
  omega
theorem SmL.of_sub {T l : List ByteArray} (hT : SmL T) (h : subB T l = true) (hl : l.length ≤ 64) : SmL l := by
  rw [subB, ok_iff] at h
  refine ⟨hl, fun x hx => ?_⟩
  obtain ⟨i, hi, rfl⟩ := List.getElem_of_mem hx
  have := h.2 i hi
  rw [tst, Bool.and_eq_true] at this
  exact hT.2 _ (hasB_memM _ _ this.1)
theorem less_decM : ∀ x y : List UInt8, Op.bytesLess x y = decide (x < y)
  | [], [] => by simp [Op.bytesLess]
  | _ :: _, [] => by simp [Op.bytesLess]
  | [], _ :: _ => by simp [Op.bytesLess]
  | a :: x, b :: y => by
    have ih := less_decM x y
    unfold Op.bytesLess
    rw [ih]
    by_cases h1 : a < b <;> by_cases h2 : a = b <;> by_cases h3 : x < y <;> simp [List.cons_lt_cons_iff, h1, h2, h3]
theorem ltB_iffM (a b : ByteArray) : ltB a b = true ↔ a.toList < b.toList := by simp [ltB, less_decM]
theorem ltB_transM {a b c : ByteArray} (h1 : ltB a b = true) (h2 : ltB b c = true) : ltB a c = true := by
  rw [ltB_iffM] at *; exact List.lt_trans h1 h2
theorem ltB_irreflM (a : ByteArray) : ltB a a = false := by
  cases h : ltB a a
  · rfl
  · rw [ltB_iffM] at h; exact absurd h (List.lt_irrefl _)
theorem asc_farM {l : List ByteArray} (h : ∀ i (hi : i < l.length), asO ltB (prevO l i) l[i] = true) : ∀ (j i : Nat) (hj : j < l.length) (hij : i < j), ltB (l[i]'(by omega)) l[j] = true
  | 0, i, _, hij => by omega
  | j + 1, i, hj, hij => by
    have h1 := h (j + 1) hj
    rw [prev_succ l j (by omega)] at h1
    have h2 : ltB (l[j]'(by omega)) l[j + 1] = true := h1
    by_cases e : i = j
    · subst e; exact h2
    · have h3 := asc_farM (l := l) h j i (by omega) (by omega)
      exact ltB_transM h3 h2
theorem sub_lenM {T l : List ByteArray} (h : subB T l = true) : l.length ≤ T.length := by
  rw [subB, ok_iff] at h
  have nd : l.Nodup := by
    refine List.pairwise_iff_getElem.2 fun i j hi hj hij e => ?_
    have := asc_farM (fun i hi => by have := h.2 i hi; rw [tst, Bool.and_eq_true] at this; exact this.2) j i hj hij
    rw [e, ltB_irreflM] at this
    cases this
  refine nd.length_le_of_subset fun x hx => ?_
  obtain ⟨i, hi, rfl⟩ := List.getElem_of_mem hx
  have := h.2 i hi
  rw [tst, Bool.and_eq_true] at this
  exact hasB_memM _ _ this.1
theorem name_smallM {s : ByteArray} (h : nameB s = true) : s.size ≤ 8 := by
  unfold nameB at h
  rw [Bool.and_eq_true, decide_eq_true_iff] at h
  exact h.1.2
theorem bok_small {D : DShareBook} (h : BokP D) : SmD D ∧ D.1.length ≤ 8 ∧ D.2.length ≤ 5 := by
  have h1 := h.things
  rw [ok_iff] at h1
  have hT : SmL D.1 := ⟨by omega, fun x hx => by
    obtain ⟨i, hi, rfl⟩ := List.getElem_of_mem hx
    have := h1.2 i hi
    rw [tst, Bool.and_eq_true] at this
    have := name_smallM this.1
    omega⟩
  refine ⟨⟨hT, by have := h.len; omega, fun f hf => ?_⟩, h1.1, h.len⟩
  obtain ⟨i, hi, rfl⟩ := List.getElem_of_mem hf
  have hb := (h.row i hi).bat
  unfold batB at hb
  simp only [Bool.and_eq_true] at hb
  have e1 := sub_lenM hb.1.2
  have e2 := sub_lenM hb.2
  have sn : SmL D.2[i].2.2 := hT.of_sub hb.1.2 (by omega)
  exact ⟨by have := name_smallM hb.1.1.1; omega, sn.of_sub hb.2 (by omega), sn⟩
section
variable {D : DShareBook} {x : ByteArray} {nd : List ByteArray}
end

end Go.Proofs.Ytigkkelaadbhcaa
