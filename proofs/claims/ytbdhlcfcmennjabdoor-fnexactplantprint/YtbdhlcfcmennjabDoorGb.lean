/-
  The lines of a plant's text, as lists of bytes, and how long the texts of a valid plant are.
-/
import Derived.Test.YtbdhlcfcmennjabDoorZs
import Derived.Test.YtbdhlcfcmennjabDoorGa
namespace Go.Proofs.YtbdhlcfcmennjabDoor
open Go.RowKit

def lnS (s : ByteArray) : List UInt8 := [115, 116, 117, 102, 102, 32] ++ s.data.toList ++ [10]
def lnF (f : ByteArray × ByteArray) : List UInt8 := [102, 111, 101, 32] ++ f.1.data.toList ++ [32] ++ f.2.data.toList ++ [10]
def lnP (x : ByteArray × Int × ByteArray) : List UInt8 :=
  if 0 < x.2.1 then [118, 101, 115, 115, 101, 108, 32] ++ x.1.data.toList ++ [32] ++ Lib.decDigits x.2.1.toNat ++ [32] ++ x.2.2.data.toList ++ [10]
  else [106, 111, 105, 110, 116, 32] ++ x.1.data.toList ++ [32] ++ x.2.2.data.toList ++ [10]
def lnV (v : ByteArray × ByteArray × ByteArray × ByteArray) : List UInt8 := [118, 97, 108, 118, 101, 32] ++ v.1.data.toList ++ [32] ++ v.2.1.data.toList ++ [32] ++ v.2.2.1.data.toList ++ [32] ++ v.2.2.2.data.toList ++ [10]

/-- The first n lines, behind what stands ahead of them. -/
def acc (a : List UInt8) (g : Nat → List UInt8) (n : Nat) : List UInt8 := a ++ ((List.range n).map g).flatten
theorem acc_zero (a : List UInt8) (g : Nat → List UInt8) : acc a g 0 = a := by simp [acc]
theorem acc_succ (a : List UInt8) (g : Nat → List UInt8) (n : Nat) : acc a g (n + 1) = acc a g n ++ g n := by simp [acc, List.range_succ]
theorem acc_len (a : List UInt8) (g : Nat → List UInt8) : ∀ n, (∀ i, i < n → (g i).length ≤ 64) → (acc a g n).length ≤ a.length + 64 * n
  | 0, _ => by simp [acc]
  | n + 1, h => by
    have := acc_len a g n fun i hi => h i (by omega)
    have := h n (by omega)
    rw [acc_succ, List.length_append]; omega

def PD.l1 (D : PD) (n : Nat) : List UInt8 := acc [] (fun i => lnS (D.fs i)) n
def PD.l2 (D : PD) (n : Nat) : List UInt8 := acc (D.l1 D.ns) (fun i => lnF (D.ff i)) n
def PD.l3 (D : PD) (n : Nat) : List UInt8 := acc (D.l2 D.nf) (fun i => lnP (D.fp i)) n
def PD.l4 (D : PD) (n : Nat) : List UInt8 := acc (D.l3 D.np) (fun i => lnV (D.fv i)) n
/-- The text of a plant. -/
def PD.text (D : PD) : List UInt8 := D.l4 D.nv

theorem st0 : (⟨#[]⟩ : ByteArray) = tx [] := rfl
theorem st1 (D : PD) (k : Nat) : tx (D.l1 k) ++ ⟨#[115, 116, 117, 102, 102, 32]⟩ ++ D.fs k ++ ⟨#[10]⟩ = tx (D.l1 (k + 1)) := by
  apply ByteArray.ext; simp [tx, PD.l1, acc_succ, lnS, ByteArray.data_append]
theorem st2 (D : PD) (k : Nat) : tx (D.l2 k) ++ ⟨#[102, 111, 101, 32]⟩ ++ (D.ff k).1 ++ ⟨#[32]⟩ ++ (D.ff k).2 ++ ⟨#[10]⟩ = tx (D.l2 (k + 1)) := by
  apply ByteArray.ext; simp [tx, PD.l2, acc_succ, lnF, ByteArray.data_append]
theorem st3 (D : PD) (k : Nat) (h : 0 < (D.fp k).2.1) : tx (D.l3 k) ++ ⟨#[118, 101, 115, 115, 101, 108, 32]⟩ ++ (D.fp k).1 ++ ⟨#[32]⟩ ++ tx (Lib.decDigits (D.fp k).2.1.toNat) ++ ⟨#[32]⟩ ++ (D.fp k).2.2 ++ ⟨#[10]⟩ = tx (D.l3 (k + 1)) := by
  apply ByteArray.ext; simp [tx, PD.l3, acc_succ, lnP, h, ByteArray.data_append]
theorem st3' (D : PD) (k : Nat) (h : ¬ 0 < (D.fp k).2.1) : tx (D.l3 k) ++ ⟨#[106, 111, 105, 110, 116, 32]⟩ ++ (D.fp k).1 ++ ⟨#[32]⟩ ++ (D.fp k).2.2 ++ ⟨#[10]⟩ = tx (D.l3 (k + 1)) := by
  apply ByteArray.ext; simp [tx, PD.l3, acc_succ, lnP, h, ByteArray.data_append]
theorem st4 (D : PD) (k : Nat) : tx (D.l4 k) ++ ⟨#[118, 97, 108, 118, 101, 32]⟩ ++ (D.fv k).1 ++ ⟨#[32]⟩ ++ (D.fv k).2.1 ++ ⟨#[32]⟩ ++ (D.fv k).2.2.1 ++ ⟨#[32]⟩ ++ (D.fv k).2.2.2 ++ ⟨#[10]⟩ = tx (D.l4 (k + 1)) := by
  apply ByteArray.ext; simp [tx, PD.l4, acc_succ, lnV, ByteArray.data_append]

/-- The texts of a valid plant are short. -/
structure PD.Nm (D : PD) : Prop where
  ns : D.ns ≤ 8
  nf : D.nf ≤ 12
  np : D.np ≤ 14
  nv : D.nv ≤ 18
  s : ∀ i, i < D.ns → (D.fs i).size ≤ 8
  f : ∀ i, i < D.nf → (D.ff i).1.size ≤ 8 ∧ (D.ff i).2.size ≤ 8
  p : ∀ i, i < D.np → (D.fp i).1.size ≤ 8 ∧ 0 ≤ (D.fp i).2.1 ∧ (D.fp i).2.1 ≤ 1000 ∧ (D.fp i).2.2.size ≤ 8
  v : ∀ i, i < D.nv → (D.fv i).1.size ≤ 8 ∧ (D.fv i).2.1.size ≤ 8 ∧ (D.fv i).2.2.1.size ≤ 8 ∧ (D.fv i).2.2.2.size ≤ 8

theorem name_le {s : ByteArray} (h : nameB s = true) : s.size ≤ 8 := by
  simp only [nameB, Bool.and_eq_true, decide_eq_true_eq] at h; omega
theorem eqB_eq {a b : ByteArray} (h : eqB a b = true) : a = b := by
  rw [eqB, beq_iff_eq, ByteArray.toList_eq, ByteArray.toList_eq] at h
  exact ByteArray.ext (Array.ext' h)
theorem has_le {n : Nat} {f : Nat → ByteArray} {x : ByteArray} (h : hasB n f x = true) (hf : ∀ i, i < n → (f i).size ≤ 8) : x.size ≤ 8 := by
  rw [hasB, List.any_eq_true] at h
  obtain ⟨i, hi, he⟩ := h
  rw [← eqB_eq he]; exact hf i (List.mem_range.1 hi)
theorem place_le {n : Nat} {f : Nat → ByteArray × Int × ByteArray} {x : ByteArray} (h : decide (placeI n f x < 0) = false) (hf : ∀ i, i < n → (f i).1.size ≤ 8) : x.size ≤ 8 := by
  unfold placeI at h
  cases hh : (List.range n).find? (fun i => eqB (f i).1 x) with
  | none => rw [hh] at h; simp at h
  | some i =>
    have h1 := List.find?_some hh
    have h2 := List.mem_range.1 (List.mem_of_find?_eq_some hh)
    rw [← eqB_eq h1]; exact hf i h2

theorem PD.V.nm {D : PD} (h : D.V) : D.Nm := by
  obtain ⟨⟨h1, h2, h3, h4⟩, ⟨h5, h6⟩, h7, h8⟩ := h
  have hs : ∀ i, i < D.ns → (D.fs i).size ≤ 8 := fun i hi => name_le (h3 i hi).1
  have hp : ∀ i, i < D.np → (D.fp i).1.size ≤ 8 := fun i hi => name_le (h6 i hi).1
  refine ⟨h1, h2, h5, h7, hs, fun i hi => ⟨has_le (h4 i hi).2.1 hs, has_le (h4 i hi).2.2.1 hs⟩, fun i hi => ?_, fun i hi => ?_⟩
  · obtain ⟨q1, q2, q3, q4⟩ := h6 i hi
    simp only [inB, decide_eq_true_eq] at q3
    exact ⟨name_le q1, q3.1, q3.2, name_le q4⟩
  · obtain ⟨q1, q2, q3, q4, q5, q6⟩ := h8 i hi
    exact ⟨name_le q1, place_le q4 hp, place_le q5 hp, name_le q6⟩

theorem lnS_len {s : ByteArray} (h : s.size ≤ 8) : (lnS s).length ≤ 64 := by rw [sz_list] at h; simp [lnS] at h ⊢; omega
theorem lnF_len {f : ByteArray × ByteArray} (h : f.1.size ≤ 8 ∧ f.2.size ≤ 8) : (lnF f).length ≤ 64 := by rw [sz_list, sz_list] at h; simp [lnF] at h ⊢; omega
theorem lnP_len {x : ByteArray × Int × ByteArray} (h : x.1.size ≤ 8 ∧ 0 ≤ x.2.1 ∧ x.2.1 ≤ 1000 ∧ x.2.2.size ≤ 8) : (lnP x).length ≤ 64 := by
  rw [sz_list, sz_list] at h
  have := dec_len x.2.1.toNat (by omega)
  unfold lnP
  split <;> simp at h ⊢ <;> omega
theorem lnV_len {v : ByteArray × ByteArray × ByteArray × ByteArray} (h : v.1.size ≤ 8 ∧ v.2.1.size ≤ 8 ∧ v.2.2.1.size ≤ 8 ∧ v.2.2.2.size ≤ 8) : (lnV v).length ≤ 64 := by
  rw [sz_list, sz_list, sz_list, sz_list] at h; simp [lnV] at h ⊢; omega

theorem PD.Nm.l1 {D : PD} (h : D.Nm) {n : Nat} (hn : n ≤ D.ns) : (D.l1 n).length ≤ 512 := by
  have := acc_len [] (fun i => lnS (D.fs i)) n fun i hi => lnS_len (h.s i (by omega))
  have := h.ns; simp [PD.l1] at *; omega
theorem PD.Nm.l2 {D : PD} (h : D.Nm) {n : Nat} (hn : n ≤ D.nf) : (D.l2 n).length ≤ 2000 := by
  have := acc_len (D.l1 D.ns) (fun i => lnF (D.ff i)) n fun i hi => lnF_len (h.f i (by omega))
  have := h.nf; have := h.l1 (Nat.le_refl _); simp [PD.l2] at *; omega
theorem PD.Nm.l3 {D : PD} (h : D.Nm) {n : Nat} (hn : n ≤ D.np) : (D.l3 n).length ≤ 3000 := by
  have := acc_len (D.l2 D.nf) (fun i => lnP (D.fp i)) n fun i hi => lnP_len (h.p i (by omega))
  have := h.np; have := h.l2 (Nat.le_refl _); simp [PD.l3] at *; omega
theorem PD.Nm.l4 {D : PD} (h : D.Nm) {n : Nat} (hn : n ≤ D.nv) : (D.l4 n).length ≤ 5000 := by
  have := acc_len (D.l3 D.np) (fun i => lnV (D.fv i)) n fun i hi => lnV_len (h.v i (by omega))
  have := h.nv; have := h.l3 (Nat.le_refl _); simp [PD.l4] at *; omega

end Go.Proofs.YtbdhlcfcmennjabDoor
