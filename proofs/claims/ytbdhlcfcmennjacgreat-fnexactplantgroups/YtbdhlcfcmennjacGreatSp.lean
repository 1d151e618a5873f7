/-
  All groups of a plant: as plain lists, and the contract of the model's PlantGroups.
-/
import Derived.Test.YtbdhlcfcmennjacGreatSm
namespace Go.Proofs.YtbdhlcfcmennjacGreat
open Go.RowKit

/-- The group of place i; is i its first? -/
def grO (D : PD) (no : Nat) (fo : Nat → ByteArray) (i : Nat) : List ByteArray := itG D.fv no fo D.nv D.np [(D.fp i).1]
def gsB (D : PD) (no : Nat) (fo : Nat → ByteArray) (i : Nat) : Bool := eqB (nthB (grO D no fo i) 0) (D.fp i).1
def gsN (D : PD) (no : Nat) (fo : Nat → ByteArray) (q : Nat) : List (List ByteArray) := ((List.range q).filter (gsB D no fo)).map (grO D no fo)
theorem gsN_yes {D : PD} {no : Nat} {fo : Nat → ByteArray} {q : Nat} (h : gsB D no fo q = true) : gsN D no fo (q + 1) = gsN D no fo q ++ [grO D no fo q] := by
  simp [gsN, List.range_succ, List.filter_append, h]
theorem gsN_no {D : PD} {no : Nat} {fo : Nat → ByteArray} {q : Nat} (h : gsB D no fo q = false) : gsN D no fo (q + 1) = gsN D no fo q := by
  simp [gsN, List.range_succ, List.filter_append, h]
theorem gsN_len (D : PD) (no : Nat) (fo : Nat → ByteArray) (q : Nat) : (gsN D no fo q).length ≤ q := by
  simp only [gsN, List.length_map]
  exact Nat.le_trans (List.length_filter_le _ _) (by simp)
def gsL (b : Bool) (D : PD) (no : Nat) (fo : Nat → ByteArray) : List (List ByteArray) := bif b then gsN D no fo D.np else []

theorem grO_len {D : PD} (hV : D.V) (no : Nat) (fo : Nat → ByteArray) (i : Nat) : (grO D no fo i).length ≤ 37 := (((InvG.start (f := D.fv) (no := no) (fo := fo) D.nv (D.fp i).1).iter D.np).1).short hV.2.2.1

theorem SetsO.fresh {B B' : Nat} {w u : World} {v x : Value} {G : List (List ByteArray)} {us : List Value} {gs : List Nat} {l : List ByteArray} {g : Nat} (h : SetsO B w v G us gs) (hr : RowG B' u x l g) (hB : w.heap.size ≤ B') : g ∉ gs := fun hm => by
  obtain ⟨i, hi, e⟩ := List.mem_iff_getElem.1 hm
  have hl := (h.row i (by have := h.gl; omega)).lt
  have e2 : nthG gs i = g := by simp [nthG, hi, e]
  obtain ⟨_, _, _, hb, _⟩ := hr
  omega

theorem underP : Tryz.prog.underlying 30 = some (.slice 61) := by kernel_rfl
theorem infoP : (Tryz.prog.info? 61).map (fun i => (i.zero, i.size, i.bytes)) = some (some (.agg #[.slice none 0 0]), 1, 24) := by kernel_rfl

end Go.Proofs.YtbdhlcfcmennjacGreat
