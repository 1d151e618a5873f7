/-
  A list of names in a block of its own.
-/
import Derived.Test.YtnpfnbgbodojnabRv
import Derived.Test.YtnpfnbgbodojnabVa
namespace Go.Proofs.Ytnpfnbgbodojnab
open Go.RowKit

/-- A list of names in block g. -/
def RowG (B : Nat) (w : World) (u : Value) (l : List ByteArray) (g : Nat) : Prop :=
  ∃ cap cur, u = .slice (some ⟨g, 0, none⟩) l.length cap ∧ B ≤ g ∧ w.heap[g]? = some (.cells cur 9 (0, 0)) ∧ l.length ≤ cur.size ∧ ∀ j, j < l.length → cur[j]? = some (.string (nthB l j))

theorem RowG.lst {B : Nat} {w : World} {u : Value} {l : List ByteArray} {g : Nat} (h : RowG B w u l g) (hm : l.length ≤ 1048576) : Lst w.heap.size w u l.length 1 (cS (nthB l)) := by
  obtain ⟨cap, cur, rfl, hb, hg, hs, hc⟩ := h
  refine ⟨_, _, rfl, by unfold maxLen; omega, fun i hi => ⟨g, 0, rfl, (Array.getElem?_eq_some_iff.1 hg).1, fun j hj => ?_⟩⟩
  have ej : j = 0 := by omega
  subst ej
  rw [Nat.zero_add, Nat.mul_one, Nat.add_zero]
  exact (cell_row hg i _ (hc i hi)).1

theorem RowG.of_own {B : Nat} {w : World} {u : Value} {l : List ByteArray} (h : w.ownsRow B 9 1 u l.length (l.map .string)) (hl : 0 < l.length) : ∃ g, RowG B w u l g ∧ g < w.heap.size := by
  rcases h.2 with ⟨rfl, hn⟩ | ⟨g, cap, cur, rfl, hb, hg, hc, hm', hs, ht⟩
  · omega
  · refine ⟨g, ⟨cap, cur, rfl, hb, hg, by omega, fun i hi => ?_⟩, (Array.getElem?_eq_some_iff.1 hg).1⟩
    have e1 : cur.toList[i]? = (l.map Value.string)[i]? := by
      rw [← ht, Nat.mul_one, List.getElem?_take_of_lt hi]
    rw [← Array.getElem?_toList, e1]
    simp [nthB, hi]

theorem RowG.same {B : Nat} {w w' : World} {u : Value} {l : List ByteArray} {g : Nat} (h : RowG B w u l g) (e : w'.heap[g]? = w.heap[g]?) : RowG B w' u l g := by
  obtain ⟨cap, cur, hu, hb, hg, hs, hc⟩ := h
  exact ⟨cap, cur, hu, hb, e.trans hg, hs, hc⟩

theorem RowG.lt {B : Nat} {w : World} {u : Value} {l : List ByteArray} {g : Nat} (h : RowG B w u l g) : g < w.heap.size := by
  obtain ⟨cap, cur, hu, hb, hg, hs, hc⟩ := h
  exact (Array.getElem?_eq_some_iff.1 hg).1

theorem RowG.le {B B' : Nat} {w : World} {u : Value} {l : List ByteArray} {g : Nat} (h : RowG B w u l g) (hB : B' ≤ B) : RowG B' w u l g := by
  obtain ⟨cap, cur, hu, hb, r⟩ := h
  exact ⟨cap, cur, hu, Nat.le_trans hB hb, r⟩

end Go.Proofs.Ytnpfnbgbodojnab
