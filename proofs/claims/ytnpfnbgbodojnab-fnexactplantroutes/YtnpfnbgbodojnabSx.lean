/-
  A list of names in a block of its own, while it is marked.
-/
import Derived.Test.YtnpfnbgbodojnabSf
namespace Go.Proofs.Ytnpfnbgbodojnab
open Go.RowKit

def RowM (w : World) (n g : Nat) : Prop := ∃ cur, w.heap[g]? = some (.cells cur 9 (0, 0)) ∧ n ≤ cur.size

def RowK (w : World) (n g : Nat) (k : Int) : Prop := ∃ cur, w.heap[g]? = some (.cells cur 9 (0, 0)) ∧ n ≤ cur.size ∧ ∀ j, j < n → cur[j]? = some (.string (mkT (k + j)))

theorem RowM.same {w w' : World} {n g : Nat} (h : RowM w n g) (e : w'.heap[g]? = w.heap[g]?) : RowM w' n g := by
  obtain ⟨c, h1, h2⟩ := h; exact ⟨c, e.trans h1, h2⟩

theorem RowM.lt {w : World} {n g : Nat} (h : RowM w n g) : g < w.heap.size := by
  obtain ⟨c, h1, _⟩ := h; exact (Array.getElem?_eq_some_iff.1 h1).1

theorem RowK.same {w w' : World} {n g : Nat} {k : Int} (h : RowK w n g k) (e : w'.heap[g]? = w.heap[g]?) : RowK w' n g k := by
  obtain ⟨c, h1, h2⟩ := h; exact ⟨c, e.trans h1, h2⟩

theorem own_other {B e size n : Nat} {w w' : World} {v : Value} {xs : List Value} (h : w.ownsRow B e size v n xs) (hk : ∀ k, v.ownBlock = some k → w'.heap[k]? = w.heap[k]?) : w'.ownsRow B e size v n xs := by
  refine ⟨h.1, ?_⟩
  rcases h.2 with hn | ⟨g, cap, cur, hv, hbg, hg, rest⟩
  · exact Or.inl hn
  · exact Or.inr ⟨g, cap, cur, hv, hbg, (hk g (by rw [hv]; rfl)).trans hg, rest⟩

theorem Outs.other {g : Nat} {w w' : World} (h : Outs g (g + 1) w w') {k : Nat} (hk : k < w.heap.size) (hne : k ≠ g) : w'.heap[k]? = w.heap[k]? := by
  by_cases e : k < g
  · exact h.bel.block k e
  · exact h.out k (by omega) hk

theorem RowK.lst {w : World} {n g cap : Nat} {k : Int} (h : RowK w n g k) (hm : n ≤ 1048576) : Lst w.heap.size w (.slice (some ⟨g, 0, none⟩) n cap) n 1 (cS (mkF k)) := by
  obtain ⟨cur, hg, hs, hc⟩ := h
  refine ⟨_, _, rfl, by unfold maxLen; omega, fun i hi => ⟨g, 0, rfl, (Array.getElem?_eq_some_iff.1 hg).1, fun j hj => ?_⟩⟩
  have ej : j = 0 := by omega
  subst ej
  rw [Nat.zero_add, Nat.mul_one, Nat.add_zero]
  exact (cell_row hg i _ (hc i hi)).1

end Go.Proofs.Ytnpfnbgbodojnab
