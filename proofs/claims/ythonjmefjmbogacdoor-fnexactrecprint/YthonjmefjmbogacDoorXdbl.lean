/-
  Lists of texts that are written down; rows that stay.
-/
import Derived.Test.YthonjmefjmbogacDoorXsr
namespace Go.Proofs.YthonjmefjmbogacDoor
open Go.RowKit

theorem lit_at (t : TypeId) (W : World) (l : List ByteArray) (hl : l.length ≤ maxLen) (hz : ∀ s ∈ l, s.size ≤ maxLen) : AtL (fun b => b = W.heap.size) (W.alloc (.cells (l.map Value.string).toArray t)) l (.slice (some ⟨W.heap.size, 0, none⟩) l.length l.length) := by
  refine ⟨_, _, rfl, ⟨hl, Nat.le_refl _, fun h => by cases h⟩, fun i hi => ⟨_, _, rfl, rfl, fun _ => .string l[i], fun j hj => ?_, ?_⟩⟩
  · rw [width_str] at hj ⊢
    have ej : j = 0 := by omega
    subst ej
    have h2 := heap_alloc_new W (.cells (l.map Value.string).toArray t)
    rw [Nat.mul_one, Nat.zero_add, Nat.add_zero]
    exact (cell_row h2 i _ (by simp [hi])).1
  · rw [at_str]; exact ⟨rfl, hz _ (List.getElem_mem hi)⟩

theorem own_belowR {B : Nat} {w w' : World} {e size : Nat} {v : Value} {n : Nat} {xs : List Value} (h : w.ownsRow B e size v n xs) (hb : Below w.heap.size w w') : w'.ownsRow B e size v n xs := by
  refine ⟨h.1, ?_⟩
  rcases h.2 with hn | ⟨g, cap, cur, hv, hbg, hg, rest⟩
  · exact Or.inl hn
  · exact Or.inr ⟨g, cap, cur, hv, hbg, (hb.block g (Array.getElem?_eq_some_iff.1 hg).1).trans hg, rest⟩

end Go.Proofs.YthonjmefjmbogacDoor
