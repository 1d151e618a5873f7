/-
  Small laws on names of a plant that is valid, and on an owned list of texts, how it is read.
-/
import Derived.Test.YtndacfockllehaaGreatVb
import Derived.Test.YtndacfockllehaaGreatRz
import Derived.Test.YtndacfockllehaaGreatM3
namespace Go.Proofs.YtndacfockllehaaGreat
open Go.RowKit

theorem eqB_size {a b : ByteArray} (h : eqB a b = true) : a.size = b.size := by
  unfold eqB at h
  have h1 : a.toList = b.toList := by simpa using h
  rw [ByteArray.toList_eq, ByteArray.toList_eq] at h1
  rw [sz_list, sz_list, h1]
theorem name_size {a : ByteArray} (h : nameB a = true) : a.size ≤ 8 := by
  unfold nameB at h
  simp only [Bool.and_eq_true, decide_eq_true_eq] at h
  exact h.1.2
theorem place_size {n : Nat} {f : Nat → ByteArray × Int × ByteArray} {x : ByteArray} (h : decide (placeI n f x < 0) = false) (hp : ∀ i, i < n → placeP f i) : x.size ≤ 8 := by
  unfold placeI at h
  cases hf : (List.range n).find? (fun i => eqB (f i).1 x) with
  | none => rw [hf] at h; simp at h
  | some i =>
    have h1 := List.find?_some hf
    have h2 := List.mem_range.1 (List.mem_of_find?_eq_some hf)
    rw [← eqB_size h1]
    exact name_size (hp i h2).1
theorem V_sizes {D : PD} (h : D.V) : ∀ i, i < D.nv → (D.fv i).1.size ≤ 8 ∧ (D.fv i).2.1.size ≤ 8 ∧ (D.fv i).2.2.1.size ≤ 8 := fun i hi =>
  have hv := h.2.2.2 i hi
  ⟨name_size hv.1, place_size hv.2.2.2.1 h.2.1.2, place_size hv.2.2.2.2.1 h.2.1.2⟩

/-- Text i of a list of texts. -/
def nthB (l : List ByteArray) (i : Nat) : ByteArray := l.getD i ⟨#[]⟩

theorem own_lst {B : Nat} {w : World} {v : Value} {l : List ByteArray} (h : w.ownsRow B 9 1 v l.length (l.map .string)) (hm : l.length ≤ 1048576) : Lst w.heap.size w v l.length 1 (cS (nthB l)) := by
  rcases h.2 with ⟨rfl, hn⟩ | ⟨g, cap, cur, rfl, hb, hg, hc, hm', hs, ht⟩
  · rw [hn]; exact ⟨none, 0, rfl, Nat.zero_le _, fun i hi => by omega⟩
  · refine ⟨_, _, rfl, by unfold maxLen; omega, fun i hi => ⟨g, 0, rfl, (Array.getElem?_eq_some_iff.1 hg).1, fun j hj => ?_⟩⟩
    have ej : j = 0 := by omega
    subst ej
    have e1 : cur.toList[i]? = (l.map Value.string)[i]? := by
      rw [← ht, Nat.mul_one, List.getElem?_take_of_lt hi]
    have e2 : cur[0 + i * 1 + 0]? = some (.string (nthB l i)) := by
      rw [Nat.zero_add, Nat.mul_one, Nat.add_zero, ← Array.getElem?_toList, e1]
      simp [nthB, hi]
    exact (cell_row hg _ _ e2).1

end Go.Proofs.YtndacfockllehaaGreat
