import Derived.Test.YtgjcppdeljoimaaVb
import Derived.Test.YtgjcppdeljoimaaRz
import Derived.Test.YtgjcppdeljoimaaM6
namespace Go.Proofs.Ytgjcppdeljoimaa
open Go.RowKit
theorem eqB_size {a b : ByteArray} (h : eqB a b = true) : a.size = b.size := by
  unfold eqB at h
  have h1 : a.toList = b.toList := by simpa using h
  rw [ByteArray.toList_eq, ByteArray.toList_eq] at h1
  rw [sz_list, sz_list, h1]
theorem name_size {a : ByteArray} (h : nameB a = true) : a.size ≤ 8 := by
  unfold nameB at h
  simp only [Bool.and_eq_true, decide_eq_true_eq] at h
  exact h.1.2
theorem place_size {n : Nat} {f : Nat → ByteArray × Int × ByteArray} {x : ByteArray} (h : decide (placeI n f x < 0) = false) (hp : ∀ i, i < n → placeP f i) : x.size ≤ 8 := by
  unfold placeI at h
  cases hf : (List.range n).find? (fun i => eqB (f i).1 x) with
  | none => rw [hf] at h; simp at h
  | some i =>
    have h1 := List.find?_some hf
    have h2 := List.mem_range.1 (List.mem_of_find?_eq_some hf)
    rw [← eqB_size h1]
    exact name_size (hp i h2).1
theorem V_sizes {D : PD} (h : D.V) : ∀ i, i < D.nv → (D.fv i).1.size ≤ 8 ∧ (D.fv i).2.1.size ≤ 8 ∧ (D.fv i).2.2.1.size ≤ 8 := fun i hi =>
  have hv := h.2.2.2 i hi
  ⟨name_size hv.1, place_size hv.2.2.2.1 h.2.1.2, place_size hv.2.2.2.2.1 h.2.1.2⟩
def nthB (l : List ByteArray) (i : Nat) : ByteArray := l.getD i ⟨#[]⟩
end Go.Proofs.Ytgjcppdeljoimaa
