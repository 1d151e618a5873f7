import Derived.Test.YtgjcppdeljoimaaM5
namespace Go.Proofs.Ytgjcppdeljoimaa
open Go.RowKit
theorem info9b : (Try.prog.info? 9).map (fun i => (i.zero, i.size, i.bytes)) = some (some (.string ByteArray.empty), 1, 16) := by kernel_rfl
theorem under24b : Try.prog.underlying 23 = some (.slice 9) := by kernel_rfl
def endB (g : ByteArray × ByteArray × ByteArray × ByteArray) (x : ByteArray) : Bool := eqB x g.2.1 || eqB x g.2.2.1
def behS (g : ByteArray × ByteArray × ByteArray × ByteArray) (x : ByteArray) : ByteArray := bif eqB x g.2.1 then g.2.2.1 else bif eqB x g.2.2.1 then g.2.1 else ⟨#[]⟩
def besN (f : Nat → ByteArray × ByteArray × ByteArray × ByteArray) (x : ByteArray) (k : Nat) : List ByteArray := ((List.range k).filter fun i => endB (f i) x).map fun i => (f i).1
theorem eqB_comm (a b : ByteArray) : eqB a b = eqB b a := by
  unfold eqB
  rw [Bool.eq_iff_iff]
  simp only [beq_iff_eq]
  exact ⟨fun h => h.symm, fun h => h.symm⟩
theorem endB_flip (g : ByteArray × ByteArray × ByteArray × ByteArray) (x : ByteArray) : endB g x = (eqB g.2.1 x || eqB g.2.2.1 x) := by
  unfold endB; rw [eqB_comm x g.2.1, eqB_comm x g.2.2.1]
theorem besN_yes {f : Nat → ByteArray × ByteArray × ByteArray × ByteArray} {x : ByteArray} {k : Nat} (h : endB (f k) x = true) : besN f x (k + 1) = besN f x k ++ [(f k).1] := by
  simp [besN, List.range_succ, List.filter_append, h]
theorem besN_no {f : Nat → ByteArray × ByteArray × ByteArray × ByteArray} {x : ByteArray} {k : Nat} (h : endB (f k) x = false) : besN f x (k + 1) = besN f x k := by
  simp [besN, List.range_succ, List.filter_append, h]
theorem besN_len (f : Nat → ByteArray × ByteArray × ByteArray × ByteArray) (x : ByteArray) (k : Nat) : (besN f x k).length ≤ k := by
  have := List.length_filter_le (fun i => endB (f i) x) (List.range k)
  simp only [besN, List.length_map]
  simpa using this
theorem own_push {w : World} {B : Nat} {v : Value} {l : List ByteArray} {d : ByteArray} (h : w.ownsRow B 9 1 v (l.length + 1) (l.map .string ++ [.string d])) : w.ownsRow B 9 1 v (l ++ [d]).length ((l ++ [d]).map .string) := by
  rw [List.map_append, List.length_append]; exact h
theorem own_belowR {B : Nat} {w w' : World} {e size : Nat} {v : Value} {n : Nat} {xs : List Value} (h : w.ownsRow B e size v n xs) (hb : Below w.heap.size w w') : w'.ownsRow B e size v n xs := by
  refine ⟨h.1, ?_⟩
  rcases h.2 with hn | ⟨g, cap, cur, hv, hbg, hg, rest⟩
  · exact Or.inl hn
  · exact Or.inr ⟨g, cap, cur, hv, hbg, (hb.block g (Array.getElem?_eq_some_iff.1 hg).1).trans hg, rest⟩
theorem own_leR {B B' : Nat} {w : World} {e size : Nat} {v : Value} {n : Nat} {xs : List Value} (h : w.ownsRow B e size v n xs) (hb : B' ≤ B) : w.ownsRow B' e size v n xs := by
  refine ⟨h.1, ?_⟩
  rcases h.2 with hn | ⟨g, cap, cur, hv, hbg, rest⟩
  · exact Or.inl hn
  · exact Or.inr ⟨g, cap, cur, hv, by omega, rest⟩
end Go.Proofs.Ytgjcppdeljoimaa
