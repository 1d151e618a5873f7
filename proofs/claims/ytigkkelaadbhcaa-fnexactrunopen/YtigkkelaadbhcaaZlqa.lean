/-
  Plain: how many marks a book of shares takes.
-/
import Derived.Test.YtigkkelaadbhcaaZxm
import Derived.Test.YtigkkelaadbhcaaZrs
namespace Go.Proofs.Ytigkkelaadbhcaa
open Go.RowKit
theorem cntZ_le {α : Type} [Own α] (K : Nat) : ∀ l : List α, (∀ x ∈ l, Own.cnt x ≤ K * (Lay.tot x + 1)) → cntL l ≤ K * totL l
  | [], _ => by simp [cntL, cntTo]
  | x :: l, h => by
    have h1 := h x List.mem_cons_self
    have h2 := cntZ_le K l (fun y hy => h y (List.mem_cons_of_mem _ hy))
    have e1 : cntL (x :: l) = Own.cnt x + cntL l := by simp [cntL, cntTo]
    have e2 : totL (x :: l) = (Lay.tot x + 1) + totL l := by simp [totL, sumTo]; omega
    rw [e1, e2, Nat.mul_add]
    omega
theorem cntZ_strs (l : List ByteArray) : cntL l ≤ totL l := by
  have := cntZ_le 1 l (fun x _ => by show 1 ≤ 1 * (x.size + 1); omega)
  omega
theorem cnt_book {D : DShareBook} (h : Lay.tot D ≤ 1048576) : Own.cnt D ≤ 1048576 := by
  rw [tot_DShareBook] at h
  rw [cnt_DShareBook]
  have h0 := cntZ_strs D.1
  have h1 : cntL D.2 ≤ 1 * totL D.2 := cntZ_le 1 D.2 (fun x _ => by
    rw [cnt_DShareBatch, tot_DShareBatch]
    have := cntZ_strs x.2.1
    have := cntZ_strs x.2.2
    omega)
  omega
end Go.Proofs.Ytigkkelaadbhcaa
