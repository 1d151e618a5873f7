/-
  The program's ShareSafe, whole: it answers as the model does.
-/
import Derived.Test.YtomfooddehddhaeZpo
namespace Go.Proofs.Ytomfooddehddhae
open Go.RowKit

set_option maxRecDepth 100000 in
set_option maxHeartbeats 8000000 in
theorem safeP_any (S : Nat → Prop) (T : List ByteArray) (Bs : List DShareBatch) (o0 oa : Option Addr) (n0 k0 nb kb : Nat) (w : World) (h0 : AtL S w T (.slice o0 n0 k0)) (h1 : AtL S w Bs (.slice oa nb kb)) (hS : ∀ b, S b → b < w.heap.size) (ht : Lay.tot (α := DShareBook) (T, Bs) ≤ 1048576) :
    Calls Try.prog 7 #[.agg #[.slice o0 n0 k0, .slice oa nb kb]] w fun e w' => e = .returned (.bool ((ordS (T, Bs)).2)) ∧ Below w.heap.size w w' := by
  obtain ⟨W, hW⟩ : ∃ W, W = w.alloc (.cells #[.slice o0 n0 k0, .slice oa nb kb] 30) := ⟨_, rfl⟩
  have EW : Hid (W = w.alloc (.cells #[.slice o0 n0 k0, .slice oa nb kb] 30)) := hW
  have BW : Hid (Below w.heap.size w W) := by rw [hW]; exact (Below.refl _ _).alloc (Nat.le_refl _) _
  have RW : Hid (W.heap[w.heap.size]? = some (.cells #[.slice o0 n0 k0, .slice oa nb kb] 30 (0, 0))) := by rw [hW]; exact heap_alloc_new w _
  clear hW
  obtain ⟨r, hr⟩ : ∃ r, r = (ordS (T, Bs)).2 := ⟨_, rfl⟩
  have CO : Hid (Calls Try.prog 14 #[.agg #[.slice o0 n0 k0, .slice oa nb kb]] W fun e w' => ∃ (o : Option Addr) (n k : Nat), e = .returned (.tuple #[.slice o n k, .bool r]) ∧ Below W.heap.size W w') := by
    rw [hr]
    refine (orderP_any S T Bs _ _ W (h0.same (Same.of_below BW.out hS)) (h1.same (Same.of_below BW.out hS)) (fun b hb => Nat.lt_of_lt_of_le (hS b hb) BW.out.size) ht).mono fun e w' ⟨q, he, hq, hb⟩ => ?_
    obtain ⟨o, k, eq, _⟩ := hq
    subst eq
    exact ⟨o, _, k, he, hb⟩
  rw [← hr]
  clear hr h0 h1
  have y0 := (cell_row RW.out 0 (.slice o0 n0 k0) rfl).1
  have y1 := (cell_row RW.out 1 (.slice oa nb kb) rfl).1
  go_enter Try.func7, Try.ntmps7
  go_upto_region 1 with fail
  rw [← EW.out]
  go_wp2_with fail
  refine Calls.mono CO.out ?_
  rintro e u1 ⟨o, n, k, rfl, hb1⟩
  have B1 : Hid (Below w.heap.size w u1) := BW.out.trans (hb1.mono BW.out.size)
  clear hb1 y0 y1
  go_wp2_with fail
  go_ret
  exact ⟨rfl, B1.out⟩

end Go.Proofs.Ytomfooddehddhae
