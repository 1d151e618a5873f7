/-
  A route in memory of its own, marked.
-/
import Derived.Test.YtciembgenlcogabKi
namespace Go.Proofs.Ytciembgenlcogab
open Go.RowKit Go.Sort

set_option maxRecDepth 100000 in
set_option maxHeartbeats 2000000 in
/-- A route in blocks of its own, marked. -/
theorem markRoute_any (A B g0 g1 m k : Nat) (k0 : Int) (w : World) (a0 : A ≤ g0) (a1 : A ≤ g1) (h0 : Blk B w g0 9 m) (h1 : Blk B w g1 9 k) (hB : B ≤ w.heap.size) (hm : m ≤ 1048576) (hk : k ≤ 1048576) (hk0 : 1 ≤ k0) (hk1 : k0 ≤ 17000000) :
    Calls Try.prog 14 #[.agg #[sl g0 m, sl g1 k], .int .i64 k0] w fun e w' => ∃ y : Int, e = .returned (.int .i64 y) ∧ (0 ≤ y ∧ y ≤ k0 + 2097152) ∧ Outs A B w w' := by
  obtain ⟨l0, c0, r0, z0⟩ := h0
  obtain ⟨l1, r1⟩ := h1
  have R0 : Hid _ := r0
  have R1 : Hid (∃ c : Array Value, w.heap[g1]? = some (.cells c 9 (0, 0)) ∧ c.size = k) := r1
  clear r0 r1
  have hA : A ≤ w.heap.size := by omega
  have O0 : Hid (Outs A B w (w.alloc (.cells #[sl g0 m, sl g1 k] 39))) := Outs.of_below ((Below.refl _ _).alloc (Nat.le_refl _) _) hA
  have bx : Hid (∀ w' : World, Outs A B (w.alloc (.cells #[sl g0 m, sl g1 k] 39)) w' → w'.heap[w.heap.size]? = some (.cells #[sl g0 m, sl g1 k] 39 (0, 0))) := fun w' ho => (ho.out _ hB (by simp)).trans (heap_alloc_new w _)
  go_enter Try.func14, Try.ntmps14
  go_wp2_with fail
  refine (mkS_any A B g0 m m m k0 c0 _ ((Below.heap_alloc w _ g0 (by omega)).trans R0.out) z0 a0 l0 (Nat.le_refl _) hk0 (by omega)).mono ?_; rintro e w1 ⟨rfl, o1, _⟩
  have O1 : Hid (Outs A B w w1) := O0.out.trans o1
  have B1 := bx.out w1 o1
  obtain ⟨x1, _⟩ := cell_row B1 1 _ rfl
  clear B1
  simp only [List.getElem_toArray, List.getElem_cons_zero, List.getElem_cons_succ] at x1
  obtain ⟨c1, R1', z1⟩ := O1.out.blk g1 _ _ R1.out
  have HR1 : Hid (w1.heap[g1]? = some (.cells c1 9 (0, 0))) := R1'
  clear R1'
  go_wp2_with fail
  refine (mkS_any A B g1 k k k (k0 + m) c1 _ HR1.out z1 a1 l1 (Nat.le_refl _) (by omega) (by omega)).mono ?_; rintro e w2 ⟨rfl, o2, _⟩
  go_wp2_with fail
  go_ret
  exact ⟨_, rfl, by omega, O1.out.trans o2⟩

end Go.Proofs.Ytciembgenlcogab
