/-
  The laws' own comparing, marking and looking at of a house in which nobody is and of whom nobody ended.
-/
import Derived.Test.YtigkkelaadbhcaaVwe
import Derived.Test.YtigkkelaadbhcaaZxj
import Derived.Test.YtigkkelaadbhcaaZlqa
namespace Go.Proofs.Ytigkkelaadbhcaa
open Go.RowKit

set_option maxRecDepth 100000 in
set_option maxHeartbeats 8000000 in
theorem eqRunBatchS_nil (w : World) : Calls Try.prog 18 #[.slice none 0 0, .slice none 0 0] w fun e w' => e = .returned (.bool true) ∧ Below w.heap.size w w' := by
  go_enter Try.func18, Try.ntmps18
  go_wp2
  go_loopw [5] (fun i wr => i = .int .i64 0 ∧ Hid (Below w.heap.size w wr)) (fun _ _ => 0)
  case atStart => exact ⟨rfl, Below.refl _ _⟩
  case round =>
    obtain ⟨rfl, hbel⟩ := hrel
    go_wp2
    go_ret
    exact ⟨rfl, hbel.out⟩
set_option maxRecDepth 100000 in
set_option maxHeartbeats 8000000 in
theorem eqRunDoneS_nil (w : World) : Calls Try.prog 19 #[.slice none 0 0, .slice none 0 0] w fun e w' => e = .returned (.bool true) ∧ Below w.heap.size w w' := by
  go_enter Try.func19, Try.ntmps19
  go_wp2
  go_loopw [5] (fun i wr => i = .int .i64 0 ∧ Hid (Below w.heap.size w wr)) (fun _ _ => 0)
  case atStart => exact ⟨rfl, Below.refl _ _⟩
  case round =>
    obtain ⟨rfl, hbel⟩ := hrel
    go_wp2
    go_ret
    exact ⟨rfl, hbel.out⟩
set_option maxRecDepth 100000 in
set_option maxHeartbeats 8000000 in
theorem markRunBatchS_nil (k : Int) (w : World) : Calls Try.prog 22 #[.slice none 0 0, .int .i64 k] w fun e w' => e = .returned (.int .i64 k) ∧ Below w.heap.size w w' := by
  go_enter Try.func22, Try.ntmps22
  go_wp2
  go_loopw [1, 5] (fun q i wr => q = .int .i64 k ∧ i = .int .i64 0 ∧ Hid (Below w.heap.size w wr)) (fun _ _ _ => 0)
  case atStart => exact ⟨rfl, rfl, Below.refl _ _⟩
  case round =>
    obtain ⟨rfl, rfl, hbel⟩ := hrel
    go_wp2
    go_ret
    exact ⟨rfl, hbel.out⟩
set_option maxRecDepth 100000 in
set_option maxHeartbeats 8000000 in
theorem markRunDoneS_nil (k : Int) (w : World) : Calls Try.prog 23 #[.slice none 0 0, .int .i64 k] w fun e w' => e = .returned (.int .i64 k) ∧ Below w.heap.size w w' := by
  go_enter Try.func23, Try.ntmps23
  go_wp2
  go_loopw [1, 5] (fun q i wr => q = .int .i64 k ∧ i = .int .i64 0 ∧ Hid (Below w.heap.size w wr)) (fun _ _ _ => 0)
  case atStart => exact ⟨rfl, rfl, Below.refl _ _⟩
  case round =>
    obtain ⟨rfl, rfl, hbel⟩ := hrel
    go_wp2
    go_ret
    exact ⟨rfl, hbel.out⟩
set_option maxRecDepth 100000 in
set_option maxHeartbeats 8000000 in
theorem heldRunBatchS_nil (k : Int) (w : World) : Calls Try.prog 25 #[.slice none 0 0, .int .i64 k] w fun e w' => e = .returned (.int .i64 k) ∧ Below w.heap.size w w' := by
  go_enter Try.func25, Try.ntmps25
  go_wp2
  go_loopw [1, 5] (fun q i wr => q = .int .i64 k ∧ i = .int .i64 0 ∧ Hid (Below w.heap.size w wr)) (fun _ _ _ => 0)
  case atStart => exact ⟨rfl, rfl, Below.refl _ _⟩
  case round =>
    obtain ⟨rfl, rfl, hbel⟩ := hrel
    go_wp2
    go_ret
    exact ⟨rfl, hbel.out⟩
set_option maxRecDepth 100000 in
set_option maxHeartbeats 8000000 in
theorem heldRunDoneS_nil (k : Int) (w : World) : Calls Try.prog 26 #[.slice none 0 0, .int .i64 k] w fun e w' => e = .returned (.int .i64 k) ∧ Below w.heap.size w w' := by
  go_enter Try.func26, Try.ntmps26
  go_wp2
  go_loopw [1, 5] (fun q i wr => q = .int .i64 k ∧ i = .int .i64 0 ∧ Hid (Below w.heap.size w wr)) (fun _ _ _ => 0)
  case atStart => exact ⟨rfl, rfl, Below.refl _ _⟩
  case round =>
    obtain ⟨rfl, rfl, hbel⟩ := hrel
    go_wp2
    go_ret
    exact ⟨rfl, hbel.out⟩
set_option maxRecDepth 100000 in
set_option maxHeartbeats 8000000 in
theorem eqRunHouse_nil (S S' : Nat → Prop) (D : DShareBook) (p0 p1 q0 q1 : Value) (w : World) (h : Lay.At S w D (cs [p0, p1])) (h' : Lay.At S' w D (cs [q0, q1])) (hS : ∀ b, S b → b < w.heap.size) (hS' : ∀ b, S' b → b < w.heap.size) :
    Calls Try.prog 8 #[.agg #[.int .i64 0, .int .i64 0, p0, p1, .slice none 0 0, .slice none 0 0], .agg #[.int .i64 0, .int .i64 0, q0, q1, .slice none 0 0, .slice none 0 0]] w fun e w' => e = .returned (.bool true) ∧ Below w.heap.size w w' := by
  obtain ⟨W, hW⟩ : ∃ W, W = (w.alloc (.cells #[.int .i64 0, .int .i64 0, p0, p1, .slice none 0 0, .slice none 0 0] 30)).alloc (.cells #[.int .i64 0, .int .i64 0, q0, q1, .slice none 0 0, .slice none 0 0] 30) := ⟨_, rfl⟩
  have EW : Hid (W = (w.alloc (.cells #[.int .i64 0, .int .i64 0, p0, p1, .slice none 0 0, .slice none 0 0] 30)).alloc (.cells #[.int .i64 0, .int .i64 0, q0, q1, .slice none 0 0, .slice none 0 0] 30)) := hW
  have BW : Hid (Below w.heap.size w W) := by rw [hW]; exact ((Below.refl _ _).alloc (Nat.le_refl _) _).alloc (by simp) _
  have RP : Hid (W.heap[w.heap.size]? = some (.cells #[.int .i64 0, .int .i64 0, p0, p1, .slice none 0 0, .slice none 0 0] 30 (0, 0))) := by
    rw [hW]
    exact (Below.heap_alloc _ _ _ (by simp)).trans (heap_alloc_new w _)
  have RQ : Hid (W.heap[w.heap.size + 1]? = some (.cells #[.int .i64 0, .int .i64 0, q0, q1, .slice none 0 0, .slice none 0 0] 30 (0, 0))) := by
    rw [hW]
    have := heap_alloc_new (w.alloc (.cells #[.int .i64 0, .int .i64 0, p0, p1, .slice none 0 0, .slice none 0 0] 30)) (.cells #[.int .i64 0, .int .i64 0, q0, q1, .slice none 0 0, .slice none 0 0] 30)
    rw [World.size_alloc] at this
    exact this
  have sW : w.heap.size + 2 ≤ W.heap.size := by rw [hW]; simp
  clear hW
  have BOX : Hid (∀ u, Below W.heap.size W u → u.heap[w.heap.size]? = some (.cells #[.int .i64 0, .int .i64 0, p0, p1, .slice none 0 0, .slice none 0 0] 30 (0, 0)) ∧ u.heap[w.heap.size + 1]? = some (.cells #[.int .i64 0, .int .i64 0, q0, q1, .slice none 0 0, .slice none 0 0] 30 (0, 0)) ∧ Below w.heap.size w u) := fun u hu => ⟨(hu.block _ (by omega)).trans RP.out, (hu.block _ (by omega)).trans RQ.out, BW.out.trans (hu.mono (by omega))⟩
  have CA : Hid (Calls Try.prog 17 #[.agg #[p0, p1], .agg #[q0, q1]] W fun e w' => e = .returned (.bool true) ∧ Below W.heap.size W w') := eqShareBook_any S S' D (cs [p0, p1]) (cs [q0, q1]) W (Lay.same h (Same.of_below BW.out hS)) (Lay.same h' (Same.of_below BW.out hS')) (fun b hb => Nat.lt_of_lt_of_le (hS b hb) BW.out.size) (fun b hb => Nat.lt_of_lt_of_le (hS' b hb) BW.out.size)
  clear h h' hS hS'
  have a0 := (cell_row RP.out 0 _ rfl).1
  have a1 := (cell_row RP.out 1 _ rfl).1
  have a2 := (cell_row RP.out 2 p0 rfl).1
  have a3 := (cell_row RP.out 3 p1 rfl).1
  have b0 := (cell_row RQ.out 0 _ rfl).1
  have b1 := (cell_row RQ.out 1 _ rfl).1
  have b2 := (cell_row RQ.out 2 q0 rfl).1
  have b3 := (cell_row RQ.out 3 q1 rfl).1
  go_enter Try.func8, Try.ntmps8
  go_upto_region 1 with fail
  rw [← EW.out]
  go_wp2_with fail
  refine Calls.mono CA.out ?_
  rintro e w1 ⟨rfl, u1⟩
  have C1 : Hid (Below W.heap.size W w1) := u1
  clear a0 a1 a2 a3 b0 b1 b2 b3 u1 CA
  have a4 := (cell_row (BOX.out w1 C1.out).1 4 _ rfl).1
  have b4 := (cell_row (BOX.out w1 C1.out).2.1 4 _ rfl).1
  go_wp2_with fail
  refine (eqRunBatchS_nil w1).mono ?_
  rintro e w2 ⟨rfl, u2⟩
  have C2 : Hid (Below W.heap.size W w2) := C1.out.trans (u2.mono C1.out.size)
  clear a4 b4 u2
  have a5 := (cell_row (BOX.out w2 C2.out).1 5 _ rfl).1
  have b5 := (cell_row (BOX.out w2 C2.out).2.1 5 _ rfl).1
  go_wp2_with fail
  refine (eqRunDoneS_nil w2).mono ?_
  rintro e w3 ⟨rfl, u3⟩
  have C3 : Hid (Below W.heap.size W w3) := C2.out.trans (u3.mono C2.out.size)
  have FB := (BOX.out w3 C3.out).2.2
  clear a5 b5 u3
  go_wp2_with fail
  go_ret
  exact ⟨rfl, FB⟩
set_option maxRecDepth 100000 in
set_option maxHeartbeats 8000000 in
theorem markRunHouse_nil (S : Nat → Prop) (D : DShareBook) (p0 p1 : Value) (k : Int) (w : World) (h : Own.On S w D (cs [p0, p1])) (hS : ∀ b, S b → b < w.heap.size) (h1 : 1 ≤ k) (h2 : k + Own.cnt D ≤ 20000000) :
    Calls Try.prog 11 #[.agg #[.int .i64 0, .int .i64 0, p0, p1, .slice none 0 0, .slice none 0 0], .int .i64 k] w fun e w' => e = .returned (.int .i64 (k + Own.cnt D)) ∧ Lay.At S w' (Own.mkD k D) (cs [p0, p1]) ∧ But S w w' := by
  obtain ⟨m, em⟩ : ∃ m : Nat, Own.cnt D = m := ⟨_, rfl⟩
  rw [em]
  rw [em] at h2
  have hm : k + (m : Int) ≤ 20000000 := h2
  obtain ⟨W, hW⟩ : ∃ W, W = w.alloc (.cells #[.int .i64 0, .int .i64 0, p0, p1, .slice none 0 0, .slice none 0 0] 30) := ⟨_, rfl⟩
  have EW : Hid (W = w.alloc (.cells #[.int .i64 0, .int .i64 0, p0, p1, .slice none 0 0, .slice none 0 0] 30)) := hW
  have BW : Hid (Below w.heap.size w W) := by rw [hW]; exact (Below.refl _ _).alloc (Nat.le_refl _) _
  have RP : Hid (W.heap[w.heap.size]? = some (.cells #[.int .i64 0, .int .i64 0, p0, p1, .slice none 0 0, .slice none 0 0] 30 (0, 0))) := by rw [hW]; exact heap_alloc_new w _
  have sW : w.heap.size + 1 ≤ W.heap.size := by rw [hW]; simp
  clear hW
  have CA : Hid (Calls Try.prog 21 #[.agg #[p0, p1], .int .i64 k] W fun e w' => e = .returned (.int .i64 (k + (m : Int))) ∧ Own.On S w' (Own.mkD k D) (cs [p0, p1]) ∧ But S W w') := by
    have hx := markShareBook_any S D (cs [p0, p1]) k W (Own.on_same h (Same.of_below BW.out hS)) (fun b hb => Nat.lt_of_lt_of_le (hS b hb) BW.out.size) h1 (by rw [em]; exact h2)
    rw [em] at hx
    exact hx
  have KP : Hid (∀ u, But S W u → u.heap[w.heap.size]? = some (.cells #[.int .i64 0, .int .i64 0, p0, p1, .slice none 0 0, .slice none 0 0] 30 (0, 0))) := fun u hu => (hu.block w.heap.size (by omega) (fun h => by have := hS _ h; omega)).trans RP.out
  have BB : Hid (∀ u, But S W u → But S w u) := fun u hu => (But.of_below BW.out).trans hu
  have LT : Hid (∀ b, S b → b < W.heap.size) := fun b hb => Nat.lt_of_lt_of_le (hS b hb) BW.out.size
  clear h hS h2
  have a2 := (cell_row RP.out 2 p0 rfl).1
  have a3 := (cell_row RP.out 3 p1 rfl).1
  go_enter Try.func11, Try.ntmps11
  go_upto_region 1 with fail
  rw [← EW.out]
  go_wp2_with fail
  refine Calls.mono CA.out ?_
  rintro e w1 ⟨rfl, g1, u1⟩
  have C1 : Hid (But S W w1) := u1
  have G1 : Hid (Lay.At S w1 (Own.mkD k D) (cs [p0, p1])) := Own.on_at g1
  clear a2 a3 u1 g1 CA
  have a4 := (cell_row (KP.out w1 C1.out) 4 _ rfl).1
  go_wp2_with fail
  refine (markRunBatchS_nil _ w1).mono ?_
  rintro e w2 ⟨rfl, u2⟩
  have C2 : Hid (But S W w2) := C1.out.trans (But.of_below u2)
  have G2 : Hid (Lay.At S w2 (Own.mkD k D) (cs [p0, p1])) := Lay.same G1.out (Same.of_below u2 (fun b hb => Nat.lt_of_lt_of_le (LT.out b hb) C1.out.size))
  clear a4 u2
  have a5 := (cell_row (KP.out w2 C2.out) 5 _ rfl).1
  go_wp2_with fail
  refine (markRunDoneS_nil _ w2).mono ?_
  rintro e w3 ⟨rfl, u3⟩
  have C3 : Hid (But S W w3) := C2.out.trans (But.of_below u3)
  have G3 : Hid (Lay.At S w3 (Own.mkD k D) (cs [p0, p1])) := Lay.same G2.out (Same.of_below u3 (fun b hb => Nat.lt_of_lt_of_le (LT.out b hb) C2.out.size))
  clear a5 u3
  go_wp2_with fail
  go_ret
  exact ⟨rfl, G3.out, BB.out w3 C3.out⟩
set_option maxRecDepth 100000 in
set_option maxHeartbeats 8000000 in
theorem heldRunHouse_nil (S : Nat → Prop) (D : DShareBook) (p0 p1 : Value) (k : Int) (w : World) (h : Lay.At S w (Own.mkD k D) (cs [p0, p1])) (hS : ∀ b, S b → b < w.heap.size) (h1 : 1 ≤ k) (h2 : k + Own.cnt D ≤ 20000000) :
    Calls Try.prog 12 #[.agg #[.int .i64 0, .int .i64 0, p0, p1, .slice none 0 0, .slice none 0 0], .int .i64 k] w fun e w' => e = .returned (.int .i64 (k + Own.cnt D)) ∧ Below w.heap.size w w' := by
  obtain ⟨m, em⟩ : ∃ m : Nat, Own.cnt D = m := ⟨_, rfl⟩
  rw [em]
  rw [em] at h2
  have hm : k + (m : Int) ≤ 20000000 := h2
  obtain ⟨W, hW⟩ : ∃ W, W = w.alloc (.cells #[.int .i64 0, .int .i64 0, p0, p1, .slice none 0 0, .slice none 0 0] 30) := ⟨_, rfl⟩
  have EW : Hid (W = w.alloc (.cells #[.int .i64 0, .int .i64 0, p0, p1, .slice none 0 0, .slice none 0 0] 30)) := hW
  have BW : Hid (Below w.heap.size w W) := by rw [hW]; exact (Below.refl _ _).alloc (Nat.le_refl _) _
  have RP : Hid (W.heap[w.heap.size]? = some (.cells #[.int .i64 0, .int .i64 0, p0, p1, .slice none 0 0, .slice none 0 0] 30 (0, 0))) := by rw [hW]; exact heap_alloc_new w _
  have sW : w.heap.size + 1 ≤ W.heap.size := by rw [hW]; simp
  clear hW
  have CA : Hid (Calls Try.prog 24 #[.agg #[p0, p1], .int .i64 k] W fun e w' => e = .returned (.int .i64 (k + (m : Int))) ∧ Below W.heap.size W w') := by
    have hx := heldShareBook_any S D (cs [p0, p1]) k W (Lay.same h (Same.of_below BW.out hS)) (fun b hb => Nat.lt_of_lt_of_le (hS b hb) BW.out.size) h1 (by rw [em]; exact h2)
    rw [em] at hx
    exact hx
  have KP : Hid (∀ u, Below W.heap.size W u → u.heap[w.heap.size]? = some (.cells #[.int .i64 0, .int .i64 0, p0, p1, .slice none 0 0, .slice none 0 0] 30 (0, 0))) := fun u hu => (hu.block _ (by omega)).trans RP.out
  have BB : Hid (∀ u, Below W.heap.size W u → Below w.heap.size w u) := fun u hu => BW.out.trans (hu.mono (by omega))
  clear h hS h2
  have a2 := (cell_row RP.out 2 p0 rfl).1
  have a3 := (cell_row RP.out 3 p1 rfl).1
  go_enter Try.func12, Try.ntmps12
  go_upto_region 1 with fail
  rw [← EW.out]
  go_wp2_with fail
  refine Calls.mono CA.out ?_
  rintro e w1 ⟨rfl, u1⟩
  have C1 : Hid (Below W.heap.size W w1) := u1
  clear a2 a3 u1 CA
  have a4 := (cell_row (KP.out w1 C1.out) 4 _ rfl).1
  go_wp2_with fail
  refine (heldRunBatchS_nil _ w1).mono ?_
  rintro e w2 ⟨rfl, u2⟩
  have C2 : Hid (Below W.heap.size W w2) := C1.out.trans (u2.mono C1.out.size)
  clear a4 u2
  have a5 := (cell_row (KP.out w2 C2.out) 5 _ rfl).1
  go_wp2_with fail
  refine (heldRunDoneS_nil _ w2).mono ?_
  rintro e w3 ⟨rfl, u3⟩
  have C3 : Hid (Below W.heap.size W w3) := C2.out.trans (u3.mono C2.out.size)
  clear a5 u3
  go_wp2_with fail
  go_ret
  exact ⟨rfl, BB.out w3 C3.out⟩
end Go.Proofs.Ytigkkelaadbhcaa
