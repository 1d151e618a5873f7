/-
  The law FnExactRecBegin, walked: whatever the recipe, the call returns true, and nothing that was there before has turned.
-/
import Derived.Test.YtkongeofapbblacXgb
import Derived.Test.YtkongeofapbblacXlh
import Derived.Test.YtkongeofapbblacXws
import Derived.Test.YtkongeofapbblacXwt
import Derived.Test.YtkongeofapbblacXwe
namespace Go.Proofs.Ytkongeofapbblac
open Go.RowKit

set_option maxRecDepth 100000 in
set_option maxHeartbeats 4000000 in
theorem lawg_any (PI : ∀ (S : Nat → Prop) (r : List DRecPhase) (v : Value) (w : World), AtL S w r v → (∀ b, S b → b < w.heap.size) → totL r ≤ 1048576 → Calls Try.prog 7 #[v] w fun e w' => e = .returned (.agg #[.string (begS r).1, .int .i64 (begS r).2.1, .int .i64 (begS r).2.2]) ∧ Below w.heap.size w w') (S : Nat → Prop) (r : List DRecPhase) (v : Value)  (w : World) (h : AtL S w r v) (hS : ∀ b, S b → b < w.heap.size) :
    Calls Try.prog 3 #[v] w fun e w' => e = .returned (.bool true) ∧ Below w.heap.size w w' := by
  have H : Hid (∀ w', Below w.heap.size w w' → AtL S w' r v ∧ ∀ b, S b → b < w'.heap.size) := fun w' hb => ⟨h.same (Same.of_below hb hS), fun b hb' => Nat.lt_of_lt_of_le (hS b hb') hb.size⟩
  clear h hS
  have B0 : Hid (Below w.heap.size w w) := Below.refl _ _
  go_enter Try.func3, Try.ntmps3
  go_wp2_with fail
  refine (szRecPhaseS_any S r v 1048576 _ (H.out _ B0.out).1 (H.out _ B0.out).2 (by omega) (by omega)).mono ?_; rintro e w1 ⟨y, rfl, hy, hb1⟩
  have B1 : Hid (Below w.heap.size w w1) := hb1
  have HY : Hid _ := hy
  clear hy hb1
  by_cases hneg : y < 0
  · go_wp2_with fail
    go_ret
    exact ⟨rfl, B1.out⟩
  have HM : Hid (totL r ≤ 1048576) := by have := HY.out; show _ ≤ _; omega
  go_wp2_with fail
  refine (toRecPhaseS_any S r v _ (H.out _ B1.out).1 (H.out _ B1.out).2 HM.out).mono ?_; rintro e w2 ⟨r1, rfl, a1, hb2⟩
  have A1 : Hid (AtL (fun b => w1.heap.size ≤ b ∧ b < w2.heap.size) w2 r r1) := a1
  have s1 := B1.out.size
  have B2 : Hid (Below w.heap.size w w2) := B1.out.trans (hb2.mono s1)
  clear a1 hb2
  go_wp2_with fail
  refine (begX_any _ r r1 w2 A1.out (fun b hb => hb.2)).mono ?_; rintro e w3 ⟨rfl, hb3⟩
  have s2 := B2.out.size
  have B3 : Hid (Below w.heap.size w w3) := B2.out.trans (hb3.mono s2)
  obtain ⟨R, hR⟩ : ∃ R, R = begS r := ⟨_, rfl⟩
  rw [← hR]
  have HR : Hid (R = begS r) := hR
  clear hb3 hR A1
  obtain ⟨x0, n0, l0⟩ := R
  simp only
  have s3 := B3.out.size
  have B3b : Hid (Below w.heap.size w (w3.alloc (.cells #[.string x0, .int .i64 n0, .int .i64 l0] 25))) := B3.out.alloc s3 _
  have R3 : Hid ((w3.alloc (.cells #[.string x0, .int .i64 n0, .int .i64 l0] 25)).heap[w3.heap.size]? = some (.cells #[.string x0, .int .i64 n0, .int .i64 l0] 25 (0, 0))) := heap_alloc_new w3 _
  have z3 : (w3.alloc (.cells #[.string x0, .int .i64 n0, .int .i64 l0] 25)).heap.size = w3.heap.size + 1 := by simp
  go_wp2_with fail
  generalize w3.alloc (.cells #[.string x0, .int .i64 n0, .int .i64 l0] 25) = v3 at B3b R3 z3 ⊢
  refine (toRecPhaseS_any S r v _ (H.out _ B3b.out).1 (H.out _ B3b.out).2 HM.out).mono ?_; rintro e w4 ⟨r2, rfl, a2, hb4⟩
  have A2 : Hid (AtL (fun b => v3.heap.size ≤ b ∧ b < w4.heap.size) w4 r r2) := a2
  have B4 : Hid (Below w.heap.size w w4) := B3b.out.trans (hb4.mono (by omega))
  have s4 := B4.out.size
  have z4 := hb4.size
  have R4 : Hid (w4.heap[w3.heap.size]? = some (.cells #[.string x0, .int .i64 n0, .int .i64 l0] 25 (0, 0))) := (hb4.block _ (by omega)).trans R3.out
  clear a2 hb4 R3
  go_wp2_with fail
  refine (PI _ r r2 w4 A2.out (fun b hb => hb.2) HM.out).mono ?_; rintro e w5 ⟨rfl, hb5⟩
  rw [← HR.out]
  simp only
  have z5 := hb5.size
  have B5 : Hid (Below w.heap.size w (w5.alloc (.cells #[.string x0, .int .i64 n0, .int .i64 l0] 25))) := (B4.out.trans (hb5.mono s4)).alloc (by omega) _
  have A2b : Hid (AtL (fun b => v3.heap.size ≤ b ∧ b < w4.heap.size) (w5.alloc (.cells #[.string x0, .int .i64 n0, .int .i64 l0] 25)) r r2) := A2.out.same (Same.of_below (hb5.alloc hb5.size _) (fun b hb => hb.2))
  have R5 : (w5.alloc (.cells #[.string x0, .int .i64 n0, .int .i64 l0] 25)).heap[w3.heap.size]? = some (.cells #[.string x0, .int .i64 n0, .int .i64 l0] 25 (0, 0)) := (Below.heap_alloc w5 _ _ (by omega)).trans ((hb5.block _ (by omega)).trans R4.out)
  have N5 : (w5.alloc (.cells #[.string x0, .int .i64 n0, .int .i64 l0] 25)).heap[w5.heap.size]? = some (.cells #[.string x0, .int .i64 n0, .int .i64 l0] 25 (0, 0)) := heap_alloc_new w5 _
  have z5b : (w5.alloc (.cells #[.string x0, .int .i64 n0, .int .i64 l0] 25)).heap.size = w5.heap.size + 1 := by simp
  have x0_ := (cell_row R5 0 _ rfl).1
  have x1_ := (cell_row R5 1 _ rfl).1
  have x2_ := (cell_row R5 2 _ rfl).1
  have y0_ := (cell_row N5 0 _ rfl).1
  have y1_ := (cell_row N5 1 _ rfl).1
  have y2_ := (cell_row N5 2 _ rfl).1
  clear hb5 R5 N5 R4 A2
  go_wp2_with fail
  generalize w5.alloc (.cells #[.string x0, .int .i64 n0, .int .i64 l0] 25) = v5 at B5 A2b z5b ⊢
  clear x0_ x1_ x2_ y0_ y1_ y2_
  refine (eqSt_any x0 n0 l0 v5).mono ?_; rintro e w6 ⟨rfl, hb6⟩
  have z6 := hb6.size
  have s5 := B5.out.size
  have B6 : Hid (Below w.heap.size w w6) := B5.out.trans (hb6.mono s5)
  have A2c : Hid (AtL (fun b => v3.heap.size ≤ b ∧ b < w4.heap.size) w6 r r2) := A2b.out.same (Same.of_below hb6 (fun b hb => by omega))
  clear hb6
  go_wp2_with fail
  refine (toRecPhaseS_any S r v _ (H.out _ B6.out).1 (H.out _ B6.out).2 HM.out).mono ?_; rintro e w7 ⟨r3, rfl, a3, hb7⟩
  have A3 : Hid (AtL (fun b => w6.heap.size ≤ b ∧ b < w7.heap.size) w7 r r3) := a3
  have A2d : Hid (AtL (fun b => v3.heap.size ≤ b ∧ b < w4.heap.size) w7 r r2) := A2c.out.same (Same.of_below hb7 (fun b hb => by omega))
  have z7 := hb7.size
  have s6 := B6.out.size
  have B7 : Hid (Below w.heap.size w w7) := B6.out.trans (hb7.mono s6)
  clear a3 hb7
  go_wp2_with fail
  refine (eqRecPhaseS_any _ _ r r2 r3 w7 A2d.out A3.out (fun b hb => by omega) (fun b hb => hb.2)).mono ?_; rintro e w8 ⟨rfl, hb8⟩
  have B8 : Hid (Below w.heap.size w w8) := B7.out.trans (hb8.mono (by omega))
  clear hb8
  go_wp2_with fail
  go_ret
  exact ⟨rfl, B8.out⟩

end Go.Proofs.Ytkongeofapbblac
