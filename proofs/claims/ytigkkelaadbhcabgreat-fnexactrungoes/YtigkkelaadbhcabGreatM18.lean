/-
  Several texts in one.
-/
import Derived.Test.YtigkkelaadbhcabGreatM13
import Derived.Test.YtigkkelaadbhcabGreatVhk
import Derived.Test.YtigkkelaadbhcabGreatM10
namespace Go.Proofs.YtigkkelaadbhcabGreat
open Go.RowKit
set_option maxRecDepth 100000 in
set_option maxHeartbeats 8000000 in
theorem toRunHouse_own (S : Nat → Prop) (a : DRunHouse) (c : Nat → Value) (w : World) (h : Lay.At S w a c) (hS : ∀ b, S b → b < w.heap.size) (hm : Lay.tot a ≤ 1048576) :
    Calls Tryz.prog 6 #[.agg #[c 0, c 1, c 2, c 3, c 4, c 5]] w fun e w' => ∃ g : Nat → Value, e = .returned (.agg #[g 0, g 1, g 2, g 3, g 4, g 5]) ∧ Own.On (fun b => w.heap.size ≤ b ∧ b < w'.heap.size) w' a g ∧ Below w.heap.size w w' := by
  rw [tot_DRunHouse] at hm
  rw [at_DRunHouse] at h
  obtain ⟨⟨e0, z0, y0⟩, ⟨e1, z1, y1⟩, H2, H3, H4, H5⟩ := h
  obtain ⟨v2, e2⟩ : ∃ v, c 2 = v := ⟨_, rfl⟩
  rw [e2] at H2
  obtain ⟨v3, e3⟩ : ∃ v, c 3 = v := ⟨_, rfl⟩
  rw [e3] at H3
  obtain ⟨v4, e4⟩ : ∃ v, c 4 = v := ⟨_, rfl⟩
  rw [e4] at H4
  obtain ⟨v5, e5⟩ : ∃ v, c 5 = v := ⟨_, rfl⟩
  rw [e5] at H5
  rw [e0, e1, e2, e3, e4, e5]
  clear e0 e1 e2 e3 e4 e5
  have C0 : Hid (Cp 29 38 w (((w.alloc (.cells #[.int .i64 a.1, .int .i64 a.2.1, v2, v3, v4, v5] 29)).alloc (.cells #[.int .i64 0, .int .i64 0, .slice none 0 0, .slice none 0 0, .slice none 0 0, .slice none 0 0] 38)).alloc (.cells #[.int .i64 a.1, .int .i64 a.2.1, .slice none 0 0, .slice none 0 0, .slice none 0 0, .slice none 0 0] 38)) #[.int .i64 a.1, .int .i64 a.2.1, v2, v3, v4, v5] #[.int .i64 0, .int .i64 0, .slice none 0 0, .slice none 0 0, .slice none 0 0, .slice none 0 0] _) := cp_init 29 38 w #[.int .i64 a.1, .int .i64 a.2.1, v2, v3, v4, v5] #[.int .i64 0, .int .i64 0, .slice none 0 0, .slice none 0 0, .slice none 0 0, .slice none 0 0] #[.int .i64 a.1, .int .i64 a.2.1, .slice none 0 0, .slice none 0 0, .slice none 0 0, .slice none 0 0]
  have HI : Hid (Lay.At S (((w.alloc (.cells #[.int .i64 a.1, .int .i64 a.2.1, v2, v3, v4, v5] 29)).alloc (.cells #[.int .i64 0, .int .i64 0, .slice none 0 0, .slice none 0 0, .slice none 0 0, .slice none 0 0] 38)).alloc (.cells #[.int .i64 a.1, .int .i64 a.2.1, .slice none 0 0, .slice none 0 0, .slice none 0 0, .slice none 0 0] 38)) ((a.2.2.1, a.2.2.2.1) : DShareBook) (cs [v2, v3])) := at_DShareBook.2 ⟨H2.same (Same.of_below C0.out.bel hS), H3.same (Same.of_below C0.out.bel hS)⟩
  have hm2 : Lay.tot ((a.2.2.1, a.2.2.2.1) : DShareBook) ≤ 1048576 := by rw [tot_DShareBook]; show totL a.2.2.1 + totL a.2.2.2.1 ≤ 1048576; omega
  clear H2 H3
  go_enter Tryz.func6, Tryz.ntmps6
  go_wp2_with fail
  refine (toShareBook_own S (a.2.2.1, a.2.2.2.1) (cs [v2, v3]) _ HI.out (fun b hb => by have := hS b hb; have := C0.out.bel.size; omega) hm2).mono ?_
  rintro e w1 ⟨g, rfl, hg, hb1⟩
  obtain ⟨A, B, pA, pB, gl2, gl3⟩ := on_DShareBook.1 hg
  obtain ⟨so2, sc2, ge2, _⟩ := id gl2
  have ge2 : g 0 = .slice so2 a.2.2.1.length sc2 := ge2
  rw [ge2] at gl2
  obtain ⟨so3, sc3, ge3, _⟩ := id gl3
  have ge3 : g 1 = .slice so3 a.2.2.2.1.length sc3 := ge3
  rw [ge3] at gl3
  rw [ge2, ge3]
  have l1 : w.heap.size + 1 + 1 + 1 ≤ w1.heap.size := by have := hb1.size; simpa using this
  have PA : Hid (∀ b, A b → (w.heap.size + 1 + 1 < b ∧ b < w1.heap.size) ∧ ¬ B b) := fun b hb => ⟨⟨by have := (pA b hb).1.1; simp at this; omega, (pA b hb).1.2⟩, (pA b hb).2⟩
  have PB : Hid (∀ b, B b → w.heap.size + 1 + 1 < b ∧ b < w1.heap.size) := fun b hb => ⟨by have := (pB b hb).1; simp at this; omega, (pB b hb).2⟩
  have M2 : Hid (OnL A w1 a.2.2.1 (.slice so2 a.2.2.1.length sc2)) := gl2
  have M3 : Hid (OnL B w1 a.2.2.2.1 (.slice so3 a.2.2.2.1.length sc3)) := gl3
  clear pA pB
  clear gl2 gl3 hg HI
  have C1 : Hid (Cp 29 38 w w1 #[.int .i64 a.1, .int .i64 a.2.1, v2, v3, v4, v5] #[.int .i64 0, .int .i64 0, .slice none 0 0, .slice none 0 0, .slice none 0 0, .slice none 0 0] #[.int .i64 a.1, .int .i64 a.2.1, .slice none 0 0, .slice none 0 0, .slice none 0 0, .slice none 0 0]) := C0.out.next hb1
  obtain ⟨p2, q2⟩ := cell_row C1.out.out 2 _ rfl
  obtain ⟨p3, q3⟩ := cell_row C1.out.out 3 _ rfl
  have C2 : Hid (Cp 29 38 w (w1.setCell ⟨w.heap.size + 1 + 1, 2, none⟩ (.slice so2 a.2.2.1.length sc2)) #[.int .i64 a.1, .int .i64 a.2.1, v2, v3, v4, v5] #[.int .i64 0, .int .i64 0, .slice none 0 0, .slice none 0 0, .slice none 0 0, .slice none 0 0] #[.int .i64 a.1, .int .i64 a.2.1, .slice so2 a.2.2.1.length sc2, .slice none 0 0, .slice none 0 0, .slice none 0 0]) := C1.out.put 2 (.slice so2 a.2.2.1.length sc2)
  have C3 : Hid (Cp 29 38 w ((w1.setCell ⟨w.heap.size + 1 + 1, 2, none⟩ (.slice so2 a.2.2.1.length sc2)).setCell ⟨w.heap.size + 1 + 1, 3, none⟩ (.slice so3 a.2.2.2.1.length sc3)) #[.int .i64 a.1, .int .i64 a.2.1, v2, v3, v4, v5] #[.int .i64 0, .int .i64 0, .slice none 0 0, .slice none 0 0, .slice none 0 0, .slice none 0 0] #[.int .i64 a.1, .int .i64 a.2.1, .slice so2 a.2.2.1.length sc2, .slice so3 a.2.2.2.1.length sc3, .slice none 0 0, .slice none 0 0]) := C2.out.put 3 (.slice so3 a.2.2.2.1.length sc3)
  obtain ⟨ar4, _⟩ := cell_row C3.out.arg 4 v4 rfl
  go_wp2_with fail
  refine (toRunBatchS_own S a.2.2.2.2.1 v4 _ (H4.same (Same.of_below C3.out.bel hS)) (fun b hb => by have := hS b hb; have := C3.out.bel.size; omega) (by omega)).mono ?_
  rintro e w2 ⟨r2, rfl, L4, hb2⟩
  obtain ⟨so4, sc4, er4, _⟩ := id L4
  subst er4
  have l2 : w1.heap.size ≤ w2.heap.size := by have := hb2.size; simpa using this
  have M4 : Hid (OnL (fun b => w1.heap.size ≤ b ∧ b < w2.heap.size) w2 a.2.2.2.2.1 (.slice so4 a.2.2.2.2.1.length sc4)) := L4.up (fun b hb => ⟨by have := hb.1; simp at this; omega, hb.2⟩)
  clear L4
  have C4 : Hid (Cp 29 38 w w2 #[.int .i64 a.1, .int .i64 a.2.1, v2, v3, v4, v5] #[.int .i64 0, .int .i64 0, .slice none 0 0, .slice none 0 0, .slice none 0 0, .slice none 0 0] #[.int .i64 a.1, .int .i64 a.2.1, .slice so2 a.2.2.1.length sc2, .slice so3 a.2.2.2.1.length sc3, .slice none 0 0, .slice none 0 0]) := C3.out.next hb2
  obtain ⟨p4, q4⟩ := cell_row C4.out.out 4 _ rfl
  have C4b : Hid (Cp 29 38 w (w2.setCell ⟨w.heap.size + 1 + 1, 4, none⟩ (.slice so4 a.2.2.2.2.1.length sc4)) #[.int .i64 a.1, .int .i64 a.2.1, v2, v3, v4, v5] #[.int .i64 0, .int .i64 0, .slice none 0 0, .slice none 0 0, .slice none 0 0, .slice none 0 0] #[.int .i64 a.1, .int .i64 a.2.1, .slice so2 a.2.2.1.length sc2, .slice so3 a.2.2.2.1.length sc3, .slice so4 a.2.2.2.2.1.length sc4, .slice none 0 0]) := C4.out.put 4 (.slice so4 a.2.2.2.2.1.length sc4)
  obtain ⟨ar5, _⟩ := cell_row C4b.out.arg 5 v5 rfl
  go_wp2_with fail
  refine (toRunDoneS_own S a.2.2.2.2.2 v5 _ (H5.same (Same.of_below C4b.out.bel hS)) (fun b hb => by have := hS b hb; have := C4b.out.bel.size; omega) (by omega)).mono ?_
  rintro e w3 ⟨r3, rfl, L5, hb3⟩
  obtain ⟨so5, sc5, er5, _⟩ := id L5
  subst er5
  have l3 : w2.heap.size ≤ w3.heap.size := by have := hb3.size; simpa using this
  have M5 : Hid (OnL (fun b => w2.heap.size ≤ b ∧ b < w3.heap.size) w3 a.2.2.2.2.2 (.slice so5 a.2.2.2.2.2.length sc5)) := L5.up (fun b hb => ⟨by have := hb.1; simp at this; omega, hb.2⟩)
  clear L5
  have C5 : Hid (Cp 29 38 w w3 #[.int .i64 a.1, .int .i64 a.2.1, v2, v3, v4, v5] #[.int .i64 0, .int .i64 0, .slice none 0 0, .slice none 0 0, .slice none 0 0, .slice none 0 0] #[.int .i64 a.1, .int .i64 a.2.1, .slice so2 a.2.2.1.length sc2, .slice so3 a.2.2.2.1.length sc3, .slice so4 a.2.2.2.2.1.length sc4, .slice none 0 0]) := C4b.out.next hb3
  obtain ⟨p5, q5⟩ := cell_row C5.out.out 5 _ rfl
  have C5b : Hid (Cp 29 38 w (w3.setCell ⟨w.heap.size + 1 + 1, 5, none⟩ (.slice so5 a.2.2.2.2.2.length sc5)) #[.int .i64 a.1, .int .i64 a.2.1, v2, v3, v4, v5] #[.int .i64 0, .int .i64 0, .slice none 0 0, .slice none 0 0, .slice none 0 0, .slice none 0 0] #[.int .i64 a.1, .int .i64 a.2.1, .slice so2 a.2.2.1.length sc2, .slice so3 a.2.2.2.1.length sc3, .slice so4 a.2.2.2.2.1.length sc4, .slice so5 a.2.2.2.2.2.length sc5]) := C5.out.put 5 (.slice so5 a.2.2.2.2.2.length sc5)
  obtain ⟨o0, _⟩ := cell_row C5b.out.out 0 (.int .i64 a.1) rfl
  obtain ⟨rr0, rf0⟩ := cell_row C5b.out.res 0 _ rfl
  obtain ⟨o1, _⟩ := cell_row C5b.out.out 1 (.int .i64 a.2.1) rfl
  obtain ⟨rr1, rf1⟩ := cell_row C5b.out.res 1 _ rfl
  obtain ⟨o2, _⟩ := cell_row C5b.out.out 2 (.slice so2 a.2.2.1.length sc2) rfl
  obtain ⟨rr2, rf2⟩ := cell_row C5b.out.res 2 _ rfl
  obtain ⟨o3, _⟩ := cell_row C5b.out.out 3 (.slice so3 a.2.2.2.1.length sc3) rfl
  obtain ⟨rr3, rf3⟩ := cell_row C5b.out.res 3 _ rfl
  obtain ⟨o4, _⟩ := cell_row C5b.out.out 4 (.slice so4 a.2.2.2.2.1.length sc4) rfl
  obtain ⟨rr4, rf4⟩ := cell_row C5b.out.res 4 _ rfl
  obtain ⟨o5, _⟩ := cell_row C5b.out.out 5 (.slice so5 a.2.2.2.2.2.length sc5) rfl
  obtain ⟨rr5, rf5⟩ := cell_row C5b.out.res 5 _ rfl
  have R0 : Hid (Cp 29 38 w ((w3.setCell ⟨w.heap.size + 1 + 1, 5, none⟩ (.slice so5 a.2.2.2.2.2.length sc5)).setCell ⟨w.heap.size + 1, 0, none⟩ (.int .i64 a.1)) #[.int .i64 a.1, .int .i64 a.2.1, v2, v3, v4, v5] #[.int .i64 a.1, .int .i64 0, .slice none 0 0, .slice none 0 0, .slice none 0 0, .slice none 0 0] #[.int .i64 a.1, .int .i64 a.2.1, .slice so2 a.2.2.1.length sc2, .slice so3 a.2.2.2.1.length sc3, .slice so4 a.2.2.2.2.1.length sc4, .slice so5 a.2.2.2.2.2.length sc5]) := C5b.out.ret 0 (.int .i64 a.1)
  have R1 : Hid (Cp 29 38 w (((w3.setCell ⟨w.heap.size + 1 + 1, 5, none⟩ (.slice so5 a.2.2.2.2.2.length sc5)).setCell ⟨w.heap.size + 1, 0, none⟩ (.int .i64 a.1)).setCell ⟨w.heap.size + 1, 1, none⟩ (.int .i64 a.2.1)) #[.int .i64 a.1, .int .i64 a.2.1, v2, v3, v4, v5] #[.int .i64 a.1, .int .i64 a.2.1, .slice none 0 0, .slice none 0 0, .slice none 0 0, .slice none 0 0] #[.int .i64 a.1, .int .i64 a.2.1, .slice so2 a.2.2.1.length sc2, .slice so3 a.2.2.2.1.length sc3, .slice so4 a.2.2.2.2.1.length sc4, .slice so5 a.2.2.2.2.2.length sc5]) := R0.out.ret 1 (.int .i64 a.2.1)
  have R2 : Hid (Cp 29 38 w ((((w3.setCell ⟨w.heap.size + 1 + 1, 5, none⟩ (.slice so5 a.2.2.2.2.2.length sc5)).setCell ⟨w.heap.size + 1, 0, none⟩ (.int .i64 a.1)).setCell ⟨w.heap.size + 1, 1, none⟩ (.int .i64 a.2.1)).setCell ⟨w.heap.size + 1, 2, none⟩ (.slice so2 a.2.2.1.length sc2)) #[.int .i64 a.1, .int .i64 a.2.1, v2, v3, v4, v5] #[.int .i64 a.1, .int .i64 a.2.1, .slice so2 a.2.2.1.length sc2, .slice none 0 0, .slice none 0 0, .slice none 0 0] #[.int .i64 a.1, .int .i64 a.2.1, .slice so2 a.2.2.1.length sc2, .slice so3 a.2.2.2.1.length sc3, .slice so4 a.2.2.2.2.1.length sc4, .slice so5 a.2.2.2.2.2.length sc5]) := R1.out.ret 2 (.slice so2 a.2.2.1.length sc2)
  have R3 : Hid (Cp 29 38 w (((((w3.setCell ⟨w.heap.size + 1 + 1, 5, none⟩ (.slice so5 a.2.2.2.2.2.length sc5)).setCell ⟨w.heap.size + 1, 0, none⟩ (.int .i64 a.1)).setCell ⟨w.heap.size + 1, 1, none⟩ (.int .i64 a.2.1)).setCell ⟨w.heap.size + 1, 2, none⟩ (.slice so2 a.2.2.1.length sc2)).setCell ⟨w.heap.size + 1, 3, none⟩ (.slice so3 a.2.2.2.1.length sc3)) #[.int .i64 a.1, .int .i64 a.2.1, v2, v3, v4, v5] #[.int .i64 a.1, .int .i64 a.2.1, .slice so2 a.2.2.1.length sc2, .slice so3 a.2.2.2.1.length sc3, .slice none 0 0, .slice none 0 0] #[.int .i64 a.1, .int .i64 a.2.1, .slice so2 a.2.2.1.length sc2, .slice so3 a.2.2.2.1.length sc3, .slice so4 a.2.2.2.2.1.length sc4, .slice so5 a.2.2.2.2.2.length sc5]) := R2.out.ret 3 (.slice so3 a.2.2.2.1.length sc3)
  have R4 : Hid (Cp 29 38 w ((((((w3.setCell ⟨w.heap.size + 1 + 1, 5, none⟩ (.slice so5 a.2.2.2.2.2.length sc5)).setCell ⟨w.heap.size + 1, 0, none⟩ (.int .i64 a.1)).setCell ⟨w.heap.size + 1, 1, none⟩ (.int .i64 a.2.1)).setCell ⟨w.heap.size + 1, 2, none⟩ (.slice so2 a.2.2.1.length sc2)).setCell ⟨w.heap.size + 1, 3, none⟩ (.slice so3 a.2.2.2.1.length sc3)).setCell ⟨w.heap.size + 1, 4, none⟩ (.slice so4 a.2.2.2.2.1.length sc4)) #[.int .i64 a.1, .int .i64 a.2.1, v2, v3, v4, v5] #[.int .i64 a.1, .int .i64 a.2.1, .slice so2 a.2.2.1.length sc2, .slice so3 a.2.2.2.1.length sc3, .slice so4 a.2.2.2.2.1.length sc4, .slice none 0 0] #[.int .i64 a.1, .int .i64 a.2.1, .slice so2 a.2.2.1.length sc2, .slice so3 a.2.2.2.1.length sc3, .slice so4 a.2.2.2.2.1.length sc4, .slice so5 a.2.2.2.2.2.length sc5]) := R3.out.ret 4 (.slice so4 a.2.2.2.2.1.length sc4)
  have CF : Hid (Cp 29 38 w (((((((w3.setCell ⟨w.heap.size + 1 + 1, 5, none⟩ (.slice so5 a.2.2.2.2.2.length sc5)).setCell ⟨w.heap.size + 1, 0, none⟩ (.int .i64 a.1)).setCell ⟨w.heap.size + 1, 1, none⟩ (.int .i64 a.2.1)).setCell ⟨w.heap.size + 1, 2, none⟩ (.slice so2 a.2.2.1.length sc2)).setCell ⟨w.heap.size + 1, 3, none⟩ (.slice so3 a.2.2.2.1.length sc3)).setCell ⟨w.heap.size + 1, 4, none⟩ (.slice so4 a.2.2.2.2.1.length sc4)).setCell ⟨w.heap.size + 1, 5, none⟩ (.slice so5 a.2.2.2.2.2.length sc5)) #[.int .i64 a.1, .int .i64 a.2.1, v2, v3, v4, v5] #[.int .i64 a.1, .int .i64 a.2.1, .slice so2 a.2.2.1.length sc2, .slice so3 a.2.2.2.1.length sc3, .slice so4 a.2.2.2.2.1.length sc4, .slice so5 a.2.2.2.2.2.length sc5] #[.int .i64 a.1, .int .i64 a.2.1, .slice so2 a.2.2.1.length sc2, .slice so3 a.2.2.2.1.length sc3, .slice so4 a.2.2.2.2.1.length sc4, .slice so5 a.2.2.2.2.2.length sc5]) := R4.out.ret 5 (.slice so5 a.2.2.2.2.2.length sc5)
  have f0 := (cell_row CF.out.res 0 (.int .i64 a.1) rfl).1
  have f1 := (cell_row CF.out.res 1 (.int .i64 a.2.1) rfl).1
  have f2 := (cell_row CF.out.res 2 (.slice so2 a.2.2.1.length sc2) rfl).1
  have f3 := (cell_row CF.out.res 3 (.slice so3 a.2.2.2.1.length sc3) rfl).1
  have f4 := (cell_row CF.out.res 4 (.slice so4 a.2.2.2.2.1.length sc4) rfl).1
  have f5 := (cell_row CF.out.res 5 (.slice so5 a.2.2.2.2.2.length sc5) rfl).1
  have hsz : Hid ((((((((w3.setCell ⟨w.heap.size + 1 + 1, 5, none⟩ (.slice so5 a.2.2.2.2.2.length sc5)).setCell ⟨w.heap.size + 1, 0, none⟩ (.int .i64 a.1)).setCell ⟨w.heap.size + 1, 1, none⟩ (.int .i64 a.2.1)).setCell ⟨w.heap.size + 1, 2, none⟩ (.slice so2 a.2.2.1.length sc2)).setCell ⟨w.heap.size + 1, 3, none⟩ (.slice so3 a.2.2.2.1.length sc3)).setCell ⟨w.heap.size + 1, 4, none⟩ (.slice so4 a.2.2.2.2.1.length sc4)).setCell ⟨w.heap.size + 1, 5, none⟩ (.slice so5 a.2.2.2.2.2.length sc5)).heap.size = w3.heap.size) := by simp [Hid]
  have S1 : Same (fun b => w.heap.size + 1 + 1 < b ∧ b < w1.heap.size) w1 (((((((w3.setCell ⟨w.heap.size + 1 + 1, 5, none⟩ (.slice so5 a.2.2.2.2.2.length sc5)).setCell ⟨w.heap.size + 1, 0, none⟩ (.int .i64 a.1)).setCell ⟨w.heap.size + 1, 1, none⟩ (.int .i64 a.2.1)).setCell ⟨w.heap.size + 1, 2, none⟩ (.slice so2 a.2.2.1.length sc2)).setCell ⟨w.heap.size + 1, 3, none⟩ (.slice so3 a.2.2.2.1.length sc3)).setCell ⟨w.heap.size + 1, 4, none⟩ (.slice so4 a.2.2.2.2.1.length sc4)).setCell ⟨w.heap.size + 1, 5, none⟩ (.slice so5 a.2.2.2.2.2.length sc5)) := ((((((((((((Same.of_set _ ⟨w.heap.size + 1 + 1, 2, none⟩ (.slice so2 a.2.2.1.length sc2) (fun h => absurd h.1 (Nat.lt_irrefl _))).trans (Same.of_set _ ⟨w.heap.size + 1 + 1, 3, none⟩ (.slice so3 a.2.2.2.1.length sc3) (fun h => absurd h.1 (Nat.lt_irrefl _)))).trans (Same.of_below hb2 (fun b hb => by have := hb.2; simp; omega))).trans (Same.of_set _ ⟨w.heap.size + 1 + 1, 4, none⟩ (.slice so4 a.2.2.2.2.1.length sc4) (fun h => absurd h.1 (Nat.lt_irrefl _)))).trans (Same.of_below hb3 (fun b hb => by have := hb.2; simp; omega))).trans (Same.of_set _ ⟨w.heap.size + 1 + 1, 5, none⟩ (.slice so5 a.2.2.2.2.2.length sc5) (fun h => absurd h.1 (Nat.lt_irrefl _)))).trans (Same.of_set _ ⟨w.heap.size + 1, 0, none⟩ (.int .i64 a.1) (fun h => by have := h.1; simp at this; omega))).trans (Same.of_set _ ⟨w.heap.size + 1, 1, none⟩ (.int .i64 a.2.1) (fun h => by have := h.1; simp at this; omega))).trans (Same.of_set _ ⟨w.heap.size + 1, 2, none⟩ (.slice so2 a.2.2.1.length sc2) (fun h => by have := h.1; simp at this; omega))).trans (Same.of_set _ ⟨w.heap.size + 1, 3, none⟩ (.slice so3 a.2.2.2.1.length sc3) (fun h => by have := h.1; simp at this; omega))).trans (Same.of_set _ ⟨w.heap.size + 1, 4, none⟩ (.slice so4 a.2.2.2.2.1.length sc4) (fun h => by have := h.1; simp at this; omega))).trans (Same.of_set _ ⟨w.heap.size + 1, 5, none⟩ (.slice so5 a.2.2.2.2.2.length sc5) (fun h => by have := h.1; simp at this; omega)))
  have S2 : Same (fun b => w.heap.size + 1 + 1 < b ∧ b < w2.heap.size) w2 (((((((w3.setCell ⟨w.heap.size + 1 + 1, 5, none⟩ (.slice so5 a.2.2.2.2.2.length sc5)).setCell ⟨w.heap.size + 1, 0, none⟩ (.int .i64 a.1)).setCell ⟨w.heap.size + 1, 1, none⟩ (.int .i64 a.2.1)).setCell ⟨w.heap.size + 1, 2, none⟩ (.slice so2 a.2.2.1.length sc2)).setCell ⟨w.heap.size + 1, 3, none⟩ (.slice so3 a.2.2.2.1.length sc3)).setCell ⟨w.heap.size + 1, 4, none⟩ (.slice so4 a.2.2.2.2.1.length sc4)).setCell ⟨w.heap.size + 1, 5, none⟩ (.slice so5 a.2.2.2.2.2.length sc5)) := (((((((((Same.of_set _ ⟨w.heap.size + 1 + 1, 4, none⟩ (.slice so4 a.2.2.2.2.1.length sc4) (fun h => absurd h.1 (Nat.lt_irrefl _))).trans (Same.of_below hb3 (fun b hb => by have := hb.2; simp; omega))).trans (Same.of_set _ ⟨w.heap.size + 1 + 1, 5, none⟩ (.slice so5 a.2.2.2.2.2.length sc5) (fun h => absurd h.1 (Nat.lt_irrefl _)))).trans (Same.of_set _ ⟨w.heap.size + 1, 0, none⟩ (.int .i64 a.1) (fun h => by have := h.1; simp at this; omega))).trans (Same.of_set _ ⟨w.heap.size + 1, 1, none⟩ (.int .i64 a.2.1) (fun h => by have := h.1; simp at this; omega))).trans (Same.of_set _ ⟨w.heap.size + 1, 2, none⟩ (.slice so2 a.2.2.1.length sc2) (fun h => by have := h.1; simp at this; omega))).trans (Same.of_set _ ⟨w.heap.size + 1, 3, none⟩ (.slice so3 a.2.2.2.1.length sc3) (fun h => by have := h.1; simp at this; omega))).trans (Same.of_set _ ⟨w.heap.size + 1, 4, none⟩ (.slice so4 a.2.2.2.2.1.length sc4) (fun h => by have := h.1; simp at this; omega))).trans (Same.of_set _ ⟨w.heap.size + 1, 5, none⟩ (.slice so5 a.2.2.2.2.2.length sc5) (fun h => by have := h.1; simp at this; omega)))
  have S3 : Same (fun b => w.heap.size + 1 + 1 < b ∧ b < w3.heap.size) w3 (((((((w3.setCell ⟨w.heap.size + 1 + 1, 5, none⟩ (.slice so5 a.2.2.2.2.2.length sc5)).setCell ⟨w.heap.size + 1, 0, none⟩ (.int .i64 a.1)).setCell ⟨w.heap.size + 1, 1, none⟩ (.int .i64 a.2.1)).setCell ⟨w.heap.size + 1, 2, none⟩ (.slice so2 a.2.2.1.length sc2)).setCell ⟨w.heap.size + 1, 3, none⟩ (.slice so3 a.2.2.2.1.length sc3)).setCell ⟨w.heap.size + 1, 4, none⟩ (.slice so4 a.2.2.2.2.1.length sc4)).setCell ⟨w.heap.size + 1, 5, none⟩ (.slice so5 a.2.2.2.2.2.length sc5)) := (((((((Same.of_set _ ⟨w.heap.size + 1 + 1, 5, none⟩ (.slice so5 a.2.2.2.2.2.length sc5) (fun h => absurd h.1 (Nat.lt_irrefl _))).trans (Same.of_set _ ⟨w.heap.size + 1, 0, none⟩ (.int .i64 a.1) (fun h => by have := h.1; simp at this; omega))).trans (Same.of_set _ ⟨w.heap.size + 1, 1, none⟩ (.int .i64 a.2.1) (fun h => by have := h.1; simp at this; omega))).trans (Same.of_set _ ⟨w.heap.size + 1, 2, none⟩ (.slice so2 a.2.2.1.length sc2) (fun h => by have := h.1; simp at this; omega))).trans (Same.of_set _ ⟨w.heap.size + 1, 3, none⟩ (.slice so3 a.2.2.2.1.length sc3) (fun h => by have := h.1; simp at this; omega))).trans (Same.of_set _ ⟨w.heap.size + 1, 4, none⟩ (.slice so4 a.2.2.2.2.1.length sc4) (fun h => by have := h.1; simp at this; omega))).trans (Same.of_set _ ⟨w.heap.size + 1, 5, none⟩ (.slice so5 a.2.2.2.2.2.length sc5) (fun h => by have := h.1; simp at this; omega)))
  have G2 := M2.out.same (fun b hb => S1 b (PA.out b hb).1)
  have G3 := M3.out.same (fun b hb => S1 b (PB.out b hb))
  have G4 := M4.out.same (fun b hb => S2 b ⟨by have := hb.1; omega, hb.2⟩)
  have G5 := M5.out.same (fun b hb => S3 b ⟨by have := hb.1; omega, hb.2⟩)
  go_wp2_with fail
  exact bodyPost_ret (v := .agg #[.int .i64 a.1, .int .i64 a.2.1, .slice so2 a.2.2.1.length sc2, .slice so3 a.2.2.2.1.length sc3, .slice so4 a.2.2.2.2.1.length sc4, .slice so5 a.2.2.2.2.2.length sc5]) (by simp [results, Tryz.results6, go_sem, f0, f1, f2, f3, f4, f5]) rfl ⟨cs [.int .i64 a.1, .int .i64 a.2.1, .slice so2 a.2.2.1.length sc2, .slice so3 a.2.2.2.1.length sc3, .slice so4 a.2.2.2.2.1.length sc4, .slice so5 a.2.2.2.2.2.length sc5], rfl, on_DRunHouse.2 ⟨fun _ => False, fun b => w.heap.size + 1 + 1 < b ∧ b < w3.heap.size, fun b h => h.elim, fun b hb => ⟨by have := hb.1; omega, by rw [hsz.out]; exact hb.2⟩, ⟨rfl, z0, y0⟩, fun _ => False, fun b => w.heap.size + 1 + 1 < b ∧ b < w3.heap.size, fun b h => h.elim, fun b hb => hb, ⟨rfl, z1, y1⟩, A, fun b => B b ∨ (w1.heap.size ≤ b ∧ b < w3.heap.size), fun b hb => ⟨⟨(PA.out b hb).1.1, by have := (PA.out b hb).1.2; omega⟩, fun h => h.elim (PA.out b hb).2 (fun h => by have := (PA.out b hb).1.2; omega)⟩, fun b hb => hb.elim (fun h => ⟨(PB.out b h).1, by have := (PB.out b h).2; omega⟩) (fun h => ⟨by omega, h.2⟩), G2, B, fun b => w1.heap.size ≤ b ∧ b < w3.heap.size, fun b hb => ⟨.inl hb, fun h => by have := (PB.out b hb).2; omega⟩, fun b hb => .inr hb, G3, fun b => w1.heap.size ≤ b ∧ b < w2.heap.size, fun b => w2.heap.size ≤ b ∧ b < w3.heap.size, fun b hb => ⟨⟨hb.1, by omega⟩, fun h => by omega⟩, fun b hb => ⟨by omega, hb.2⟩, G4, G5⟩, CF.out.bel⟩
end Go.Proofs.YtigkkelaadbhcabGreat

namespace Go.Proofs.YtigkkelaadbhcabGreat
open Go.RowKit
theorem toRunHouse_any (S : Nat → Prop) (a : DRunHouse) (c : Nat → Value) (w : World) (h : Lay.At S w a c) (hS : ∀ b, S b → b < w.heap.size) (hm : Lay.tot a ≤ 1048576) :
    Calls Tryz.prog 6 #[.agg #[c 0, c 1, c 2, c 3, c 4, c 5]] w fun e w' => ∃ g : Nat → Value, e = .returned (.agg #[g 0, g 1, g 2, g 3, g 4, g 5]) ∧ Lay.At (fun b => w.heap.size ≤ b ∧ b < w'.heap.size) w' a g ∧ Below w.heap.size w w' :=
  (toRunHouse_own S a c w h hS hm).mono fun _ _ ⟨g, e, ho, hb⟩ => ⟨g, e, Own.on_at ho, hb⟩
end Go.Proofs.YtigkkelaadbhcabGreat

namespace Go.Proofs.YtigkkelaadbhcabGreat
open Go.RowKit
open Go.Sort in
set_option maxRecDepth 100000 in
set_option maxHeartbeats 4000000 in
theorem insX_any (base g cap : Nat) (l : List ByteArray) (x : ByteArray) (w : World) (h : w.ownsRow base 9 1 (.slice (some ⟨g, 0, none⟩) l.length cap) l.length (l.map .string)) (hl : l.length ≤ 1048576) (hbase : base ≤ w.heap.size) :
    Calls Tryz.prog 134 #[.slice (some ⟨g, 0, none⟩) l.length cap, .string x] w fun e w' => ∃ g' cap', e = .returned (.slice (some ⟨g', 0, none⟩) (insR l x).length cap') ∧ w'.ownsRow base 9 1 (.slice (some ⟨g', 0, none⟩) (insR l x).length cap') (insR l x).length ((insR l x).map .string) ∧ Below w.heap.size w w' := by
  have HO : Hid _ := h
  obtain ⟨hcap, hc⟩ := own_cells h
  have HC : Hid (∀ i, i < l.length → w.cell? ⟨g, i, none⟩ = some (.string (nthB l i))) := hc
  clear h hc
  generalize hn : l.length = n at *
  have HN : Hid (l.length = n) := hn
  clear hn
  go_enter Tryz.func134, Tryz.ntmps134
  go_wp2
  go_loop [5] (fun i => ∃ k : Nat, k ≤ n ∧ i = .int .i64 k ∧ Hid (∀ j, j < k → ltB (nthB l j) x = true)) (fun i => n - (intOf i).toNat)
  case atStart => exact ⟨0, Nat.zero_le _, rfl, fun _ h => by omega⟩
  case round =>
    obtain ⟨k, hk, rfl, hall⟩ := hrel
    have NEW : Hid ((k < n → ltB (nthB l k) x = false ∧ eqB (nthB l k) x = false) → insR l x = l.take k ++ [x] ++ l.drop k) := fun h => insR_new l k x (by rw [HN.out]; exact hk) hall.out (by rw [HN.out]; exact h)
    by_cases hlt : k < n
    · have e0 := HC.out k hlt
      cases h1 : Op.bytesLess (nthB l k).toList x.toList
      · cases h2 : ((nthB l k).toList == x.toList)
        · have E : Hid (insR l x = l.take k ++ [x] ++ l.drop k) := NEW.out (fun _ => ⟨h1, h2⟩)
          have hkc : (k : Int) ≤ (cap : Int) := by omega
          have hkn : (k : Int) ≤ (n : Int) := by omega
          go_wp2_with fail
          refine wp_region_mix 12 [1, 2, 3, 5, 8, 9, 10] (by kernel_rfl) (by kernel_rfl) ?_
          simp only [List.filterMap_cons, List.filterMap_nil, List.getElem?_cons_succ, List.getElem?_cons_zero]
          repeat (first | go_big_quiet_step (fail) | quiet_step (fail))
          refine wpQuiet_nil ?_
          refine ins3 (md := .any) (i0 := 0) (i1 := 4) (i2 := 6) (i3 := 7) (i4 := 11) (d0 := 33) (d1 := 37) (d2 := 39) (d3 := 40) (d4 := 44) (k1 := 36) (k2 := 43) (kx := 38) (X := .string x) (t := 22) (e := 9)
            ⟨_, _, _, _, _, ⟨rfl, rfl, rfl, by decide⟩, ⟨rfl, rfl, rfl, by decide⟩, ⟨rfl, rfl, rfl, by decide⟩, ⟨rfl, rfl, rfl, by decide⟩, ⟨rfl, rfl, rfl, by decide⟩, rfl, rfl, rfl, ?run0, ?run2, by decide, by decide, by kernel_rfl, by kernel_rfl, by kernel_rfl, by kernel_rfl, by kernel_rfl, by kernel_rfl, by kernel_rfl⟩
            elSX (W := w) ⟨by simp, by simp, by simp, by simp, by simp⟩ rfl rfl rfl (src_take HN.out hk HC.out) (src_drop HN.out hk hcap HC.out) rfl ?u1 ?u2 ?ux (by omega) (by unfold maxLen; omega) ?K
          case run0 => intro bb ww; go_simp
          case run2 =>
            intro bb hx ww
            have hx' : bb.tmps[38]?.getD undef = .string x := by simpa [Act.eval] using hx
            clear hx
            go_simp
          case u1 => intro v hv; obtain ⟨_, _, rfl⟩ := List.mem_map.1 hv; rfl
          case u2 => intro v hv; obtain ⟨_, _, rfl⟩ := List.mem_map.1 hv; rfl
          case ux => intro v hv; simp [Value.cells] at hv; subst hv; rfl
          case K =>
            intro r0 r1 r2 r3 r4 w4 hown hb4
            refine ⟨by kernel_rfl, ?_⟩
            simp only [List.drop_succ_cons, List.drop_zero]
            have hnk : k + 1 + (n - k) = (insR l x).length := by rw [E.out]; have := HN.out; simp; omega
            have hcs : (l.take k).map Value.string ++ (Value.string x).cells.toList ++ (l.drop k).map Value.string = (insR l x).map .string := by rw [E.out]; simp [Value.cells]
            rw [hnk, hcs] at hown
            have HOW : Hid (w4.ownsRow w.heap.size 9 1 r4 (insR l x).length ((insR l x).map .string)) := hown
            have HPOS : Hid (0 < (insR l x).length) := by show 0 < _; omega
            clear hown hcs hnk
            simp only [Act.put, List.setIfInBounds_toArray, List.set_cons_zero, List.set_cons_succ]
            go_wp2_with fail
            all_goals
              go_ret
              rcases HOW.out.2 with ⟨_, e⟩ | ⟨g', cap', cur, rfl, hbg, rest⟩
              · have := HPOS.out; omega
              · exact ⟨g', cap', rfl, ⟨HOW.out.1, .inr ⟨g', cap', cur, rfl, by omega, rest⟩⟩, hb4⟩
        · have E : Hid (insR l x = l) := insR_eq l k x (by rw [HN.out]; exact hlt) hall.out h2
          go_wp2_with fail
          go_ret
          rw [E.out, HN.out]
          exact ⟨g, cap, rfl, HO.out, Below.refl _ _⟩
      · go_wp2_with fail
        go_round
        case rel => exact ⟨k + 1, by omega, by go_num, fun j hj => by
          by_cases e : j = k
          · subst e; exact h1
          · exact hall.out j (by omega)⟩
        case measure => simp [intOf]; omega
    · have E : Hid (insR l x = l.take k ++ [x] ++ l.drop k) := NEW.out (fun h => absurd h hlt)
      have hkc : (k : Int) ≤ (cap : Int) := by omega
      have hkn : (k : Int) ≤ (n : Int) := by omega
      go_wp2_with fail
      refine wp_region_mix 12 [1, 2, 3, 5, 8, 9, 10] (by kernel_rfl) (by kernel_rfl) ?_
      simp only [List.filterMap_cons, List.filterMap_nil, List.getElem?_cons_succ, List.getElem?_cons_zero]
      repeat (first | go_big_quiet_step (fail) | quiet_step (fail))
      refine wpQuiet_nil ?_
      refine ins3 (md := .any) (i0 := 0) (i1 := 4) (i2 := 6) (i3 := 7) (i4 := 11) (d0 := 33) (d1 := 37) (d2 := 39) (d3 := 40) (d4 := 44) (k1 := 36) (k2 := 43) (kx := 38) (X := .string x) (t := 22) (e := 9)
        ⟨_, _, _, _, _, ⟨rfl, rfl, rfl, by decide⟩, ⟨rfl, rfl, rfl, by decide⟩, ⟨rfl, rfl, rfl, by decide⟩, ⟨rfl, rfl, rfl, by decide⟩, ⟨rfl, rfl, rfl, by decide⟩, rfl, rfl, rfl, ?run0, ?run2, by decide, by decide, by kernel_rfl, by kernel_rfl, by kernel_rfl, by kernel_rfl, by kernel_rfl, by kernel_rfl, by kernel_rfl⟩
        elSX (W := w) ⟨by simp, by simp, by simp, by simp, by simp⟩ rfl rfl rfl (src_take HN.out hk HC.out) (src_drop HN.out hk hcap HC.out) rfl ?u1 ?u2 ?ux (by omega) (by unfold maxLen; omega) ?K
      case run0 => intro bb ww; go_simp
      case run2 =>
        intro bb hx ww
        have hx' : bb.tmps[38]?.getD undef = .string x := by simpa [Act.eval] using hx
        clear hx
        go_simp
      case u1 => intro v hv; obtain ⟨_, _, rfl⟩ := List.mem_map.1 hv; rfl
      case u2 => intro v hv; obtain ⟨_, _, rfl⟩ := List.mem_map.1 hv; rfl
      case ux => intro v hv; simp [Value.cells] at hv; subst hv; rfl
      case K =>
        intro r0 r1 r2 r3 r4 w4 hown hb4
        refine ⟨by kernel_rfl, ?_⟩
        simp only [List.drop_succ_cons, List.drop_zero]
        have hnk : k + 1 + (n - k) = (insR l x).length := by rw [E.out]; have := HN.out; simp; omega
        have hcs : (l.take k).map Value.string ++ (Value.string x).cells.toList ++ (l.drop k).map Value.string = (insR l x).map .string := by rw [E.out]; simp [Value.cells]
        rw [hnk, hcs] at hown
        have HOW : Hid (w4.ownsRow w.heap.size 9 1 r4 (insR l x).length ((insR l x).map .string)) := hown
        have HPOS : Hid (0 < (insR l x).length) := by show 0 < _; omega
        clear hown hcs hnk
        simp only [Act.put, List.setIfInBounds_toArray, List.set_cons_zero, List.set_cons_succ]
        go_wp2_with fail
        all_goals
          go_ret
          rcases HOW.out.2 with ⟨_, e⟩ | ⟨g', cap', cur, rfl, hbg, rest⟩
          · have := HPOS.out; omega
          · exact ⟨g', cap', rfl, ⟨HOW.out.1, .inr ⟨g', cap', cur, rfl, by omega, rest⟩⟩, hb4⟩
end Go.Proofs.YtigkkelaadbhcabGreat
