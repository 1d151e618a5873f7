/-
  Contracts of the program's new want, its new ask, and of what is asked of a want that has nothing.
-/
import Derived.Test.YtffmfomonmhkcabGreatM34
import Derived.Test.YtffmfomonmhkcabGreatM22
import Derived.Test.YtffmfomonmhkcabGreatM16
import Derived.Test.YtffmfomonmhkcabGreatM15
import Derived.Deep.Cut
namespace Go.Proofs.YtffmfomonmhkcabGreat
open Go.RowKit

attribute [local go_sem] Oper.semAt_some
theorem ret_12 {w : World} {g : Nat} {x0 x1 x2 x3 x4 x5 x6 x7 x8 x9 x10 x11 : Value} {t : TypeId} (h : w.heap[g]? = some (.cells #[x0, x1, x2, x3, x4, x5, x6, x7, x8, x9, x10, x11] t (0, 0))) (a0 a1 a2 a3 a4 a5 a6 a7 a8 a9 a10 a11 : Value) :
    ((((((((((((w.setCell ⟨g, 0, none⟩ a0).setCell ⟨g, 1, none⟩ a1).setCell ⟨g, 2, none⟩ a2).setCell ⟨g, 3, none⟩ a3).setCell ⟨g, 4, none⟩ a4).setCell ⟨g, 5, none⟩ a5).setCell ⟨g, 6, none⟩ a6).setCell ⟨g, 7, none⟩ a7).setCell ⟨g, 8, none⟩ a8).setCell ⟨g, 9, none⟩ a9).setCell ⟨g, 10, none⟩ a10).setCell ⟨g, 11, none⟩ a11).heap[g]? = some (.cells #[a0, a1, a2, a3, a4, a5, a6, a7, a8, a9, a10, a11] t (0, 0)) ∧ (∀ q, q ≠ g → ((((((((((((w.setCell ⟨g, 0, none⟩ a0).setCell ⟨g, 1, none⟩ a1).setCell ⟨g, 2, none⟩ a2).setCell ⟨g, 3, none⟩ a3).setCell ⟨g, 4, none⟩ a4).setCell ⟨g, 5, none⟩ a5).setCell ⟨g, 6, none⟩ a6).setCell ⟨g, 7, none⟩ a7).setCell ⟨g, 8, none⟩ a8).setCell ⟨g, 9, none⟩ a9).setCell ⟨g, 10, none⟩ a10).setCell ⟨g, 11, none⟩ a11).heap[q]? = w.heap[q]?) ∧ ((((((((((((w.setCell ⟨g, 0, none⟩ a0).setCell ⟨g, 1, none⟩ a1).setCell ⟨g, 2, none⟩ a2).setCell ⟨g, 3, none⟩ a3).setCell ⟨g, 4, none⟩ a4).setCell ⟨g, 5, none⟩ a5).setCell ⟨g, 6, none⟩ a6).setCell ⟨g, 7, none⟩ a7).setCell ⟨g, 8, none⟩ a8).setCell ⟨g, 9, none⟩ a9).setCell ⟨g, 10, none⟩ a10).setCell ⟨g, 11, none⟩ a11).heap.size = w.heap.size ∧ Below g w ((((((((((((w.setCell ⟨g, 0, none⟩ a0).setCell ⟨g, 1, none⟩ a1).setCell ⟨g, 2, none⟩ a2).setCell ⟨g, 3, none⟩ a3).setCell ⟨g, 4, none⟩ a4).setCell ⟨g, 5, none⟩ a5).setCell ⟨g, 6, none⟩ a6).setCell ⟨g, 7, none⟩ a7).setCell ⟨g, 8, none⟩ a8).setCell ⟨g, 9, none⟩ a9).setCell ⟨g, 10, none⟩ a10).setCell ⟨g, 11, none⟩ a11) := by
  refine ⟨?_, ?_, by simp, ?_⟩
  · have := set_row (set_row (set_row (set_row (set_row (set_row (set_row (set_row (set_row (set_row (set_row (set_row h 0 a0) 1 a1) 2 a2) 3 a3) 4 a4) 5 a5) 6 a6) 7 a7) 8 a8) 9 a9) 10 a10) 11 a11
    simpa using this
  · intro q hq
    exact (Below.heap_setCell _ ⟨g, 11, none⟩ a11 q hq).trans ((Below.heap_setCell _ ⟨g, 10, none⟩ a10 q hq).trans ((Below.heap_setCell _ ⟨g, 9, none⟩ a9 q hq).trans ((Below.heap_setCell _ ⟨g, 8, none⟩ a8 q hq).trans ((Below.heap_setCell _ ⟨g, 7, none⟩ a7 q hq).trans ((Below.heap_setCell _ ⟨g, 6, none⟩ a6 q hq).trans ((Below.heap_setCell _ ⟨g, 5, none⟩ a5 q hq).trans ((Below.heap_setCell _ ⟨g, 4, none⟩ a4 q hq).trans ((Below.heap_setCell _ ⟨g, 3, none⟩ a3 q hq).trans ((Below.heap_setCell _ ⟨g, 2, none⟩ a2 q hq).trans ((Below.heap_setCell _ ⟨g, 1, none⟩ a1 q hq).trans (Below.heap_setCell _ ⟨g, 0, none⟩ a0 q hq)))))))))))
  · exact ((((((((((((Below.refl _ _).setCell (p := ⟨g, 0, none⟩) (Nat.le_refl _) a0).setCell (p := ⟨g, 1, none⟩) (Nat.le_refl _) a1).setCell (p := ⟨g, 2, none⟩) (Nat.le_refl _) a2).setCell (p := ⟨g, 3, none⟩) (Nat.le_refl _) a3).setCell (p := ⟨g, 4, none⟩) (Nat.le_refl _) a4).setCell (p := ⟨g, 5, none⟩) (Nat.le_refl _) a5).setCell (p := ⟨g, 6, none⟩) (Nat.le_refl _) a6).setCell (p := ⟨g, 7, none⟩) (Nat.le_refl _) a7).setCell (p := ⟨g, 8, none⟩) (Nat.le_refl _) a8).setCell (p := ⟨g, 9, none⟩) (Nat.le_refl _) a9).setCell (p := ⟨g, 10, none⟩) (Nat.le_refl _) a10).setCell (p := ⟨g, 11, none⟩) (Nat.le_refl _) a11

set_option maxRecDepth 100000 in
set_option maxHeartbeats 8000000 in
theorem newWant_any (S : Nat → Prop) (num kind : Int) (v : Value) (l : List ByteArray) (w : World) (h : AtL S w l v) (hS : ∀ b, S b → b < w.heap.size) (hl : l.length ≤ 1048576) (hs : ∀ x ∈ l, x.size ≤ 1048576) :
    Calls Tryz.prog 78 #[.int .i64 num, .int .i64 kind, v] w fun e w' => ∃ r k, e = .returned (.agg #[.int .i64 num, .int .i64 kind, .slice r l.length k, .slice none 0 0, .slice none 0 0, .slice none 0 0]) ∧ Row w' w.heap.size 9 1 eS (.slice r l.length k) l ∧ Below w.heap.size w w' := by
  obtain ⟨W, hW⟩ : ∃ W, W = w.alloc (.cells #[.int .i64 0, .int .i64 0, .slice none 0 0, .slice none 0 0, .slice none 0 0, .slice none 0 0] 110) := ⟨_, rfl⟩
  have EW : Hid (W = w.alloc (.cells #[.int .i64 0, .int .i64 0, .slice none 0 0, .slice none 0 0, .slice none 0 0, .slice none 0 0] 110)) := hW
  have BW : Hid (Below w.heap.size w W) := by rw [hW]; exact (Below.refl _ _).alloc (Nat.le_refl _) _
  have sW : W.heap.size = w.heap.size + 1 := by rw [hW]; simp
  have X0 : Hid (W.heap[w.heap.size]? = some (.cells #[.int .i64 0, .int .i64 0, .slice none 0 0, .slice none 0 0, .slice none 0 0, .slice none 0 0] 110 (0, 0))) := by rw [hW]; exact heap_alloc_new w _
  have HL : Hid (AtL S W l v) := h.same (Same.of_below BW.out hS)
  clear hW h
  obtain ⟨ov, cv, ev, _⟩ := HL.out
  subst ev
  go_enter Tryz.func78, Tryz.ntmps78
  go_upto_region 1 with fail
  rw [← EW.out]
  go_wp2_with (first
    | (go_at_call 112; refine (freshT_any S _ l W HL.out (fun b hb => by have := hS b hb; omega) hl hs).mono ?_; rintro e w1 ⟨r, rfl, hr, hb1⟩; obtain ⟨ro, rk, rfl⟩ := ownsRow_shape hr; have B1 : Hid (Below w.heap.size w w1) := BW.out.trans (hb1.mono BW.out.size); have X1 := box_stable hb1 X0.out; obtain ⟨y0, f0⟩ := cell_row X1 0 (.int .i64 0) rfl; obtain ⟨y1, f1⟩ := cell_row X1 1 (.int .i64 0) rfl; obtain ⟨y2, f2⟩ := cell_row X1 2 (.slice none 0 0) rfl; obtain ⟨y3, f3⟩ := cell_row X1 3 (.slice none 0 0) rfl; obtain ⟨y4, f4⟩ := cell_row X1 4 (.slice none 0 0) rfl; obtain ⟨y5, f5⟩ := cell_row X1 5 (.slice none 0 0) rfl; obtain ⟨F0, F1, F2, F3⟩ := ret_6 X1 (.int .i64 num) (.int .i64 kind) (.slice ro l.length rk) (.slice none 0 0) (.slice none 0 0) (.slice none 0 0)))
  obtain ⟨FW, hF⟩ : ∃ u, u = ((((((w1.setCell ⟨w.heap.size, 0, none⟩ (.int .i64 num)).setCell ⟨w.heap.size, 1, none⟩ (.int .i64 kind)).setCell ⟨w.heap.size, 2, none⟩ (.slice ro l.length rk)).setCell ⟨w.heap.size, 3, none⟩ (.slice none 0 0)).setCell ⟨w.heap.size, 4, none⟩ (.slice none 0 0)).setCell ⟨w.heap.size, 5, none⟩ (.slice none 0 0)) := ⟨_, rfl⟩
  rw [← hF]
  rw [← hF] at F0 F1 F2 F3
  have t0 := (cell_row F0 0 (.int .i64 num) rfl).1
  have t1 := (cell_row F0 1 (.int .i64 kind) rfl).1
  have t2 := (cell_row F0 2 (.slice ro l.length rk) rfl).1
  have t3 := (cell_row F0 3 (.slice none 0 0) rfl).1
  have t4 := (cell_row F0 4 (.slice none 0 0) rfl).1
  have t5 := (cell_row F0 5 (.slice none 0 0) rfl).1
  have BF : Below w.heap.size w FW := B1.out.trans (F3.mono (by omega))
  exact bodyPost_ret (v := .agg #[.int .i64 num, .int .i64 kind, .slice ro l.length rk, .slice none 0 0, .slice none 0 0, .slice none 0 0]) (by simp [results, Tryz.results78, go_sem, t0, t1, t2, t3, t4, t5]) rfl ⟨ro, rk, rfl, Go.Joins.ownsRow_le (ownsRow_kept hr (fun g hg => F1 g (by have := (World.ownsRow.lt hr g hg).1; omega))) (by omega), BF⟩

set_option maxRecDepth 100000 in
set_option maxHeartbeats 8000000 in
theorem newAsk_any (S : Nat → Prop) (num kind : Int) (l : List ByteArray) (o2 o3 o4 o5 : Option Addr) (k2 n3 k3 n4 k4 n5 k5 : Nat) (w : World) (h : AtL S w l (.slice o2 l.length k2)) (hS : ∀ b, S b → b < w.heap.size) (hl : l.length ≤ 1048576) (hs : ∀ x ∈ l, x.size ≤ 1048576) :
    Calls Tryz.prog 72 #[.agg #[.int .i64 num, .int .i64 kind, .slice o2 l.length k2, .slice o3 n3 k3, .slice o4 n4 k4, .slice o5 n5 k5]] w fun e w' => ∃ r k, e = .returned (.agg #[.int .i64 num, .int .i64 kind, .slice r l.length k, .slice none 0 0, .slice none 0 0, .slice none 0 0, .int .i64 num, .int .i64 kind, .slice o2 l.length k2, .slice o3 n3 k3, .slice o4 n4 k4, .slice o5 n5 k5]) ∧ Row w' w.heap.size 9 1 eS (.slice r l.length k) l ∧ Below w.heap.size w w' := by
  obtain ⟨W, hW⟩ : ∃ W, W = (w.alloc (.cells #[.int .i64 num, .int .i64 kind, .slice o2 l.length k2, .slice o3 n3 k3, .slice o4 n4 k4, .slice o5 n5 k5] 60)).alloc (.cells #[.int .i64 0, .int .i64 0, .slice none 0 0, .slice none 0 0, .slice none 0 0, .slice none 0 0, .int .i64 0, .int .i64 0, .slice none 0 0, .slice none 0 0, .slice none 0 0, .slice none 0 0] 112) := ⟨_, rfl⟩
  have EW : Hid (W = (w.alloc (.cells #[.int .i64 num, .int .i64 kind, .slice o2 l.length k2, .slice o3 n3 k3, .slice o4 n4 k4, .slice o5 n5 k5] 60)).alloc (.cells #[.int .i64 0, .int .i64 0, .slice none 0 0, .slice none 0 0, .slice none 0 0, .slice none 0 0, .int .i64 0, .int .i64 0, .slice none 0 0, .slice none 0 0, .slice none 0 0, .slice none 0 0] 112)) := hW
  have BW : Hid (Below w.heap.size w W) := by rw [hW]; exact ((Below.refl _ _).alloc (Nat.le_refl _) _).alloc (by simp) _
  have sW : W.heap.size = w.heap.size + 1 + 1 := by rw [hW]; simp
  have X0 : Hid (W.heap[w.heap.size]? = some (.cells #[.int .i64 num, .int .i64 kind, .slice o2 l.length k2, .slice o3 n3 k3, .slice o4 n4 k4, .slice o5 n5 k5] 60 (0, 0))) := by rw [hW]; exact (Below.heap_alloc _ _ _ (by simp)).trans (heap_alloc_new w _)
  have Y0 : Hid (W.heap[w.heap.size + 1]? = some (.cells #[.int .i64 0, .int .i64 0, .slice none 0 0, .slice none 0 0, .slice none 0 0, .slice none 0 0, .int .i64 0, .int .i64 0, .slice none 0 0, .slice none 0 0, .slice none 0 0, .slice none 0 0] 112 (0, 0))) := by rw [hW]; have := heap_alloc_new (w.alloc (.cells #[.int .i64 num, .int .i64 kind, .slice o2 l.length k2, .slice o3 n3 k3, .slice o4 n4 k4, .slice o5 n5 k5] 60)) (.cells #[.int .i64 0, .int .i64 0, .slice none 0 0, .slice none 0 0, .slice none 0 0, .slice none 0 0, .int .i64 0, .int .i64 0, .slice none 0 0, .slice none 0 0, .slice none 0 0, .slice none 0 0] 112); rw [World.size_alloc] at this; exact this
  have HL : Hid (AtL S W.drew l (.slice o2 l.length k2)) := h.same (Same.of_below BW.out.drew hS)
  clear hW h
  obtain ⟨x0, _⟩ := cell_row X0.out 0 (.int .i64 num) rfl
  have q0 := fun d os => cell_regrown x0 d os
  obtain ⟨x1, _⟩ := cell_row X0.out 1 (.int .i64 kind) rfl
  have q1 := fun d os => cell_regrown x1 d os
  obtain ⟨x2, _⟩ := cell_row X0.out 2 (.slice o2 l.length k2) rfl
  have q2 := fun d os => cell_regrown x2 d os
  obtain ⟨x3, _⟩ := cell_row X0.out 3 (.slice o3 n3 k3) rfl
  have q3 := fun d os => cell_regrown x3 d os
  obtain ⟨x4, _⟩ := cell_row X0.out 4 (.slice o4 n4 k4) rfl
  have q4 := fun d os => cell_regrown x4 d os
  obtain ⟨x5, _⟩ := cell_row X0.out 5 (.slice o5 n5 k5) rfl
  have q5 := fun d os => cell_regrown x5 d os
  have hd : Hid (Below W.heap.size W W.drew) := (Below.refl _ _).drew
  go_enter Tryz.func72, Tryz.ntmps72
  go_upto_region 1 with fail
  rw [← EW.out]
  refine wp_region_mix 9 [0, 1, 2, 3, 4, 5, 7] (by kernel_rfl) (by kernel_rfl) ?_
  simp only [List.filterMap_cons, List.filterMap_nil, List.getElem?_cons_succ, List.getElem?_cons_zero]
  repeat (first | go_big_quiet_step (fail) | quiet_step (fail))
  refine wpQuiet_nil ?_
  clear x0 q0 x1 q1 x2 q2 x3 q3 x4 q4 x5 q5
  refine call1 (md := .any) (f := 1) (i := 6) (dc := 9) (fn := 78) ⟨rfl, rfl, rfl, by decide⟩ (by kernel_rfl) ?run6 ((newWant_any S num kind _ l W.drew HL.out (fun b hb => by have h1 := hS b hb; have h2 := hd.out.size; omega) hl hs).mono ?_)
  case run6 => go_simp
  rintro e w1 ⟨ro, rk, rfl, hr, hb1⟩
  have C1 : Hid (Below W.heap.size W w1) := hd.out.trans (hb1.mono hd.out.size)
  have B1 : Hid (Below w.heap.size w w1) := BW.out.trans (C1.out.mono BW.out.size)
  refine ⟨_, rfl, regrown_of_below C1.out, ?_⟩
  simp only [Act.put, List.setIfInBounds_toArray, List.set_cons_zero, List.set_cons_succ]
  refine anyC_step (f := 0) [8] (by kernel_rfl) (by simp) (one_list ⟨by decide, _, rfl, rfl, .agg #[.int .i64 num, .int .i64 kind, .slice ro l.length rk, .slice none 0 0, .slice none 0 0, .slice none 0 0, .int .i64 num, .int .i64 kind, .slice o2 l.length k2, .slice o3 n3 k3, .slice o4 n4 k4, .slice o5 n5 k5], w1, ?runa, regrown_of_below C1.out, ?_⟩)
  case runa => go_simp
  refine ⟨by kernel_rfl, ?_⟩
  simp only [List.drop_succ_cons, List.drop_zero]
  have s1 := C1.out.size
  have X1 := box_stable C1.out Y0.out
  obtain ⟨y0, f0⟩ := cell_row X1 0 (.int .i64 0) rfl
  obtain ⟨y1, f1⟩ := cell_row X1 1 (.int .i64 0) rfl
  obtain ⟨y2, f2⟩ := cell_row X1 2 (.slice none 0 0) rfl
  obtain ⟨y3, f3⟩ := cell_row X1 3 (.slice none 0 0) rfl
  obtain ⟨y4, f4⟩ := cell_row X1 4 (.slice none 0 0) rfl
  obtain ⟨y5, f5⟩ := cell_row X1 5 (.slice none 0 0) rfl
  obtain ⟨y6, f6⟩ := cell_row X1 6 (.int .i64 0) rfl
  obtain ⟨y7, f7⟩ := cell_row X1 7 (.int .i64 0) rfl
  obtain ⟨y8, f8⟩ := cell_row X1 8 (.slice none 0 0) rfl
  obtain ⟨y9, f9⟩ := cell_row X1 9 (.slice none 0 0) rfl
  obtain ⟨y10, f10⟩ := cell_row X1 10 (.slice none 0 0) rfl
  obtain ⟨y11, f11⟩ := cell_row X1 11 (.slice none 0 0) rfl
  obtain ⟨F0, F1, F2, F3⟩ := ret_12 X1 (.int .i64 num) (.int .i64 kind) (.slice ro l.length rk) (.slice none 0 0) (.slice none 0 0) (.slice none 0 0) (.int .i64 num) (.int .i64 kind) (.slice o2 l.length k2) (.slice o3 n3 k3) (.slice o4 n4 k4) (.slice o5 n5 k5)
  go_wp2_with fail
  obtain ⟨FW, hF⟩ : ∃ u, u = ((((((((((((w1.setCell ⟨w.heap.size + 1, 0, none⟩ (.int .i64 num)).setCell ⟨w.heap.size + 1, 1, none⟩ (.int .i64 kind)).setCell ⟨w.heap.size + 1, 2, none⟩ (.slice ro l.length rk)).setCell ⟨w.heap.size + 1, 3, none⟩ (.slice none 0 0)).setCell ⟨w.heap.size + 1, 4, none⟩ (.slice none 0 0)).setCell ⟨w.heap.size + 1, 5, none⟩ (.slice none 0 0)).setCell ⟨w.heap.size + 1, 6, none⟩ (.int .i64 num)).setCell ⟨w.heap.size + 1, 7, none⟩ (.int .i64 kind)).setCell ⟨w.heap.size + 1, 8, none⟩ (.slice o2 l.length k2)).setCell ⟨w.heap.size + 1, 9, none⟩ (.slice o3 n3 k3)).setCell ⟨w.heap.size + 1, 10, none⟩ (.slice o4 n4 k4)).setCell ⟨w.heap.size + 1, 11, none⟩ (.slice o5 n5 k5)) := ⟨_, rfl⟩
  rw [← hF]
  rw [← hF] at F0 F1 F2 F3
  have t0 := (cell_row F0 0 (.int .i64 num) rfl).1
  have t1 := (cell_row F0 1 (.int .i64 kind) rfl).1
  have t2 := (cell_row F0 2 (.slice ro l.length rk) rfl).1
  have t3 := (cell_row F0 3 (.slice none 0 0) rfl).1
  have t4 := (cell_row F0 4 (.slice none 0 0) rfl).1
  have t5 := (cell_row F0 5 (.slice none 0 0) rfl).1
  have t6 := (cell_row F0 6 (.int .i64 num) rfl).1
  have t7 := (cell_row F0 7 (.int .i64 kind) rfl).1
  have t8 := (cell_row F0 8 (.slice o2 l.length k2) rfl).1
  have t9 := (cell_row F0 9 (.slice o3 n3 k3) rfl).1
  have t10 := (cell_row F0 10 (.slice o4 n4 k4) rfl).1
  have t11 := (cell_row F0 11 (.slice o5 n5 k5) rfl).1
  have BF : Below w.heap.size w FW := B1.out.trans (F3.mono (by omega))
  exact bodyPost_ret (v := .agg #[.int .i64 num, .int .i64 kind, .slice ro l.length rk, .slice none 0 0, .slice none 0 0, .slice none 0 0, .int .i64 num, .int .i64 kind, .slice o2 l.length k2, .slice o3 n3 k3, .slice o4 n4 k4, .slice o5 n5 k5]) (by simp [results, Tryz.results72, go_sem, t0, t1, t2, t3, t4, t5, t6, t7, t8, t9, t10, t11]) rfl ⟨ro, rk, rfl, Go.Joins.ownsRow_le (ownsRow_kept hr (fun g hg => F1 g (by have := (World.ownsRow.lt hr g hg).1; have := hd.out.size; omega))) (by have := hd.out.size; omega), BF⟩

def emB (a b c : Nat) : Bool := decide (a = 0) && decide (b = 0) && decide (c = 0)
set_option maxRecDepth 100000 in
set_option maxHeartbeats 8000000 in
theorem isEmpty_any (num kind : Int) (o2 o3 o4 o5 : Option Addr) (n2 k2 n3 k3 n4 k4 n5 k5 : Nat) (w : World) :
    Calls Tryz.prog 77 #[.agg #[.int .i64 num, .int .i64 kind, .slice o2 n2 k2, .slice o3 n3 k3, .slice o4 n4 k4, .slice o5 n5 k5]] w fun e w' => e = .returned (.bool (emB n3 n4 n5)) ∧ Below w.heap.size w w' := by
  have BW : Hid (Below w.heap.size w (w.alloc (.cells #[.int .i64 num, .int .i64 kind, .slice o2 n2 k2, .slice o3 n3 k3, .slice o4 n4 k4, .slice o5 n5 k5] 60))) := (Below.refl _ _).alloc (Nat.le_refl _) _
  go_enter Tryz.func77, Tryz.ntmps77
  by_cases h3 : n3 = 0
  · subst h3
    by_cases h4 : n4 = 0
    · subst h4
      by_cases h5 : n5 = 0
      · subst h5
        go_wp2_with fail
        go_ret
        exact ⟨by simp [emB], BW.out⟩
      · have g5 : ((n5 : Int) == 0) = false := by simp; omega
        go_wp2_with fail
        go_ret
        exact ⟨by simp [emB, h5], BW.out⟩
    · have g4 : ((n4 : Int) == 0) = false := by simp; omega
      go_wp2_with fail
      go_ret
      exact ⟨by simp [emB, h4], BW.out⟩
  · have g3 : ((n3 : Int) == 0) = false := by simp; omega
    go_wp2_with fail
    go_ret
    exact ⟨by simp [emB, h3], BW.out⟩

end Go.Proofs.YtffmfomonmhkcabGreat
