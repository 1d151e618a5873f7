/-
  Several texts in one.
-/
import Derived.Test.YtndacfockllehaaGreatM36
import Derived.Test.YtndacfockllehaaGreatM24
import Derived.Test.YtndacfockllehaaGreatM17
import Derived.Deep.Cut
import Derived.Test.YtndacfockllehaaGreatM29
import Derived.Test.YtndacfockllehaaGreatM27
import Derived.Test.YtndacfockllehaaGreatRz
/-
  Contracts of the program's new want, its new ask, and of what is asked of a want that has nothing.
-/
namespace Go.Proofs.YtndacfockllehaaGreat
open Go.RowKit

attribute [local go_sem] Oper.semAt_some
theorem ret_12 {w : World} {g : Nat} {x0 x1 x2 x3 x4 x5 x6 x7 x8 x9 x10 x11 : Value} {t : TypeId} (h : w.heap[g]? = some (.cells #[x0, x1, x2, x3, x4, x5, x6, x7, x8, x9, x10, x11] t (0, 0))) (a0 a1 a2 a3 a4 a5 a6 a7 a8 a9 a10 a11 : Value) :
    ((((((((((((w.setCell ⟨g, 0, none⟩ a0).setCell ⟨g, 1, none⟩ a1).setCell ⟨g, 2, none⟩ a2).setCell ⟨g, 3, none⟩ a3).setCell ⟨g, 4, none⟩ a4).setCell ⟨g, 5, none⟩ a5).setCell ⟨g, 6, none⟩ a6).setCell ⟨g, 7, none⟩ a7).setCell ⟨g, 8, none⟩ a8).setCell ⟨g, 9, none⟩ a9).setCell ⟨g, 10, none⟩ a10).setCell ⟨g, 11, none⟩ a11).heap[g]? = some (.cells #[a0, a1, a2, a3, a4, a5, a6, a7, a8, a9, a10, a11] t (0, 0)) ∧ (∀ q, q ≠ g → ((((((((((((w.setCell ⟨g, 0, none⟩ a0).setCell ⟨g, 1, none⟩ a1).setCell ⟨g, 2, none⟩ a2).setCell ⟨g, 3, none⟩ a3).setCell ⟨g, 4, none⟩ a4).setCell ⟨g, 5, none⟩ a5).setCell ⟨g, 6, none⟩ a6).setCell ⟨g, 7, none⟩ a7).setCell ⟨g, 8, none⟩ a8).setCell ⟨g, 9, none⟩ a9).setCell ⟨g, 10, none⟩ a10).setCell ⟨g, 11, none⟩ a11).heap[q]? = w.heap[q]?) ∧ ((((((((((((w.setCell ⟨g, 0, none⟩ a0).setCell ⟨g, 1, none⟩ a1).setCell ⟨g, 2, none⟩ a2).setCell ⟨g, 3, none⟩ a3).setCell ⟨g, 4, none⟩ a4).setCell ⟨g, 5, none⟩ a5).setCell ⟨g, 6, none⟩ a6).setCell ⟨g, 7, none⟩ a7).setCell ⟨g, 8, none⟩ a8).setCell ⟨g, 9, none⟩ a9).setCell ⟨g, 10, none⟩ a10).setCell ⟨g, 11, none⟩ a11).heap.size = w.heap.size ∧ Below g w ((((((((((((w.setCell ⟨g, 0, none⟩ a0).setCell ⟨g, 1, none⟩ a1).setCell ⟨g, 2, none⟩ a2).setCell ⟨g, 3, none⟩ a3).setCell ⟨g, 4, none⟩ a4).setCell ⟨g, 5, none⟩ a5).setCell ⟨g, 6, none⟩ a6).setCell ⟨g, 7, none⟩ a7).setCell ⟨g, 8, none⟩ a8).setCell ⟨g, 9, none⟩ a9).setCell ⟨g, 10, none⟩ a10).setCell ⟨g, 11, none⟩ a11) := by
  refine ⟨?_, ?_, by simp, ?_⟩
  · have := set_row (set_row (set_row (set_row (set_row (set_row (set_row (set_row (set_row (set_row (set_row (set_row h 0 a0) 1 a1) 2 a2) 3 a3) 4 a4) 5 a5) 6 a6) 7 a7) 8 a8) 9 a9) 10 a10) 11 a11
    simpa using this
  · intro q hq
    exact (Below.heap_setCell _ ⟨g, 11, none⟩ a11 q hq).trans ((Below.heap_setCell _ ⟨g, 10, none⟩ a10 q hq).trans ((Below.heap_setCell _ ⟨g, 9, none⟩ a9 q hq).trans ((Below.heap_setCell _ ⟨g, 8, none⟩ a8 q hq).trans ((Below.heap_setCell _ ⟨g, 7, none⟩ a7 q hq).trans ((Below.heap_setCell _ ⟨g, 6, none⟩ a6 q hq).trans ((Below.heap_setCell _ ⟨g, 5, none⟩ a5 q hq).trans ((Below.heap_setCell _ ⟨g, 4, none⟩ a4 q hq).trans ((Below.heap_setCell _ ⟨g, 3, none⟩ a3 q hq).trans ((Below.heap_setCell _ ⟨g, 2, none⟩ a2 q hq).trans ((Below.heap_setCell _ ⟨g, 1, none⟩ a1 q hq).trans (Below.heap_setCell _ ⟨g, 0, none⟩ a0 q hq)))))))))))
  · exact ((((((((((((Below.refl _ _).setCell (p := ⟨g, 0, none⟩) (Nat.le_refl _) a0).setCell (p := ⟨g, 1, none⟩) (Nat.le_refl _) a1).setCell (p := ⟨g, 2, none⟩) (Nat.le_refl _) a2).setCell (p := ⟨g, 3, none⟩) (Nat.le_refl _) a3).setCell (p := ⟨g, 4, none⟩) (Nat.le_refl _) a4).setCell (p := ⟨g, 5, none⟩) (Nat.le_refl _) a5).setCell (p := ⟨g, 6, none⟩) (Nat.le_refl _) a6).setCell (p := ⟨g, 7, none⟩) (Nat.le_refl _) a7).setCell (p := ⟨g, 8, none⟩) (Nat.le_refl _) a8).setCell (p := ⟨g, 9, none⟩) (Nat.le_refl _) a9).setCell (p := ⟨g, 10, none⟩) (Nat.le_refl _) a10).setCell (p := ⟨g, 11, none⟩) (Nat.le_refl _) a11

set_option maxRecDepth 100000 in
set_option maxHeartbeats 8000000 in
theorem newWant_any (S : Nat → Prop) (num kind : Int) (v : Value) (l : List ByteArray) (w : World) (h : AtL S w l v) (hS : ∀ b, S b → b < w.heap.size) (hl : l.length ≤ 1048576) (hs : ∀ x ∈ l, x.size ≤ 1048576) :
    Calls Tryz.prog 94 #[.int .i64 num, .int .i64 kind, v] w fun e w' => ∃ r k, e = .returned (.agg #[.int .i64 num, .int .i64 kind, .slice r l.length k, .slice none 0 0, .slice none 0 0, .slice none 0 0]) ∧ Row w' w.heap.size 9 1 eS (.slice r l.length k) l ∧ Below w.heap.size w w' := by
  obtain ⟨W, hW⟩ : ∃ W, W = w.alloc (.cells #[.int .i64 0, .int .i64 0, .slice none 0 0, .slice none 0 0, .slice none 0 0, .slice none 0 0] 128) := ⟨_, rfl⟩
  have EW : Hid (W = w.alloc (.cells #[.int .i64 0, .int .i64 0, .slice none 0 0, .slice none 0 0, .slice none 0 0, .slice none 0 0] 128)) := hW
  have BW : Hid (Below w.heap.size w W) := by rw [hW]; exact (Below.refl _ _).alloc (Nat.le_refl _) _
  have sW : W.heap.size = w.heap.size + 1 := by rw [hW]; simp
  have X0 : Hid (W.heap[w.heap.size]? = some (.cells #[.int .i64 0, .int .i64 0, .slice none 0 0, .slice none 0 0, .slice none 0 0, .slice none 0 0] 128 (0, 0))) := by rw [hW]; exact heap_alloc_new w _
  have HL : Hid (AtL S W l v) := h.same (Same.of_below BW.out hS)
  clear hW h
  obtain ⟨ov, cv, ev, _⟩ := HL.out
  subst ev
  go_enter Tryz.func94, Tryz.ntmps94
  go_upto_region 1 with fail
  rw [← EW.out]
  go_wp2_with (first
    | (go_at_call 126; refine (freshT_any S _ l W HL.out (fun b hb => by have := hS b hb; omega) hl hs).mono ?_; rintro e w1 ⟨r, rfl, hr, hb1⟩; obtain ⟨ro, rk, rfl⟩ := ownsRow_shape hr; have B1 : Hid (Below w.heap.size w w1) := BW.out.trans (hb1.mono BW.out.size); have X1 := box_stable hb1 X0.out; obtain ⟨y0, f0⟩ := cell_row X1 0 (.int .i64 0) rfl; obtain ⟨y1, f1⟩ := cell_row X1 1 (.int .i64 0) rfl; obtain ⟨y2, f2⟩ := cell_row X1 2 (.slice none 0 0) rfl; obtain ⟨y3, f3⟩ := cell_row X1 3 (.slice none 0 0) rfl; obtain ⟨y4, f4⟩ := cell_row X1 4 (.slice none 0 0) rfl; obtain ⟨y5, f5⟩ := cell_row X1 5 (.slice none 0 0) rfl; obtain ⟨F0, F1, F2, F3⟩ := ret_6 X1 (.int .i64 num) (.int .i64 kind) (.slice ro l.length rk) (.slice none 0 0) (.slice none 0 0) (.slice none 0 0)))
  obtain ⟨FW, hF⟩ : ∃ u, u = ((((((w1.setCell ⟨w.heap.size, 0, none⟩ (.int .i64 num)).setCell ⟨w.heap.size, 1, none⟩ (.int .i64 kind)).setCell ⟨w.heap.size, 2, none⟩ (.slice ro l.length rk)).setCell ⟨w.heap.size, 3, none⟩ (.slice none 0 0)).setCell ⟨w.heap.size, 4, none⟩ (.slice none 0 0)).setCell ⟨w.heap.size, 5, none⟩ (.slice none 0 0)) := ⟨_, rfl⟩
  rw [← hF]
  rw [← hF] at F0 F1 F2 F3
  have t0 := (cell_row F0 0 (.int .i64 num) rfl).1
  have t1 := (cell_row F0 1 (.int .i64 kind) rfl).1
  have t2 := (cell_row F0 2 (.slice ro l.length rk) rfl).1
  have t3 := (cell_row F0 3 (.slice none 0 0) rfl).1
  have t4 := (cell_row F0 4 (.slice none 0 0) rfl).1
  have t5 := (cell_row F0 5 (.slice none 0 0) rfl).1
  have BF : Below w.heap.size w FW := B1.out.trans (F3.mono (by omega))
  exact bodyPost_ret (v := .agg #[.int .i64 num, .int .i64 kind, .slice ro l.length rk, .slice none 0 0, .slice none 0 0, .slice none 0 0]) (by simp [results, Tryz.results94, go_sem, t0, t1, t2, t3, t4, t5]) rfl ⟨ro, rk, rfl, Go.Joins.ownsRow_le (ownsRow_kept hr (fun g hg => F1 g (by have := (World.ownsRow.lt hr g hg).1; omega))) (by omega), BF⟩

set_option maxRecDepth 100000 in
set_option maxHeartbeats 8000000 in
theorem newAsk_any (S : Nat → Prop) (num kind : Int) (l : List ByteArray) (o2 o3 o4 o5 : Option Addr) (k2 n3 k3 n4 k4 n5 k5 : Nat) (w : World) (h : AtL S w l (.slice o2 l.length k2)) (hS : ∀ b, S b → b < w.heap.size) (hl : l.length ≤ 1048576) (hs : ∀ x ∈ l, x.size ≤ 1048576) :
    Calls Tryz.prog 88 #[.agg #[.int .i64 num, .int .i64 kind, .slice o2 l.length k2, .slice o3 n3 k3, .slice o4 n4 k4, .slice o5 n5 k5]] w fun e w' => ∃ r k, e = .returned (.agg #[.int .i64 num, .int .i64 kind, .slice r l.length k, .slice none 0 0, .slice none 0 0, .slice none 0 0, .int .i64 num, .int .i64 kind, .slice o2 l.length k2, .slice o3 n3 k3, .slice o4 n4 k4, .slice o5 n5 k5]) ∧ Row w' w.heap.size 9 1 eS (.slice r l.length k) l ∧ Below w.heap.size w w' := by
  obtain ⟨W, hW⟩ : ∃ W, W = (w.alloc (.cells #[.int .i64 num, .int .i64 kind, .slice o2 l.length k2, .slice o3 n3 k3, .slice o4 n4 k4, .slice o5 n5 k5] 68)).alloc (.cells #[.int .i64 0, .int .i64 0, .slice none 0 0, .slice none 0 0, .slice none 0 0, .slice none 0 0, .int .i64 0, .int .i64 0, .slice none 0 0, .slice none 0 0, .slice none 0 0, .slice none 0 0] 130) := ⟨_, rfl⟩
  have EW : Hid (W = (w.alloc (.cells #[.int .i64 num, .int .i64 kind, .slice o2 l.length k2, .slice o3 n3 k3, .slice o4 n4 k4, .slice o5 n5 k5] 68)).alloc (.cells #[.int .i64 0, .int .i64 0, .slice none 0 0, .slice none 0 0, .slice none 0 0, .slice none 0 0, .int .i64 0, .int .i64 0, .slice none 0 0, .slice none 0 0, .slice none 0 0, .slice none 0 0] 130)) := hW
  have BW : Hid (Below w.heap.size w W) := by rw [hW]; exact ((Below.refl _ _).alloc (Nat.le_refl _) _).alloc (by simp) _
  have sW : W.heap.size = w.heap.size + 1 + 1 := by rw [hW]; simp
  have X0 : Hid (W.heap[w.heap.size]? = some (.cells #[.int .i64 num, .int .i64 kind, .slice o2 l.length k2, .slice o3 n3 k3, .slice o4 n4 k4, .slice o5 n5 k5] 68 (0, 0))) := by rw [hW]; exact (Below.heap_alloc _ _ _ (by simp)).trans (heap_alloc_new w _)
  have Y0 : Hid (W.heap[w.heap.size + 1]? = some (.cells #[.int .i64 0, .int .i64 0, .slice none 0 0, .slice none 0 0, .slice none 0 0, .slice none 0 0, .int .i64 0, .int .i64 0, .slice none 0 0, .slice none 0 0, .slice none 0 0, .slice none 0 0] 130 (0, 0))) := by rw [hW]; have := heap_alloc_new (w.alloc (.cells #[.int .i64 num, .int .i64 kind, .slice o2 l.length k2, .slice o3 n3 k3, .slice o4 n4 k4, .slice o5 n5 k5] 68)) (.cells #[.int .i64 0, .int .i64 0, .slice none 0 0, .slice none 0 0, .slice none 0 0, .slice none 0 0, .int .i64 0, .int .i64 0, .slice none 0 0, .slice none 0 0, .slice none 0 0, .slice none 0 0] 130); rw [World.size_alloc] at this; exact this
  have HL : Hid (AtL S W.drew l (.slice o2 l.length k2)) := h.same (Same.of_below BW.out.drew hS)
  clear hW h
  obtain ⟨x0, _⟩ := cell_row X0.out 0 (.int .i64 num) rfl
  have q0 := fun d os => cell_regrown x0 d os
  obtain ⟨x1, _⟩ := cell_row X0.out 1 (.int .i64 kind) rfl
  have q1 := fun d os => cell_regrown x1 d os
  obtain ⟨x2, _⟩ := cell_row X0.out 2 (.slice o2 l.length k2) rfl
  have q2 := fun d os => cell_regrown x2 d os
  obtain ⟨x3, _⟩ := cell_row X0.out 3 (.slice o3 n3 k3) rfl
  have q3 := fun d os => cell_regrown x3 d os
  obtain ⟨x4, _⟩ := cell_row X0.out 4 (.slice o4 n4 k4) rfl
  have q4 := fun d os => cell_regrown x4 d os
  obtain ⟨x5, _⟩ := cell_row X0.out 5 (.slice o5 n5 k5) rfl
  have q5 := fun d os => cell_regrown x5 d os
  have hd : Hid (Below W.heap.size W W.drew) := (Below.refl _ _).drew
  go_enter Tryz.func88, Tryz.ntmps88
  go_upto_region 1 with fail
  rw [← EW.out]
  refine wp_region_mix 9 [0, 1, 2, 3, 4, 5, 7] (by kernel_rfl) (by kernel_rfl) ?_
  simp only [List.filterMap_cons, List.filterMap_nil, List.getElem?_cons_succ, List.getElem?_cons_zero]
  repeat (first | go_big_quiet_step (fail) | quiet_step (fail))
  refine wpQuiet_nil ?_
  clear x0 q0 x1 q1 x2 q2 x3 q3 x4 q4 x5 q5
  refine call1 (md := .any) (f := 1) (i := 6) (dc := 9) (fn := 94) ⟨rfl, rfl, rfl, by decide⟩ (by kernel_rfl) ?run6 ((newWant_any S num kind _ l W.drew HL.out (fun b hb => by have h1 := hS b hb; have h2 := hd.out.size; omega) hl hs).mono ?_)
  case run6 => go_simp
  rintro e w1 ⟨ro, rk, rfl, hr, hb1⟩
  have C1 : Hid (Below W.heap.size W w1) := hd.out.trans (hb1.mono hd.out.size)
  have B1 : Hid (Below w.heap.size w w1) := BW.out.trans (C1.out.mono BW.out.size)
  refine ⟨_, rfl, regrown_of_below C1.out, ?_⟩
  simp only [Act.put, List.setIfInBounds_toArray, List.set_cons_zero, List.set_cons_succ]
  refine anyC_step (f := 0) [8] (by kernel_rfl) (by simp) (one_list ⟨by decide, _, rfl, rfl, .agg #[.int .i64 num, .int .i64 kind, .slice ro l.length rk, .slice none 0 0, .slice none 0 0, .slice none 0 0, .int .i64 num, .int .i64 kind, .slice o2 l.length k2, .slice o3 n3 k3, .slice o4 n4 k4, .slice o5 n5 k5], w1, ?runa, regrown_of_below C1.out, ?_⟩)
  case runa => go_simp
  refine ⟨by kernel_rfl, ?_⟩
  simp only [List.drop_succ_cons, List.drop_zero]
  have s1 := C1.out.size
  have X1 := box_stable C1.out Y0.out
  obtain ⟨y0, f0⟩ := cell_row X1 0 (.int .i64 0) rfl
  obtain ⟨y1, f1⟩ := cell_row X1 1 (.int .i64 0) rfl
  obtain ⟨y2, f2⟩ := cell_row X1 2 (.slice none 0 0) rfl
  obtain ⟨y3, f3⟩ := cell_row X1 3 (.slice none 0 0) rfl
  obtain ⟨y4, f4⟩ := cell_row X1 4 (.slice none 0 0) rfl
  obtain ⟨y5, f5⟩ := cell_row X1 5 (.slice none 0 0) rfl
  obtain ⟨y6, f6⟩ := cell_row X1 6 (.int .i64 0) rfl
  obtain ⟨y7, f7⟩ := cell_row X1 7 (.int .i64 0) rfl
  obtain ⟨y8, f8⟩ := cell_row X1 8 (.slice none 0 0) rfl
  obtain ⟨y9, f9⟩ := cell_row X1 9 (.slice none 0 0) rfl
  obtain ⟨y10, f10⟩ := cell_row X1 10 (.slice none 0 0) rfl
  obtain ⟨y11, f11⟩ := cell_row X1 11 (.slice none 0 0) rfl
  obtain ⟨F0, F1, F2, F3⟩ := ret_12 X1 (.int .i64 num) (.int .i64 kind) (.slice ro l.length rk) (.slice none 0 0) (.slice none 0 0) (.slice none 0 0) (.int .i64 num) (.int .i64 kind) (.slice o2 l.length k2) (.slice o3 n3 k3) (.slice o4 n4 k4) (.slice o5 n5 k5)
  go_wp2_with fail
  obtain ⟨FW, hF⟩ : ∃ u, u = ((((((((((((w1.setCell ⟨w.heap.size + 1, 0, none⟩ (.int .i64 num)).setCell ⟨w.heap.size + 1, 1, none⟩ (.int .i64 kind)).setCell ⟨w.heap.size + 1, 2, none⟩ (.slice ro l.length rk)).setCell ⟨w.heap.size + 1, 3, none⟩ (.slice none 0 0)).setCell ⟨w.heap.size + 1, 4, none⟩ (.slice none 0 0)).setCell ⟨w.heap.size + 1, 5, none⟩ (.slice none 0 0)).setCell ⟨w.heap.size + 1, 6, none⟩ (.int .i64 num)).setCell ⟨w.heap.size + 1, 7, none⟩ (.int .i64 kind)).setCell ⟨w.heap.size + 1, 8, none⟩ (.slice o2 l.length k2)).setCell ⟨w.heap.size + 1, 9, none⟩ (.slice o3 n3 k3)).setCell ⟨w.heap.size + 1, 10, none⟩ (.slice o4 n4 k4)).setCell ⟨w.heap.size + 1, 11, none⟩ (.slice o5 n5 k5)) := ⟨_, rfl⟩
  rw [← hF]
  rw [← hF] at F0 F1 F2 F3
  have t0 := (cell_row F0 0 (.int .i64 num) rfl).1
  have t1 := (cell_row F0 1 (.int .i64 kind) rfl).1
  have t2 := (cell_row F0 2 (.slice ro l.length rk) rfl).1
  have t3 := (cell_row F0 3 (.slice none 0 0) rfl).1
  have t4 := (cell_row F0 4 (.slice none 0 0) rfl).1
  have t5 := (cell_row F0 5 (.slice none 0 0) rfl).1
  have t6 := (cell_row F0 6 (.int .i64 num) rfl).1
  have t7 := (cell_row F0 7 (.int .i64 kind) rfl).1
  have t8 := (cell_row F0 8 (.slice o2 l.length k2) rfl).1
  have t9 := (cell_row F0 9 (.slice o3 n3 k3) rfl).1
  have t10 := (cell_row F0 10 (.slice o4 n4 k4) rfl).1
  have t11 := (cell_row F0 11 (.slice o5 n5 k5) rfl).1
  have BF : Below w.heap.size w FW := B1.out.trans (F3.mono (by omega))
  exact bodyPost_ret (v := .agg #[.int .i64 num, .int .i64 kind, .slice ro l.length rk, .slice none 0 0, .slice none 0 0, .slice none 0 0, .int .i64 num, .int .i64 kind, .slice o2 l.length k2, .slice o3 n3 k3, .slice o4 n4 k4, .slice o5 n5 k5]) (by simp [results, Tryz.results88, go_sem, t0, t1, t2, t3, t4, t5, t6, t7, t8, t9, t10, t11]) rfl ⟨ro, rk, rfl, Go.Joins.ownsRow_le (ownsRow_kept hr (fun g hg => F1 g (by have := (World.ownsRow.lt hr g hg).1; have := hd.out.size; omega))) (by have := hd.out.size; omega), BF⟩

def emB (a b c : Nat) : Bool := decide (a = 0) && decide (b = 0) && decide (c = 0)
set_option maxRecDepth 100000 in
set_option maxHeartbeats 8000000 in
theorem isEmpty_any (num kind : Int) (o2 o3 o4 o5 : Option Addr) (n2 k2 n3 k3 n4 k4 n5 k5 : Nat) (w : World) :
    Calls Tryz.prog 93 #[.agg #[.int .i64 num, .int .i64 kind, .slice o2 n2 k2, .slice o3 n3 k3, .slice o4 n4 k4, .slice o5 n5 k5]] w fun e w' => e = .returned (.bool (emB n3 n4 n5)) ∧ Below w.heap.size w w' := by
  have BW : Hid (Below w.heap.size w (w.alloc (.cells #[.int .i64 num, .int .i64 kind, .slice o2 n2 k2, .slice o3 n3 k3, .slice o4 n4 k4, .slice o5 n5 k5] 68))) := (Below.refl _ _).alloc (Nat.le_refl _) _
  go_enter Tryz.func93, Tryz.ntmps93
  by_cases h3 : n3 = 0
  · subst h3
    by_cases h4 : n4 = 0
    · subst h4
      by_cases h5 : n5 = 0
      · subst h5
        go_wp2_with fail
        go_ret
        exact ⟨by simp [emB], BW.out⟩
      · have g5 : ((n5 : Int) == 0) = false := by simp; omega
        go_wp2_with fail
        go_ret
        exact ⟨by simp [emB, h5], BW.out⟩
    · have g4 : ((n4 : Int) == 0) = false := by simp; omega
      go_wp2_with fail
      go_ret
      exact ⟨by simp [emB, h4], BW.out⟩
  · have g3 : ((n3 : Int) == 0) = false := by simp; omega
    go_wp2_with fail
    go_ret
    exact ⟨by simp [emB, h3], BW.out⟩

end Go.Proofs.YtndacfockllehaaGreat

/-
  The whole want of what is done at places, as data.
-/
namespace Go.Proofs.YtndacfockllehaaGreat
open Go.RowKit

theorem foldl_insR_len : ∀ (L acc : List ByteArray), (L.foldl insR acc).length ≤ acc.length + L.length
  | [], _ => by simp
  | x :: L, acc => by
    have h1 := foldl_insR_len L (insR acc x)
    have h2 := insR_len acc x
    rw [List.foldl_cons, List.length_cons]
    omega
theorem flat_len {f : ByteArray → List ByteArray} {c : Nat} : ∀ (l : List ByteArray), (∀ x ∈ l, (f x).length ≤ c) → (l.flatMap f).length ≤ l.length * c
  | [], _ => by simp
  | x :: l, h => by
    have h1 := flat_len l (fun y hy => h y (List.mem_cons_of_mem _ hy))
    have h2 := h x List.mem_cons_self
    rw [List.flatMap_cons, List.length_append, List.length_cons, Nat.add_mul]
    omega
/-- The names of the valves beside each of a list of places. -/
def besL (D : PD) (l : List ByteArray) : List ByteArray := l.flatMap fun x => besN D.fv x D.nv
theorem bes_len (D : PD) (x : ByteArray) : (besN D.fv x D.nv).length ≤ D.nv := by
  have := List.length_filter_le (fun i => endB (D.fv i) x) (List.range D.nv)
  simp only [besN, List.length_map]
  simpa using this
theorem besL_len (D : PD) (l : List ByteArray) : (besL D l).length ≤ l.length * D.nv := flat_len l (fun x _ => bes_len D x)
theorem besL_snoc (D : PD) (l : List ByteArray) (x : ByteArray) : besL D (l ++ [x]) = besL D l ++ besN D.fv x D.nv := by simp [besL]
/-- The uses, the whole want. -/
def useL (l : List ByteArray) : List DClaimUse := l.map fun x => (x, 3, 0)
theorem useL_snoc (l : List ByteArray) (x : ByteArray) : useL (l ++ [x]) = useL l ++ [(x, 3, 0)] := by simp [useL]
def atD (D : PD) (num kind : Int) (l : List ByteArray) : DClaimWant := (num, kind, [], useL l, [], insA (besL D l))
theorem at_in {D : PD} {num kind : Int} {l : List ByteArray} (h : itsP D l) : WIn D (atD D num kind l) where
  u := fun x hx => by
    obtain ⟨y, hy, rfl⟩ := List.mem_map.1 hx
    obtain ⟨i, hi, rfl⟩ := List.getElem_of_mem hy
    have := (h.2.2 i hi).1
    rw [nthB_at hi] at this
    exact this
  o := fun x hx => nomatch hx
  s := fun x hx => by
    have hx1 : x ∈ besL D l := ((insA_both _).2 x).1 hx
    obtain ⟨y, _, hy⟩ := List.mem_flatMap.1 hx1
    obtain ⟨i, hi, rfl⟩ := List.mem_map.1 hy
    have hi1 := List.mem_range.1 (List.mem_filter.1 hi).1
    unfold valI
    cases e : (List.range D.nv).find? (fun j => eqB (D.fv j).1 (D.fv i).1) with
    | none => exact absurd (List.find?_eq_none.1 e i (List.mem_range.2 hi1)) (by simp [eqB])
    | some k => exact Int.natCast_nonneg k
theorem sum_le {α : Type} [Lay α] {l : List α} {c : Nat} (h : ∀ x ∈ l, Lay.tot x ≤ c) : ∀ k, k ≤ l.length → sumTo l k ≤ k * c := by
  intro k
  induction k with
  | zero => intro _; simp [sumTo]
  | succ k ih =>
    intro hk
    have h1 := ih (by omega)
    have h2 := h (l[k]'(by omega)) (List.getElem_mem _)
    rw [sumTo_succ l k (by omega), Nat.add_mul]
    omega
theorem tot_le {α : Type} [Lay α] {l : List α} {c : Nat} (h : ∀ x ∈ l, Lay.tot x ≤ c) : totL l ≤ l.length + l.length * c := by
  have := sum_le h l.length (Nat.le_refl _)
  unfold totL; omega
theorem its_size {D : PD} (hV : D.V) {l : List ByteArray} (h : itsP D l) {x : ByteArray} (hx : x ∈ l) : x.size ≤ 8 := by
  obtain ⟨i, hi, rfl⟩ := List.getElem_of_mem hx
  have h1 := (h.2.2 i hi).1
  rw [nthB_at hi] at h1
  obtain ⟨k, hk, _, _, he⟩ := place_ix h1
  have := name_size (hV.2.1.2 k hk).1
  rw [← eqB_size he]
  exact this
theorem sh_size {D : PD} (hV : D.V) {l : List ByteArray} {x : ByteArray} (hx : x ∈ insA (besL D l)) : x.size ≤ 8 := by
  have hx1 : x ∈ besL D l := ((insA_both _).2 x).1 hx
  obtain ⟨y, _, hy⟩ := List.mem_flatMap.1 hx1
  obtain ⟨i, hi, rfl⟩ := List.mem_map.1 hy
  exact name_size (hV.2.2.2 i (List.mem_range.1 (List.mem_filter.1 hi).1)).1
theorem at_tot {D : PD} (hV : D.V) {num kind : Int} {l : List ByteArray} (h : itsP D l) : Lay.tot (atD D num kind l) ≤ 1048576 := by
  have hv : D.nv ≤ 18 := hV.2.2.1
  have h8 : l.length ≤ 8 := h.2.1
  have hl1 : (useL l).length = l.length := by simp [useL]
  have hl2 : (insA (besL D l)).length ≤ 144 := by
    have a1 := insA_len (besL D l)
    have a2 := besL_len D l
    have a3 : l.length * D.nv ≤ 8 * 18 := Nat.mul_le_mul h8 hv
    omega
  have t1 : totL (useL l) ≤ (useL l).length + (useL l).length * 8 := tot_le (fun x hx => by
    obtain ⟨y, hy, rfl⟩ := List.mem_map.1 hx
    have := its_size hV h hy
    rw [tot_DClaimUse]
    show y.size + (0 + 0) ≤ 8
    omega)
  have t2 : totL (insA (besL D l)) ≤ (insA (besL D l)).length + (insA (besL D l)).length * 8 := tot_le (fun x hx => sh_size hV hx)
  have t3 : totL ([] : List ByteArray) = 0 := rfl
  rw [tot_DClaimWant]
  show 0 + (0 + (totL ([] : List ByteArray) + (totL (useL l) + (totL ([] : List ByteArray) + totL (insA (besL D l)))))) ≤ _
  rw [t3]
  omega

theorem tot4 {a : DClaimWant} (hm : Lay.tot a ≤ 1048576) : a.2.2.1.length ≤ 1048576 ∧ a.2.2.2.1.length ≤ 1048576 ∧ a.2.2.2.2.1.length ≤ 1048576 ∧ a.2.2.2.2.2.length ≤ 1048576 := by
  rw [tot_DClaimWant] at hm
  have l2 := totL_len a.2.2.1
  have l3 := totL_len a.2.2.2.1
  have l4 := totL_len a.2.2.2.2.1
  have l5 := totL_len a.2.2.2.2.2
  omega

end Go.Proofs.YtndacfockllehaaGreat
