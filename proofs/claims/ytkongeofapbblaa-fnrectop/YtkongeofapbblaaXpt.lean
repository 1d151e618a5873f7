/-
  The program's RecGo: it answers as the model's.
-/
import Derived.Test.YtkongeofapbblaaXpr
import Derived.Test.YtkongeofapbblaaM43
import Derived.Test.YtkongeofapbblaaM45
import Derived.Test.YtkongeofapbblaaM26
namespace Go.Proofs.Ytkongeofapbblaa
open Go.RowKit

set_option maxRecDepth 100000 in
set_option maxHeartbeats 8000000 in
theorem goI_any (S : Nat → Prop) (r : List DRecPhase) (v : Value) (x : ByteArray) (now lf t : Int) (well : Bool) (w : World) (h : AtL S w r v) (hS : ∀ b, S b → b < w.heap.size) (ht : totL r ≤ 1048576) (hx : x.size ≤ 1048576) :
    Calls Try.prog 13 #[v, .agg #[.string x, .int .i64 now, .int .i64 lf], .agg #[.int .i64 t, .bool well]] w fun e w' => e = .returned (.tuple #[.agg #[.string (goS r x now lf t well).1.1, .int .i64 (goS r x now lf t well).1.2.1, .int .i64 (goS r x now lf t well).1.2.2], .bool (goS r x now lf t well).2]) ∧ Below w.heap.size w w' := by
  have HH0 := h
  have HS0 := hS
  have H : Hid (∀ w', Below w.heap.size w w' → AtL S w' r v ∧ ∀ b, S b → b < w'.heap.size) := fun w' hb => ⟨h.same (Same.of_below hb hS), fun b hb' => Nat.lt_of_lt_of_le (hS b hb') hb.size⟩
  obtain ⟨W, hW⟩ : ∃ W, W = (((w.alloc (.cells #[.string x, .int .i64 now, .int .i64 lf] 28)).alloc (.cells #[.int .i64 t, .bool well] 41)).alloc (.cells #[.string ⟨#[]⟩, .int .i64 0, .int .i64 0] 28)) := ⟨_, rfl⟩
  have bW : Hid (Below w.heap.size w W) := by rw [hW]; exact (((Below.refl _ _).alloc (Nat.le_refl _) _).alloc (by simp) _).alloc (by simp; omega) _
  have rW : Hid (W.heap[w.heap.size + 1 + 1]? = some (.cells #[.string ⟨#[]⟩, .int .i64 0, .int .i64 0] 28 (0, 0))) := by
    have := heap_alloc_new ((w.alloc (.cells #[.string x, .int .i64 now, .int .i64 lf] 28)).alloc (.cells #[.int .i64 t, .bool well] 41)) (.cells #[.string ⟨#[]⟩, .int .i64 0, .int .i64 0] 28)
    rw [hW]; show _ = _; simpa using this
  have rS : Hid (W.heap[w.heap.size]? = some (.cells #[.string x, .int .i64 now, .int .i64 lf] 28 (0, 0))) := by
    rw [hW]
    exact (Below.heap_alloc _ _ _ (by simp; omega)).trans ((Below.heap_alloc _ _ _ (by simp)).trans (heap_alloc_new w _))
  have rY : Hid (W.heap[w.heap.size + 1]? = some (.cells #[.int .i64 t, .bool well] 41 (0, 0))) := by
    rw [hW]
    refine (Below.heap_alloc _ _ _ (by simp)).trans ?_
    have := heap_alloc_new (w.alloc (.cells #[.string x, .int .i64 now, .int .i64 lf] 28)) (.cells #[.int .i64 t, .bool well] 41)
    show _ = _
    simpa using this
  have sW : w.heap.size + 1 + 1 + 1 ≤ W.heap.size := by rw [hW]; simp
  have eW : Hid (W = (((w.alloc (.cells #[.string x, .int .i64 now, .int .i64 lf] 28)).alloc (.cells #[.int .i64 t, .bool well] 41)).alloc (.cells #[.string ⟨#[]⟩, .int .i64 0, .int .i64 0] 28))) := hW
  clear hW h hS
  obtain ⟨A, hA⟩ : ∃ A, A = atI r x := ⟨_, rfl⟩
  have AT : Hid (Calls Try.prog 39 #[v, .string x] W fun e w' => e = .returned (.int .i64 A) ∧ Below W.heap.size W w') := by rw [hA]; exact phAt_any S r v x W (H.out W bW.out).1 (H.out W bW.out).2
  have OK : Hid (∀ u, Below w.heap.size w u → Calls Try.prog 28 #[v] u fun e w' => e = .returned (.bool (recB r)) ∧ Below u.heap.size u w') := fun u hu => okI_any S r v u (H.out u hu).1 (H.out u hu).2 ht
  cases c : recB r
  · rw [show goS r x now lf t well = ((x, now, lf), false) by simp [goS, c]]
    clear hA
    go_enter Try.func13, Try.ntmps13
    go_wp2_with fail
    rw [← eW.out]
    refine AT.out.mono ?_; rintro e u0 ⟨rfl, hb0⟩
    have B0 : Hid (Below W.heap.size W u0) := hb0
    have B0w : Hid (Below w.heap.size w u0) := bW.out.trans (hb0.mono bW.out.size)
    clear hb0
    go_wp2_with fail
    refine (OK.out u0 B0w.out).mono ?_; rintro e u ⟨rfl, hb⟩
    rw [c]
    have BU : Hid (Below W.heap.size W u) := B0.out.trans (hb.mono B0.out.size)
    have bU : Hid (Below w.heap.size w u) := bW.out.trans (BU.out.mono bW.out.size)
    clear hb B0 B0w
    have rowS : Hid (u.heap[w.heap.size]? = some (.cells #[.string x, .int .i64 now, .int .i64 lf] 28 (0, 0))) := (BU.out.block _ (by omega)).trans rS.out
    have rowZ : Hid (u.heap[w.heap.size + 1 + 1]? = some (.cells #[.string ⟨#[]⟩, .int .i64 0, .int .i64 0] 28 (0, 0))) := (BU.out.block _ (by omega)).trans rW.out
    have y0 := (cell_row rowS.out 0 (.string x) rfl).1
    have y1 := (cell_row rowS.out 1 (.int .i64 now) rfl).1
    have y2 := (cell_row rowS.out 2 (.int .i64 lf) rfl).1
    have sU : w.heap.size + 1 + 1 + 1 ≤ u.heap.size := by have := BU.out.size; omega
    go_upto_region 3 with fail
    have q0 := fun d os => cell_regrown y0 d os
    have q1 := fun d os => cell_regrown y1 d os
    have q2 := fun d os => cell_regrown y2 d os
    refine wp_region_mix 7 [0, 1, 3, 4, 5, 6] (by kernel_rfl) (by kernel_rfl) ?_
    simp only [List.filterMap_cons, List.filterMap_nil, List.getElem?_cons_succ, List.getElem?_cons_zero]
    repeat (first | go_big_quiet_step (fail) | quiet_step (fail))
    refine wpQuiet_nil ?_
    have C1 : Hid _ := clones_any x u.drew hx
    refine call1 (md := .any) (f := 0) (i := 2) (dc := 33) (fn := 40) ⟨rfl, rfl, rfl, by decide⟩ (by kernel_rfl) ?run (Calls.mono C1.out ?_)
    case run => go_simp
    rintro e u3 ⟨rfl, hb3⟩
    have B3 : Below u.heap.size u u3 := ((Below.refl _ _).drew).trans hb3
    refine ⟨_, rfl, regrown_of_below B3, ?_⟩
    simp only [Act.put, List.setIfInBounds_toArray, List.set_cons_zero, List.set_cons_succ]
    refine ⟨by kernel_rfl, ?_⟩
    simp only [List.drop_succ_cons, List.drop_zero]
    have bU3 : Below w.heap.size w u3 := bU.out.trans (B3.mono bU.out.size)
    have row : u3.heap[w.heap.size + 1 + 1]? = some (.cells #[.string ⟨#[]⟩, .int .i64 0, .int .i64 0] 28 (0, 0)) := (B3.block _ (by omega)).trans rowZ.out
    clear B3 hb3 C1 q0 q1 q2 y0 y1 y2
    obtain ⟨p0, g0⟩ := cell_row row 0 _ rfl
    obtain ⟨p1, g1⟩ := cell_row row 1 _ rfl
    obtain ⟨p2, g2⟩ := cell_row row 2 _ rfl
    have fin := set_row (set_row (set_row row 0 (.string x)) 1 (.int .i64 now)) 2 (.int .i64 lf)
    have f0 := (cell_row fin 0 (.string x) rfl).1
    have f1 := (cell_row fin 1 (.int .i64 now) rfl).1
    have f2 := (cell_row fin 2 (.int .i64 lf) rfl).1
    have bF := (((bU3.setCell (p := ⟨w.heap.size + 1 + 1, 0, none⟩) (by show w.heap.size ≤ w.heap.size + 1 + 1; omega) (.string x)).setCell (p := ⟨w.heap.size + 1 + 1, 1, none⟩) (by show w.heap.size ≤ w.heap.size + 1 + 1; omega) (.int .i64 now)).setCell (p := ⟨w.heap.size + 1 + 1, 2, none⟩) (by show w.heap.size ≤ w.heap.size + 1 + 1; omega) (.int .i64 lf))
    clear row fin
    go_wp2_with fail
    exact bodyPost_ret (v := .tuple #[.agg #[.string x, .int .i64 now, .int .i64 lf], .bool false]) (by simp [results, Try.results13, go_sem, f0, f1, f2]) rfl ⟨rfl, bF⟩
  · rcases at_cases r x with e | ⟨k, hk, e, _⟩
    · rw [show goS r x now lf t well = ((x, now, lf), false) by simp [goS, e]]
      rw [e] at hA
      subst hA
      go_enter Try.func13, Try.ntmps13
      go_wp2_with fail
      rw [← eW.out]
      refine AT.out.mono ?_; rintro e u0 ⟨rfl, hb0⟩
      have B0 : Hid (Below W.heap.size W u0) := hb0
      have B0w : Hid (Below w.heap.size w u0) := bW.out.trans (hb0.mono bW.out.size)
      clear hb0
      go_wp2_with fail
      refine (OK.out u0 B0w.out).mono ?_; rintro e u ⟨rfl, hb⟩
      rw [c]
      have BU : Hid (Below W.heap.size W u) := B0.out.trans (hb.mono B0.out.size)
      have bU : Hid (Below w.heap.size w u) := bW.out.trans (BU.out.mono bW.out.size)
      clear hb B0 B0w
      have rowS : Hid (u.heap[w.heap.size]? = some (.cells #[.string x, .int .i64 now, .int .i64 lf] 28 (0, 0))) := (BU.out.block _ (by omega)).trans rS.out
      have rowZ : Hid (u.heap[w.heap.size + 1 + 1]? = some (.cells #[.string ⟨#[]⟩, .int .i64 0, .int .i64 0] 28 (0, 0))) := (BU.out.block _ (by omega)).trans rW.out
      have y0 := (cell_row rowS.out 0 (.string x) rfl).1
      have y1 := (cell_row rowS.out 1 (.int .i64 now) rfl).1
      have y2 := (cell_row rowS.out 2 (.int .i64 lf) rfl).1
      have sU : w.heap.size + 1 + 1 + 1 ≤ u.heap.size := by have := BU.out.size; omega
      go_upto_region 3 with fail
      have q0 := fun d os => cell_regrown y0 d os
      have q1 := fun d os => cell_regrown y1 d os
      have q2 := fun d os => cell_regrown y2 d os
      refine wp_region_mix 7 [0, 1, 3, 4, 5, 6] (by kernel_rfl) (by kernel_rfl) ?_
      simp only [List.filterMap_cons, List.filterMap_nil, List.getElem?_cons_succ, List.getElem?_cons_zero]
      repeat (first | go_big_quiet_step (fail) | quiet_step (fail))
      refine wpQuiet_nil ?_
      have C1 : Hid _ := clones_any x u.drew hx
      refine call1 (md := .any) (f := 0) (i := 2) (dc := 33) (fn := 40) ⟨rfl, rfl, rfl, by decide⟩ (by kernel_rfl) ?run (Calls.mono C1.out ?_)
      case run => go_simp
      rintro e u3 ⟨rfl, hb3⟩
      have B3 : Below u.heap.size u u3 := ((Below.refl _ _).drew).trans hb3
      refine ⟨_, rfl, regrown_of_below B3, ?_⟩
      simp only [Act.put, List.setIfInBounds_toArray, List.set_cons_zero, List.set_cons_succ]
      refine ⟨by kernel_rfl, ?_⟩
      simp only [List.drop_succ_cons, List.drop_zero]
      have bU3 : Below w.heap.size w u3 := bU.out.trans (B3.mono bU.out.size)
      have row : u3.heap[w.heap.size + 1 + 1]? = some (.cells #[.string ⟨#[]⟩, .int .i64 0, .int .i64 0] 28 (0, 0)) := (B3.block _ (by omega)).trans rowZ.out
      clear B3 hb3 C1 q0 q1 q2 y0 y1 y2
      obtain ⟨p0, g0⟩ := cell_row row 0 _ rfl
      obtain ⟨p1, g1⟩ := cell_row row 1 _ rfl
      obtain ⟨p2, g2⟩ := cell_row row 2 _ rfl
      have fin := set_row (set_row (set_row row 0 (.string x)) 1 (.int .i64 now)) 2 (.int .i64 lf)
      have f0 := (cell_row fin 0 (.string x) rfl).1
      have f1 := (cell_row fin 1 (.int .i64 now) rfl).1
      have f2 := (cell_row fin 2 (.int .i64 lf) rfl).1
      have bF := (((bU3.setCell (p := ⟨w.heap.size + 1 + 1, 0, none⟩) (by show w.heap.size ≤ w.heap.size + 1 + 1; omega) (.string x)).setCell (p := ⟨w.heap.size + 1 + 1, 1, none⟩) (by show w.heap.size ≤ w.heap.size + 1 + 1; omega) (.int .i64 now)).setCell (p := ⟨w.heap.size + 1 + 1, 2, none⟩) (by show w.heap.size ≤ w.heap.size + 1 + 1; omega) (.int .i64 lf))
      clear row fin
      go_wp2_with fail
      exact bodyPost_ret (v := .tuple #[.agg #[.string x, .int .i64 now, .int .i64 lf], .bool false]) (by simp [results, Try.results13, go_sem, f0, f1, f2]) rfl ⟨rfl, bF⟩
    · rw [e] at hA
      subst hA
      by_cases n0 : now < 0
      · rw [show goS r x now lf t well = ((x, now, lf), false) by simp [goS, inB]; omega]
        go_enter Try.func13, Try.ntmps13
        go_wp2_with fail
        rw [← eW.out]
        refine AT.out.mono ?_; rintro e u0 ⟨rfl, hb0⟩
        have B0 : Hid (Below W.heap.size W u0) := hb0
        have B0w : Hid (Below w.heap.size w u0) := bW.out.trans (hb0.mono bW.out.size)
        clear hb0
        go_wp2_with fail
        refine (OK.out u0 B0w.out).mono ?_; rintro e u ⟨rfl, hb⟩
        rw [c]
        have BU : Hid (Below W.heap.size W u) := B0.out.trans (hb.mono B0.out.size)
        have bU : Hid (Below w.heap.size w u) := bW.out.trans (BU.out.mono bW.out.size)
        clear hb B0 B0w
        have rowS : Hid (u.heap[w.heap.size]? = some (.cells #[.string x, .int .i64 now, .int .i64 lf] 28 (0, 0))) := (BU.out.block _ (by omega)).trans rS.out
        have rowZ : Hid (u.heap[w.heap.size + 1 + 1]? = some (.cells #[.string ⟨#[]⟩, .int .i64 0, .int .i64 0] 28 (0, 0))) := (BU.out.block _ (by omega)).trans rW.out
        have y0 := (cell_row rowS.out 0 (.string x) rfl).1
        have y1 := (cell_row rowS.out 1 (.int .i64 now) rfl).1
        have y2 := (cell_row rowS.out 2 (.int .i64 lf) rfl).1
        have sU : w.heap.size + 1 + 1 + 1 ≤ u.heap.size := by have := BU.out.size; omega
        go_upto_region 3 with fail
        have q0 := fun d os => cell_regrown y0 d os
        have q1 := fun d os => cell_regrown y1 d os
        have q2 := fun d os => cell_regrown y2 d os
        refine wp_region_mix 7 [0, 1, 3, 4, 5, 6] (by kernel_rfl) (by kernel_rfl) ?_
        simp only [List.filterMap_cons, List.filterMap_nil, List.getElem?_cons_succ, List.getElem?_cons_zero]
        repeat (first | go_big_quiet_step (fail) | quiet_step (fail))
        refine wpQuiet_nil ?_
        have C1 : Hid _ := clones_any x u.drew hx
        refine call1 (md := .any) (f := 0) (i := 2) (dc := 33) (fn := 40) ⟨rfl, rfl, rfl, by decide⟩ (by kernel_rfl) ?run (Calls.mono C1.out ?_)
        case run => go_simp
        rintro e u3 ⟨rfl, hb3⟩
        have B3 : Below u.heap.size u u3 := ((Below.refl _ _).drew).trans hb3
        refine ⟨_, rfl, regrown_of_below B3, ?_⟩
        simp only [Act.put, List.setIfInBounds_toArray, List.set_cons_zero, List.set_cons_succ]
        refine ⟨by kernel_rfl, ?_⟩
        simp only [List.drop_succ_cons, List.drop_zero]
        have bU3 : Below w.heap.size w u3 := bU.out.trans (B3.mono bU.out.size)
        have row : u3.heap[w.heap.size + 1 + 1]? = some (.cells #[.string ⟨#[]⟩, .int .i64 0, .int .i64 0] 28 (0, 0)) := (B3.block _ (by omega)).trans rowZ.out
        clear B3 hb3 C1 q0 q1 q2 y0 y1 y2
        obtain ⟨p0, g0⟩ := cell_row row 0 _ rfl
        obtain ⟨p1, g1⟩ := cell_row row 1 _ rfl
        obtain ⟨p2, g2⟩ := cell_row row 2 _ rfl
        have fin := set_row (set_row (set_row row 0 (.string x)) 1 (.int .i64 now)) 2 (.int .i64 lf)
        have f0 := (cell_row fin 0 (.string x) rfl).1
        have f1 := (cell_row fin 1 (.int .i64 now) rfl).1
        have f2 := (cell_row fin 2 (.int .i64 lf) rfl).1
        have bF := (((bU3.setCell (p := ⟨w.heap.size + 1 + 1, 0, none⟩) (by show w.heap.size ≤ w.heap.size + 1 + 1; omega) (.string x)).setCell (p := ⟨w.heap.size + 1 + 1, 1, none⟩) (by show w.heap.size ≤ w.heap.size + 1 + 1; omega) (.int .i64 now)).setCell (p := ⟨w.heap.size + 1 + 1, 2, none⟩) (by show w.heap.size ≤ w.heap.size + 1 + 1; omega) (.int .i64 lf))
        clear row fin
        go_wp2_with fail
        exact bodyPost_ret (v := .tuple #[.agg #[.string x, .int .i64 now, .int .i64 lf], .bool false]) (by simp [results, Try.results13, go_sem, f0, f1, f2]) rfl ⟨rfl, bF⟩
      by_cases n1 : 12000 < now
      · rw [show goS r x now lf t well = ((x, now, lf), false) by simp [goS, inB]; omega]
        go_enter Try.func13, Try.ntmps13
        go_wp2_with fail
        rw [← eW.out]
        refine AT.out.mono ?_; rintro e u0 ⟨rfl, hb0⟩
        have B0 : Hid (Below W.heap.size W u0) := hb0
        have B0w : Hid (Below w.heap.size w u0) := bW.out.trans (hb0.mono bW.out.size)
        clear hb0
        go_wp2_with fail
        refine (OK.out u0 B0w.out).mono ?_; rintro e u ⟨rfl, hb⟩
        rw [c]
        have BU : Hid (Below W.heap.size W u) := B0.out.trans (hb.mono B0.out.size)
        have bU : Hid (Below w.heap.size w u) := bW.out.trans (BU.out.mono bW.out.size)
        clear hb B0 B0w
        have rowS : Hid (u.heap[w.heap.size]? = some (.cells #[.string x, .int .i64 now, .int .i64 lf] 28 (0, 0))) := (BU.out.block _ (by omega)).trans rS.out
        have rowZ : Hid (u.heap[w.heap.size + 1 + 1]? = some (.cells #[.string ⟨#[]⟩, .int .i64 0, .int .i64 0] 28 (0, 0))) := (BU.out.block _ (by omega)).trans rW.out
        have y0 := (cell_row rowS.out 0 (.string x) rfl).1
        have y1 := (cell_row rowS.out 1 (.int .i64 now) rfl).1
        have y2 := (cell_row rowS.out 2 (.int .i64 lf) rfl).1
        have sU : w.heap.size + 1 + 1 + 1 ≤ u.heap.size := by have := BU.out.size; omega
        go_upto_region 3 with fail
        have q0 := fun d os => cell_regrown y0 d os
        have q1 := fun d os => cell_regrown y1 d os
        have q2 := fun d os => cell_regrown y2 d os
        refine wp_region_mix 7 [0, 1, 3, 4, 5, 6] (by kernel_rfl) (by kernel_rfl) ?_
        simp only [List.filterMap_cons, List.filterMap_nil, List.getElem?_cons_succ, List.getElem?_cons_zero]
        repeat (first | go_big_quiet_step (fail) | quiet_step (fail))
        refine wpQuiet_nil ?_
        have C1 : Hid _ := clones_any x u.drew hx
        refine call1 (md := .any) (f := 0) (i := 2) (dc := 33) (fn := 40) ⟨rfl, rfl, rfl, by decide⟩ (by kernel_rfl) ?run (Calls.mono C1.out ?_)
        case run => go_simp
        rintro e u3 ⟨rfl, hb3⟩
        have B3 : Below u.heap.size u u3 := ((Below.refl _ _).drew).trans hb3
        refine ⟨_, rfl, regrown_of_below B3, ?_⟩
        simp only [Act.put, List.setIfInBounds_toArray, List.set_cons_zero, List.set_cons_succ]
        refine ⟨by kernel_rfl, ?_⟩
        simp only [List.drop_succ_cons, List.drop_zero]
        have bU3 : Below w.heap.size w u3 := bU.out.trans (B3.mono bU.out.size)
        have row : u3.heap[w.heap.size + 1 + 1]? = some (.cells #[.string ⟨#[]⟩, .int .i64 0, .int .i64 0] 28 (0, 0)) := (B3.block _ (by omega)).trans rowZ.out
        clear B3 hb3 C1 q0 q1 q2 y0 y1 y2
        obtain ⟨p0, g0⟩ := cell_row row 0 _ rfl
        obtain ⟨p1, g1⟩ := cell_row row 1 _ rfl
        obtain ⟨p2, g2⟩ := cell_row row 2 _ rfl
        have fin := set_row (set_row (set_row row 0 (.string x)) 1 (.int .i64 now)) 2 (.int .i64 lf)
        have f0 := (cell_row fin 0 (.string x) rfl).1
        have f1 := (cell_row fin 1 (.int .i64 now) rfl).1
        have f2 := (cell_row fin 2 (.int .i64 lf) rfl).1
        have bF := (((bU3.setCell (p := ⟨w.heap.size + 1 + 1, 0, none⟩) (by show w.heap.size ≤ w.heap.size + 1 + 1; omega) (.string x)).setCell (p := ⟨w.heap.size + 1 + 1, 1, none⟩) (by show w.heap.size ≤ w.heap.size + 1 + 1; omega) (.int .i64 now)).setCell (p := ⟨w.heap.size + 1 + 1, 2, none⟩) (by show w.heap.size ≤ w.heap.size + 1 + 1; omega) (.int .i64 lf))
        clear row fin
        go_wp2_with fail
        exact bodyPost_ret (v := .tuple #[.agg #[.string x, .int .i64 now, .int .i64 lf], .bool false]) (by simp [results, Try.results13, go_sem, f0, f1, f2]) rfl ⟨rfl, bF⟩
      have hi : inB now 0 12000 = true := by simp [inB]; omega
      have hR := rec_iff.1 c
      have hst := step_of hR hk
      have hwi := (ph_name hst.1).2.2.1
      have hgo := ph_goes hst.1
      have hle := goT_le r[k] t well hwi
      have hgs : goS r x now lf t well = ((nxT r[k] (goT r[k] t well).2, now + (goT r[k] t well).1, bndF 12 r (nxT r[k] (goT r[k] t well).2)), true) := by
        have e' : 0 ≤ atI r x := by omega
        simp only [goS]
        rw [if_pos ⟨c, e', hi⟩, ph_at hk e]
      rw [hgs]
      have hnx : (nxT r[k] (goT r[k] t well).2).size ≤ 1048576 := by
        unfold nxT
        split <;> omega
      clear hgs hi e
      obtain ⟨f, ef⟩ : ∃ f, r[k] = f := ⟨_, rfl⟩
      rw [ef] at hwi hle hnx
      rw [ef]
      obtain ⟨oa, cap, ev, hxx⟩ := id HH0
      subst ev
      obtain ⟨bb, off, rfl, hbS, cc, hcell, hat⟩ := hxx.2 k hk
      clear hxx HH0
      have hb' := HS0 bb hbS
      rw [width_DRecPhase] at hcell
      rw [at_DRecPhase, ef] at hat
      obtain ⟨nm, kd, a, b, n, wi, th, el⟩ := f
      obtain ⟨⟨q0, z0⟩, ⟨q1, _, _⟩, ⟨q2, z2⟩, ⟨q3, z3⟩, ⟨q4, _, _⟩, ⟨q5, _, _⟩, ⟨q6, z6⟩, ⟨q7, z7⟩⟩ := hat
      simp only at q0 q1 q2 q3 q4 q5 q6 q7 hwi
      have E : Hid (∀ u, Below w.heap.size w u → u.cell? ⟨bb, off + k * 8, none⟩ = some (.string nm) ∧ u.cell? ⟨bb, off + k * 8 + 1, none⟩ = some (.int .i64 kd) ∧ u.cell? ⟨bb, off + k * 8 + 2, none⟩ = some (.string a) ∧ u.cell? ⟨bb, off + k * 8 + 3, none⟩ = some (.string b) ∧ u.cell? ⟨bb, off + k * 8 + 4, none⟩ = some (.int .i64 n) ∧ u.cell? ⟨bb, off + k * 8 + 5, none⟩ = some (.int .i64 wi) ∧ u.cell? ⟨bb, off + k * 8 + 6, none⟩ = some (.string th) ∧ u.cell? ⟨bb, off + k * 8 + 7, none⟩ = some (.string el)) := fun u hu => by
        rw [← q0, ← q1, ← q2, ← q3, ← q4, ← q5, ← q6, ← q7]
        exact ⟨(hu.cell hb').trans (hcell 0 (by omega)), (hu.cell hb').trans (hcell 1 (by omega)), (hu.cell hb').trans (hcell 2 (by omega)), (hu.cell hb').trans (hcell 3 (by omega)), (hu.cell hb').trans (hcell 4 (by omega)), (hu.cell hb').trans (hcell 5 (by omega)), (hu.cell hb').trans (hcell 6 (by omega)), (hu.cell hb').trans (hcell 7 (by omega))⟩
      clear q0 q1 q2 q3 q4 q5 q6 q7 hcell z0 z2 z3 z6 z7
      have WE : Hid (∀ u, Calls Try.prog 41 #[.agg #[.string nm, .int .i64 kd, .string a, .string b, .int .i64 n, .int .i64 wi, .string th, .string el], .agg #[.int .i64 t, .bool well]] u fun e w' => e = .returned (.agg #[.int .i64 (goT (nm, kd, a, b, n, wi, th, el) t well).1, .bool (goT (nm, kd, a, b, n, wi, th, el) t well).2]) ∧ Below u.heap.size u w') := fun u => went_any nm a b th el kd n wi t well u hwi.1
      have STT : Hid (∀ u, Below w.heap.size w u → Calls Try.prog 38 #[.slice (some ⟨bb, off, none⟩) r.length cap, .string (nxT (nm, kd, a, b, n, wi, th, el) (goT (nm, kd, a, b, n, wi, th, el) t well).2), .int .i64 (now + (goT (nm, kd, a, b, n, wi, th, el) t well).1)] u fun e w' => e = .returned (.agg #[.string (nxT (nm, kd, a, b, n, wi, th, el) (goT (nm, kd, a, b, n, wi, th, el) t well).2), .int .i64 (now + (goT (nm, kd, a, b, n, wi, th, el) t well).1), .int .i64 (bndF 12 r (nxT (nm, kd, a, b, n, wi, th, el) (goT (nm, kd, a, b, n, wi, th, el) t well).2))]) ∧ Below u.heap.size u w') := fun u hu => stateI_any S r c _ _ _ u (H.out u hu).1 (H.out u hu).2 ht hnx
      obtain ⟨⟨T, wl⟩, hT⟩ : ∃ T, T = goT (nm, kd, a, b, n, wi, th, el) t well := ⟨_, rfl⟩
      rw [← hT] at WE STT hle
      rw [← hT]
      simp only at WE STT hle
      obtain ⟨hle0, hle1⟩ := hle
      simp only
      obtain ⟨nx, hnx'⟩ : ∃ nx, nx = nxT (nm, kd, a, b, n, wi, th, el) wl := ⟨_, rfl⟩
      rw [← hnx'] at STT
      rw [← hnx']
      have NX : Hid (nx = nxT (nm, kd, a, b, n, wi, th, el) wl) := hnx'
      obtain ⟨R, hRR⟩ : ∃ R, R = bndF 12 r nx := ⟨_, rfl⟩
      rw [← hRR] at STT
      rw [← hRR]
      obtain ⟨nl, en⟩ : ∃ nl, r.length = nl := ⟨_, rfl⟩
      have hnl : nl ≤ 12 := by have := hR.1; omega
      rw [en] at STT AT OK hk H
      rw [en]
      clear hRR hnx' hT hnx ef hR hst hgo en hwi
      go_enter Try.func13, Try.ntmps13
      go_wp2_with fail
      rw [← eW.out]
      refine AT.out.mono ?_; rintro e u0 ⟨rfl, hb0⟩
      have B0 : Hid (Below W.heap.size W u0) := hb0
      have B0w : Hid (Below w.heap.size w u0) := bW.out.trans (hb0.mono bW.out.size)
      clear hb0
      go_wp2_with fail
      refine (OK.out u0 B0w.out).mono ?_; rintro e u ⟨rfl, hb⟩
      rw [c]
      have BU : Hid (Below W.heap.size W u) := B0.out.trans (hb.mono B0.out.size)
      have bU : Hid (Below w.heap.size w u) := bW.out.trans (BU.out.mono bW.out.size)
      clear hb B0 B0w
      have rowS : Hid (u.heap[w.heap.size]? = some (.cells #[.string x, .int .i64 now, .int .i64 lf] 28 (0, 0))) := (BU.out.block _ (by omega)).trans rS.out
      have rowZ : Hid (u.heap[w.heap.size + 1 + 1]? = some (.cells #[.string ⟨#[]⟩, .int .i64 0, .int .i64 0] 28 (0, 0))) := (BU.out.block _ (by omega)).trans rW.out
      have y0 := (cell_row rowS.out 0 (.string x) rfl).1
      have y1 := (cell_row rowS.out 1 (.int .i64 now) rfl).1
      have y2 := (cell_row rowS.out 2 (.int .i64 lf) rfl).1
      have sU : w.heap.size + 1 + 1 + 1 ≤ u.heap.size := by have := BU.out.size; omega
      obtain ⟨x0, x1, x2, x3, x4, x5, x6, x7⟩ := E.out u bU.out
      have rowY : Hid (u.heap[w.heap.size + 1]? = some (.cells #[.int .i64 t, .bool well] 41 (0, 0))) := (BU.out.block _ (by omega)).trans rY.out
      have v0 := (cell_row rowY.out 0 (.int .i64 t) rfl).1
      have v1 := (cell_row rowY.out 1 (.bool well) rfl).1
      go_upto_region 4 with fail
      have qx0 := fun d os => cell_regrown x0 d os
      have qx1 := fun d os => cell_regrown x1 d os
      have qx2 := fun d os => cell_regrown x2 d os
      have qx3 := fun d os => cell_regrown x3 d os
      have qx4 := fun d os => cell_regrown x4 d os
      have qx5 := fun d os => cell_regrown x5 d os
      have qx6 := fun d os => cell_regrown x6 d os
      have qx7 := fun d os => cell_regrown x7 d os
      have qv0 := fun d os => cell_regrown v0 d os
      have qv1 := fun d os => cell_regrown v1 d os
      refine wp_region_head 7 [0, 1, 2, 3, 4] (by kernel_rfl) (by kernel_rfl) ?_
      simp only [List.filterMap_cons, List.filterMap_nil, List.getElem?_cons_succ, List.getElem?_cons_zero]
      repeat (first | go_big_quiet_step (fail) | quiet_step (fail))
      refine wpQuiet_nil ?_
      clear qx0 x0 qx1 x1 qx2 x2 qx3 x3 qx4 x4 qx5 x5 qx6 x6 qx7 x7 qv0 v0 qv1 v1 y0 y1 y2
      have hdr : Hid (Below u.heap.size u u.drew) := (Below.refl _ _).drew
      refine callAlloc (ic := 5) (ia := 6) (dc := 44) (da := 9) (fn := 41) (args := #[.agg #[.string nm, .int .i64 kd, .string a, .string b, .int .i64 n, .int .i64 wi, .string th, .string el], .agg #[.int .i64 t, .bool well]]) #[.int .i64 0, .bool false] 41 (fun v _ _ => v = .agg #[.int .i64 T, .bool wl]) ⟨rfl, rfl, rfl, by decide⟩ ⟨rfl, rfl, rfl, by decide⟩ ⟨by decide, by decide⟩ (by kernel_rfl) (by kernel_rfl) (by kernel_rfl) (fun u' hu => regrown_of_below (hdr.out.trans hu)) ?run ?run2 ?con ?exa ?K
      case run => intro u'; go_simp
      case run2 => intro v u'; go_simp
      case con =>
        intro u' hu
        exact (WE.out u').mono (fun e w' ⟨he, hb⟩ => ⟨_, he, rfl, hb⟩)
      case exa => intro b u'; go_simp
      case K =>
        intro v' pB u1 u2 u' hb1 hp hb2 hb3 hne hbox hpl hbu
        subst hp
        refine ⟨by kernel_rfl, ?_⟩
        simp only [Act.put, List.setIfInBounds_toArray, List.set_cons_zero, List.set_cons_succ, List.drop_succ_cons, List.drop_zero]
        obtain ⟨l0, f0⟩ := cell_row hbox 0 (.int .i64 0) rfl
        obtain ⟨l1, f1⟩ := cell_row hbox 1 (.bool false) rfl
        have hpu : u.heap.size ≤ pB := hpl
        have bu' : Below u.heap.size u u' := hdr.out.trans hbu
        have G4 : Hid (((u'.setCell ⟨pB, 0, none⟩ (.int .i64 T)).setCell ⟨pB, 1, none⟩ (.bool wl)).heap[pB]? = some (.cells #[.int .i64 T, .bool wl] 41 (0, 0))) := set_row (set_row hbox 0 (.int .i64 T)) 1 (.bool wl)
        have B4 : Hid (Below u.heap.size u ((u'.setCell ⟨pB, 0, none⟩ (.int .i64 T)).setCell ⟨pB, 1, none⟩ (.bool wl))) := (bu'.setCell (p := ⟨pB, 0, none⟩) hpu _).setCell (p := ⟨pB, 1, none⟩) hpu _
        go_upto_region 5 with fail
        clear l0 l1 f0 f1 bu' hbu hbox hb1 hb2 hb3 hne hpl
        generalize (u'.setCell ⟨pB, 0, none⟩ (.int .i64 T)).setCell ⟨pB, 1, none⟩ (.bool wl) = U at G4 B4 ⊢
        have bV : Hid (Below w.heap.size w U) := bU.out.trans (B4.out.mono bU.out.size)
        obtain ⟨x0, x1, x2, x3, x4, x5, x6, x7⟩ := E.out U bV.out
        have y1 := (cell_row ((B4.out.block _ (by omega)).trans rowS.out) 1 (.int .i64 now) rfl).1
        have m0 := (cell_row G4.out 0 (.int .i64 T) rfl).1
        have m1 := (cell_row G4.out 1 (.bool wl) rfl).1
        have qx0 := fun d os => cell_regrown x0 d os
        have qx1 := fun d os => cell_regrown x1 d os
        have qx2 := fun d os => cell_regrown x2 d os
        have qx3 := fun d os => cell_regrown x3 d os
        have qx4 := fun d os => cell_regrown x4 d os
        have qx5 := fun d os => cell_regrown x5 d os
        have qx6 := fun d os => cell_regrown x6 d os
        have qx7 := fun d os => cell_regrown x7 d os
        have qy1 := fun d os => cell_regrown y1 d os
        have qm0 := fun d os => cell_regrown m0 d os
        have qm1 := fun d os => cell_regrown m1 d os
        refine wp_region_mix 14 [0, 1, 2, 3, 4, 5, 6, 8, 9, 10, 11, 12] (by kernel_rfl) (by kernel_rfl) ?_
        simp only [List.filterMap_cons, List.filterMap_nil, List.getElem?_cons_succ, List.getElem?_cons_zero]
        repeat (first | go_big_quiet_step (fail) | quiet_step (fail))
        refine wpQuiet_nil ?_
        clear qx0 x0 qx1 x1 qx2 x2 qx3 x3 qx4 x4 qx5 x5 qx6 x6 qx7 x7 qy1 y1 qm0 m0 qm1 m1
        have C1 : Hid _ := goesOn_any nm a b th el kd n wi wl U.drew
        refine call1 (md := .any) (f := 1) (i := 7) (dc := 52) (fn := 42) ⟨rfl, rfl, rfl, by decide⟩ (by kernel_rfl) ?run1 (Calls.mono C1.out ?_)
        case run1 => go_simp
        rintro e u3 ⟨rfl, hb3⟩
        have B5 : Hid (Below U.heap.size U u3) := ((Below.refl _ _).drew).trans hb3
        clear hb3 C1
        refine ⟨_, rfl, regrown_of_below B5.out, ?_⟩
        simp only [Act.put, List.setIfInBounds_toArray, List.set_cons_zero, List.set_cons_succ]
        rw [← NX.out]
        have C2 : Hid _ := STT.out u3 (bV.out.trans (B5.out.mono bV.out.size))
        refine call1 (md := .any) (f := 0) (i := 13) (dc := 58) (fn := 38) ⟨rfl, rfl, rfl, by decide⟩ (by kernel_rfl) ?run2b (Calls.mono C2.out ?_)
        case run2b => (go_simp <;> exact IntWalk.i64_in _ (by omega))
        rintro e u4 ⟨rfl, hb4⟩
        have B6 : Below U.heap.size U u4 := B5.out.trans (hb4.mono B5.out.size)
        refine ⟨_, rfl, regrown_of_below B6, ?_⟩
        simp only [Act.put, List.setIfInBounds_toArray, List.set_cons_zero, List.set_cons_succ]
        refine ⟨by kernel_rfl, ?_⟩
        simp only [List.drop_succ_cons, List.drop_zero]
        have bU3 : Below w.heap.size w u4 := bV.out.trans (B6.mono bV.out.size)
        have row : u4.heap[w.heap.size + 1 + 1]? = some (.cells #[.string ⟨#[]⟩, .int .i64 0, .int .i64 0] 28 (0, 0)) := (B6.block _ (by have := B4.out.size; omega)).trans ((B4.out.block _ (by omega)).trans rowZ.out)
        clear B6 hb4 C2
        obtain ⟨p0, g0⟩ := cell_row row 0 _ rfl
        obtain ⟨p1, g1⟩ := cell_row row 1 _ rfl
        obtain ⟨p2, g2⟩ := cell_row row 2 _ rfl
        have fin := set_row (set_row (set_row row 0 (.string nx)) 1 (.int .i64 (now + T))) 2 (.int .i64 R)
        have f0 := (cell_row fin 0 (.string nx) rfl).1
        have f1 := (cell_row fin 1 (.int .i64 (now + T)) rfl).1
        have f2 := (cell_row fin 2 (.int .i64 R) rfl).1
        have bF := (((bU3.setCell (p := ⟨w.heap.size + 1 + 1, 0, none⟩) (by show w.heap.size ≤ w.heap.size + 1 + 1; omega) (.string nx)).setCell (p := ⟨w.heap.size + 1 + 1, 1, none⟩) (by show w.heap.size ≤ w.heap.size + 1 + 1; omega) (.int .i64 (now + T))).setCell (p := ⟨w.heap.size + 1 + 1, 2, none⟩) (by show w.heap.size ≤ w.heap.size + 1 + 1; omega) (.int .i64 R))
        clear row fin
        go_wp2_with fail
        exact bodyPost_ret (v := .tuple #[.agg #[.string nx, .int .i64 (now + T), .int .i64 R], .bool true]) (by simp [results, Try.results13, go_sem, f0, f1, f2]) rfl ⟨rfl, bF⟩

end Go.Proofs.Ytkongeofapbblaa
