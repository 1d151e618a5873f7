/-
  The program's heap of remainders in memory: two changed for each other, the first of two below.
-/
import Derived.Test.YtkmgogfgdpldbabSc
import Derived.Test.YtkmgogfgdpldbabHh
namespace Go.Proofs.Ytkmgogfgdpldbab
open Go.RowKit

abbrev fnR : Value := .func (.func 16) #[] #[]
/-- The ranking in block r, its list in block g. -/
structure Rk (w : World) (r g cap : Nat) (l : List (Int × Int)) : Prop where
  box : w.heap[r]? = some (.cells #[.slice (some ⟨g, 0, none⟩) l.length cap, fnR] 40 (0, 0))
  row : ∃ c, w.heap[g]? = some (.cells c 43 (0, 0)) ∧ c.size = cap * 2 ∧ ∀ i, i < l.length → c[i * 2]? = some (.int .i64 (nE l i).1) ∧ c[i * 2 + 1]? = some (.int .i64 (nE l i).2)
  lt : r < g
  le : l.length ≤ cap
  max : cap ≤ maxLen

theorem Rk.glt {w : World} {r g cap : Nat} {l : List (Int × Int)} (h : Rk w r g cap l) : g < w.heap.size := by
  obtain ⟨c, hc, _⟩ := h.row
  exact (Array.getElem?_eq_some_iff.1 hc).1
theorem Rk.b0 {w : World} {r g cap : Nat} {l : List (Int × Int)} (h : Rk w r g cap l) : w.cell? ⟨r, 0, none⟩ = some (.slice (some ⟨g, 0, none⟩) l.length cap) := (cell_row h.box 0 _ rfl).1
theorem Rk.b1 {w : World} {r g cap : Nat} {l : List (Int × Int)} (h : Rk w r g cap l) : w.cell? ⟨r, 1, none⟩ = some fnR := (cell_row h.box 1 _ rfl).1
theorem Rk.c0 {w : World} {r g cap : Nat} {l : List (Int × Int)} (h : Rk w r g cap l) (i : Nat) (hi : i < l.length) : w.cell? ⟨g, i * 2, none⟩ = some (.int .i64 (nE l i).1) ∧ w.frozen? ⟨g, i * 2, none⟩ = false := by
  obtain ⟨c, hc, _, h'⟩ := h.row
  exact cell_row hc _ _ (h' i hi).1
theorem Rk.c1 {w : World} {r g cap : Nat} {l : List (Int × Int)} (h : Rk w r g cap l) (i : Nat) (hi : i < l.length) : w.cell? ⟨g, i * 2 + 1, none⟩ = some (.int .i64 (nE l i).2) ∧ w.frozen? ⟨g, i * 2 + 1, none⟩ = false := by
  obtain ⟨c, hc, _, h'⟩ := h.row
  exact cell_row hc _ _ (h' i hi).2
theorem Rk.of_blocks {w w' : World} {r g cap : Nat} {l : List (Int × Int)} (h : Rk w r g cap l) (hr : w'.heap[r]? = w.heap[r]?) (hg : w'.heap[g]? = w.heap[g]?) : Rk w' r g cap l := by
  obtain ⟨c, hc, h'⟩ := h.row
  exact ⟨hr.trans h.box, ⟨c, hg.trans hc, h'⟩, h.lt, h.le, h.max⟩
theorem Rk.below {w w' : World} {r g cap : Nat} {l : List (Int × Int)} (h : Rk w r g cap l) (hb : Below w.heap.size w w') : Rk w' r g cap l :=
  h.of_blocks (hb.block _ (Nat.lt_trans h.lt h.glt)) (hb.block _ h.glt)
theorem nE_set (l : List (Int × Int)) (i k : Nat) (e : Int × Int) (hi : i < l.length) : nE (l.set i e) k = if k = i then e else nE l k := by
  unfold nE
  simp only [List.getD_eq_getElem?_getD, List.getElem?_set]
  by_cases h : k = i
  · subst h; simp [hi]
  · simp [h, Ne.symm h]
theorem Rk.put {w : World} {r g cap : Nat} {l : List (Int × Int)} (h : Rk w r g cap l) (i : Nat) (hi : i < l.length) (e : Int × Int) :
    Rk ((w.setCell ⟨g, i * 2, none⟩ (.int .i64 e.1)).setCell ⟨g, i * 2 + 1, none⟩ (.int .i64 e.2)) r g cap (l.set i e) := by
  obtain ⟨c, hc, hs, h'⟩ := h.row
  have hlt := h.lt
  have hle := h.le
  refine ⟨?_, ⟨_, set_row (set_row hc (i * 2) _) (i * 2 + 1) _, by simpa using hs, fun k hk => ?_⟩, h.lt, by simpa using h.le, h.max⟩
  · rw [Below.heap_setCell _ _ _ _ (by show r ≠ g; omega), Below.heap_setCell _ _ _ _ (by show r ≠ g; omega), List.length_set]
    exact h.box
  · rw [List.length_set] at hk
    rw [nE_set l i k e hi]
    have hck := h' k hk
    have z0 : k * 2 < c.size := by omega
    have z1 : k * 2 + 1 < c.size := by omega
    by_cases hki : k = i
    · subst hki
      simp only [Array.getElem?_setIfInBounds, Array.size_setIfInBounds, if_true]
      refine ⟨?_, ?_⟩
      · rw [if_neg (by omega), if_pos (by omega)]
      · rw [if_pos (by omega)]
    · simp only [Array.getElem?_setIfInBounds, if_neg hki]
      refine ⟨?_, ?_⟩
      · rw [if_neg (by omega), if_neg (by omega)]; exact hck.1
      · rw [if_neg (by omega), if_neg (by omega)]; exact hck.2

open Go.Sort in
set_option maxRecDepth 100000 in
set_option maxHeartbeats 8000000 in
theorem swap_any (r g cap : Nat) (l : List (Int × Int)) (i j : Nat) (w : World) (h : Rk w r g cap l) (hi : i < l.length) (hj : j < l.length) :
    Calls Try.prog 24 #[.pointer (some ⟨r, 0, none⟩), .int .i64 i, .int .i64 j] w fun e w' => e = .returned (.bool (ahd (nE l i) (nE l j))) ∧ Rk w' r g cap (if ahd (nE l i) (nE l j) = true then sw l i j else l) ∧ Below r w w' ∧ ∀ b, b < w.heap.size → b ≠ g → w'.heap[b]? = w.heap[b]? := by
  have hlt := h.lt
  have hglt := h.glt
  have q0 := fun d os => cell_regrown h.b0 d os
  have q1 := fun d os => cell_regrown h.b1 d os
  have qi0 := fun d os => cell_regrown (h.c0 i hi).1 d os
  have qi1 := fun d os => cell_regrown (h.c1 i hi).1 d os
  have qj0 := fun d os => cell_regrown (h.c0 j hj).1 d os
  have qj1 := fun d os => cell_regrown (h.c1 j hj).1 d os
  have HR : Hid (Rk w r g cap l) := h
  clear h
  obtain ⟨n, en⟩ : ∃ n, l.length = n := ⟨_, rfl⟩
  rw [en] at hi hj q0
  have EN : Hid (l.length = n) := en
  clear en
  obtain ⟨ei, eei⟩ : ∃ e, nE l i = e := ⟨_, rfl⟩
  obtain ⟨ej, eej⟩ : ∃ e, nE l j = e := ⟨_, rfl⟩
  rw [eei] at qi0 qi1
  rw [eej] at qj0 qj1
  rw [eei, eej]
  have EI : Hid (nE l i = ei) := eei
  have EJ : Hid (nE l j = ej) := eej
  clear eei eej
  have hge : decide (0 ≤ cmpR ei ej) = !ahd ei ej := cmpR_ge _ _
  cases ha : ahd ei ej
  · rw [ha, Bool.not_false] at hge
    go_enter Try.func24, Try.ntmps24
    go_wp2
    refine wp_region_quiet_below (by kernel_rfl) (by kernel_rfl) ?_
    repeat (first | go_big_quiet_step (with_reducible exact cmpR_q _ _ _ _ rfl _ _) | quiet_step (with_reducible exact cmpR_q _ _ _ _ rfl _ _))
    refine wpQuiet_nil ?_
    intro _ hw'
    obtain ⟨⟨dq, osq⟩, hw''⟩ := hw'
    subst hw''
    go_wp2
    go_ret
    exact ⟨rfl, HR.out.below (below_regrown w dq osq), (below_regrown w dq osq).mono (by omega), fun b hb _ => (below_regrown w dq osq).block b hb⟩
  · rw [ha, Bool.not_true] at hge
    go_enter Try.func24, Try.ntmps24
    go_wp2
    refine wp_region_quiet_below (by kernel_rfl) (by kernel_rfl) ?_
    repeat (first | go_big_quiet_step (with_reducible exact cmpR_q _ _ _ _ rfl _ _) | quiet_step (with_reducible exact cmpR_q _ _ _ _ rfl _ _))
    refine wpQuiet_nil ?_
    intro _ hw'
    obtain ⟨⟨dq, osq⟩, hw''⟩ := hw'
    subst hw''
    have BU : Hid (Below w.heap.size w (grow (redrawn w dq) osq)) := below_regrown w dq osq
    have RU : Hid (Rk (grow (redrawn w dq) osq) r g cap l) := HR.out.below BU.out
    clear q0 q1 qi0 qi1 qj0 qj1
    generalize grow (redrawn w dq) osq = u at BU RU ⊢
    have q0 := fun d os => cell_regrown RU.out.b0 d os
    have q1 := fun d os => cell_regrown RU.out.b1 d os
    have qi0 := fun d os => cell_regrown (RU.out.c0 i (by rw [EN.out]; exact hi)).1 d os
    have qi1 := fun d os => cell_regrown (RU.out.c1 i (by rw [EN.out]; exact hi)).1 d os
    have qj0 := fun d os => cell_regrown (RU.out.c0 j (by rw [EN.out]; exact hj)).1 d os
    have qj1 := fun d os => cell_regrown (RU.out.c1 j (by rw [EN.out]; exact hj)).1 d os
    rw [EN.out] at q0
    rw [EI.out] at qi0 qi1
    rw [EJ.out] at qj0 qj1
    go_wp2
    refine wp_region_two 26 [9] 24 [0, 1, 2, 3, 4, 5, 6, 7, 8, 10, 11, 12, 13, 14, 15, 16, 17, 18, 19, 20, 21, 22, 23] (by kernel_rfl) (by kernel_rfl) ?_
    simp only [List.filterMap_cons, List.filterMap_nil, List.getElem?_cons_succ, List.getElem?_cons_zero, mvs, mvOf, Act.put]
    repeat (first | go_big_quiet_step (fail) | quiet_step (fail))
    refine wpQuiet_nil ?_
    have RD : Hid (Rk u.drew r g cap l) := RU.out.of_blocks rfl rfl
    have hi' : i < l.length := by rw [EN.out]; exact hi
    have hj' : j < l.length := by rw [EN.out]; exact hj
    have d0 := (RU.out.c0 i hi').1
    have d0f := (RU.out.c0 i hi').2
    have d1 := (RU.out.c1 i hi').1
    have d1f := (RU.out.c1 i hi').2
    rw [EI.out] at d0 d1
    have RW : Hid (Rk ((u.drew.setCell ⟨g, i * 2, none⟩ (.int .i64 ej.1)).setCell ⟨g, i * 2 + 1, none⟩ (.int .i64 ej.2)) r g cap (l.set i ej)) := RD.out.put i hi' ej
    have BW : Hid (Below g u ((u.drew.setCell ⟨g, i * 2, none⟩ (.int .i64 ej.1)).setCell ⟨g, i * 2 + 1, none⟩ (.int .i64 ej.2))) := (((Below.refl g u).drew).setCell (Nat.le_refl _) _).setCell (Nat.le_refl _) _
    have OW : Hid (∀ b, b ≠ g → ((u.drew.setCell ⟨g, i * 2, none⟩ (.int .i64 ej.1)).setCell ⟨g, i * 2 + 1, none⟩ (.int .i64 ej.2)).heap[b]? = u.heap[b]?) := fun b hb => by
      rw [Below.heap_setCell _ _ _ _ hb, Below.heap_setCell _ _ _ _ hb]; rfl
    clear q0 q1 qi0 qi1 qj0 qj1
    refine rest_of [24] (by kernel_rfl) (by decide) ?_
    refine oneH (f := 1) (i := 24) (.pointer (some ⟨g, i * 2, none⟩)) u.drew ⟨rfl, by decide⟩ (by kernel_rfl) rfl ?run trivial ?_
    case run => go_simp
    refine storeH (f := 0) (i := 25) ((u.drew.setCell ⟨g, i * 2, none⟩ (.int .i64 ej.1)).setCell ⟨g, i * 2 + 1, none⟩ (.int .i64 ej.2)) ⟨rfl, by decide⟩ (by kernel_rfl) rfl ?run trivial ?_
    case run => go_simp
    clear d0 d0f d1 d1f
    refine ⟨by kernel_rfl, ?_⟩
    simp only [List.drop_succ_cons, List.drop_zero, Act.put, List.setIfInBounds_toArray]
    generalize (u.drew.setCell ⟨g, i * 2, none⟩ (.int .i64 ej.1)).setCell ⟨g, i * 2 + 1, none⟩ (.int .i64 ej.2) = v at RW BW OW ⊢
    have hj2 : j < (l.set i ej).length := by rw [List.length_set]; exact hj'
    have f0 := (RW.out.c0 j hj2).1
    have f0f := (RW.out.c0 j hj2).2
    have f1 := (RW.out.c1 j hj2).1
    have f1f := (RW.out.c1 j hj2).2
    have RZ : Hid (Rk ((v.setCell ⟨g, j * 2, none⟩ (.int .i64 ei.1)).setCell ⟨g, j * 2 + 1, none⟩ (.int .i64 ei.2)) r g cap (sw l i j)) := by
      have := RW.out.put j hj2 ei
      show Rk _ r g cap ((l.set i (nE l j)).set j (nE l i))
      rw [EI.out, EJ.out]; exact this
    go_wp2
    go_ret
    refine ⟨rfl, RZ.out, ?_, fun b hb hne => ?_⟩
    · exact (((BU.out.mono (by omega)).trans (BW.out.mono (by omega))).setCell (by show r ≤ g; omega) _).setCell (by show r ≤ g; omega) _
    · rw [Below.heap_setCell _ _ _ _ hne, Below.heap_setCell _ _ _ _ hne, OW.out b hne]
      exact BU.out.block b hb

end Go.Proofs.Ytkmgogfgdpldbab
