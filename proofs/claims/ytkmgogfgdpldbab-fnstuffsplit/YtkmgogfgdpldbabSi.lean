/-
  The program's heap of remainders in memory: the first is taken out of it.
-/
import Derived.Test.YtkmgogfgdpldbabSh
namespace Go.Proofs.Ytkmgogfgdpldbab
open Go.RowKit

theorem Rk.shrink {w : World} {r g cap : Nat} {l : List (Int × Int)} (h : Rk w r g cap l) (m : Nat) (hm : m ≤ l.length) : Rk (w.setCell ⟨r, 0, none⟩ (.slice (some ⟨g, 0, none⟩) m cap)) r g cap (l.take m) := by
  obtain ⟨c, hc, hs, h'⟩ := h.row
  have hlt := h.lt
  have hle := h.le
  have hl : (l.take m).length = m := by simp; omega
  refine ⟨?_, ⟨c, (Below.heap_setCell _ _ _ _ (by show g ≠ r; omega)).trans hc, hs, fun i hi => ?_⟩, h.lt, by omega, h.max⟩
  · rw [hl]; exact set_row h.box 0 _
  · have e : nE (l.take m) i = nE l i := by
      unfold nE
      simp only [List.getD_eq_getElem?_getD]
      rw [List.getElem?_take_of_lt (by omega)]
    rw [e]; exact h' i (by omega)
theorem Rk.other {w : World} {r g cap : Nat} {l : List (Int × Int)} (h : Rk w r g cap l) (p : Addr) (x : Value) (hr : p.block ≠ r) (hg : p.block ≠ g) : Rk (w.setCell p x) r g cap l :=
  h.of_blocks (Below.heap_setCell _ _ _ _ (Ne.symm hr)) (Below.heap_setCell _ _ _ _ (Ne.symm hg))

open Go.Sort in
set_option maxRecDepth 100000 in
set_option maxHeartbeats 8000000 in
theorem take_any (r g cap : Nat) (l : List (Int × Int)) (w : World) (h : Rk w r g cap l) (hH : Heap l) (h0 : 0 < l.length) (hl : l.length ≤ 100000) :
    Calls Try.prog 18 #[.pointer (some ⟨r, 0, none⟩)] w fun e w' => e = .returned (.agg #[.int .i64 (nE l 0).1, .int .i64 (nE l 0).2]) ∧ (∃ l', Rk w' r g cap l' ∧ Heap l' ∧ (nE l 0 :: l').Perm l) ∧ Below r w w' := by
  have hrg := h.lt
  have hgw := h.glt
  obtain ⟨m, em⟩ : ∃ m, l.length = m + 1 := ⟨l.length - 1, by omega⟩
  obtain ⟨n, en⟩ : ∃ n, l.length = n := ⟨_, rfl⟩
  have EM : Hid (l.length = n) := en
  have hmn : m < n := by omega
  have hnm : n ≤ m + 1 := by omega
  have h0n : 0 < n := by omega
  have en1 : (n : Int) - 1 = (m : Int) := by omega
  have hcap : n ≤ cap := by have := h.le; omega
  have hmc : m ≤ cap := by omega
  have hcm : cap ≤ 9223372036854775807 := by have := h.max; unfold maxLen at this; omega
  have hm : m ≤ 100000 := by omega
  clear em en h0 hl
  obtain ⟨W, hW⟩ : ∃ W, W = w.alloc (.cells #[.int .i64 0, .int .i64 0] 43) := ⟨_, rfl⟩
  have hBW : Hid (Below w.heap.size w W) := by rw [hW]; exact (Below.refl _ _).alloc (Nat.le_refl _) _
  have hsW : W.heap.size = w.heap.size + 1 := by rw [hW]; simp
  have hA : Hid (W.heap[w.heap.size]? = some (.cells #[.int .i64 0, .int .i64 0] 43 (0, 0))) := by show W.heap[w.heap.size]? = _; rw [hW]; exact heap_alloc_new w _
  have RW : Hid (Rk W r g cap l) := h.below hBW.out
  have HH : Hid (Heap l) := hH
  clear h hH
  obtain ⟨f, ef⟩ : ∃ f, nE l 0 = f := ⟨_, rfl⟩
  obtain ⟨z, ez⟩ : ∃ z, nE l m = z := ⟨_, rfl⟩
  have EF : Hid (nE l 0 = f) := ef
  have EZ : Hid (nE l m = z) := ez
  rw [ef]
  clear ef ez
  have q0 := fun d os => cell_regrown RW.out.b0 d os
  have qf0 := fun d os => cell_regrown (RW.out.c0 0 (by rw [EM.out]; omega)).1 d os
  have qf1 := fun d os => cell_regrown (RW.out.c1 0 (by rw [EM.out]; omega)).1 d os
  rw [EM.out] at q0
  rw [EF.out] at qf0 qf1
  simp only [Nat.zero_mul, Nat.zero_add] at qf0 qf1
  go_enter Try.func18, Try.ntmps18
  go_wp2
  rw [← hW]
  clear hW
  refine wp_region_two 14 [] 14 [0, 1, 2, 3, 4, 5, 6, 7, 8, 9, 10, 11] (by kernel_rfl) (by kernel_rfl) ?_
  simp only [List.filterMap_cons, List.filterMap_nil, List.getElem?_cons_succ, List.getElem?_cons_zero, mvs]
  repeat (first | go_big_quiet_step (fail) | quiet_step (fail))
  refine wpQuiet_nil ?_
  clear q0 qf0 qf1
  refine oneH (f := 1) (i := 12) (.pointer (some ⟨W.heap.size, 0, none⟩)) (W.drew.alloc (.cells #[.int .i64 0, .int .i64 0] 43)) ⟨rfl, by decide⟩ (by kernel_rfl) rfl ?run12 (regrown_of_below (((Below.refl _ _).drew).alloc (Nat.le_refl _) _)) ?_
  case run12 => go_simp
  have hB1 : Hid ((W.drew.alloc (.cells #[.int .i64 0, .int .i64 0] 43)).heap[W.heap.size]? = some (.cells #[.int .i64 0, .int .i64 0] 43 (0, 0))) := heap_alloc_new W.drew _
  have BU : Hid (Below W.heap.size W (((W.drew.alloc (.cells #[.int .i64 0, .int .i64 0] 43)).setCell ⟨W.heap.size, 0, none⟩ (.int .i64 f.1)).setCell ⟨W.heap.size, 1, none⟩ (.int .i64 f.2))) := Below.setCell (p := ⟨W.heap.size, 1, none⟩) (Below.setCell (p := ⟨W.heap.size, 0, none⟩) (((Below.refl W.heap.size W).drew).alloc (Nat.le_refl _) _) (Nat.le_refl _) _) (Nat.le_refl _) _
  have hUB : Hid ((((W.drew.alloc (.cells #[.int .i64 0, .int .i64 0] 43)).setCell ⟨W.heap.size, 0, none⟩ (.int .i64 f.1)).setCell ⟨W.heap.size, 1, none⟩ (.int .i64 f.2)).heap[W.heap.size]? = some (.cells #[.int .i64 f.1, .int .i64 f.2] 43 (0, 0))) := set_row (set_row hB1.out 0 _) 1 _
  clear hB1
  refine storeH (f := 0) (i := 13) (((W.drew.alloc (.cells #[.int .i64 0, .int .i64 0] 43)).setCell ⟨W.heap.size, 0, none⟩ (.int .i64 f.1)).setCell ⟨W.heap.size, 1, none⟩ (.int .i64 f.2)) ⟨rfl, by decide⟩ (by kernel_rfl) rfl ?run13 (regrown_of_below BU.out) ?_
  case run13 => go_simp
  refine rest_of [14] (by kernel_rfl) (by decide) ?_
  refine ⟨by kernel_rfl, ?_⟩
  simp only [List.drop_succ_cons, List.drop_zero, Act.put, List.setIfInBounds_toArray]
  generalize ((W.drew.alloc (.cells #[.int .i64 0, .int .i64 0] 43)).setCell ⟨W.heap.size, 0, none⟩ (.int .i64 f.1)).setCell ⟨W.heap.size, 1, none⟩ (.int .i64 f.2) = U at BU hUB ⊢
  have RU : Hid (Rk U r g cap l) := RW.out.below BU.out
  have PA : Hid (U.heap[w.heap.size]? = some (.cells #[.int .i64 0, .int .i64 0] 43 (0, 0))) := (BU.out.block _ (by omega)).trans hA.out
  have PB : Hid (U.heap[w.heap.size + 1]? = some (.cells #[.int .i64 f.1, .int .i64 f.2] 43 (0, 0))) := by rw [← hsW]; exact hUB.out
  have BwU : Hid (Below r w U) := (hBW.out.mono (by omega)).trans (BU.out.mono (by omega))
  have hszU : w.heap.size + 2 ≤ U.heap.size := by have := (Array.getElem?_eq_some_iff.1 PB.out).1; omega
  clear RW BU hUB hA
  have q0 := fun d os => cell_regrown RU.out.b0 d os
  have qz0 := fun d os => cell_regrown (RU.out.c0 m (by rw [EM.out]; omega)).1 d os
  have qz1 := fun d os => cell_regrown (RU.out.c1 m (by rw [EM.out]; omega)).1 d os
  rw [EM.out] at q0
  rw [EZ.out] at qz0 qz1
  go_wp2
  refine wp_region_two 11 [] 11 [0, 1, 2, 3, 4, 5, 6, 7, 8, 9, 10] (by kernel_rfl) (by kernel_rfl) ?_
  simp only [List.filterMap_cons, List.filterMap_nil, List.getElem?_cons_succ, List.getElem?_cons_zero, mvs]
  repeat (first | go_big_quiet_step (fail) | quiet_step (fail))
  refine wpQuiet_nil ?_
  clear q0 qz0 qz1
  refine rest_of [11] (by kernel_rfl) (by decide) ?_
  refine ⟨by kernel_rfl, ?_⟩
  simp only [List.drop_succ_cons, List.drop_zero]
  have hl0 : 0 < l.length := by rw [EM.out]; omega
  have d0 := (RU.out.c0 0 hl0).1
  have d0f := (RU.out.c0 0 hl0).2
  have d1 := (RU.out.c1 0 hl0).1
  have d1f := (RU.out.c1 0 hl0).2
  have b0 := RU.out.b0
  have b0f : U.frozen? ⟨r, 0, none⟩ = false := (cell_row RU.out.box 0 _ rfl).2
  rw [EM.out] at b0
  have RV : Hid (Rk ((U.setCell ⟨g, 0, none⟩ (.int .i64 z.1)).setCell ⟨g, 1, none⟩ (.int .i64 z.2)) r g cap (l.set 0 z)) := by
    have := RU.out.put 0 hl0 z
    simp only [Nat.zero_mul, Nat.zero_add] at this
    exact this
  simp only [Nat.zero_mul, Nat.zero_add] at d0 d0f d1 d1f
  have hset : (l.set 0 z).length = n := by rw [List.length_set]; exact EM.out
  have RX : Hid (Rk (((U.setCell ⟨g, 0, none⟩ (.int .i64 z.1)).setCell ⟨g, 1, none⟩ (.int .i64 z.2)).setCell ⟨r, 0, none⟩ (.slice (some ⟨g, 0, none⟩) m cap)).drew r g cap (hole l)) := by
    have := (RV.out.shrink m (by omega)).of_blocks (w' := (((U.setCell ⟨g, 0, none⟩ (.int .i64 z.1)).setCell ⟨g, 1, none⟩ (.int .i64 z.2)).setCell ⟨r, 0, none⟩ (.slice (some ⟨g, 0, none⟩) m cap)).drew) rfl rfl
    show Rk _ r g cap ((l.set 0 (nE l (l.length - 1))).take (l.length - 1))
    rw [EM.out, show n - 1 = m by omega, EZ.out]; exact this
  have vb0 := RV.out.b0
  have vb0f : ((U.setCell ⟨g, 0, none⟩ (.int .i64 z.1)).setCell ⟨g, 1, none⟩ (.int .i64 z.2)).frozen? ⟨r, 0, none⟩ = false := (cell_row RV.out.box 0 _ rfl).2
  rw [hset] at vb0
  have hX : ∀ b, b ≠ r → b ≠ g → (((U.setCell ⟨g, 0, none⟩ (.int .i64 z.1)).setCell ⟨g, 1, none⟩ (.int .i64 z.2)).setCell ⟨r, 0, none⟩ (.slice (some ⟨g, 0, none⟩) m cap)).drew.heap[b]? = U.heap[b]? := fun b h1 h2 => by
    show (((U.setCell ⟨g, 0, none⟩ (.int .i64 z.1)).setCell ⟨g, 1, none⟩ (.int .i64 z.2)).setCell ⟨r, 0, none⟩ (.slice (some ⟨g, 0, none⟩) m cap)).heap[b]? = _
    rw [Below.heap_setCell _ _ _ _ h1, Below.heap_setCell _ _ _ _ h2, Below.heap_setCell _ _ _ _ h2]
  have PA' : Hid ((((U.setCell ⟨g, 0, none⟩ (.int .i64 z.1)).setCell ⟨g, 1, none⟩ (.int .i64 z.2)).setCell ⟨r, 0, none⟩ (.slice (some ⟨g, 0, none⟩) m cap)).drew.heap[w.heap.size]? = some (.cells #[.int .i64 0, .int .i64 0] 43 (0, 0))) := (hX _ (by omega) (by omega)).trans PA.out
  have PB' : Hid ((((U.setCell ⟨g, 0, none⟩ (.int .i64 z.1)).setCell ⟨g, 1, none⟩ (.int .i64 z.2)).setCell ⟨r, 0, none⟩ (.slice (some ⟨g, 0, none⟩) m cap)).drew.heap[w.heap.size + 1]? = some (.cells #[.int .i64 f.1, .int .i64 f.2] 43 (0, 0))) := (hX _ (by omega) (by omega)).trans PB.out
  have BX : Hid (Below r w (((U.setCell ⟨g, 0, none⟩ (.int .i64 z.1)).setCell ⟨g, 1, none⟩ (.int .i64 z.2)).setCell ⟨r, 0, none⟩ (.slice (some ⟨g, 0, none⟩) m cap)).drew) := (Below.setCell (p := ⟨r, 0, none⟩) (Below.setCell (p := ⟨g, 1, none⟩) (Below.setCell (p := ⟨g, 0, none⟩) BwU.out (by show r ≤ g; omega) _) (by show r ≤ g; omega) _) (Nat.le_refl _) _).drew
  have PH : Hid ((f :: hole l).Perm l) := by
    have := hole_perm l hl0
    rw [EF.out] at this; exact this
  have DH : Hid (Down (hole l) 0) := down_hole HH.out
  have hhl : Hid ((hole l).length = m) := by show _ = _; rw [hole_len, EM.out]; omega
  clear RU RV hX PA PB BwU
  go_wp2
  clear d0 d0f d1 d1f b0 b0f vb0 vb0f
  generalize (((U.setCell ⟨g, 0, none⟩ (.int .i64 z.1)).setCell ⟨g, 1, none⟩ (.int .i64 z.2)).setCell ⟨r, 0, none⟩ (.slice (some ⟨g, 0, none⟩) m cap)).drew = X at RX PA' PB' BX ⊢
  go_loopw [5] (fun c wr => ∃ (t : Nat) (l2 : List (Int × Int)), c = .int .i64 t ∧ t ≤ m ∧ l2.length = m ∧ Hid (Rk wr r g cap l2) ∧ Hid (Down l2 t) ∧ Hid (l2.Perm (hole l)) ∧ Hid (wr.heap[w.heap.size]? = some (.cells #[.int .i64 0, .int .i64 0] 43 (0, 0))) ∧ Hid (wr.heap[w.heap.size + 1]? = some (.cells #[.int .i64 f.1, .int .i64 f.2] 43 (0, 0))) ∧ Hid (Below r w wr)) (fun c _ => m - (intOf c).toNat)
  case atStart => exact ⟨0, hole l, rfl, Nat.zero_le _, hhl.out, RX, DH, List.Perm.refl _, PA', PB', BX⟩
  case round =>
    obtain ⟨t, l2, rfl, htm, hlen, hRk, hDn, hPm, PA, PB, hBl⟩ := hrel
    clear RX PA' PB' BX
    have hwr : w.heap.size + 2 ≤ wr.heap.size := by have := (Array.getElem?_eq_some_iff.1 PB.out).1; omega
    obtain ⟨hfp, hft⟩ := fbel_par l2 t
    have hfb : fbel l2 t ≤ 2 * t + 2 := by unfold fbel; split <;> omega
    have HFB : Hid _ := fbel_any r g cap l2 t wr hRk.out (by omega) (by omega)
    by_cases hfm : m ≤ fbel l2 t
    · go_wp2_with fail
      refine Calls.mono HFB.out ?_
      rintro e w1 ⟨rfl, hb1⟩
      have K1 : Hid (Rk w1 r g cap l2) := hRk.out.below hb1
      have hb1r : Hid (Below r w w1) := hBl.out.trans (hb1.mono (by omega))
      have PA1 := PA
      have PB1 := PB
      clear PA PB
      have PA : Hid (w1.heap[w.heap.size]? = some (.cells #[.int .i64 0, .int .i64 0] 43 (0, 0))) := (hb1.block _ (by omega)).trans PA1.out
      have PB : Hid (w1.heap[w.heap.size + 1]? = some (.cells #[.int .i64 f.1, .int .i64 f.2] 43 (0, 0))) := (hb1.block _ (by omega)).trans PB1.out
      have HE : Hid (Heap l2) := down_end hDn.out (Or.inl (by omega))
      have hdc : decide (m ≤ fbel l2 t) = true := decide_eq_true hfm
      generalize fbel l2 t = fb at *
      have kA0 := (cell_row PA.out 0 _ rfl).1
      have kA0f := (cell_row PA.out 0 _ rfl).2
      have kA1 := (cell_row PA.out 1 _ rfl).1
      have kA1f := (cell_row PA.out 1 _ rfl).2
      have kB0 := (cell_row PB.out 0 _ rfl).1
      have kB1 := (cell_row PB.out 1 _ rfl).1
      have pa := set_row (set_row PA.out 0 (.int .i64 f.1)) 1 (.int .i64 f.2)
      have z0 := (cell_row pa 0 (.int .i64 f.1) rfl).1
      have z1 := (cell_row pa 1 (.int .i64 f.2) rfl).1
      have RF : Hid (Rk ((w1.setCell ⟨w.heap.size, 0, none⟩ (.int .i64 f.1)).setCell ⟨w.heap.size, 1, none⟩ (.int .i64 f.2)) r g cap l2) := (K1.out.other _ _ (by show w.heap.size ≠ r; omega) (by show w.heap.size ≠ g; omega)).other _ _ (by show w.heap.size ≠ r; omega) (by show w.heap.size ≠ g; omega)
      have BF : Hid (Below r w ((w1.setCell ⟨w.heap.size, 0, none⟩ (.int .i64 f.1)).setCell ⟨w.heap.size, 1, none⟩ (.int .i64 f.2))) := (hb1r.out.setCell (by show r ≤ w.heap.size; omega) _).setCell (by show r ≤ w.heap.size; omega) _
      clear pa
      go_wp2
      exact bodyPost_ret (v := .agg #[.int .i64 f.1, .int .i64 f.2]) (by simp [results, Try.results18, go_sem, z0, z1]) rfl ⟨rfl, ⟨l2, RF.out, HE.out, (List.Perm.cons f hPm.out).trans PH.out⟩, BF.out⟩
    · have hdc : decide (m ≤ fbel l2 t) = false := decide_eq_false hfm
      have HSW : Hid _ := fun w1 (hk : Rk w1 r g cap l2) => swap_any r g cap l2 (fbel l2 t) t w1 hk (by omega) (by omega)
      cases ha : ahd (nE l2 (fbel l2 t)) (nE l2 t)
      · have HE : Hid (Heap l2) := down_end hDn.out (Or.inr ha)
        go_wp2_with fail
        refine Calls.mono HFB.out ?_
        rintro e w1 ⟨rfl, hb1⟩
        have K0 : Hid (Rk w1 r g cap l2) := hRk.out.below hb1
        have hs1 := hb1.size
        go_wp2_with fail
        refine Calls.mono (HSW.out w1 K0.out) ?_
        rintro e w2 ⟨rfl, hk2, hb2, hO2⟩
        rw [ha] at hk2 ⊢
        have K1 : Hid (Rk w2 r g cap l2) := hk2
        have hb2r : Hid (Below r w w2) := (hBl.out.trans (hb1.mono (by omega))).trans hb2
        have PA1 := PA
        have PB1 := PB
        clear PA PB
        have PA : Hid (w2.heap[w.heap.size]? = some (.cells #[.int .i64 0, .int .i64 0] 43 (0, 0))) := ((hO2 _ (by omega) (by omega)).trans (hb1.block _ (by omega))).trans PA1.out
        have PB : Hid (w2.heap[w.heap.size + 1]? = some (.cells #[.int .i64 f.1, .int .i64 f.2] 43 (0, 0))) := ((hO2 _ (by omega) (by omega)).trans (hb1.block _ (by omega))).trans PB1.out
        clear hk2 hO2 hb2 hb1
        have kA0 := (cell_row PA.out 0 _ rfl).1
        have kA0f := (cell_row PA.out 0 _ rfl).2
        have kA1 := (cell_row PA.out 1 _ rfl).1
        have kA1f := (cell_row PA.out 1 _ rfl).2
        have kB0 := (cell_row PB.out 0 _ rfl).1
        have kB1 := (cell_row PB.out 1 _ rfl).1
        have pa := set_row (set_row PA.out 0 (.int .i64 f.1)) 1 (.int .i64 f.2)
        have z0 := (cell_row pa 0 (.int .i64 f.1) rfl).1
        have z1 := (cell_row pa 1 (.int .i64 f.2) rfl).1
        have RF : Hid (Rk ((w2.setCell ⟨w.heap.size, 0, none⟩ (.int .i64 f.1)).setCell ⟨w.heap.size, 1, none⟩ (.int .i64 f.2)) r g cap l2) := (K1.out.other _ _ (by show w.heap.size ≠ r; omega) (by show w.heap.size ≠ g; omega)).other _ _ (by show w.heap.size ≠ r; omega) (by show w.heap.size ≠ g; omega)
        have BF : Hid (Below r w ((w2.setCell ⟨w.heap.size, 0, none⟩ (.int .i64 f.1)).setCell ⟨w.heap.size, 1, none⟩ (.int .i64 f.2))) := (hb2r.out.setCell (by show r ≤ w.heap.size; omega) _).setCell (by show r ≤ w.heap.size; omega) _
        clear pa
        go_wp2
        exact bodyPost_ret (v := .agg #[.int .i64 f.1, .int .i64 f.2]) (by simp [results, Try.results18, go_sem, z0, z1]) rfl ⟨rfl, ⟨l2, RF.out, HE.out, (List.Perm.cons f hPm.out).trans PH.out⟩, BF.out⟩
      · have hst : Hid (Down (sw l2 (fbel l2 t) t) (fbel l2 t)) := down_step hDn.out (by omega) ha
        have hpm : Hid ((sw l2 (fbel l2 t) t).Perm (hole l)) := (sw_perm l2 _ _ (by omega) (by omega)).trans hPm.out
        go_wp2_with fail
        refine Calls.mono HFB.out ?_
        rintro e w1 ⟨rfl, hb1⟩
        have K0 : Hid (Rk w1 r g cap l2) := hRk.out.below hb1
        have hs1 := hb1.size
        go_wp2_with fail
        refine Calls.mono (HSW.out w1 K0.out) ?_
        rintro e w2 ⟨rfl, hk2, hb2, hO2⟩
        rw [ha] at hk2 ⊢
        have K1 : Hid (Rk w2 r g cap (sw l2 (fbel l2 t) t)) := hk2
        have hb2r : Hid (Below r w w2) := (hBl.out.trans (hb1.mono (by omega))).trans hb2
        have PA2 : Hid (w2.heap[w.heap.size]? = some (.cells #[.int .i64 0, .int .i64 0] 43 (0, 0))) := ((hO2 _ (by omega) (by omega)).trans (hb1.block _ (by omega))).trans PA.out
        have PB2 : Hid (w2.heap[w.heap.size + 1]? = some (.cells #[.int .i64 f.1, .int .i64 f.2] 43 (0, 0))) := ((hO2 _ (by omega) (by omega)).trans (hb1.block _ (by omega))).trans PB.out
        clear hk2 hO2 hb2 hb1
        go_wp2
        go_roundw
        case rel => exact ⟨fbel l2 t, sw l2 (fbel l2 t) t, by go_num, by omega, by rw [sw_len]; exact hlen, K1, hst, hpm, PA2, PB2, hb2r⟩
        case measure => simp [intOf]; omega

end Go.Proofs.Ytkmgogfgdpldbab
