/-
  Those who go one after the other, as the program keeps them: canGo and letGo.
-/
import Derived.Test.YtomfooddehddhaeZpl
import Derived.Test.YtomfooddehddhaeNa
import Derived.Test.YtomfooddehddhaeHq
import Derived.Laws.BitsAllLaws
namespace Go.Proofs.Ytomfooddehddhae
open Go.RowKit Go.Sort

/-- The cells of a sharer. -/
def eG (p : Nat × Nat × Bool) (j : Nat) : Value := cs [.int .u32 p.1, .int .u32 p.2.1, .bool p.2.2] j
theorem infG : (Try.prog.info? 73).map (fun i => (i.zero, i.size, i.bytes)) = some (some (.agg #[.int .u32 0, .int .u32 0, .bool false]), 3, 12) := by kernel_rfl
theorem elG : ElT Try.prog 69 73 3 12 := by
  obtain ⟨i0, hi, hz0, hz1, hz2⟩ := info_parts infG
  exact ⟨by kernel_rfl, ⟨i0, _, hi, hz0, hz1, hz2, rfl⟩, by decide⟩
/-- They lie in memory that the call has made: the list of them, and the struct. -/
structure Lv (B : Nat) (w : World) (g : Nat) (v : Value) (L : List (Nat × Nat × Bool)) (fr : Nat) : Prop where
  row : Row w B 73 3 eG v L
  box : w.heap[g]? = some (.cells #[v, .int .u32 fr] 71 (0, 0))
  low : B ≤ g
/-- The blocks of it. -/
def lvS (g : Nat) (v : Value) (k : Nat) : Prop := k = g ∨ v.ownBlock = some k
section
variable {B g : Nat} {w w' : World} {v : Value} {L : List (Nat × Nat × Bool)} {fr : Nat}
theorem Lv.lt (h : Lv B w g v L fr) : g < w.heap.size := (Array.getElem?_eq_some_iff.1 h.box).1
theorem Lv.below (h : Lv B w g v L fr) (hb : Below w.heap.size w w') : Lv B w' g v L fr := ⟨Row.below h.row hb, (hb.block g h.lt).trans h.box, h.low⟩
theorem Lv.but {S : Nat → Prop} (h : Lv B w g v L fr) (hb : But S w w') (hS : ∀ k, lvS g v k → ¬ S k) : Lv B w' g v L fr :=
  ⟨Row.block h.row fun k hk => hb.block k (World.ownsRow.lt h.row k hk).2 (hS k (.inr hk)), (hb.block g h.lt (hS g (.inl rfl))).trans h.box, h.low⟩
theorem Lv.set_low (h : Lv B w g v L fr) : ∀ k, lvS g v k → B ≤ k := fun k hk => by
  rcases hk with rfl | hk
  · exact h.low
  · exact (World.ownsRow.lt h.row k hk).1
theorem Lv.apart (h : Lv B w g v L fr) : v.ownBlock ≠ some g := fun e => by
  obtain ⟨c, hc⟩ := Row.typed h.row g e
  rw [h.box] at hc
  injection hc with h1
  injection h1 with _ h2
  revert h2
  decide
theorem Lv.cell (h : Lv B w g v L fr) {a : Nat} (ha : a < L.length) : ∃ r cap, v = .slice (some ⟨r, 0, none⟩) L.length cap ∧ L.length ≤ cap ∧ r ≠ g ∧ r < w.heap.size ∧ w.cell? ⟨r, a * 3, none⟩ = some (.int .u32 L[a].1) ∧ w.cell? ⟨r, a * 3 + 1, none⟩ = some (.int .u32 L[a].2.1) ∧ w.cell? ⟨r, a * 3 + 2, none⟩ = some (.bool L[a].2.2) ∧ w.frozen? ⟨r, a * 3 + 2, none⟩ = false := by
  obtain ⟨r, cap, hv, hb, hr, hc⟩ := Row.cell h.row ha
  have h0 := (hc 0 (by omega)).1
  rw [Nat.add_zero] at h0
  refine ⟨r, cap, hv, ?_, fun e => h.apart (by rw [hv, e]; rfl), hr, h0, (hc 1 (by omega)).1, (hc 2 (by omega)).1, (hc 2 (by omega)).2⟩
  rcases h.row.2 with ⟨h1, h2⟩ | ⟨g', cap', cur', h1, _, _, hle, _⟩
  · omega
  · rw [hv] at h1; cases h1; exact hle
end
/-- Can one go? -/
def goB (p : Nat × Nat × Bool) (fr : Nat) : Bool := !p.2.2 && decide (p.2.1 &&& (4294967295 - (fr + p.1)) = 0)

set_option maxRecDepth 100000 in
set_option maxHeartbeats 8000000 in
theorem canGo_any (B g : Nat) (v : Value) (L : List (Nat × Nat × Bool)) (fr a : Nat) (w : World) (h : Lv B w g v L fr) (ha : a < L.length) (h0 : L[a].1 < 256) (h1 : L[a].2.1 < 256) (hf : fr < 256) :
    Calls Try.prog 51 #[.pointer (some ⟨g, 0, none⟩), .int .i64 a] w fun e w' => e = .returned (.bool (goB L[a] fr)) ∧ Below w.heap.size w w' := by
  obtain ⟨r, cap, rfl, hcap, hrg, hr, c0, c1, c2, _⟩ := h.cell ha
  have hlen := Row.len h.row
  have hg := h.lt
  obtain ⟨y0, _⟩ := cell_row h.box 0 _ rfl
  obtain ⟨y1, _⟩ := cell_row h.box 1 _ rfl
  obtain ⟨n, en⟩ : ∃ n, L.length = n := ⟨_, rfl⟩
  obtain ⟨⟨hs, nd, gn⟩, ep⟩ : ∃ p, L[a] = p := ⟨_, rfl⟩
  rw [ep] at c0 c1 c2 h0 h1
  rw [en] at ha hcap hlen y0
  rw [ep]
  simp only at c0 c1 c2 h0 h1
  unfold maxLen at hlen
  clear h en ep
  obtain ⟨X, hX⟩ : ∃ X, X = w.alloc (.cells #[.int .u32 hs, .int .u32 nd, .bool gn] 73) := ⟨_, rfl⟩
  have EX : Hid (X = w.alloc (.cells #[.int .u32 hs, .int .u32 nd, .bool gn] 73)) := hX
  have BX : Hid (Below w.heap.size w X) := by rw [hX]; exact (Below.refl _ _).alloc (Nat.le_refl _) _
  have RX : Hid (X.heap[w.heap.size]? = some (.cells #[.int .u32 hs, .int .u32 nd, .bool gn] 73 (0, 0))) := by rw [hX]; exact heap_alloc_new w _
  clear hX
  go_enter Try.func51, Try.ntmps51
  go_upto_region 2 with fail
  rw [← EX.out]
  have q1 := fun d os => cell_regrown ((BX.out.cell (p := ⟨g, 1, none⟩) hg).trans y1) d os
  have k0 := fun d os => cell_regrown (cell_row RX.out 0 _ rfl).1 d os
  have k1 := fun d os => cell_regrown (cell_row RX.out 1 _ rfl).1 d os
  have k2 := fun d os => cell_regrown (cell_row RX.out 2 _ rfl).1 d os
  have hbits : bits .andNot .u32 (nd : Int) ((fr : Int) + (hs : Int)) = ((nd &&& (4294967295 - (fr + hs)) : Nat) : Int) := by
    have := u32_andNot_nat nd (fr + hs) (by omega) (by omega)
    rw [← this]; simp
  clear y0 y1 c0 c1 c2
  cases gn
  · go_wp2_with fail
    refine wp_region_quiet_below (by kernel_rfl) (by kernel_rfl) ?_
    repeat (first | go_big_quiet_step (fail) | quiet_step (fail))
    refine wpQuiet_nil ?_
    intro _ hw'
    obtain ⟨⟨dq, osq⟩, hw''⟩ := hw'
    subst hw''
    go_wp2_with fail
    go_ret
    refine ⟨?_, BX.out.trans ((below_regrown _ dq osq).mono BX.out.size)⟩
    show Ending.returned (.bool (((nd &&& (4294967295 - (fr + hs)) : Nat) : Int) == 0)) = Ending.returned (.bool (goB (hs, nd, false) fr))
    unfold goB
    simp only [Bool.not_false, Bool.true_and]
    generalize nd &&& (4294967295 - (fr + hs)) = x
    rw [show ((x : Int) == 0) = decide (x = 0) by rw [Bool.eq_iff_iff, beq_iff_eq, decide_eq_true_iff]; omega]
  · go_wp2_with fail
    refine wp_region_quiet_below (by kernel_rfl) (by kernel_rfl) ?_
    repeat (first | go_big_quiet_step (fail) | quiet_step (fail))
    refine wpQuiet_nil ?_
    intro _ hw'
    obtain ⟨⟨dq, osq⟩, hw''⟩ := hw'
    subst hw''
    go_wp2_with fail
    go_ret
    exact ⟨rfl, BX.out.trans ((below_regrown _ dq osq).mono BX.out.size)⟩

set_option maxRecDepth 100000 in
set_option maxHeartbeats 8000000 in
theorem letGo_any (B g : Nat) (v : Value) (L : List (Nat × Nat × Bool)) (fr a : Nat) (w : World) (h : Lv B w g v L fr) (ha : a < L.length) (h0 : L[a].1 < 256) (hf : fr < 256) :
    Calls Try.prog 39 #[.pointer (some ⟨g, 0, none⟩), .int .i64 a] w fun e w' => e = .returned (.tuple #[]) ∧ Lv B w' g v (L.set a (L[a].1, L[a].2.1, true)) (fr + L[a].1) ∧ But (lvS g v) w w' := by
  have H := h
  obtain ⟨r, cap, rfl, hcap, hrg, hr, c0, c1, c2, z2⟩ := h.cell ha
  have hlen := Row.len h.row
  have hg := h.lt
  obtain ⟨hs, ehs⟩ : ∃ p, L[a].1 = p := ⟨_, rfl⟩
  obtain ⟨Y, hY⟩ : ∃ Y, Y = w.setCell ⟨r, a * 3 + 2, none⟩ (.bool true) := ⟨_, rfl⟩
  have EY : Hid (Y = w.setCell ⟨r, a * 3 + 2, none⟩ (.bool true)) := hY
  have BY : Hid (But (lvS g (.slice (some ⟨r, 0, none⟩) L.length cap)) w Y) := by rw [hY]; exact (But.refl _ _).set (.inr rfl) _ _
  have LY : Hid (Lv B Y g (.slice (some ⟨r, 0, none⟩) L.length cap) (L.set a (hs, L[a].2.1, true)) fr) := by
    obtain ⟨p1, p2⟩ := Row.put H.row ha (j := 2) (by omega) (.bool true) (hs, L[a].2.1, true) (fun q hq => by
      rcases (show q = 0 ∨ q = 1 ∨ q = 2 by omega) with rfl | rfl | rfl
      · rw [← ehs]; rfl
      · rfl
      · rfl)
    rw [hY]
    exact ⟨p1, (p2.block g hg (fun e => by cases e; exact hrg rfl)).trans H.box, H.low⟩
  obtain ⟨y0, _⟩ := cell_row h.box 0 _ rfl
  obtain ⟨n, en⟩ : ∃ n, L.length = n := ⟨_, rfl⟩
  have hln : (L.set a (hs, L[a].2.1, true)).length = L.length := List.length_set
  obtain ⟨Z, hZ⟩ : ∃ Z, Z = L.set a (hs, L[a].2.1, true) := ⟨_, rfl⟩
  have eZ0 : ∃ hz : a < Z.length, Z[a] = (hs, L[a].2.1, true) := ⟨by rw [hZ, hln]; exact ha, by simp [hZ]⟩
  rw [← hZ] at LY hln
  rw [ehs] at c0 h0
  rw [ehs]
  rw [← hZ]
  rw [en] at hcap hlen y0 hln LY BY
  rw [en]
  rw [en] at ha
  unfold maxLen at hlen
  clear h H hY c0 c1 hZ
  obtain ⟨haZ, eZ⟩ := eZ0
  go_enter Try.func39, Try.ntmps39
  go_upto_region 1 with fail
  rw [← EY.out]
  clear y0 c2 z2
  obtain ⟨r', cap', e', hcap', hrg', hr', d0, _, _, _⟩ := LY.out.cell haZ
  cases e'
  simp only [eZ] at d0
  obtain ⟨y0, _⟩ := cell_row LY.out.box 0 _ rfl
  obtain ⟨y1, _⟩ := cell_row LY.out.box 1 _ rfl
  have hgY := LY.out.lt
  have q0 := fun d os => cell_regrown y0 d os
  have q1 := fun d os => cell_regrown y1 d os
  have q2 := fun d os => cell_regrown d0 d os
  clear y0 y1 d0 en ehs
  go_wp2_with fail
  refine wp_region_head_tail 13 (by kernel_rfl) (by kernel_rfl) ?_
  simp only [List.take_succ_cons, List.take_zero, List.drop_succ_cons, List.drop_zero]
  repeat (first | go_big_quiet_step (fail) | quiet_step (fail))
  refine wpQuiet_nil ?_
  intro _ hw'
  obtain ⟨⟨dq, osq⟩, hw''⟩ := hw'
  subst hw''
  have HBU : Hid (Below Y.heap.size Y (grow (redrawn Y dq) osq)) := below_regrown Y dq osq
  generalize grow (redrawn Y dq) osq = X at HBU ⊢
  have LX := LY.out.below HBU.out
  have hgX := LX.lt
  obtain ⟨x1, f1⟩ := cell_row LX.box 1 _ rfl
  have FIN : Hid (Lv B (X.setCell ⟨g, 1, none⟩ (.int .u32 ((fr : Int) + (hs : Int)))) g (.slice (some ⟨r, 0, none⟩) Z.length cap) Z (fr + hs)) := by
    refine ⟨Row.block LX.row fun k hk => ?_, ?_, LX.low⟩
    · exact Below.heap_setCell _ _ _ _ (fun e => LX.apart (by rw [hk]; exact congrArg some e))
    · have := set_row LX.box 1 (.int .u32 ((fr : Int) + (hs : Int)))
      rw [this]; rfl
  have BF : Hid (But (lvS g (.slice (some ⟨r, 0, none⟩) Z.length cap)) w (X.setCell ⟨g, 1, none⟩ (.int .u32 ((fr : Int) + (hs : Int))))) := (BY.out.trans (But.of_below HBU.out)).set (.inl rfl) _ _
  clear LX
  go_wp2_with fail
  go_end0
  exact ⟨rfl, FIN.out, BF.out⟩

end Go.Proofs.Ytomfooddehddhae
