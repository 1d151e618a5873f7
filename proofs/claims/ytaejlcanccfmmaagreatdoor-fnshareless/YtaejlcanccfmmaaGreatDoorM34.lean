/-
  Several texts in one.
-/
import Derived.Test.YtaejlcanccfmmaaGreatDoorLy
import Derived.Test.YtaejlcanccfmmaaGreatDoorHm
import Derived.Test.YtaejlcanccfmmaaGreatDoorM2
import Derived.Deep.Cut
namespace Go.Proofs.YtaejlcanccfmmaaGreatDoor
open Go.RowKit Go.Sort
set_option maxRecDepth 100000 in
set_option maxHeartbeats 4000000 in
theorem whTexts_any (S S' : Nat → Prop) (l : List ByteArray) (va vb : Value) (w : World) (ha : AtL S w l va) (hb : AtL S' w l vb) (hS : ∀ b, S b → b < w.heap.size) (hS' : ∀ b, S' b → b < w.heap.size) :
    Calls Tryz.prog 22 #[va, vb] w fun e w' => e = .returned (.bool true) ∧ Below w.heap.size w w' := by
  obtain ⟨oa, ca, rfl, hn, hca⟩ := ha
  obtain ⟨ob, cb, rfl, _, hcb⟩ := hb
  obtain ⟨n, en⟩ : ∃ n, l.length = n := ⟨_, rfl⟩
  rw [en] at hn
  rw [en]
  unfold maxLen at hn
  have HA : Hid _ := hca
  have HB : Hid _ := hcb
  clear hca hcb
  go_enter Tryz.func22, Tryz.ntmps22
  go_wp2
  go_loopw [5] (fun i wr => ∃ k : Nat, k ≤ n ∧ i = .int .i64 k ∧ Hid (Below w.heap.size w wr)) (fun i _ => n - (intOf i).toNat)
  case atStart => exact ⟨0, Nat.zero_le _, rfl, Below.refl _ _⟩
  case round =>
    obtain ⟨k, hk, rfl, hbel⟩ := hrel
    have hs := hbel.out.size
    by_cases hlt : k < n
    · obtain ⟨ba, fa, rfl, hba, cc, hxa, hata⟩ := HA.out k (by omega)
      obtain ⟨bb, fb, rfl, hbb, dd, hxb, hatb⟩ := HB.out k (by omega)
      have hba' := hS ba hba
      have hbb' := hS' bb hbb
      rw [width_str] at hxa hxb
      have a0 : wr.cell? ⟨ba, fa + k, none⟩ = some (cc 0) := (hbel.out.cell (p := ⟨ba, fa + k, none⟩) (by show ba < _; omega)).trans (by have hq := hxa 0 (by omega); first | exact hq | simpa using hq)
      have c0 : wr.cell? ⟨bb, fb + k, none⟩ = some (dd 0) := (hbel.out.cell (p := ⟨bb, fb + k, none⟩) (by show bb < _; omega)).trans (by have hq := hxb 0 (by omega); first | exact hq | simpa using hq)
      rw [at_str] at hata hatb
      rw [hata.1] at a0
      rw [hatb.1] at c0
      clear hata hatb
      clear hxa hxb
      have qa0 := fun d os => cell_regrown a0 d os
      have qc0 := fun d os => cell_regrown c0 d os
      go_wp2
      refine wp_region_quiet_below (by kernel_rfl) (by kernel_rfl) ?_
      repeat (first | go_big_quiet_step (fail) | quiet_step (fail))
      refine wpQuiet_nil ?_
      intro _ hw'
      obtain ⟨⟨dq, osq⟩, hw''⟩ := hw'
      subst hw''
      go_wp2
      go_roundw
      case rel => exact ⟨k + 1, by omega, by go_num, hbel.out.trans ((below_regrown _ dq osq).mono hs)⟩
      case measure => simp [intOf]; omega
    · go_wp2
      go_ret
      exact ⟨rfl, hbel.out⟩
end Go.Proofs.YtaejlcanccfmmaaGreatDoor

namespace Go.Proofs.YtaejlcanccfmmaaGreatDoor
open Go.RowKit Go.Sort
open Go.Sort in
theorem whTexts_q (S S' : Nat → Prop) (l : List ByteArray) (va vb : Value) (wr : World) (ha : AtL S wr l va) (hb : AtL S' wr l vb) (hS : ∀ b, S b → b < wr.heap.size) (hS' : ∀ b, S' b → b < wr.heap.size) (d : Nat) (os : Array Obj) : Calls Tryz.prog 22 #[va, vb] (grow (redrawn wr d) os) fun e w'' => e = .returned (.bool true) ∧ ∃ p : Regrown, w'' = grow (redrawn wr p.d) p.os :=
  Calls.regrown_of (whTexts_any S S' l va vb _ (ha.same (Same.of_below (below_regrown wr d os) hS)) (hb.same (Same.of_below (below_regrown wr d os) hS')) (fun b hb => Nat.lt_of_lt_of_le (hS b hb) (below_regrown wr d os).size) (fun b hb => Nat.lt_of_lt_of_le (hS' b hb) (below_regrown wr d os).size))
set_option maxRecDepth 100000 in
set_option maxHeartbeats 8000000 in
theorem whBook_any (S S' : Nat → Prop) (T : List ByteArray) (Bs : List DShareBatch) (v0 v1 u0 u1 : Value) (w : World) (h0 : AtL S w T v0) (h1 : AtL S w Bs v1) (g0 : AtL S' w T u0) (g1 : AtL S' w Bs u1) (hS : ∀ b, S b → b < w.heap.size) (hS' : ∀ b, S' b → b < w.heap.size) :
    Calls Tryz.prog 7 #[.agg #[v0, v1], .agg #[u0, u1]] w fun e w' => e = .returned (.bool true) ∧ Below w.heap.size w w' := by
  obtain ⟨oa, ca, rfl, hn, hca⟩ := h1
  obtain ⟨ob, cb, rfl, _, hcb⟩ := g1
  obtain ⟨n, en⟩ : ∃ n, Bs.length = n := ⟨_, rfl⟩
  rw [en] at hn
  rw [en]
  unfold maxLen at hn
  have HA : Hid _ := hca
  have HB : Hid _ := hcb
  clear hca hcb
  obtain ⟨W, hW⟩ : ∃ W, W = (w.alloc (.cells #[v0, .slice oa n ca] 26)).alloc (.cells #[u0, .slice ob n cb] 26) := ⟨_, rfl⟩
  have EW : Hid (W = (w.alloc (.cells #[v0, .slice oa n ca] 26)).alloc (.cells #[u0, .slice ob n cb] 26)) := hW
  have BW : Hid (Below w.heap.size w W) := by rw [hW]; exact ((Below.refl _ _).alloc (Nat.le_refl _) _).alloc (by simp) _
  have R1 : Hid (W.heap[w.heap.size]? = some (.cells #[v0, .slice oa n ca] 26 (0, 0))) := by rw [hW]; exact (Below.heap_alloc _ _ _ (by simp)).trans (heap_alloc_new w _)
  have R2 : Hid (W.heap[w.heap.size + 1]? = some (.cells #[u0, .slice ob n cb] 26 (0, 0))) := by
    rw [hW]
    have := heap_alloc_new (w.alloc (.cells #[v0, .slice oa n ca] 26)) (.cells #[u0, .slice ob n cb] 26)
    rw [World.size_alloc] at this
    exact this
  have sW : w.heap.size + 2 ≤ W.heap.size := by rw [hW]; simp
  clear hW
  have BOX : Hid (∀ u, Below W.heap.size W u → u.cell? ⟨w.heap.size, 0, none⟩ = some v0 ∧ u.cell? ⟨w.heap.size, 1, none⟩ = some (.slice oa n ca) ∧ u.cell? ⟨w.heap.size + 1, 0, none⟩ = some u0 ∧ u.cell? ⟨w.heap.size + 1, 1, none⟩ = some (.slice ob n cb) ∧ Below w.heap.size w u) := fun u hu => by
    have b1 := (hu.block _ (by omega)).trans R1.out
    have b2 := (hu.block _ (by omega)).trans R2.out
    exact ⟨(cell_row b1 0 v0 rfl).1, (cell_row b1 1 (.slice oa n ca) rfl).1, (cell_row b2 0 u0 rfl).1, (cell_row b2 1 (.slice ob n cb) rfl).1, BW.out.trans (hu.mono (by omega))⟩
  have CT : Hid (Calls Tryz.prog 22 #[v0, u0] W fun e w' => e = .returned (.bool true) ∧ Below W.heap.size W w') := whTexts_any S S' T v0 u0 W (h0.same (Same.of_below BW.out hS)) (g0.same (Same.of_below BW.out hS')) (fun b hb => Nat.lt_of_lt_of_le (hS b hb) BW.out.size) (fun b hb => Nat.lt_of_lt_of_le (hS' b hb) BW.out.size)
  clear h0 g0
  obtain ⟨y0, y1, z0, z1, _⟩ := BOX.out W (Below.refl _ _)
  go_enter Tryz.func7, Tryz.ntmps7
  go_upto_region 1 with fail
  rw [← EW.out]
  go_wp2_with fail
  refine Calls.mono CT.out ?_
  rintro e w1 ⟨rfl, hb1⟩
  have B1 : Hid (Below W.heap.size W w1) := hb1
  clear hb1 y0 y1 z0 z1 CT
  obtain ⟨y0, y1, z0, z1, _⟩ := BOX.out w1 B1.out
  have nn : ((n : Int) != (n : Int)) = false := by simp
  go_wp2_with fail
  clear y0 y1 z0 z1
  go_loopw [5] (fun i wr => ∃ k : Nat, k ≤ n ∧ i = .int .i64 k ∧ Hid (Below W.heap.size W wr)) (fun i _ => n - (intOf i).toNat)
  case atStart => exact ⟨0, Nat.zero_le _, rfl, B1.out⟩
  case round =>
    obtain ⟨k, hk, rfl, hbel⟩ := hrel
    have hs := hbel.out.size
    obtain ⟨y0, y1, z0, z1, BWR⟩ := BOX.out wr hbel.out
    by_cases hlt : k < n
    · obtain ⟨ba, fa, rfl, hba, cc, hxa, hata⟩ := HA.out k (by omega)
      obtain ⟨bb, fb, rfl, hbb, dd, hxb, hatb⟩ := HB.out k (by omega)
      have hba' := hS ba hba
      have hbb' := hS' bb hbb
      rw [width_DShareBatch] at hxa hxb
      have a0 : wr.cell? ⟨ba, fa + k * 3, none⟩ = some (cc 0) := (BWR.cell (p := ⟨ba, fa + k * 3, none⟩) hba').trans (by have hq := hxa 0 (by omega); first | exact hq | simpa using hq)
      have a1 : wr.cell? ⟨ba, fa + k * 3 + 1, none⟩ = some (cc 1) := (BWR.cell (p := ⟨ba, fa + k * 3 + 1, none⟩) hba').trans (by have hq := hxa 1 (by omega); first | exact hq | simpa using hq)
      have a2 : wr.cell? ⟨ba, fa + k * 3 + 2, none⟩ = some (cc 2) := (BWR.cell (p := ⟨ba, fa + k * 3 + 2, none⟩) hba').trans (by have hq := hxa 2 (by omega); first | exact hq | simpa using hq)
      have c0 : wr.cell? ⟨bb, fb + k * 3, none⟩ = some (dd 0) := (BWR.cell (p := ⟨bb, fb + k * 3, none⟩) hbb').trans (by have hq := hxb 0 (by omega); first | exact hq | simpa using hq)
      have c1 : wr.cell? ⟨bb, fb + k * 3 + 1, none⟩ = some (dd 1) := (BWR.cell (p := ⟨bb, fb + k * 3 + 1, none⟩) hbb').trans (by have hq := hxb 1 (by omega); first | exact hq | simpa using hq)
      have c2 : wr.cell? ⟨bb, fb + k * 3 + 2, none⟩ = some (dd 2) := (BWR.cell (p := ⟨bb, fb + k * 3 + 2, none⟩) hbb').trans (by have hq := hxb 2 (by omega); first | exact hq | simpa using hq)
      rw [at_DShareBatch] at hata hatb
      obtain ⟨⟨ea, _⟩, p1, p2⟩ := hata
      obtain ⟨⟨eb, _⟩, q1, q2⟩ := hatb
      rw [ea] at a0
      rw [eb] at c0
      obtain ⟨x, ex⟩ : ∃ x, (Bs[k]'(by omega)).1 = x := ⟨_, rfl⟩
      rw [ex] at a0 c0
      have nx : (x.toList != x.toList) = false := by simp
      have P1 : Hid (AtL S wr (Bs[k]'(by omega)).2.1 (cc 1)) := AtL.same p1 (Same.of_below BWR hS)
      have P2 : Hid (AtL S wr (Bs[k]'(by omega)).2.2 (cc 2)) := AtL.same p2 (Same.of_below BWR hS)
      have Q1 : Hid (AtL S' wr (Bs[k]'(by omega)).2.1 (dd 1)) := AtL.same q1 (Same.of_below BWR hS')
      have Q2 : Hid (AtL S' wr (Bs[k]'(by omega)).2.2 (dd 2)) := AtL.same q2 (Same.of_below BWR hS')
      clear p1 p2 q1 q2 hxa hxb ea eb ex
      have hSr : ∀ b, S b → b < wr.heap.size := fun b hb => Nat.lt_of_lt_of_le (hS b hb) BWR.size
      have hSr' : ∀ b, S' b → b < wr.heap.size := fun b hb => Nat.lt_of_lt_of_le (hS' b hb) BWR.size
      have ry1 := fun d os => cell_regrown y1 d os
      have rz1 := fun d os => cell_regrown z1 d os
      have qa0 := fun d os => cell_regrown a0 d os
      have qa1 := fun d os => cell_regrown a1 d os
      have qa2 := fun d os => cell_regrown a2 d os
      have qc0 := fun d os => cell_regrown c0 d os
      have qc1 := fun d os => cell_regrown c1 d os
      have qc2 := fun d os => cell_regrown c2 d os
      go_wp2_with fail
      refine wp_region_quiet_below (by kernel_rfl) (by kernel_rfl) ?_
      repeat (first | go_big_quiet_step (first | (with_reducible exact whTexts_q S S' _ _ _ _ P1.out Q1.out hSr hSr' _ _) | (with_reducible exact whTexts_q S S' _ _ _ _ P2.out Q2.out hSr hSr' _ _)) | quiet_step (first | (with_reducible exact whTexts_q S S' _ _ _ _ P1.out Q1.out hSr hSr' _ _) | (with_reducible exact whTexts_q S S' _ _ _ _ P2.out Q2.out hSr hSr' _ _)))
      refine wpQuiet_nil ?_
      intro _ hw'
      obtain ⟨⟨dq, osq⟩, hw''⟩ := hw'
      subst hw''
      go_wp2_with fail
      go_roundw
      case rel => exact ⟨k + 1, by omega, by go_num, hbel.out.trans ((below_regrown _ dq osq).mono hs)⟩
      case measure => simp [intOf]; omega
    · have FB := BWR
      go_wp2_with fail
      go_ret
      exact ⟨rfl, FB⟩
end Go.Proofs.YtaejlcanccfmmaaGreatDoor
