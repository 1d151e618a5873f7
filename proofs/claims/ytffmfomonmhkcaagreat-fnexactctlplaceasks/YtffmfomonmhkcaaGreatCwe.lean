/-
  Contracts of the laws' own comparing of data that hold the same.
-/
import Derived.Test.YtffmfomonmhkcaaGreatM46
namespace Go.Proofs.YtffmfomonmhkcaaGreat
open Go.RowKit

set_option maxRecDepth 100000 in
set_option maxHeartbeats 4000000 in
theorem eqClaimUse_any (S S' : Nat → Prop) (a : DClaimUse) (c c' : Nat → Value) (w : World) (h : Lay.At S w a c) (h' : Lay.At S' w a c') (_hS : ∀ b, S b → b < w.heap.size) (_hS' : ∀ b, S' b → b < w.heap.size) :
    Calls Tryz.prog 111 #[.agg #[c 0, c 1, c 2], .agg #[c' 0, c' 1, c' 2]] w fun e w' => e = .returned (.bool true) ∧ Below w.heap.size w w' := by
  rw [at_DClaimUse] at h
  obtain ⟨⟨ep0, _⟩, ⟨ep1, _, _⟩, ⟨ep2, _, _⟩⟩ := h
  rw [ep0, ep1, ep2]
  clear ep0 ep1 ep2
  rw [at_DClaimUse] at h'
  obtain ⟨⟨eq0, _⟩, ⟨eq1, _, _⟩, ⟨eq2, _, _⟩⟩ := h'
  rw [eq0, eq1, eq2]
  clear eq0 eq1 eq2
  have k0 : Hid (Below w.heap.size w ((w.alloc (.cells #[.string a.1, .int .i64 a.2.1, .int .i64 a.2.2] 54)).alloc (.cells #[.string a.1, .int .i64 a.2.1, .int .i64 a.2.2] 54))) := ((Below.refl _ _).alloc (Nat.le_refl _) _).alloc (by simp) _
  go_enter Tryz.func111, Tryz.ntmps111
  go_wp2
  go_ret
  exact ⟨rfl, k0.out⟩
open Go.Sort in
theorem eqClaimUseq (S S' : Nat → Prop) (a : DClaimUse) (c c' : Nat → Value) (wr : World) (h : Lay.At S wr a c) (h' : Lay.At S' wr a c') (hS : ∀ b, S b → b < wr.heap.size) (hS' : ∀ b, S' b → b < wr.heap.size) (d : Nat) (os : Array Obj) : Calls Tryz.prog 111 #[.agg #[c 0, c 1, c 2], .agg #[c' 0, c' 1, c' 2]] (grow (redrawn wr d) os) fun e w'' => e = .returned (.bool true) ∧ ∃ p : Regrown, w'' = grow (redrawn wr p.d) p.os :=
  Calls.regrown_of (eqClaimUse_any S S' a c c' _ (Lay.same h (Same.of_below (below_regrown wr d os) hS)) (Lay.same h' (Same.of_below (below_regrown wr d os) hS')) (fun b hb => Nat.lt_of_lt_of_le (hS b hb) (below_regrown wr d os).size) (fun b hb => Nat.lt_of_lt_of_le (hS' b hb) (below_regrown wr d os).size))

set_option maxRecDepth 100000 in
set_option maxHeartbeats 4000000 in
theorem eqStringS_any (S S' : Nat → Prop) (l : List ByteArray) (va vb : Value) (w : World) (ha : AtL S w l va) (hb : AtL S' w l vb) (hS : ∀ b, S b → b < w.heap.size) (hS' : ∀ b, S' b → b < w.heap.size) :
    Calls Tryz.prog 12 #[va, vb] w fun e w' => e = .returned (.bool true) ∧ Below w.heap.size w w' := by
  obtain ⟨oa, ca, rfl, hn, hca⟩ := ha
  obtain ⟨ob, cb, rfl, _, hcb⟩ := hb
  obtain ⟨n, en⟩ : ∃ n, l.length = n := ⟨_, rfl⟩
  rw [en] at hn
  rw [en]
  unfold maxLen at hn
  have HA : Hid _ := hca
  have HB : Hid _ := hcb
  clear hca hcb
  go_enter Tryz.func12, Tryz.ntmps12
  go_wp2
  go_loopw [5] (fun i wr => ∃ k : Nat, k ≤ n ∧ i = .int .i64 k ∧ Hid (Below w.heap.size w wr)) (fun i _ => n - (intOf i).toNat)
  case atStart => exact ⟨0, Nat.zero_le _, rfl, Below.refl _ _⟩
  case round =>
    obtain ⟨k, hk, rfl, hbel⟩ := hrel
    have hs := hbel.out.size
    by_cases hlt : k < n
    · obtain ⟨ba, fa, rfl, hba, cc, hxa, hata⟩ := HA.out k (by omega)
      obtain ⟨bb, fb, rfl, hbb, dd, hxb, hatb⟩ := HB.out k (by omega)
      have hba' := hS ba hba
      have hbb' := hS' bb hbb
      rw [width_str] at hxa hxb
      have a0 : wr.cell? ⟨ba, fa + k, none⟩ = some (cc 0) := (hbel.out.cell (p := ⟨ba, fa + k, none⟩) (by show ba < _; omega)).trans (by simpa using hxa 0 (by omega))
      have c0 : wr.cell? ⟨bb, fb + k, none⟩ = some (dd 0) := (hbel.out.cell (p := ⟨bb, fb + k, none⟩) (by show bb < _; omega)).trans (by simpa using hxb 0 (by omega))
      rw [at_str] at hata hatb
      rw [hata.1] at a0
      rw [hatb.1] at c0
      clear hata hatb
      clear hxa hxb
      have qa0 := fun d os => cell_regrown a0 d os
      have qc0 := fun d os => cell_regrown c0 d os
      go_wp2
      refine wp_region_quiet_below (by kernel_rfl) (by kernel_rfl) ?_
      repeat (first | go_big_quiet_step (fail) | quiet_step (fail))
      refine wpQuiet_nil ?_
      intro _ hw'
      obtain ⟨⟨dq, osq⟩, hw''⟩ := hw'
      subst hw''
      go_wp2
      go_roundw
      case rel => exact ⟨k + 1, by omega, by go_num, hbel.out.trans ((below_regrown _ dq osq).mono hs)⟩
      case measure => simp [intOf]; omega
    · go_wp2
      go_ret
      exact ⟨rfl, hbel.out⟩

set_option maxRecDepth 100000 in
set_option maxHeartbeats 4000000 in
theorem eqClaimUseS_any (S S' : Nat → Prop) (l : List DClaimUse) (va vb : Value) (w : World) (ha : AtL S w l va) (hb : AtL S' w l vb) (hS : ∀ b, S b → b < w.heap.size) (hS' : ∀ b, S' b → b < w.heap.size) :
    Calls Tryz.prog 102 #[va, vb] w fun e w' => e = .returned (.bool true) ∧ Below w.heap.size w w' := by
  obtain ⟨oa, ca, rfl, hn, hca⟩ := ha
  obtain ⟨ob, cb, rfl, _, hcb⟩ := hb
  obtain ⟨n, en⟩ : ∃ n, l.length = n := ⟨_, rfl⟩
  rw [en] at hn
  rw [en]
  unfold maxLen at hn
  have HA : Hid _ := hca
  have HB : Hid _ := hcb
  clear hca hcb
  go_enter Tryz.func102, Tryz.ntmps102
  go_wp2
  go_loopw [5] (fun i wr => ∃ k : Nat, k ≤ n ∧ i = .int .i64 k ∧ Hid (Below w.heap.size w wr)) (fun i _ => n - (intOf i).toNat)
  case atStart => exact ⟨0, Nat.zero_le _, rfl, Below.refl _ _⟩
  case round =>
    obtain ⟨k, hk, rfl, hbel⟩ := hrel
    have hs := hbel.out.size
    by_cases hlt : k < n
    · obtain ⟨ba, fa, rfl, hba, cc, hxa, hata⟩ := HA.out k (by omega)
      obtain ⟨bb, fb, rfl, hbb, dd, hxb, hatb⟩ := HB.out k (by omega)
      have hba' := hS ba hba
      have hbb' := hS' bb hbb
      rw [width_DClaimUse] at hxa hxb
      have a0 : wr.cell? ⟨ba, fa + k * 3, none⟩ = some (cc 0) := (hbel.out.cell (p := ⟨ba, fa + k * 3, none⟩) (by show ba < _; omega)).trans (hxa 0 (by omega))
      have a1 : wr.cell? ⟨ba, fa + k * 3 + 1, none⟩ = some (cc 1) := (hbel.out.cell (p := ⟨ba, fa + k * 3 + 1, none⟩) (by show ba < _; omega)).trans (hxa 1 (by omega))
      have a2 : wr.cell? ⟨ba, fa + k * 3 + 2, none⟩ = some (cc 2) := (hbel.out.cell (p := ⟨ba, fa + k * 3 + 2, none⟩) (by show ba < _; omega)).trans (hxa 2 (by omega))
      have c0 : wr.cell? ⟨bb, fb + k * 3, none⟩ = some (dd 0) := (hbel.out.cell (p := ⟨bb, fb + k * 3, none⟩) (by show bb < _; omega)).trans (hxb 0 (by omega))
      have c1 : wr.cell? ⟨bb, fb + k * 3 + 1, none⟩ = some (dd 1) := (hbel.out.cell (p := ⟨bb, fb + k * 3 + 1, none⟩) (by show bb < _; omega)).trans (hxb 1 (by omega))
      have c2 : wr.cell? ⟨bb, fb + k * 3 + 2, none⟩ = some (dd 2) := (hbel.out.cell (p := ⟨bb, fb + k * 3 + 2, none⟩) (by show bb < _; omega)).trans (hxb 2 (by omega))
      have HAA : Hid (Lay.At S wr (l[k]'(by omega)) cc) := Lay.same hata (Same.of_below hbel.out hS)
      have HBB : Hid (Lay.At S' wr (l[k]'(by omega)) dd) := Lay.same hatb (Same.of_below hbel.out hS')
      clear hata hatb
      have hSr : ∀ b, S b → b < wr.heap.size := fun b hb => Nat.lt_of_lt_of_le (hS b hb) hs
      have hSr' : ∀ b, S' b → b < wr.heap.size := fun b hb => Nat.lt_of_lt_of_le (hS' b hb) hs
      clear hxa hxb
      have qa0 := fun d os => cell_regrown a0 d os
      have qa1 := fun d os => cell_regrown a1 d os
      have qa2 := fun d os => cell_regrown a2 d os
      have qc0 := fun d os => cell_regrown c0 d os
      have qc1 := fun d os => cell_regrown c1 d os
      have qc2 := fun d os => cell_regrown c2 d os
      go_wp2
      refine wp_region_quiet_below (by kernel_rfl) (by kernel_rfl) ?_
      repeat (first | go_big_quiet_step (with_reducible exact eqClaimUseq S S' _ _ _ _ HAA.out HBB.out hSr hSr' _ _) | quiet_step (with_reducible exact eqClaimUseq S S' _ _ _ _ HAA.out HBB.out hSr hSr' _ _))
      refine wpQuiet_nil ?_
      intro _ hw'
      obtain ⟨⟨dq, osq⟩, hw''⟩ := hw'
      subst hw''
      go_wp2
      go_roundw
      case rel => exact ⟨k + 1, by omega, by go_num, hbel.out.trans ((below_regrown _ dq osq).mono hs)⟩
      case measure => simp [intOf]; omega
    · go_wp2
      go_ret
      exact ⟨rfl, hbel.out⟩

set_option maxRecDepth 100000 in
set_option maxHeartbeats 4000000 in
theorem eqClaimWant_any (S S' : Nat → Prop) (a : DClaimWant) (c c' : Nat → Value) (w : World) (h : Lay.At S w a c) (h' : Lay.At S' w a c') (hS : ∀ b, S b → b < w.heap.size) (hS' : ∀ b, S' b → b < w.heap.size) :
    Calls Tryz.prog 73 #[.agg #[c 0, c 1, c 2, c 3, c 4, c 5], .agg #[c' 0, c' 1, c' 2, c' 3, c' 4, c' 5]] w fun e w' => e = .returned (.bool true) ∧ Below w.heap.size w w' := by
  rw [at_DClaimWant] at h
  obtain ⟨⟨ep0, _, _⟩, ⟨ep1, _, _⟩, Hp2, Hp3, Hp4, Hp5⟩ := h
  obtain ⟨vp2, ep2⟩ : ∃ v, c 2 = v := ⟨_, rfl⟩
  rw [ep2] at Hp2
  obtain ⟨vp3, ep3⟩ : ∃ v, c 3 = v := ⟨_, rfl⟩
  rw [ep3] at Hp3
  obtain ⟨vp4, ep4⟩ : ∃ v, c 4 = v := ⟨_, rfl⟩
  rw [ep4] at Hp4
  obtain ⟨vp5, ep5⟩ : ∃ v, c 5 = v := ⟨_, rfl⟩
  rw [ep5] at Hp5
  rw [ep0, ep1, ep2, ep3, ep4, ep5]
  clear ep0 ep1 ep2 ep3 ep4 ep5
  rw [at_DClaimWant] at h'
  obtain ⟨⟨eq0, _, _⟩, ⟨eq1, _, _⟩, Hq2, Hq3, Hq4, Hq5⟩ := h'
  obtain ⟨vq2, eq2⟩ : ∃ v, c' 2 = v := ⟨_, rfl⟩
  rw [eq2] at Hq2
  obtain ⟨vq3, eq3⟩ : ∃ v, c' 3 = v := ⟨_, rfl⟩
  rw [eq3] at Hq3
  obtain ⟨vq4, eq4⟩ : ∃ v, c' 4 = v := ⟨_, rfl⟩
  rw [eq4] at Hq4
  obtain ⟨vq5, eq5⟩ : ∃ v, c' 5 = v := ⟨_, rfl⟩
  rw [eq5] at Hq5
  rw [eq0, eq1, eq2, eq3, eq4, eq5]
  clear eq0 eq1 eq2 eq3 eq4 eq5
  have k0 : Hid (Below w.heap.size w ((w.alloc (.cells #[.int .i64 a.1, .int .i64 a.2.1, vp2, vp3, vp4, vp5] 52)).alloc (.cells #[.int .i64 a.1, .int .i64 a.2.1, vq2, vq3, vq4, vq5] 52))) := ((Below.refl _ _).alloc (Nat.le_refl _) _).alloc (by simp) _
  go_enter Tryz.func73, Tryz.ntmps73
  go_wp2_with fail
  refine (eqStringS_any S S' _ vp2 vq2 _ (Hp2.same (Same.of_below k0.out hS)) (Hq2.same (Same.of_below k0.out hS')) (fun b hb => by have := hS b hb; simp; omega) (fun b hb => by have := hS' b hb; simp; omega)).mono ?_
  rintro e w1 ⟨rfl, hb1⟩
  have k1 : Hid (Below w.heap.size w w1) := k0.out.trans (hb1.mono (by simp; omega))
  have x1_3 : w1.cell? ⟨w.heap.size, 3, none⟩ = some (vp3) := (hb1.cell (p := ⟨w.heap.size, 3, none⟩) (by simp; omega)).trans (cell_past (cell_row (heap_alloc_new w (.cells #[.int .i64 a.1, .int .i64 a.2.1, vp2, vp3, vp4, vp5] 52)) 3 _ rfl).1 (by simp) _)
  have y1_3 : w1.cell? ⟨w.heap.size + 1, 3, none⟩ = some (vq3) := (hb1.cell (p := ⟨w.heap.size + 1, 3, none⟩) (by simp)).trans (by simp)
  have x1_4 : w1.cell? ⟨w.heap.size, 4, none⟩ = some (vp4) := (hb1.cell (p := ⟨w.heap.size, 4, none⟩) (by simp; omega)).trans (cell_past (cell_row (heap_alloc_new w (.cells #[.int .i64 a.1, .int .i64 a.2.1, vp2, vp3, vp4, vp5] 52)) 4 _ rfl).1 (by simp) _)
  have y1_4 : w1.cell? ⟨w.heap.size + 1, 4, none⟩ = some (vq4) := (hb1.cell (p := ⟨w.heap.size + 1, 4, none⟩) (by simp)).trans (by simp)
  have x1_5 : w1.cell? ⟨w.heap.size, 5, none⟩ = some (vp5) := (hb1.cell (p := ⟨w.heap.size, 5, none⟩) (by simp; omega)).trans (cell_past (cell_row (heap_alloc_new w (.cells #[.int .i64 a.1, .int .i64 a.2.1, vp2, vp3, vp4, vp5] 52)) 5 _ rfl).1 (by simp) _)
  have y1_5 : w1.cell? ⟨w.heap.size + 1, 5, none⟩ = some (vq5) := (hb1.cell (p := ⟨w.heap.size + 1, 5, none⟩) (by simp)).trans (by simp)
  have s1 : w.heap.size + 2 ≤ w1.heap.size := by have := hb1.size; simp at this; omega
  go_wp2_with fail
  refine (eqClaimUseS_any S S' _ vp3 vq3 _ (Hp3.same (Same.of_below k1.out hS)) (Hq3.same (Same.of_below k1.out hS')) (fun b hb => by have := hS b hb; omega) (fun b hb => by have := hS' b hb; omega)).mono ?_
  rintro e w2 ⟨rfl, hb2⟩
  have k2 : Hid (Below w.heap.size w w2) := k1.out.trans (hb2.mono (by omega))
  have x2_4 : w2.cell? ⟨w.heap.size, 4, none⟩ = some (vp4) := (hb2.cell (p := ⟨w.heap.size, 4, none⟩) (by show w.heap.size < _; omega)).trans x1_4
  have y2_4 : w2.cell? ⟨w.heap.size + 1, 4, none⟩ = some (vq4) := (hb2.cell (p := ⟨w.heap.size + 1, 4, none⟩) (by show w.heap.size + 1 < _; omega)).trans y1_4
  have x2_5 : w2.cell? ⟨w.heap.size, 5, none⟩ = some (vp5) := (hb2.cell (p := ⟨w.heap.size, 5, none⟩) (by show w.heap.size < _; omega)).trans x1_5
  have y2_5 : w2.cell? ⟨w.heap.size + 1, 5, none⟩ = some (vq5) := (hb2.cell (p := ⟨w.heap.size + 1, 5, none⟩) (by show w.heap.size + 1 < _; omega)).trans y1_5
  have s2 : w.heap.size + 2 ≤ w2.heap.size := by have := hb2.size; omega
  go_wp2_with fail
  refine (eqStringS_any S S' _ vp4 vq4 _ (Hp4.same (Same.of_below k2.out hS)) (Hq4.same (Same.of_below k2.out hS')) (fun b hb => by have := hS b hb; omega) (fun b hb => by have := hS' b hb; omega)).mono ?_
  rintro e w3 ⟨rfl, hb3⟩
  have k3 : Hid (Below w.heap.size w w3) := k2.out.trans (hb3.mono (by omega))
  have x3_5 : w3.cell? ⟨w.heap.size, 5, none⟩ = some (vp5) := (hb3.cell (p := ⟨w.heap.size, 5, none⟩) (by show w.heap.size < _; omega)).trans x2_5
  have y3_5 : w3.cell? ⟨w.heap.size + 1, 5, none⟩ = some (vq5) := (hb3.cell (p := ⟨w.heap.size + 1, 5, none⟩) (by show w.heap.size + 1 < _; omega)).trans y2_5
  have s3 : w.heap.size + 2 ≤ w3.heap.size := by have := hb3.size; omega
  go_wp2_with fail
  refine (eqStringS_any S S' _ vp5 vq5 _ (Hp5.same (Same.of_below k3.out hS)) (Hq5.same (Same.of_below k3.out hS')) (fun b hb => by have := hS b hb; omega) (fun b hb => by have := hS' b hb; omega)).mono ?_
  rintro e w4 ⟨rfl, hb4⟩
  have k4 : Hid (Below w.heap.size w w4) := k3.out.trans (hb4.mono (by omega))
  have s4 : w.heap.size + 2 ≤ w4.heap.size := by have := hb4.size; omega
  go_wp2_with fail
  go_ret
  exact ⟨rfl, k4.out⟩
open Go.Sort in
theorem eqClaimWantq (S S' : Nat → Prop) (a : DClaimWant) (c c' : Nat → Value) (wr : World) (h : Lay.At S wr a c) (h' : Lay.At S' wr a c') (hS : ∀ b, S b → b < wr.heap.size) (hS' : ∀ b, S' b → b < wr.heap.size) (d : Nat) (os : Array Obj) : Calls Tryz.prog 73 #[.agg #[c 0, c 1, c 2, c 3, c 4, c 5], .agg #[c' 0, c' 1, c' 2, c' 3, c' 4, c' 5]] (grow (redrawn wr d) os) fun e w'' => e = .returned (.bool true) ∧ ∃ p : Regrown, w'' = grow (redrawn wr p.d) p.os :=
  Calls.regrown_of (eqClaimWant_any S S' a c c' _ (Lay.same h (Same.of_below (below_regrown wr d os) hS)) (Lay.same h' (Same.of_below (below_regrown wr d os) hS')) (fun b hb => Nat.lt_of_lt_of_le (hS b hb) (below_regrown wr d os).size) (fun b hb => Nat.lt_of_lt_of_le (hS' b hb) (below_regrown wr d os).size))

end Go.Proofs.YtffmfomonmhkcaaGreat
