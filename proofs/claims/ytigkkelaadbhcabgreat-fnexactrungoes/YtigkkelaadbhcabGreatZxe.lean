import Derived.Test.YtigkkelaadbhcabGreatM15
namespace Go.Proofs.YtigkkelaadbhcabGreat
open Go.RowKit
set_option maxRecDepth 100000 in
set_option maxHeartbeats 4000000 in
theorem eqStringS_any (S S' : Nat → Prop) (l : List ByteArray) (va vb : Value) (w : World) (ha : AtL S w l va) (hb : AtL S' w l vb) (hS : ∀ b, S b → b < w.heap.size) (hS' : ∀ b, S' b → b < w.heap.size) :
    Calls Tryz.prog 8 #[va, vb] w fun e w' => e = .returned (.bool true) ∧ Below w.heap.size w w' := by
  obtain ⟨oa, ca, rfl, hn, hca⟩ := ha
  obtain ⟨ob, cb, rfl, _, hcb⟩ := hb
  obtain ⟨n, en⟩ : ∃ n, l.length = n := ⟨_, rfl⟩
  rw [en] at hn
  rw [en]
  unfold maxLen at hn
  have HA : Hid _ := hca
  have HB : Hid _ := hcb
  clear hca hcb
  go_enter Tryz.func8, Tryz.ntmps8
  go_wp2
  go_loopw [5] (fun i wr => ∃ k : Nat, k ≤ n ∧ i = .int .i64 k ∧ Hid (Below w.heap.size w wr)) (fun i _ => n - (intOf i).toNat)
  case atStart => exact ⟨0, Nat.zero_le _, rfl, Below.refl _ _⟩
  case round =>
    obtain ⟨k, hk, rfl, hbel⟩ := hrel
    have hs := hbel.out.size
    by_cases hlt : k < n
    · obtain ⟨ba, fa, rfl, hba, cc, hxa, hata⟩ := HA.out k (by omega)
      obtain ⟨bb, fb, rfl, hbb, dd, hxb, hatb⟩ := HB.out k (by omega)
      have hba' := hS ba hba
      have hbb' := hS' bb hbb
      rw [width_str] at hxa hxb
      have a0 : wr.cell? ⟨ba, fa + k, none⟩ = some (cc 0) := (hbel.out.cell (p := ⟨ba, fa + k, none⟩) (by show ba < _; omega)).trans (by have hq := hxa 0 (by omega); first | exact hq | simpa using hq)
      have c0 : wr.cell? ⟨bb, fb + k, none⟩ = some (dd 0) := (hbel.out.cell (p := ⟨bb, fb + k, none⟩) (by show bb < _; omega)).trans (by have hq := hxb 0 (by omega); first | exact hq | simpa using hq)
      rw [at_str] at hata hatb
      rw [hata.1] at a0
      rw [hatb.1] at c0
      clear hata hatb
      clear hxa hxb
      have qa0 := fun d os => cell_regrown a0 d os
      have qc0 := fun d os => cell_regrown c0 d os
      go_wp2
      refine wp_region_quiet_below (by kernel_rfl) (by kernel_rfl) ?_
      repeat (first | go_big_quiet_step (fail) | quiet_step (fail))
      refine wpQuiet_nil ?_
      intro _ hw'
      obtain ⟨⟨dq, osq⟩, hw''⟩ := hw'
      subst hw''
      go_wp2
      go_roundw
      case rel => exact ⟨k + 1, by omega, by go_num, hbel.out.trans ((below_regrown _ dq osq).mono hs)⟩
      case measure => simp [intOf]; omega
    · go_wp2
      go_ret
      exact ⟨rfl, hbel.out⟩
set_option maxRecDepth 100000 in
set_option maxHeartbeats 4000000 in
theorem eqShareBatch_any (S S' : Nat → Prop) (a : DShareBatch) (c c' : Nat → Value) (w : World) (h : Lay.At S w a c) (h' : Lay.At S' w a c') (hS : ∀ b, S b → b < w.heap.size) (hS' : ∀ b, S' b → b < w.heap.size) :
    Calls Tryz.prog 92 #[.agg #[c 0, c 1, c 2], .agg #[c' 0, c' 1, c' 2]] w fun e w' => e = .returned (.bool true) ∧ Below w.heap.size w w' := by
  rw [at_DShareBatch] at h
  obtain ⟨⟨ep0, _⟩, Hp1, Hp2⟩ := h
  obtain ⟨vp1, ep1⟩ : ∃ v, c 1 = v := ⟨_, rfl⟩
  rw [ep1] at Hp1
  obtain ⟨vp2, ep2⟩ : ∃ v, c 2 = v := ⟨_, rfl⟩
  rw [ep2] at Hp2
  rw [ep0, ep1, ep2]
  clear ep0 ep1 ep2
  rw [at_DShareBatch] at h'
  obtain ⟨⟨eq0, _⟩, Hq1, Hq2⟩ := h'
  obtain ⟨vq1, eq1⟩ : ∃ v, c' 1 = v := ⟨_, rfl⟩
  rw [eq1] at Hq1
  obtain ⟨vq2, eq2⟩ : ∃ v, c' 2 = v := ⟨_, rfl⟩
  rw [eq2] at Hq2
  rw [eq0, eq1, eq2]
  clear eq0 eq1 eq2
  have k0 : Hid (Below w.heap.size w ((w.alloc (.cells #[.string a.1, vp1, vp2] 112)).alloc (.cells #[.string a.1, vq1, vq2] 112))) := ((Below.refl _ _).alloc (Nat.le_refl _) _).alloc (by simp) _
  go_enter Tryz.func92, Tryz.ntmps92
  go_wp2_with fail
  refine (eqStringS_any S S' _ vp1 vq1 _ (Hp1.same (Same.of_below k0.out hS)) (Hq1.same (Same.of_below k0.out hS')) (fun b hb => by have := hS b hb; simp; omega) (fun b hb => by have := hS' b hb; simp; omega)).mono ?_
  rintro e w1 ⟨rfl, hb1⟩
  have k1 : Hid (Below w.heap.size w w1) := k0.out.trans (hb1.mono (by simp; omega))
  have x1_2 : w1.cell? ⟨w.heap.size, 2, none⟩ = some (vp2) := (hb1.cell (p := ⟨w.heap.size, 2, none⟩) (by simp; omega)).trans (cell_past (cell_row (heap_alloc_new w (.cells #[.string a.1, vp1, vp2] 112)) 2 _ rfl).1 (by simp) _)
  have y1_2 : w1.cell? ⟨w.heap.size + 1, 2, none⟩ = some (vq2) := (hb1.cell (p := ⟨w.heap.size + 1, 2, none⟩) (by simp)).trans (by simp)
  have s1 : w.heap.size + 2 ≤ w1.heap.size := by have := hb1.size; simp at this; omega
  go_wp2_with fail
  refine (eqStringS_any S S' _ vp2 vq2 _ (Hp2.same (Same.of_below k1.out hS)) (Hq2.same (Same.of_below k1.out hS')) (fun b hb => by have := hS b hb; omega) (fun b hb => by have := hS' b hb; omega)).mono ?_
  rintro e w2 ⟨rfl, hb2⟩
  have k2 : Hid (Below w.heap.size w w2) := k1.out.trans (hb2.mono (by omega))
  have s2 : w.heap.size + 2 ≤ w2.heap.size := by have := hb2.size; omega
  go_wp2_with fail
  go_ret
  exact ⟨rfl, k2.out⟩
open Go.Sort in
theorem eqShareBatchq (S S' : Nat → Prop) (a : DShareBatch) (c c' : Nat → Value) (wr : World) (h : Lay.At S wr a c) (h' : Lay.At S' wr a c') (hS : ∀ b, S b → b < wr.heap.size) (hS' : ∀ b, S' b → b < wr.heap.size) (d : Nat) (os : Array Obj) : Calls Tryz.prog 92 #[.agg #[c 0, c 1, c 2], .agg #[c' 0, c' 1, c' 2]] (grow (redrawn wr d) os) fun e w'' => e = .returned (.bool true) ∧ ∃ p : Regrown, w'' = grow (redrawn wr p.d) p.os :=
  Calls.regrown_of (eqShareBatch_any S S' a c c' _ (Lay.same h (Same.of_below (below_regrown wr d os) hS)) (Lay.same h' (Same.of_below (below_regrown wr d os) hS')) (fun b hb => Nat.lt_of_lt_of_le (hS b hb) (below_regrown wr d os).size) (fun b hb => Nat.lt_of_lt_of_le (hS' b hb) (below_regrown wr d os).size))
set_option maxRecDepth 100000 in
set_option maxHeartbeats 4000000 in
theorem eqShareBatchS_any (S S' : Nat → Prop) (l : List DShareBatch) (va vb : Value) (w : World) (ha : AtL S w l va) (hb : AtL S' w l vb) (hS : ∀ b, S b → b < w.heap.size) (hS' : ∀ b, S' b → b < w.heap.size) :
    Calls Tryz.prog 51 #[va, vb] w fun e w' => e = .returned (.bool true) ∧ Below w.heap.size w w' := by
  obtain ⟨oa, ca, rfl, hn, hca⟩ := ha
  obtain ⟨ob, cb, rfl, _, hcb⟩ := hb
  obtain ⟨n, en⟩ : ∃ n, l.length = n := ⟨_, rfl⟩
  rw [en] at hn
  rw [en]
  unfold maxLen at hn
  have HA : Hid _ := hca
  have HB : Hid _ := hcb
  clear hca hcb
  go_enter Tryz.func51, Tryz.ntmps51
  go_wp2
  go_loopw [5] (fun i wr => ∃ k : Nat, k ≤ n ∧ i = .int .i64 k ∧ Hid (Below w.heap.size w wr)) (fun i _ => n - (intOf i).toNat)
  case atStart => exact ⟨0, Nat.zero_le _, rfl, Below.refl _ _⟩
  case round =>
    obtain ⟨k, hk, rfl, hbel⟩ := hrel
    have hs := hbel.out.size
    by_cases hlt : k < n
    · obtain ⟨ba, fa, rfl, hba, cc, hxa, hata⟩ := HA.out k (by omega)
      obtain ⟨bb, fb, rfl, hbb, dd, hxb, hatb⟩ := HB.out k (by omega)
      have hba' := hS ba hba
      have hbb' := hS' bb hbb
      rw [width_DShareBatch] at hxa hxb
      have a0 : wr.cell? ⟨ba, fa + k * 3, none⟩ = some (cc 0) := (hbel.out.cell (p := ⟨ba, fa + k * 3, none⟩) (by show ba < _; omega)).trans (by have hq := hxa 0 (by omega); first | exact hq | simpa using hq)
      have a1 : wr.cell? ⟨ba, fa + k * 3 + 1, none⟩ = some (cc 1) := (hbel.out.cell (p := ⟨ba, fa + k * 3 + 1, none⟩) (by show ba < _; omega)).trans (by have hq := hxa 1 (by omega); first | exact hq | simpa using hq)
      have a2 : wr.cell? ⟨ba, fa + k * 3 + 2, none⟩ = some (cc 2) := (hbel.out.cell (p := ⟨ba, fa + k * 3 + 2, none⟩) (by show ba < _; omega)).trans (by have hq := hxa 2 (by omega); first | exact hq | simpa using hq)
      have c0 : wr.cell? ⟨bb, fb + k * 3, none⟩ = some (dd 0) := (hbel.out.cell (p := ⟨bb, fb + k * 3, none⟩) (by show bb < _; omega)).trans (by have hq := hxb 0 (by omega); first | exact hq | simpa using hq)
      have c1 : wr.cell? ⟨bb, fb + k * 3 + 1, none⟩ = some (dd 1) := (hbel.out.cell (p := ⟨bb, fb + k * 3 + 1, none⟩) (by show bb < _; omega)).trans (by have hq := hxb 1 (by omega); first | exact hq | simpa using hq)
      have c2 : wr.cell? ⟨bb, fb + k * 3 + 2, none⟩ = some (dd 2) := (hbel.out.cell (p := ⟨bb, fb + k * 3 + 2, none⟩) (by show bb < _; omega)).trans (by have hq := hxb 2 (by omega); first | exact hq | simpa using hq)
      have HAA : Hid (Lay.At S wr (l[k]'(by omega)) cc) := Lay.same hata (Same.of_below hbel.out hS)
      have HBB : Hid (Lay.At S' wr (l[k]'(by omega)) dd) := Lay.same hatb (Same.of_below hbel.out hS')
      clear hata hatb
      have hSr : ∀ b, S b → b < wr.heap.size := fun b hb => Nat.lt_of_lt_of_le (hS b hb) hs
      have hSr' : ∀ b, S' b → b < wr.heap.size := fun b hb => Nat.lt_of_lt_of_le (hS' b hb) hs
      clear hxa hxb
      have qa0 := fun d os => cell_regrown a0 d os
      have qa1 := fun d os => cell_regrown a1 d os
      have qa2 := fun d os => cell_regrown a2 d os
      have qc0 := fun d os => cell_regrown c0 d os
      have qc1 := fun d os => cell_regrown c1 d os
      have qc2 := fun d os => cell_regrown c2 d os
      go_wp2
      refine wp_region_quiet_below (by kernel_rfl) (by kernel_rfl) ?_
      repeat (first | go_big_quiet_step (with_reducible exact eqShareBatchq S S' _ _ _ _ HAA.out HBB.out hSr hSr' _ _) | quiet_step (with_reducible exact eqShareBatchq S S' _ _ _ _ HAA.out HBB.out hSr hSr' _ _))
      refine wpQuiet_nil ?_
      intro _ hw'
      obtain ⟨⟨dq, osq⟩, hw''⟩ := hw'
      subst hw''
      go_wp2
      go_roundw
      case rel => exact ⟨k + 1, by omega, by go_num, hbel.out.trans ((below_regrown _ dq osq).mono hs)⟩
      case measure => simp [intOf]; omega
    · go_wp2
      go_ret
      exact ⟨rfl, hbel.out⟩
set_option maxRecDepth 100000 in
set_option maxHeartbeats 4000000 in
theorem eqShareBook_any (S S' : Nat → Prop) (a : DShareBook) (c c' : Nat → Value) (w : World) (h : Lay.At S w a c) (h' : Lay.At S' w a c') (hS : ∀ b, S b → b < w.heap.size) (hS' : ∀ b, S' b → b < w.heap.size) :
    Calls Tryz.prog 23 #[.agg #[c 0, c 1], .agg #[c' 0, c' 1]] w fun e w' => e = .returned (.bool true) ∧ Below w.heap.size w w' := by
  rw [at_DShareBook] at h
  obtain ⟨Hp0, Hp1⟩ := h
  obtain ⟨vp0, ep0⟩ : ∃ v, c 0 = v := ⟨_, rfl⟩
  rw [ep0] at Hp0
  obtain ⟨vp1, ep1⟩ : ∃ v, c 1 = v := ⟨_, rfl⟩
  rw [ep1] at Hp1
  rw [ep0, ep1]
  clear ep0 ep1
  rw [at_DShareBook] at h'
  obtain ⟨Hq0, Hq1⟩ := h'
  obtain ⟨vq0, eq0⟩ : ∃ v, c' 0 = v := ⟨_, rfl⟩
  rw [eq0] at Hq0
  obtain ⟨vq1, eq1⟩ : ∃ v, c' 1 = v := ⟨_, rfl⟩
  rw [eq1] at Hq1
  rw [eq0, eq1]
  clear eq0 eq1
  have k0 : Hid (Below w.heap.size w ((w.alloc (.cells #[vp0, vp1] 34)).alloc (.cells #[vq0, vq1] 34))) := ((Below.refl _ _).alloc (Nat.le_refl _) _).alloc (by simp) _
  go_enter Tryz.func23, Tryz.ntmps23
  go_wp2_with fail
  refine (eqStringS_any S S' _ vp0 vq0 _ (Hp0.same (Same.of_below k0.out hS)) (Hq0.same (Same.of_below k0.out hS')) (fun b hb => by have := hS b hb; simp; omega) (fun b hb => by have := hS' b hb; simp; omega)).mono ?_
  rintro e w1 ⟨rfl, hb1⟩
  have k1 : Hid (Below w.heap.size w w1) := k0.out.trans (hb1.mono (by simp; omega))
  have x1_1 : w1.cell? ⟨w.heap.size, 1, none⟩ = some (vp1) := (hb1.cell (p := ⟨w.heap.size, 1, none⟩) (by simp; omega)).trans (cell_past (cell_row (heap_alloc_new w (.cells #[vp0, vp1] 34)) 1 _ rfl).1 (by simp) _)
  have y1_1 : w1.cell? ⟨w.heap.size + 1, 1, none⟩ = some (vq1) := (hb1.cell (p := ⟨w.heap.size + 1, 1, none⟩) (by simp)).trans (by simp)
  have s1 : w.heap.size + 2 ≤ w1.heap.size := by have := hb1.size; simp at this; omega
  go_wp2_with fail
  refine (eqShareBatchS_any S S' _ vp1 vq1 _ (Hp1.same (Same.of_below k1.out hS)) (Hq1.same (Same.of_below k1.out hS')) (fun b hb => by have := hS b hb; omega) (fun b hb => by have := hS' b hb; omega)).mono ?_
  rintro e w2 ⟨rfl, hb2⟩
  have k2 : Hid (Below w.heap.size w w2) := k1.out.trans (hb2.mono (by omega))
  have s2 : w.heap.size + 2 ≤ w2.heap.size := by have := hb2.size; omega
  go_wp2_with fail
  go_ret
  exact ⟨rfl, k2.out⟩
end Go.Proofs.YtigkkelaadbhcabGreat
