/-
  Several texts in one.
-/
import Derived.Test.YtobchllaopdchacGreatVht
import Derived.Test.YtobchllaopdchacGreatM38
import Derived.Test.YtobchllaopdchacGreatM0
import Derived.Deep.Cut
import Derived.Test.YtobchllaopdchacGreatM33
import Derived.Test.YtobchllaopdchacGreatM34
namespace Go.Proofs.YtobchllaopdchacGreat
open Go.RowKit
set_option maxRecDepth 100000 in
set_option maxHeartbeats 4000000 in
theorem eqRunDone_any (S S' : Nat → Prop) (a : DRunDone) (c c' : Nat → Value) (w : World) (h : Lay.At S w a c) (h' : Lay.At S' w a c') (_hS : ∀ b, S b → b < w.heap.size) (_hS' : ∀ b, S' b → b < w.heap.size) :
    Calls Tryz.prog 50 #[.agg #[c 0, c 1, c 2], .agg #[c' 0, c' 1, c' 2]] w fun e w' => e = .returned (.bool true) ∧ Below w.heap.size w w' := by
  rw [at_DRunDone] at h
  obtain ⟨⟨ep0, _⟩, ⟨ep1, _, _⟩, ⟨ep2, _, _⟩⟩ := h
  rw [ep0, ep1, ep2]
  clear ep0 ep1 ep2
  rw [at_DRunDone] at h'
  obtain ⟨⟨eq0, _⟩, ⟨eq1, _, _⟩, ⟨eq2, _, _⟩⟩ := h'
  rw [eq0, eq1, eq2]
  clear eq0 eq1 eq2
  have k0 : Hid (Below w.heap.size w ((w.alloc (.cells #[.string a.1, .int .i64 a.2.1, .int .i64 a.2.2] 79)).alloc (.cells #[.string a.1, .int .i64 a.2.1, .int .i64 a.2.2] 79))) := ((Below.refl _ _).alloc (Nat.le_refl _) _).alloc (by simp) _
  go_enter Tryz.func50, Tryz.ntmps50
  go_wp2
  go_ret
  exact ⟨rfl, k0.out⟩
open Go.Sort in
theorem eqRunDoneq (S S' : Nat → Prop) (a : DRunDone) (c c' : Nat → Value) (wr : World) (h : Lay.At S wr a c) (h' : Lay.At S' wr a c') (hS : ∀ b, S b → b < wr.heap.size) (hS' : ∀ b, S' b → b < wr.heap.size) (d : Nat) (os : Array Obj) : Calls Tryz.prog 50 #[.agg #[c 0, c 1, c 2], .agg #[c' 0, c' 1, c' 2]] (grow (redrawn wr d) os) fun e w'' => e = .returned (.bool true) ∧ ∃ p : Regrown, w'' = grow (redrawn wr p.d) p.os :=
  Calls.regrown_of (eqRunDone_any S S' a c c' _ (Lay.same h (Same.of_below (below_regrown wr d os) hS)) (Lay.same h' (Same.of_below (below_regrown wr d os) hS')) (fun b hb => Nat.lt_of_lt_of_le (hS b hb) (below_regrown wr d os).size) (fun b hb => Nat.lt_of_lt_of_le (hS' b hb) (below_regrown wr d os).size))
set_option maxRecDepth 100000 in
set_option maxHeartbeats 4000000 in
theorem eqRunBatchS_any (S S' : Nat → Prop) (l : List DRunBatch) (va vb : Value) (w : World) (ha : AtL S w l va) (hb : AtL S' w l vb) (hS : ∀ b, S b → b < w.heap.size) (hS' : ∀ b, S' b → b < w.heap.size) :
    Calls Tryz.prog 22 #[va, vb] w fun e w' => e = .returned (.bool true) ∧ Below w.heap.size w w' := by
  obtain ⟨oa, ca, rfl, hn, hca⟩ := ha
  obtain ⟨ob, cb, rfl, _, hcb⟩ := hb
  obtain ⟨n, en⟩ : ∃ n, l.length = n := ⟨_, rfl⟩
  rw [en] at hn
  rw [en]
  unfold maxLen at hn
  have HA : Hid _ := hca
  have HB : Hid _ := hcb
  clear hca hcb
  go_enter Tryz.func22, Tryz.ntmps22
  go_wp2
  go_loopw [5] (fun i wr => ∃ k : Nat, k ≤ n ∧ i = .int .i64 k ∧ Hid (Below w.heap.size w wr)) (fun i _ => n - (intOf i).toNat)
  case atStart => exact ⟨0, Nat.zero_le _, rfl, Below.refl _ _⟩
  case round =>
    obtain ⟨k, hk, rfl, hbel⟩ := hrel
    have hs := hbel.out.size
    by_cases hlt : k < n
    · obtain ⟨ba, fa, rfl, hba, cc, hxa, hata⟩ := HA.out k (by omega)
      obtain ⟨bb, fb, rfl, hbb, dd, hxb, hatb⟩ := HB.out k (by omega)
      have hba' := hS ba hba
      have hbb' := hS' bb hbb
      rw [width_DRunBatch] at hxa hxb
      have a0 : wr.cell? ⟨ba, fa + k * 6, none⟩ = some (cc 0) := (hbel.out.cell (p := ⟨ba, fa + k * 6, none⟩) (by show ba < _; omega)).trans (by have hq := hxa 0 (by omega); first | exact hq | simpa using hq)
      have a1 : wr.cell? ⟨ba, fa + k * 6 + 1, none⟩ = some (cc 1) := (hbel.out.cell (p := ⟨ba, fa + k * 6 + 1, none⟩) (by show ba < _; omega)).trans (by have hq := hxa 1 (by omega); first | exact hq | simpa using hq)
      have a2 : wr.cell? ⟨ba, fa + k * 6 + 2, none⟩ = some (cc 2) := (hbel.out.cell (p := ⟨ba, fa + k * 6 + 2, none⟩) (by show ba < _; omega)).trans (by have hq := hxa 2 (by omega); first | exact hq | simpa using hq)
      have a3 : wr.cell? ⟨ba, fa + k * 6 + 3, none⟩ = some (cc 3) := (hbel.out.cell (p := ⟨ba, fa + k * 6 + 3, none⟩) (by show ba < _; omega)).trans (by have hq := hxa 3 (by omega); first | exact hq | simpa using hq)
      have a4 : wr.cell? ⟨ba, fa + k * 6 + 4, none⟩ = some (cc 4) := (hbel.out.cell (p := ⟨ba, fa + k * 6 + 4, none⟩) (by show ba < _; omega)).trans (by have hq := hxa 4 (by omega); first | exact hq | simpa using hq)
      have a5 : wr.cell? ⟨ba, fa + k * 6 + 5, none⟩ = some (cc 5) := (hbel.out.cell (p := ⟨ba, fa + k * 6 + 5, none⟩) (by show ba < _; omega)).trans (by have hq := hxa 5 (by omega); first | exact hq | simpa using hq)
      have c0 : wr.cell? ⟨bb, fb + k * 6, none⟩ = some (dd 0) := (hbel.out.cell (p := ⟨bb, fb + k * 6, none⟩) (by show bb < _; omega)).trans (by have hq := hxb 0 (by omega); first | exact hq | simpa using hq)
      have c1 : wr.cell? ⟨bb, fb + k * 6 + 1, none⟩ = some (dd 1) := (hbel.out.cell (p := ⟨bb, fb + k * 6 + 1, none⟩) (by show bb < _; omega)).trans (by have hq := hxb 1 (by omega); first | exact hq | simpa using hq)
      have c2 : wr.cell? ⟨bb, fb + k * 6 + 2, none⟩ = some (dd 2) := (hbel.out.cell (p := ⟨bb, fb + k * 6 + 2, none⟩) (by show bb < _; omega)).trans (by have hq := hxb 2 (by omega); first | exact hq | simpa using hq)
      have c3 : wr.cell? ⟨bb, fb + k * 6 + 3, none⟩ = some (dd 3) := (hbel.out.cell (p := ⟨bb, fb + k * 6 + 3, none⟩) (by show bb < _; omega)).trans (by have hq := hxb 3 (by omega); first | exact hq | simpa using hq)
      have c4 : wr.cell? ⟨bb, fb + k * 6 + 4, none⟩ = some (dd 4) := (hbel.out.cell (p := ⟨bb, fb + k * 6 + 4, none⟩) (by show bb < _; omega)).trans (by have hq := hxb 4 (by omega); first | exact hq | simpa using hq)
      have c5 : wr.cell? ⟨bb, fb + k * 6 + 5, none⟩ = some (dd 5) := (hbel.out.cell (p := ⟨bb, fb + k * 6 + 5, none⟩) (by show bb < _; omega)).trans (by have hq := hxb 5 (by omega); first | exact hq | simpa using hq)
      have HAA : Hid (Lay.At S wr (l[k]'(by omega)) cc) := Lay.same hata (Same.of_below hbel.out hS)
      have HBB : Hid (Lay.At S' wr (l[k]'(by omega)) dd) := Lay.same hatb (Same.of_below hbel.out hS')
      clear hata hatb
      have hSr : ∀ b, S b → b < wr.heap.size := fun b hb => Nat.lt_of_lt_of_le (hS b hb) hs
      have hSr' : ∀ b, S' b → b < wr.heap.size := fun b hb => Nat.lt_of_lt_of_le (hS' b hb) hs
      clear hxa hxb
      have qa0 := fun d os => cell_regrown a0 d os
      have qa1 := fun d os => cell_regrown a1 d os
      have qa2 := fun d os => cell_regrown a2 d os
      have qa3 := fun d os => cell_regrown a3 d os
      have qa4 := fun d os => cell_regrown a4 d os
      have qa5 := fun d os => cell_regrown a5 d os
      have qc0 := fun d os => cell_regrown c0 d os
      have qc1 := fun d os => cell_regrown c1 d os
      have qc2 := fun d os => cell_regrown c2 d os
      have qc3 := fun d os => cell_regrown c3 d os
      have qc4 := fun d os => cell_regrown c4 d os
      have qc5 := fun d os => cell_regrown c5 d os
      go_wp2
      refine wp_region_quiet_below (by kernel_rfl) (by kernel_rfl) ?_
      repeat (first | go_big_quiet_step (with_reducible exact eqRunBatchq S S' _ _ _ _ HAA.out HBB.out hSr hSr' _ _) | quiet_step (with_reducible exact eqRunBatchq S S' _ _ _ _ HAA.out HBB.out hSr hSr' _ _))
      refine wpQuiet_nil ?_
      intro _ hw'
      obtain ⟨⟨dq, osq⟩, hw''⟩ := hw'
      subst hw''
      go_wp2
      go_roundw
      case rel => exact ⟨k + 1, by omega, by go_num, hbel.out.trans ((below_regrown _ dq osq).mono hs)⟩
      case measure => simp [intOf]; omega
    · go_wp2
      go_ret
      exact ⟨rfl, hbel.out⟩
set_option maxRecDepth 100000 in
set_option maxHeartbeats 4000000 in
theorem eqRunDoneS_any (S S' : Nat → Prop) (l : List DRunDone) (va vb : Value) (w : World) (ha : AtL S w l va) (hb : AtL S' w l vb) (hS : ∀ b, S b → b < w.heap.size) (hS' : ∀ b, S' b → b < w.heap.size) :
    Calls Tryz.prog 23 #[va, vb] w fun e w' => e = .returned (.bool true) ∧ Below w.heap.size w w' := by
  obtain ⟨oa, ca, rfl, hn, hca⟩ := ha
  obtain ⟨ob, cb, rfl, _, hcb⟩ := hb
  obtain ⟨n, en⟩ : ∃ n, l.length = n := ⟨_, rfl⟩
  rw [en] at hn
  rw [en]
  unfold maxLen at hn
  have HA : Hid _ := hca
  have HB : Hid _ := hcb
  clear hca hcb
  go_enter Tryz.func23, Tryz.ntmps23
  go_wp2
  go_loopw [5] (fun i wr => ∃ k : Nat, k ≤ n ∧ i = .int .i64 k ∧ Hid (Below w.heap.size w wr)) (fun i _ => n - (intOf i).toNat)
  case atStart => exact ⟨0, Nat.zero_le _, rfl, Below.refl _ _⟩
  case round =>
    obtain ⟨k, hk, rfl, hbel⟩ := hrel
    have hs := hbel.out.size
    by_cases hlt : k < n
    · obtain ⟨ba, fa, rfl, hba, cc, hxa, hata⟩ := HA.out k (by omega)
      obtain ⟨bb, fb, rfl, hbb, dd, hxb, hatb⟩ := HB.out k (by omega)
      have hba' := hS ba hba
      have hbb' := hS' bb hbb
      rw [width_DRunDone] at hxa hxb
      have a0 : wr.cell? ⟨ba, fa + k * 3, none⟩ = some (cc 0) := (hbel.out.cell (p := ⟨ba, fa + k * 3, none⟩) (by show ba < _; omega)).trans (by have hq := hxa 0 (by omega); first | exact hq | simpa using hq)
      have a1 : wr.cell? ⟨ba, fa + k * 3 + 1, none⟩ = some (cc 1) := (hbel.out.cell (p := ⟨ba, fa + k * 3 + 1, none⟩) (by show ba < _; omega)).trans (by have hq := hxa 1 (by omega); first | exact hq | simpa using hq)
      have a2 : wr.cell? ⟨ba, fa + k * 3 + 2, none⟩ = some (cc 2) := (hbel.out.cell (p := ⟨ba, fa + k * 3 + 2, none⟩) (by show ba < _; omega)).trans (by have hq := hxa 2 (by omega); first | exact hq | simpa using hq)
      have c0 : wr.cell? ⟨bb, fb + k * 3, none⟩ = some (dd 0) := (hbel.out.cell (p := ⟨bb, fb + k * 3, none⟩) (by show bb < _; omega)).trans (by have hq := hxb 0 (by omega); first | exact hq | simpa using hq)
      have c1 : wr.cell? ⟨bb, fb + k * 3 + 1, none⟩ = some (dd 1) := (hbel.out.cell (p := ⟨bb, fb + k * 3 + 1, none⟩) (by show bb < _; omega)).trans (by have hq := hxb 1 (by omega); first | exact hq | simpa using hq)
      have c2 : wr.cell? ⟨bb, fb + k * 3 + 2, none⟩ = some (dd 2) := (hbel.out.cell (p := ⟨bb, fb + k * 3 + 2, none⟩) (by show bb < _; omega)).trans (by have hq := hxb 2 (by omega); first | exact hq | simpa using hq)
      have HAA : Hid (Lay.At S wr (l[k]'(by omega)) cc) := Lay.same hata (Same.of_below hbel.out hS)
      have HBB : Hid (Lay.At S' wr (l[k]'(by omega)) dd) := Lay.same hatb (Same.of_below hbel.out hS')
      clear hata hatb
      have hSr : ∀ b, S b → b < wr.heap.size := fun b hb => Nat.lt_of_lt_of_le (hS b hb) hs
      have hSr' : ∀ b, S' b → b < wr.heap.size := fun b hb => Nat.lt_of_lt_of_le (hS' b hb) hs
      clear hxa hxb
      have qa0 := fun d os => cell_regrown a0 d os
      have qa1 := fun d os => cell_regrown a1 d os
      have qa2 := fun d os => cell_regrown a2 d os
      have qc0 := fun d os => cell_regrown c0 d os
      have qc1 := fun d os => cell_regrown c1 d os
      have qc2 := fun d os => cell_regrown c2 d os
      go_wp2
      refine wp_region_quiet_below (by kernel_rfl) (by kernel_rfl) ?_
      repeat (first | go_big_quiet_step (with_reducible exact eqRunDoneq S S' _ _ _ _ HAA.out HBB.out hSr hSr' _ _) | quiet_step (with_reducible exact eqRunDoneq S S' _ _ _ _ HAA.out HBB.out hSr hSr' _ _))
      refine wpQuiet_nil ?_
      intro _ hw'
      obtain ⟨⟨dq, osq⟩, hw''⟩ := hw'
      subst hw''
      go_wp2
      go_roundw
      case rel => exact ⟨k + 1, by omega, by go_num, hbel.out.trans ((below_regrown _ dq osq).mono hs)⟩
      case measure => simp [intOf]; omega
    · go_wp2
      go_ret
      exact ⟨rfl, hbel.out⟩
set_option maxRecDepth 100000 in
set_option maxHeartbeats 8000000 in
theorem eqRunHouse_any (S S' : Nat → Prop) (a : DRunHouse) (c c' : Nat → Value) (w : World) (h : Lay.At S w a c) (h' : Lay.At S' w a c') (hS : ∀ b, S b → b < w.heap.size) (hS' : ∀ b, S' b → b < w.heap.size) :
    Calls Tryz.prog 8 #[.agg #[c 0, c 1, c 2, c 3, c 4, c 5], .agg #[c' 0, c' 1, c' 2, c' 3, c' 4, c' 5]] w fun e w' => e = .returned (.bool true) ∧ Below w.heap.size w w' := by
  rw [at_DRunHouse] at h
  obtain ⟨⟨ep0, zp0, yp0⟩, ⟨ep1, zp1, yp1⟩, Hp2, Hp3, Hp4, Hp5⟩ := h
  obtain ⟨vp2, ep2⟩ : ∃ v, c 2 = v := ⟨_, rfl⟩
  rw [ep2] at Hp2
  obtain ⟨vp3, ep3⟩ : ∃ v, c 3 = v := ⟨_, rfl⟩
  rw [ep3] at Hp3
  obtain ⟨vp4, ep4⟩ : ∃ v, c 4 = v := ⟨_, rfl⟩
  rw [ep4] at Hp4
  obtain ⟨vp5, ep5⟩ : ∃ v, c 5 = v := ⟨_, rfl⟩
  rw [ep5] at Hp5
  rw [ep0, ep1, ep2, ep3, ep4, ep5]
  clear ep0 ep1 ep2 ep3 ep4 ep5
  rw [at_DRunHouse] at h'
  obtain ⟨⟨eq0, zq0, yq0⟩, ⟨eq1, zq1, yq1⟩, Hq2, Hq3, Hq4, Hq5⟩ := h'
  obtain ⟨vq2, eq2⟩ : ∃ v, c' 2 = v := ⟨_, rfl⟩
  rw [eq2] at Hq2
  obtain ⟨vq3, eq3⟩ : ∃ v, c' 3 = v := ⟨_, rfl⟩
  rw [eq3] at Hq3
  obtain ⟨vq4, eq4⟩ : ∃ v, c' 4 = v := ⟨_, rfl⟩
  rw [eq4] at Hq4
  obtain ⟨vq5, eq5⟩ : ∃ v, c' 5 = v := ⟨_, rfl⟩
  rw [eq5] at Hq5
  rw [eq0, eq1, eq2, eq3, eq4, eq5]
  clear eq0 eq1 eq2 eq3 eq4 eq5
  obtain ⟨W, hW⟩ : ∃ W, W = (w.alloc (.cells #[.int .i64 a.1, .int .i64 a.2.1, vp2, vp3, vp4, vp5] 38)).alloc (.cells #[.int .i64 a.1, .int .i64 a.2.1, vq2, vq3, vq4, vq5] 38) := ⟨_, rfl⟩
  have EW : Hid (W = (w.alloc (.cells #[.int .i64 a.1, .int .i64 a.2.1, vp2, vp3, vp4, vp5] 38)).alloc (.cells #[.int .i64 a.1, .int .i64 a.2.1, vq2, vq3, vq4, vq5] 38)) := hW
  have BW : Hid (Below w.heap.size w W) := by rw [hW]; exact ((Below.refl _ _).alloc (Nat.le_refl _) _).alloc (by simp) _
  have RP : Hid (W.heap[w.heap.size]? = some (.cells #[.int .i64 a.1, .int .i64 a.2.1, vp2, vp3, vp4, vp5] 38 (0, 0))) := by
    rw [hW]
    exact (Below.heap_alloc _ _ _ (by simp)).trans (heap_alloc_new w _)
  have RQ : Hid (W.heap[w.heap.size + 1]? = some (.cells #[.int .i64 a.1, .int .i64 a.2.1, vq2, vq3, vq4, vq5] 38 (0, 0))) := by
    rw [hW]
    have := heap_alloc_new (w.alloc (.cells #[.int .i64 a.1, .int .i64 a.2.1, vp2, vp3, vp4, vp5] 38)) (.cells #[.int .i64 a.1, .int .i64 a.2.1, vq2, vq3, vq4, vq5] 38)
    rw [World.size_alloc] at this
    exact this
  have sW : w.heap.size + 2 ≤ W.heap.size := by rw [hW]; simp
  clear hW
  have BOX : Hid (∀ u, Below W.heap.size W u → u.heap[w.heap.size]? = some (.cells #[.int .i64 a.1, .int .i64 a.2.1, vp2, vp3, vp4, vp5] 38 (0, 0)) ∧ u.heap[w.heap.size + 1]? = some (.cells #[.int .i64 a.1, .int .i64 a.2.1, vq2, vq3, vq4, vq5] 38 (0, 0)) ∧ Below w.heap.size w u) := fun u hu => ⟨(hu.block _ (by omega)).trans RP.out, (hu.block _ (by omega)).trans RQ.out, BW.out.trans (hu.mono (by omega))⟩
  have HSP : Hid _ := lt_up hS
  have HSQ : Hid _ := lt_up hS'
  have P2 : Hid (∀ u, Below w.heap.size w u → Lay.At S u ((a.2.2.1, a.2.2.2.1) : DShareBook) (cs [vp2, vp3])) := fun u hu => at_DShareBook.2 ⟨Hp2.same (Same.of_below hu hS), Hp3.same (Same.of_below hu hS)⟩
  have P4 : Hid _ := Hp4.ups hS
  have P5 : Hid _ := Hp5.ups hS
  have Q2 : Hid (∀ u, Below w.heap.size w u → Lay.At S' u ((a.2.2.1, a.2.2.2.1) : DShareBook) (cs [vq2, vq3])) := fun u hu => at_DShareBook.2 ⟨Hq2.same (Same.of_below hu hS'), Hq3.same (Same.of_below hu hS')⟩
  have Q4 : Hid _ := Hq4.ups hS'
  have Q5 : Hid _ := Hq5.ups hS'
  clear Hp2 Hp3 Hp4 Hp5 Hq2 Hq3 Hq4 Hq5 hS hS'
  have p0 := (cell_row RP.out 0 _ rfl).1
  have p1 := (cell_row RP.out 1 _ rfl).1
  have p2 := (cell_row RP.out 2 vp2 rfl).1
  have p3 := (cell_row RP.out 3 vp3 rfl).1
  have q0 := (cell_row RQ.out 0 _ rfl).1
  have q1 := (cell_row RQ.out 1 _ rfl).1
  have q2 := (cell_row RQ.out 2 vq2 rfl).1
  have q3 := (cell_row RQ.out 3 vq3 rfl).1
  go_enter Tryz.func8, Tryz.ntmps8
  go_upto_region 1 with fail
  rw [← EW.out]
  go_wp2_with fail
  refine (eqShareBook_any S S' (a.2.2.1, a.2.2.2.1) (cs [vp2, vp3]) (cs [vq2, vq3]) W (P2.out W BW.out) (Q2.out W BW.out) (HSP.out W BW.out) (HSQ.out W BW.out)).mono ?_
  rintro e w1 ⟨rfl, u1⟩
  have C1 : Hid (Below W.heap.size W w1) := u1
  clear p0 p1 p2 p3 q0 q1 q2 q3 u1
  have B1 := BOX.out w1 C1.out
  have p4 := (cell_row B1.1 4 vp4 rfl).1
  have q4 := (cell_row B1.2.1 4 vq4 rfl).1
  go_wp2_with fail
  refine (eqRunBatchS_any S S' a.2.2.2.2.1 vp4 vq4 w1 (P4.out w1 B1.2.2) (Q4.out w1 B1.2.2) (HSP.out w1 B1.2.2) (HSQ.out w1 B1.2.2)).mono ?_
  rintro e w2 ⟨rfl, u2⟩
  have C2 : Hid (Below W.heap.size W w2) := C1.out.trans (u2.mono C1.out.size)
  clear p4 q4 u2
  have B2 := BOX.out w2 C2.out
  have p5 := (cell_row B2.1 5 vp5 rfl).1
  have q5 := (cell_row B2.2.1 5 vq5 rfl).1
  go_wp2_with fail
  refine (eqRunDoneS_any S S' a.2.2.2.2.2 vp5 vq5 w2 (P5.out w2 B2.2.2) (Q5.out w2 B2.2.2) (HSP.out w2 B2.2.2) (HSQ.out w2 B2.2.2)).mono ?_
  rintro e w3 ⟨rfl, u3⟩
  have C3 : Hid (Below W.heap.size W w3) := C2.out.trans (u3.mono C2.out.size)
  clear p5 q5 u3
  have B3 := BOX.out w3 C3.out
  go_wp2_with fail
  go_ret
  exact ⟨rfl, B3.2.2⟩
end Go.Proofs.YtobchllaopdchacGreat

namespace Go.Proofs.YtobchllaopdchacGreat
open Go.RowKit Go.Sort
theorem house_shape {S : Nat → Prop} {w : World} {now last : Int} {T : List ByteArray} {Bs : List DShareBatch} {Ba : List DRunBatch} {Do : List DRunDone} {g : Nat → Value} (h : Lay.At S w ((now, last, T, Bs, Ba, Do) : DRunHouse) g) :
    ∃ (o1 o2 o3 o4 : Option Addr) (n1 k1 n2 k2 n3 k3 n4 k4 : Nat), g 0 = .int .i64 now ∧ g 1 = .int .i64 last ∧ g 2 = .slice o1 n1 k1 ∧ g 3 = .slice o2 n2 k2 ∧ g 4 = .slice o3 n3 k3 ∧ g 5 = .slice o4 n4 k4 ∧ AtL S w T (.slice o1 n1 k1) ∧ AtL S w Bs (.slice o2 n2 k2) ∧ AtL S w Ba (.slice o3 n3 k3) ∧ AtL S w Do (.slice o4 n4 k4) := by
  obtain ⟨⟨e0, _⟩, ⟨e1, _⟩, h1, h2, h3, h4⟩ := at_DRunHouse.1 h
  simp only at h1 h2 h3 h4
  obtain ⟨o1, k1, e2, _⟩ := id h1
  obtain ⟨o2, k2, e3, _⟩ := id h2
  obtain ⟨o3, k3, e4, _⟩ := id h3
  obtain ⟨o4, k4, e5, _⟩ := id h4
  rw [e2] at h1
  rw [e3] at h2
  rw [e4] at h3
  rw [e5] at h4
  exact ⟨o1, o2, o3, o4, _, k1, _, k2, _, k3, _, k4, e0, e1, e2, e3, e4, e5, h1, h2, h3, h4⟩
theorem house_ext {g : Nat → Value} {a0 a1 a2 a3 a4 a5 : Value} (e0 : g 0 = a0) (e1 : g 1 = a1) (e2 : g 2 = a2) (e3 : g 3 = a3) (e4 : g 4 = a4) (e5 : g 5 = a5) : ∀ j, j < Lay.width DRunHouse → (cs [a0, a1, a2, a3, a4, a5]) j = g j := fun j hj => by
  rw [width_DRunHouse] at hj
  rcases (show j = 0 ∨ j = 1 ∨ j = 2 ∨ j = 3 ∨ j = 4 ∨ j = 5 by omega) with rfl | rfl | rfl | rfl | rfl | rfl
  · exact e0.symm
  · exact e1.symm
  · exact e2.symm
  · exact e3.symm
  · exact e4.symm
  · exact e5.symm
set_option maxRecDepth 100000 in
set_option maxHeartbeats 16000000 in
theorem lawl_any (S : Nat → Prop) (now last : Int) (T : List ByteArray) (Bs : List DShareBatch) (Ba : List DRunBatch) (Do : List DRunDone) (c : Nat → Value) (w : World) (h : Lay.At S w ((now, last, T, Bs, Ba, Do) : DRunHouse) c) (hS : ∀ b, S b → b < w.heap.size) :
    Calls Tryz.prog 3 #[.agg #[c 0, c 1, c 2, c 3, c 4, c 5]] w fun e w' => e = .returned (.bool true) ∧ Below w.heap.size w w' := by
  have H : Hid (∀ w', Below w.heap.size w w' → Lay.At S w' ((now, last, T, Bs, Ba, Do) : DRunHouse) c) := fun w' hb => Lay.same h (Same.of_below hb hS)
  clear h
  obtain ⟨w0, hw0⟩ : ∃ w0, w0 = (w.alloc (.cells #[c 0, c 1, c 2, c 3, c 4, c 5] 29)) := ⟨_, rfl⟩
  have EW : Hid (w0 = (w.alloc (.cells #[c 0, c 1, c 2, c 3, c 4, c 5] 29))) := hw0
  have k0 : Hid (Below (w.heap.size + 1) (w.alloc (.cells #[c 0, c 1, c 2, c 3, c 4, c 5] 29)) w0) := by rw [hw0]; exact Below.refl _ _
  have s0 : w.heap.size + 1 ≤ w0.heap.size := by have := k0.out.size; simpa using this
  clear hw0
  obtain ⟨R, hR⟩ : ∃ R : Int, R = lefH now last T Bs Ba Do := ⟨_, rfl⟩
  have HR : Hid (R = lefH now last T Bs Ba Do) := hR
  clear hR
  have a0 := box_at _ _ k0.out 0 (c 0) rfl
  have a1 := box_at _ _ k0.out 1 (c 1) rfl
  have a2 := box_at _ _ k0.out 2 (c 2) rfl
  have a3 := box_at _ _ k0.out 3 (c 3) rfl
  have a4 := box_at _ _ k0.out 4 (c 4) rfl
  have a5 := box_at _ _ k0.out 5 (c 5) rfl
  go_enter Tryz.func3, Tryz.ntmps3
  go_upto_region 1 with fail
  rw [← EW.out]
  go_wp2_with fail
  refine (szRunHouse_any S (now, last, T, Bs, Ba, Do) c 1048576 _ (H.out _ (below_end k0.out)) (fun b hb => by have := hS b hb; omega) (by omega) (by omega)).mono ?_
  rintro e w1 ⟨y, rfl, hy, hb1⟩
  clear a0 a1 a2 a3 a4 a5
  have k1 : Hid (Below (w.heap.size + 1) (w.alloc (.cells #[c 0, c 1, c 2, c 3, c 4, c 5] 29)) w1) := below_of k0.out hb1
  have s1 : w.heap.size + 1 ≤ w1.heap.size := by have := k1.out.size; simpa using this
  have HY : Hid _ := hy
  clear hy hb1
  by_cases hneg : y < 0
  · go_wp2_with fail
    go_ret
    exact ⟨rfl, below_end k1.out⟩
  have HM : Hid (Lay.tot (α := DRunHouse) (now, last, T, Bs, Ba, Do) ≤ 1048576) := by have := HY.out; show _ ≤ _; omega
  have TR : Hid (Lay.tot (α := DShareBook) (T, Bs) ≤ 1048576) := by have := HM.out; rw [tot_DRunHouse] at this; simp only at this; show _ ≤ _; rw [tot_DShareBook]; simp only; omega
  have TS : Hid (∀ i (hi : i < Ba.length), totL Ba[i].2.1 ≤ 1048576 ∧ totL Ba[i].2.2.1 ≤ 1048576 ∧ Ba[i].2.2.2.1.size ≤ 1048576) := fun i hi => by
    have h1 := HM.out
    rw [tot_DRunHouse] at h1
    simp only at h1
    have h2 := totL_el Ba i hi
    rw [tot_DRunBatch] at h2
    exact ⟨by omega, by omega, by omega⟩
  clear HY
  have a0 := box_at _ _ k1.out 0 (c 0) rfl
  have a1 := box_at _ _ k1.out 1 (c 1) rfl
  have a2 := box_at _ _ k1.out 2 (c 2) rfl
  have a3 := box_at _ _ k1.out 3 (c 3) rfl
  have a4 := box_at _ _ k1.out 4 (c 4) rfl
  have a5 := box_at _ _ k1.out 5 (c 5) rfl
  go_wp2_with fail
  refine (toRunHouse_any S (now, last, T, Bs, Ba, Do) c _ (H.out _ (below_end k1.out)) (fun b hb => by have := hS b hb; omega) HM.out).mono ?_
  rintro e w2 ⟨g2, rfl, G, hb⟩
  clear a0 a1 a2 a3 a4 a5
  have k2 : Hid (Below (w.heap.size + 1) (w.alloc (.cells #[c 0, c 1, c 2, c 3, c 4, c 5] 29)) w2) := below_of k1.out hb
  have s2 : w.heap.size + 1 ≤ w2.heap.size := by have := k2.out.size; simpa using this
  have z2 : w1.heap.size ≤ w2.heap.size := hb.size
  obtain ⟨oA2, oB2, oC2, oD2, nA2, kA2, nB2, kB2, nC2, kC2, nD2, kD2, e0, e1, e2, e3, e4, e5, LA, LB, LC, LD⟩ := house_shape G
  have GC2 : Hid (Lay.At (fun b => w1.heap.size ≤ b ∧ b < w2.heap.size) w2 ((now, last, T, Bs, Ba, Do) : DRunHouse) (cs [.int .i64 now, .int .i64 last, .slice oA2 nA2 kA2, .slice oB2 nB2 kB2, .slice oC2 nC2 kC2, .slice oD2 nD2 kD2])) := Lay.ext G (house_ext e0 e1 e2 e3 e4 e5)
  rw [e0, e1, e2, e3, e4, e5]
  have LA2 : Hid (AtL (fun b => w1.heap.size ≤ b ∧ b < w2.heap.size) w2 T (.slice oA2 nA2 kA2)) := LA
  have LB2 : Hid (AtL (fun b => w1.heap.size ≤ b ∧ b < w2.heap.size) w2 Bs (.slice oB2 nB2 kB2)) := LB
  have LC2 : Hid (AtL (fun b => w1.heap.size ≤ b ∧ b < w2.heap.size) w2 Ba (.slice oC2 nC2 kC2)) := LC
  have LD2 : Hid (AtL (fun b => w1.heap.size ≤ b ∧ b < w2.heap.size) w2 Do (.slice oD2 nD2 kD2)) := LD
  clear e0 e1 e2 e3 e4 e5 LA LB LC LD G hb
  go_wp2_with fail
  refine (leftX_any _ now last _ _ _ _ _ _ _ _ _ _ _ _ T Bs Ba Do w2 LA2.out LB2.out LC2.out LD2.out (fun b hb => hb.2)).mono ?_; rintro e w3 ⟨rfl, hb⟩
  rw [← HR.out]
  have k3 : Hid (Below (w.heap.size + 1) (w.alloc (.cells #[c 0, c 1, c 2, c 3, c 4, c 5] 29)) w3) := below_of k2.out hb
  have s3 : w.heap.size + 1 ≤ w3.heap.size := by have := k3.out.size; simpa using this
  have z3 := hb.size
  clear hb LA2 LB2 LC2 LD2 GC2
  have a0 := box_at _ _ k3.out 0 (c 0) rfl
  have a1 := box_at _ _ k3.out 1 (c 1) rfl
  have a2 := box_at _ _ k3.out 2 (c 2) rfl
  have a3 := box_at _ _ k3.out 3 (c 3) rfl
  have a4 := box_at _ _ k3.out 4 (c 4) rfl
  have a5 := box_at _ _ k3.out 5 (c 5) rfl
  go_wp2_with fail
  refine (toRunHouse_any S (now, last, T, Bs, Ba, Do) c _ (H.out _ (below_end k3.out)) (fun b hb => by have := hS b hb; omega) HM.out).mono ?_
  rintro e w4 ⟨g4, rfl, G, hb⟩
  clear a0 a1 a2 a3 a4 a5
  have k4 : Hid (Below (w.heap.size + 1) (w.alloc (.cells #[c 0, c 1, c 2, c 3, c 4, c 5] 29)) w4) := below_of k3.out hb
  have s4 : w.heap.size + 1 ≤ w4.heap.size := by have := k4.out.size; simpa using this
  have z4 : w3.heap.size ≤ w4.heap.size := hb.size
  obtain ⟨oA4, oB4, oC4, oD4, nA4, kA4, nB4, kB4, nC4, kC4, nD4, kD4, e0, e1, e2, e3, e4, e5, LA, LB, LC, LD⟩ := house_shape G
  have GC4 : Hid (Lay.At (fun b => w3.heap.size ≤ b ∧ b < w4.heap.size) w4 ((now, last, T, Bs, Ba, Do) : DRunHouse) (cs [.int .i64 now, .int .i64 last, .slice oA4 nA4 kA4, .slice oB4 nB4 kB4, .slice oC4 nC4 kC4, .slice oD4 nD4 kD4])) := Lay.ext G (house_ext e0 e1 e2 e3 e4 e5)
  rw [e0, e1, e2, e3, e4, e5]
  have LA4 : Hid (AtL (fun b => w3.heap.size ≤ b ∧ b < w4.heap.size) w4 T (.slice oA4 nA4 kA4)) := LA
  have LB4 : Hid (AtL (fun b => w3.heap.size ≤ b ∧ b < w4.heap.size) w4 Bs (.slice oB4 nB4 kB4)) := LB
  have LC4 : Hid (AtL (fun b => w3.heap.size ≤ b ∧ b < w4.heap.size) w4 Ba (.slice oC4 nC4 kC4)) := LC
  have LD4 : Hid (AtL (fun b => w3.heap.size ≤ b ∧ b < w4.heap.size) w4 Do (.slice oD4 nD4 kD4)) := LD
  clear e0 e1 e2 e3 e4 e5 LA LB LC LD G hb
  obtain ⟨W4, hW4⟩ : ∃ W, W = w4.alloc (.cells #[.int .i64 now, .int .i64 last, .slice oA4 nA4 kA4, .slice oB4 nB4 kB4, .slice oC4 nC4 kC4, .slice oD4 nD4 kD4] 38) := ⟨_, rfl⟩
  have EW4 : Hid (W4 = w4.alloc (.cells #[.int .i64 now, .int .i64 last, .slice oA4 nA4 kA4, .slice oB4 nB4 kB4, .slice oC4 nC4 kC4, .slice oD4 nD4 kD4] 38)) := hW4
  have B4 : Hid (Below w4.heap.size w4 W4) := by rw [hW4]; exact (Below.refl _ _).alloc (Nat.le_refl _) _
  have X4 : Hid (W4.heap[w4.heap.size]? = some (.cells #[.int .i64 now, .int .i64 last, .slice oA4 nA4 kA4, .slice oB4 nB4 kB4, .slice oC4 nC4 kC4, .slice oD4 nD4 kD4] 38 (0, 0))) := by rw [hW4]; exact heap_alloc_new w4 _
  have p4 : w4.heap.size + 1 ≤ W4.heap.size := by rw [hW4]; simp
  have LA5 : Hid (AtL (fun b => w3.heap.size ≤ b ∧ b < w4.heap.size) W4 T (.slice oA4 nA4 kA4)) := LA4.out.same (Same.of_below B4.out (fun b hb => hb.2))
  have LB5 : Hid (AtL (fun b => w3.heap.size ≤ b ∧ b < w4.heap.size) W4 Bs (.slice oB4 nB4 kB4)) := LB4.out.same (Same.of_below B4.out (fun b hb => hb.2))
  have LC5 : Hid (AtL (fun b => w3.heap.size ≤ b ∧ b < w4.heap.size) W4 Ba (.slice oC4 nC4 kC4)) := LC4.out.same (Same.of_below B4.out (fun b hb => hb.2))
  have LD5 : Hid (AtL (fun b => w3.heap.size ≤ b ∧ b < w4.heap.size) W4 Do (.slice oD4 nD4 kD4)) := LD4.out.same (Same.of_below B4.out (fun b hb => hb.2))
  have j0 := (cell_row X4.out 0 _ rfl).1
  have j1 := (cell_row X4.out 1 _ rfl).1
  have j2 := (cell_row X4.out 2 _ rfl).1
  have j3 := (cell_row X4.out 3 _ rfl).1
  have j4 := (cell_row X4.out 4 _ rfl).1
  have j5 := (cell_row X4.out 5 _ rfl).1
  clear hW4
  go_upto_region 7 with fail
  rw [← EW4.out]
  go_wp2_with fail
  refine (leftI_any _ now last _ _ _ _ _ _ _ _ _ _ _ _ T Bs Ba Do W4 LA5.out LB5.out LC5.out LD5.out (fun b hb => by omega) TR.out TS.out).mono ?_; rintro e w6 ⟨rfl, hb⟩
  rw [← HR.out]
  have C6 : Hid (Below w4.heap.size w4 w6) := B4.out.trans (hb.mono B4.out.size)
  have k6 : Hid (Below (w.heap.size + 1) (w.alloc (.cells #[c 0, c 1, c 2, c 3, c 4, c 5] 29)) w6) := below_of k4.out C6.out
  have s6 : w.heap.size + 1 ≤ w6.heap.size := by have := k6.out.size; simpa using this
  have z6 := hb.size
  have X6 : Hid (w6.heap[w4.heap.size]? = some (.cells #[.int .i64 now, .int .i64 last, .slice oA4 nA4 kA4, .slice oB4 nB4 kB4, .slice oC4 nC4 kC4, .slice oD4 nD4 kD4] 38 (0, 0))) := (hb.block _ (by omega)).trans X4.out
  have GC6 : Hid (Lay.At (fun b => w3.heap.size ≤ b ∧ b < w4.heap.size) w6 ((now, last, T, Bs, Ba, Do) : DRunHouse) (cs [.int .i64 now, .int .i64 last, .slice oA4 nA4 kA4, .slice oB4 nB4 kB4, .slice oC4 nC4 kC4, .slice oD4 nD4 kD4])) := Lay.same GC4.out (Same.of_below C6.out (fun b hb => hb.2))
  clear hb j0 j1 j2 j3 j4 j5 LA5 LB5 LC5 LD5 X4 LA4 LB4 LC4 LD4 GC4
  have qa0 := fun d os => cell_regrown (box_at _ _ k6.out 0 (c 0) rfl) d os
  have qj0 := fun d os => cell_regrown ((cell_row X6.out 0 _ rfl).1) d os
  have qa1 := fun d os => cell_regrown (box_at _ _ k6.out 1 (c 1) rfl) d os
  have qj1 := fun d os => cell_regrown ((cell_row X6.out 1 _ rfl).1) d os
  have qa2 := fun d os => cell_regrown (box_at _ _ k6.out 2 (c 2) rfl) d os
  have qj2 := fun d os => cell_regrown ((cell_row X6.out 2 _ rfl).1) d os
  have qa3 := fun d os => cell_regrown (box_at _ _ k6.out 3 (c 3) rfl) d os
  have qj3 := fun d os => cell_regrown ((cell_row X6.out 3 _ rfl).1) d os
  have qa4 := fun d os => cell_regrown (box_at _ _ k6.out 4 (c 4) rfl) d os
  have qj4 := fun d os => cell_regrown ((cell_row X6.out 4 _ rfl).1) d os
  have qa5 := fun d os => cell_regrown (box_at _ _ k6.out 5 (c 5) rfl) d os
  have qj5 := fun d os => cell_regrown ((cell_row X6.out 5 _ rfl).1) d os
  go_wp2_with fail
  refine wp_region_mix 3 [0, 1] (by kernel_rfl) (by kernel_rfl) ?_
  simp only [List.filterMap_cons, List.filterMap_nil, List.getElem?_cons_succ, List.getElem?_cons_zero]
  repeat (first | go_big_quiet_step (fail) | quiet_step (fail))
  refine wpQuiet_nil ?_
  clear qa0 qa1 qa2 qa3 qa4 qa5 qj0 qj1 qj2 qj3 qj4 qj5
  have HDR : Hid (Below w6.heap.size w6 w6.drew) := (Below.refl _ _).drew
  refine call1 (md := .any) (f := 0) (i := 2) (dc := 24) (fn := 6) ⟨rfl, rfl, rfl, by decide⟩ (by kernel_rfl) ?run ((toRunHouse_any S (now, last, T, Bs, Ba, Do) c w6.drew (H.out _ (below_end (below_of k6.out HDR.out))) (fun b hb => by have := hS b hb; show b < w6.heap.size; omega) HM.out).mono ?_)
  case run => go_simp
  rintro e w7 ⟨g7, rfl, G, hb⟩
  have C7 : Hid (Below w6.heap.size w6 w7) := HDR.out.trans (hb.mono HDR.out.size)
  have z7 : w6.heap.size ≤ w7.heap.size := C7.out.size
  obtain ⟨oA7, oB7, oC7, oD7, nA7, kA7, nB7, kB7, nC7, kC7, nD7, kD7, e0, e1, e2, e3, e4, e5, _, _, _, _⟩ := house_shape G
  have GC7 : Hid (Lay.At (fun b => w6.heap.size ≤ b ∧ b < w7.heap.size) w7 ((now, last, T, Bs, Ba, Do) : DRunHouse) (cs [.int .i64 now, .int .i64 last, .slice oA7 nA7 kA7, .slice oB7 nB7 kB7, .slice oC7 nC7 kC7, .slice oD7 nD7 kD7])) := Lay.ext G (house_ext e0 e1 e2 e3 e4 e5)
  rw [e0, e1, e2, e3, e4, e5]
  clear e0 e1 e2 e3 e4 e5 G hb
  refine ⟨_, rfl, regrown_of_below C7.out, ?_⟩
  refine ⟨by kernel_rfl, ?_⟩
  simp only [List.drop_succ_cons, List.drop_zero, Act.put, List.setIfInBounds_toArray, List.set_cons_zero, List.set_cons_succ]
  have GX : Hid (Lay.At (fun b => w3.heap.size ≤ b ∧ b < w4.heap.size) w7 ((now, last, T, Bs, Ba, Do) : DRunHouse) (cs [.int .i64 now, .int .i64 last, .slice oA4 nA4 kA4, .slice oB4 nB4 kB4, .slice oC4 nC4 kC4, .slice oD4 nD4 kD4])) := Lay.same GC6.out (Same.of_below C7.out (fun b hb => by omega))
  go_wp2_with fail
  refine (eqRunHouse_any _ _ (now, last, T, Bs, Ba, Do) (cs [.int .i64 now, .int .i64 last, .slice oA4 nA4 kA4, .slice oB4 nB4 kB4, .slice oC4 nC4 kC4, .slice oD4 nD4 kD4]) (cs [.int .i64 now, .int .i64 last, .slice oA7 nA7 kA7, .slice oB7 nB7 kB7, .slice oC7 nC7 kC7, .slice oD7 nD7 kD7]) w7 GX.out GC7.out (fun b hb => by omega) (fun b hb => hb.2)).mono ?_; rintro e w8 ⟨rfl, hb⟩
  have C8 : Hid (Below w6.heap.size w6 w8) := C7.out.trans (hb.mono z7)
  clear hb GC7
  go_wp2_with fail
  go_ret
  exact ⟨rfl, below_end (below_of k6.out C8.out)⟩
end Go.Proofs.YtobchllaopdchacGreat
