/-
  Several texts in one.
-/
import Derived.Test.YtigkkelaadbhcabGreatM15
import Derived.Test.YtigkkelaadbhcabGreatM35
import Derived.Test.YtigkkelaadbhcabGreatZxe
import Derived.Test.YtigkkelaadbhcabGreatM7
import Derived.Deep.Cut
import Derived.Test.YtigkkelaadbhcabGreatM1
namespace Go.Proofs.YtigkkelaadbhcabGreat
open Go.RowKit
set_option maxRecDepth 100000 in
set_option maxHeartbeats 4000000 in
theorem eqRunDone_any (S S' : Nat → Prop) (a : DRunDone) (c c' : Nat → Value) (w : World) (h : Lay.At S w a c) (h' : Lay.At S' w a c') (_hS : ∀ b, S b → b < w.heap.size) (_hS' : ∀ b, S' b → b < w.heap.size) :
    Calls Tryz.prog 53 #[.agg #[c 0, c 1, c 2], .agg #[c' 0, c' 1, c' 2]] w fun e w' => e = .returned (.bool true) ∧ Below w.heap.size w w' := by
  rw [at_DRunDone] at h
  obtain ⟨⟨ep0, _⟩, ⟨ep1, _, _⟩, ⟨ep2, _, _⟩⟩ := h
  rw [ep0, ep1, ep2]
  clear ep0 ep1 ep2
  rw [at_DRunDone] at h'
  obtain ⟨⟨eq0, _⟩, ⟨eq1, _, _⟩, ⟨eq2, _, _⟩⟩ := h'
  rw [eq0, eq1, eq2]
  clear eq0 eq1 eq2
  have k0 : Hid (Below w.heap.size w ((w.alloc (.cells #[.string a.1, .int .i64 a.2.1, .int .i64 a.2.2] 86)).alloc (.cells #[.string a.1, .int .i64 a.2.1, .int .i64 a.2.2] 86))) := ((Below.refl _ _).alloc (Nat.le_refl _) _).alloc (by simp) _
  go_enter Tryz.func53, Tryz.ntmps53
  go_wp2
  go_ret
  exact ⟨rfl, k0.out⟩
open Go.Sort in
theorem eqRunDoneq (S S' : Nat → Prop) (a : DRunDone) (c c' : Nat → Value) (wr : World) (h : Lay.At S wr a c) (h' : Lay.At S' wr a c') (hS : ∀ b, S b → b < wr.heap.size) (hS' : ∀ b, S' b → b < wr.heap.size) (d : Nat) (os : Array Obj) : Calls Tryz.prog 53 #[.agg #[c 0, c 1, c 2], .agg #[c' 0, c' 1, c' 2]] (grow (redrawn wr d) os) fun e w'' => e = .returned (.bool true) ∧ ∃ p : Regrown, w'' = grow (redrawn wr p.d) p.os :=
  Calls.regrown_of (eqRunDone_any S S' a c c' _ (Lay.same h (Same.of_below (below_regrown wr d os) hS)) (Lay.same h' (Same.of_below (below_regrown wr d os) hS')) (fun b hb => Nat.lt_of_lt_of_le (hS b hb) (below_regrown wr d os).size) (fun b hb => Nat.lt_of_lt_of_le (hS' b hb) (below_regrown wr d os).size))
set_option maxRecDepth 100000 in
set_option maxHeartbeats 4000000 in
theorem eqRunBatchS_any (S S' : Nat → Prop) (l : List DRunBatch) (va vb : Value) (w : World) (ha : AtL S w l va) (hb : AtL S' w l vb) (hS : ∀ b, S b → b < w.heap.size) (hS' : ∀ b, S' b → b < w.heap.size) :
    Calls Tryz.prog 24 #[va, vb] w fun e w' => e = .returned (.bool true) ∧ Below w.heap.size w w' := by
  obtain ⟨oa, ca, rfl, hn, hca⟩ := ha
  obtain ⟨ob, cb, rfl, _, hcb⟩ := hb
  obtain ⟨n, en⟩ : ∃ n, l.length = n := ⟨_, rfl⟩
  rw [en] at hn
  rw [en]
  unfold maxLen at hn
  have HA : Hid _ := hca
  have HB : Hid _ := hcb
  clear hca hcb
  go_enter Tryz.func24, Tryz.ntmps24
  go_wp2
  go_loopw [5] (fun i wr => ∃ k : Nat, k ≤ n ∧ i = .int .i64 k ∧ Hid (Below w.heap.size w wr)) (fun i _ => n - (intOf i).toNat)
  case atStart => exact ⟨0, Nat.zero_le _, rfl, Below.refl _ _⟩
  case round =>
    obtain ⟨k, hk, rfl, hbel⟩ := hrel
    have hs := hbel.out.size
    by_cases hlt : k < n
    · obtain ⟨ba, fa, rfl, hba, cc, hxa, hata⟩ := HA.out k (by omega)
      obtain ⟨bb, fb, rfl, hbb, dd, hxb, hatb⟩ := HB.out k (by omega)
      have hba' := hS ba hba
      have hbb' := hS' bb hbb
      rw [width_DRunBatch] at hxa hxb
      have a0 : wr.cell? ⟨ba, fa + k * 6, none⟩ = some (cc 0) := (hbel.out.cell (p := ⟨ba, fa + k * 6, none⟩) (by show ba < _; omega)).trans (by have hq := hxa 0 (by omega); first | exact hq | simpa using hq)
      have a1 : wr.cell? ⟨ba, fa + k * 6 + 1, none⟩ = some (cc 1) := (hbel.out.cell (p := ⟨ba, fa + k * 6 + 1, none⟩) (by show ba < _; omega)).trans (by have hq := hxa 1 (by omega); first | exact hq | simpa using hq)
      have a2 : wr.cell? ⟨ba, fa + k * 6 + 2, none⟩ = some (cc 2) := (hbel.out.cell (p := ⟨ba, fa + k * 6 + 2, none⟩) (by show ba < _; omega)).trans (by have hq := hxa 2 (by omega); first | exact hq | simpa using hq)
      have a3 : wr.cell? ⟨ba, fa + k * 6 + 3, none⟩ = some (cc 3) := (hbel.out.cell (p := ⟨ba, fa + k * 6 + 3, none⟩) (by show ba < _; omega)).trans (by have hq := hxa 3 (by omega); first | exact hq | simpa using hq)
      have a4 : wr.cell? ⟨ba, fa + k * 6 + 4, none⟩ = some (cc 4) := (hbel.out.cell (p := ⟨ba, fa + k * 6 + 4, none⟩) (by show ba < _; omega)).trans (by have hq := hxa 4 (by omega); first | exact hq | simpa using hq)
      have a5 : wr.cell? ⟨ba, fa + k * 6 + 5, none⟩ = some (cc 5) := (hbel.out.cell (p := ⟨ba, fa + k * 6 + 5, none⟩) (by show ba < _; omega)).trans (by have hq := hxa 5 (by omega); first | exact hq | simpa using hq)
      have c0 : wr.cell? ⟨bb, fb + k * 6, none⟩ = some (dd 0) := (hbel.out.cell (p := ⟨bb, fb + k * 6, none⟩) (by show bb < _; omega)).trans (by have hq := hxb 0 (by omega); first | exact hq | simpa using hq)
      have c1 : wr.cell? ⟨bb, fb + k * 6 + 1, none⟩ = some (dd 1) := (hbel.out.cell (p := ⟨bb, fb + k * 6 + 1, none⟩) (by show bb < _; omega)).trans (by have hq := hxb 1 (by omega); first | exact hq | simpa using hq)
      have c2 : wr.cell? ⟨bb, fb + k * 6 + 2, none⟩ = some (dd 2) := (hbel.out.cell (p := ⟨bb, fb + k * 6 + 2, none⟩) (by show bb < _; omega)).trans (by have hq := hxb 2 (by omega); first | exact hq | simpa using hq)
      have c3 : wr.cell? ⟨bb, fb + k * 6 + 3, none⟩ = some (dd 3) := (hbel.out.cell (p := ⟨bb, fb + k * 6 + 3, none⟩) (by show bb < _; omega)).trans (by have hq := hxb 3 (by omega); first | exact hq | simpa using hq)
      have c4 : wr.cell? ⟨bb, fb + k * 6 + 4, none⟩ = some (dd 4) := (hbel.out.cell (p := ⟨bb, fb + k * 6 + 4, none⟩) (by show bb < _; omega)).trans (by have hq := hxb 4 (by omega); first | exact hq | simpa using hq)
      have c5 : wr.cell? ⟨bb, fb + k * 6 + 5, none⟩ = some (dd 5) := (hbel.out.cell (p := ⟨bb, fb + k * 6 + 5, none⟩) (by show bb < _; omega)).trans (by have hq := hxb 5 (by omega); first | exact hq | simpa using hq)
      have HAA : Hid (Lay.At S wr (l[k]'(by omega)) cc) := Lay.same hata (Same.of_below hbel.out hS)
      have HBB : Hid (Lay.At S' wr (l[k]'(by omega)) dd) := Lay.same hatb (Same.of_below hbel.out hS')
      clear hata hatb
      have hSr : ∀ b, S b → b < wr.heap.size := fun b hb => Nat.lt_of_lt_of_le (hS b hb) hs
      have hSr' : ∀ b, S' b → b < wr.heap.size := fun b hb => Nat.lt_of_lt_of_le (hS' b hb) hs
      clear hxa hxb
      have qa0 := fun d os => cell_regrown a0 d os
      have qa1 := fun d os => cell_regrown a1 d os
      have qa2 := fun d os => cell_regrown a2 d os
      have qa3 := fun d os => cell_regrown a3 d os
      have qa4 := fun d os => cell_regrown a4 d os
      have qa5 := fun d os => cell_regrown a5 d os
      have qc0 := fun d os => cell_regrown c0 d os
      have qc1 := fun d os => cell_regrown c1 d os
      have qc2 := fun d os => cell_regrown c2 d os
      have qc3 := fun d os => cell_regrown c3 d os
      have qc4 := fun d os => cell_regrown c4 d os
      have qc5 := fun d os => cell_regrown c5 d os
      go_wp2
      refine wp_region_quiet_below (by kernel_rfl) (by kernel_rfl) ?_
      repeat (first | go_big_quiet_step (with_reducible exact eqRunBatchq S S' _ _ _ _ HAA.out HBB.out hSr hSr' _ _) | quiet_step (with_reducible exact eqRunBatchq S S' _ _ _ _ HAA.out HBB.out hSr hSr' _ _))
      refine wpQuiet_nil ?_
      intro _ hw'
      obtain ⟨⟨dq, osq⟩, hw''⟩ := hw'
      subst hw''
      go_wp2
      go_roundw
      case rel => exact ⟨k + 1, by omega, by go_num, hbel.out.trans ((below_regrown _ dq osq).mono hs)⟩
      case measure => simp [intOf]; omega
    · go_wp2
      go_ret
      exact ⟨rfl, hbel.out⟩
set_option maxRecDepth 100000 in
set_option maxHeartbeats 4000000 in
theorem eqRunDoneS_any (S S' : Nat → Prop) (l : List DRunDone) (va vb : Value) (w : World) (ha : AtL S w l va) (hb : AtL S' w l vb) (hS : ∀ b, S b → b < w.heap.size) (hS' : ∀ b, S' b → b < w.heap.size) :
    Calls Tryz.prog 25 #[va, vb] w fun e w' => e = .returned (.bool true) ∧ Below w.heap.size w w' := by
  obtain ⟨oa, ca, rfl, hn, hca⟩ := ha
  obtain ⟨ob, cb, rfl, _, hcb⟩ := hb
  obtain ⟨n, en⟩ : ∃ n, l.length = n := ⟨_, rfl⟩
  rw [en] at hn
  rw [en]
  unfold maxLen at hn
  have HA : Hid _ := hca
  have HB : Hid _ := hcb
  clear hca hcb
  go_enter Tryz.func25, Tryz.ntmps25
  go_wp2
  go_loopw [5] (fun i wr => ∃ k : Nat, k ≤ n ∧ i = .int .i64 k ∧ Hid (Below w.heap.size w wr)) (fun i _ => n - (intOf i).toNat)
  case atStart => exact ⟨0, Nat.zero_le _, rfl, Below.refl _ _⟩
  case round =>
    obtain ⟨k, hk, rfl, hbel⟩ := hrel
    have hs := hbel.out.size
    by_cases hlt : k < n
    · obtain ⟨ba, fa, rfl, hba, cc, hxa, hata⟩ := HA.out k (by omega)
      obtain ⟨bb, fb, rfl, hbb, dd, hxb, hatb⟩ := HB.out k (by omega)
      have hba' := hS ba hba
      have hbb' := hS' bb hbb
      rw [width_DRunDone] at hxa hxb
      have a0 : wr.cell? ⟨ba, fa + k * 3, none⟩ = some (cc 0) := (hbel.out.cell (p := ⟨ba, fa + k * 3, none⟩) (by show ba < _; omega)).trans (by have hq := hxa 0 (by omega); first | exact hq | simpa using hq)
      have a1 : wr.cell? ⟨ba, fa + k * 3 + 1, none⟩ = some (cc 1) := (hbel.out.cell (p := ⟨ba, fa + k * 3 + 1, none⟩) (by show ba < _; omega)).trans (by have hq := hxa 1 (by omega); first | exact hq | simpa using hq)
      have a2 : wr.cell? ⟨ba, fa + k * 3 + 2, none⟩ = some (cc 2) := (hbel.out.cell (p := ⟨ba, fa + k * 3 + 2, none⟩) (by show ba < _; omega)).trans (by have hq := hxa 2 (by omega); first | exact hq | simpa using hq)
      have c0 : wr.cell? ⟨bb, fb + k * 3, none⟩ = some (dd 0) := (hbel.out.cell (p := ⟨bb, fb + k * 3, none⟩) (by show bb < _; omega)).trans (by have hq := hxb 0 (by omega); first | exact hq | simpa using hq)
      have c1 : wr.cell? ⟨bb, fb + k * 3 + 1, none⟩ = some (dd 1) := (hbel.out.cell (p := ⟨bb, fb + k * 3 + 1, none⟩) (by show bb < _; omega)).trans (by have hq := hxb 1 (by omega); first | exact hq | simpa using hq)
      have c2 : wr.cell? ⟨bb, fb + k * 3 + 2, none⟩ = some (dd 2) := (hbel.out.cell (p := ⟨bb, fb + k * 3 + 2, none⟩) (by show bb < _; omega)).trans (by have hq := hxb 2 (by omega); first | exact hq | simpa using hq)
      have HAA : Hid (Lay.At S wr (l[k]'(by omega)) cc) := Lay.same hata (Same.of_below hbel.out hS)
      have HBB : Hid (Lay.At S' wr (l[k]'(by omega)) dd) := Lay.same hatb (Same.of_below hbel.out hS')
      clear hata hatb
      have hSr : ∀ b, S b → b < wr.heap.size := fun b hb => Nat.lt_of_lt_of_le (hS b hb) hs
      have hSr' : ∀ b, S' b → b < wr.heap.size := fun b hb => Nat.lt_of_lt_of_le (hS' b hb) hs
      clear hxa hxb
      have qa0 := fun d os => cell_regrown a0 d os
      have qa1 := fun d os => cell_regrown a1 d os
      have qa2 := fun d os => cell_regrown a2 d os
      have qc0 := fun d os => cell_regrown c0 d os
      have qc1 := fun d os => cell_regrown c1 d os
      have qc2 := fun d os => cell_regrown c2 d os
      go_wp2
      refine wp_region_quiet_below (by kernel_rfl) (by kernel_rfl) ?_
      repeat (first | go_big_quiet_step (with_reducible exact eqRunDoneq S S' _ _ _ _ HAA.out HBB.out hSr hSr' _ _) | quiet_step (with_reducible exact eqRunDoneq S S' _ _ _ _ HAA.out HBB.out hSr hSr' _ _))
      refine wpQuiet_nil ?_
      intro _ hw'
      obtain ⟨⟨dq, osq⟩, hw''⟩ := hw'
      subst hw''
      go_wp2
      go_roundw
      case rel => exact ⟨k + 1, by omega, by go_num, hbel.out.trans ((below_regrown _ dq osq).mono hs)⟩
      case measure => simp [intOf]; omega
    · go_wp2
      go_ret
      exact ⟨rfl, hbel.out⟩
set_option maxRecDepth 100000 in
set_option maxHeartbeats 8000000 in
theorem eqRunHouse_any (S S' : Nat → Prop) (a : DRunHouse) (c c' : Nat → Value) (w : World) (h : Lay.At S w a c) (h' : Lay.At S' w a c') (hS : ∀ b, S b → b < w.heap.size) (hS' : ∀ b, S' b → b < w.heap.size) :
    Calls Tryz.prog 9 #[.agg #[c 0, c 1, c 2, c 3, c 4, c 5], .agg #[c' 0, c' 1, c' 2, c' 3, c' 4, c' 5]] w fun e w' => e = .returned (.bool true) ∧ Below w.heap.size w w' := by
  rw [at_DRunHouse] at h
  obtain ⟨⟨ep0, zp0, yp0⟩, ⟨ep1, zp1, yp1⟩, Hp2, Hp3, Hp4, Hp5⟩ := h
  obtain ⟨vp2, ep2⟩ : ∃ v, c 2 = v := ⟨_, rfl⟩
  rw [ep2] at Hp2
  obtain ⟨vp3, ep3⟩ : ∃ v, c 3 = v := ⟨_, rfl⟩
  rw [ep3] at Hp3
  obtain ⟨vp4, ep4⟩ : ∃ v, c 4 = v := ⟨_, rfl⟩
  rw [ep4] at Hp4
  obtain ⟨vp5, ep5⟩ : ∃ v, c 5 = v := ⟨_, rfl⟩
  rw [ep5] at Hp5
  rw [ep0, ep1, ep2, ep3, ep4, ep5]
  clear ep0 ep1 ep2 ep3 ep4 ep5
  rw [at_DRunHouse] at h'
  obtain ⟨⟨eq0, zq0, yq0⟩, ⟨eq1, zq1, yq1⟩, Hq2, Hq3, Hq4, Hq5⟩ := h'
  obtain ⟨vq2, eq2⟩ : ∃ v, c' 2 = v := ⟨_, rfl⟩
  rw [eq2] at Hq2
  obtain ⟨vq3, eq3⟩ : ∃ v, c' 3 = v := ⟨_, rfl⟩
  rw [eq3] at Hq3
  obtain ⟨vq4, eq4⟩ : ∃ v, c' 4 = v := ⟨_, rfl⟩
  rw [eq4] at Hq4
  obtain ⟨vq5, eq5⟩ : ∃ v, c' 5 = v := ⟨_, rfl⟩
  rw [eq5] at Hq5
  rw [eq0, eq1, eq2, eq3, eq4, eq5]
  clear eq0 eq1 eq2 eq3 eq4 eq5
  obtain ⟨W, hW⟩ : ∃ W, W = (w.alloc (.cells #[.int .i64 a.1, .int .i64 a.2.1, vp2, vp3, vp4, vp5] 38)).alloc (.cells #[.int .i64 a.1, .int .i64 a.2.1, vq2, vq3, vq4, vq5] 38) := ⟨_, rfl⟩
  have EW : Hid (W = (w.alloc (.cells #[.int .i64 a.1, .int .i64 a.2.1, vp2, vp3, vp4, vp5] 38)).alloc (.cells #[.int .i64 a.1, .int .i64 a.2.1, vq2, vq3, vq4, vq5] 38)) := hW
  have BW : Hid (Below w.heap.size w W) := by rw [hW]; exact ((Below.refl _ _).alloc (Nat.le_refl _) _).alloc (by simp) _
  have RP : Hid (W.heap[w.heap.size]? = some (.cells #[.int .i64 a.1, .int .i64 a.2.1, vp2, vp3, vp4, vp5] 38 (0, 0))) := by
    rw [hW]
    exact (Below.heap_alloc _ _ _ (by simp)).trans (heap_alloc_new w _)
  have RQ : Hid (W.heap[w.heap.size + 1]? = some (.cells #[.int .i64 a.1, .int .i64 a.2.1, vq2, vq3, vq4, vq5] 38 (0, 0))) := by
    rw [hW]
    have := heap_alloc_new (w.alloc (.cells #[.int .i64 a.1, .int .i64 a.2.1, vp2, vp3, vp4, vp5] 38)) (.cells #[.int .i64 a.1, .int .i64 a.2.1, vq2, vq3, vq4, vq5] 38)
    rw [World.size_alloc] at this
    exact this
  have sW : w.heap.size + 2 ≤ W.heap.size := by rw [hW]; simp
  clear hW
  have BOX : Hid (∀ u, Below W.heap.size W u → u.heap[w.heap.size]? = some (.cells #[.int .i64 a.1, .int .i64 a.2.1, vp2, vp3, vp4, vp5] 38 (0, 0)) ∧ u.heap[w.heap.size + 1]? = some (.cells #[.int .i64 a.1, .int .i64 a.2.1, vq2, vq3, vq4, vq5] 38 (0, 0)) ∧ Below w.heap.size w u) := fun u hu => ⟨(hu.block _ (by omega)).trans RP.out, (hu.block _ (by omega)).trans RQ.out, BW.out.trans (hu.mono (by omega))⟩
  have HSP : Hid _ := lt_up hS
  have HSQ : Hid _ := lt_up hS'
  have P2 : Hid (∀ u, Below w.heap.size w u → Lay.At S u ((a.2.2.1, a.2.2.2.1) : DShareBook) (cs [vp2, vp3])) := fun u hu => at_DShareBook.2 ⟨Hp2.same (Same.of_below hu hS), Hp3.same (Same.of_below hu hS)⟩
  have P4 : Hid _ := Hp4.ups hS
  have P5 : Hid _ := Hp5.ups hS
  have Q2 : Hid (∀ u, Below w.heap.size w u → Lay.At S' u ((a.2.2.1, a.2.2.2.1) : DShareBook) (cs [vq2, vq3])) := fun u hu => at_DShareBook.2 ⟨Hq2.same (Same.of_below hu hS'), Hq3.same (Same.of_below hu hS')⟩
  have Q4 : Hid _ := Hq4.ups hS'
  have Q5 : Hid _ := Hq5.ups hS'
  clear Hp2 Hp3 Hp4 Hp5 Hq2 Hq3 Hq4 Hq5 hS hS'
  have p0 := (cell_row RP.out 0 _ rfl).1
  have p1 := (cell_row RP.out 1 _ rfl).1
  have p2 := (cell_row RP.out 2 vp2 rfl).1
  have p3 := (cell_row RP.out 3 vp3 rfl).1
  have q0 := (cell_row RQ.out 0 _ rfl).1
  have q1 := (cell_row RQ.out 1 _ rfl).1
  have q2 := (cell_row RQ.out 2 vq2 rfl).1
  have q3 := (cell_row RQ.out 3 vq3 rfl).1
  go_enter Tryz.func9, Tryz.ntmps9
  go_upto_region 1 with fail
  rw [← EW.out]
  go_wp2_with fail
  refine (eqShareBook_any S S' (a.2.2.1, a.2.2.2.1) (cs [vp2, vp3]) (cs [vq2, vq3]) W (P2.out W BW.out) (Q2.out W BW.out) (HSP.out W BW.out) (HSQ.out W BW.out)).mono ?_
  rintro e w1 ⟨rfl, u1⟩
  have C1 : Hid (Below W.heap.size W w1) := u1
  clear p0 p1 p2 p3 q0 q1 q2 q3 u1
  have B1 := BOX.out w1 C1.out
  have p4 := (cell_row B1.1 4 vp4 rfl).1
  have q4 := (cell_row B1.2.1 4 vq4 rfl).1
  go_wp2_with fail
  refine (eqRunBatchS_any S S' a.2.2.2.2.1 vp4 vq4 w1 (P4.out w1 B1.2.2) (Q4.out w1 B1.2.2) (HSP.out w1 B1.2.2) (HSQ.out w1 B1.2.2)).mono ?_
  rintro e w2 ⟨rfl, u2⟩
  have C2 : Hid (Below W.heap.size W w2) := C1.out.trans (u2.mono C1.out.size)
  clear p4 q4 u2
  have B2 := BOX.out w2 C2.out
  have p5 := (cell_row B2.1 5 vp5 rfl).1
  have q5 := (cell_row B2.2.1 5 vq5 rfl).1
  go_wp2_with fail
  refine (eqRunDoneS_any S S' a.2.2.2.2.2 vp5 vq5 w2 (P5.out w2 B2.2.2) (Q5.out w2 B2.2.2) (HSP.out w2 B2.2.2) (HSQ.out w2 B2.2.2)).mono ?_
  rintro e w3 ⟨rfl, u3⟩
  have C3 : Hid (Below W.heap.size W w3) := C2.out.trans (u3.mono C2.out.size)
  clear p5 q5 u3
  have B3 := BOX.out w3 C3.out
  go_wp2_with fail
  go_ret
  exact ⟨rfl, B3.2.2⟩
end Go.Proofs.YtigkkelaadbhcabGreat

namespace Go.Proofs.YtigkkelaadbhcabGreat
open Go.RowKit
theorem cnt_le {α : Type} [Own α] (K : Nat) : ∀ l : List α, (∀ x ∈ l, Own.cnt x ≤ K) → cntL l ≤ K * l.length
  | [], _ => by simp [cntL, cntTo]
  | x :: l, h => by
    have h1 := h x List.mem_cons_self
    have h2 := cnt_le K l (fun y hy => h y (List.mem_cons_of_mem _ hy))
    have e1 : cntL (x :: l) = Own.cnt x + cntL l := by simp [cntL, cntTo]
    rw [e1, List.length_cons, Nat.mul_add]
    omega
end Go.Proofs.YtigkkelaadbhcabGreat
