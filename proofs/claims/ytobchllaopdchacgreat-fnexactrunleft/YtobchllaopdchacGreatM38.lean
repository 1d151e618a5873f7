/-
  Several texts in one.
-/
import Derived.Test.YtobchllaopdchacGreatM34
import Derived.Test.YtobchllaopdchacGreatVrt
import Derived.Test.YtobchllaopdchacGreatZxt
namespace Go.Proofs.YtobchllaopdchacGreat
open Go.RowKit
set_option maxRecDepth 100000 in
set_option maxHeartbeats 4000000 in
theorem eqRecPhase_any (S S' : Nat → Prop) (a : DRecPhase) (c c' : Nat → Value) (w : World) (h : Lay.At S w a c) (h' : Lay.At S' w a c') (_hS : ∀ b, S b → b < w.heap.size) (_hS' : ∀ b, S' b → b < w.heap.size) :
    Calls Tryz.prog 125 #[.agg #[c 0, c 1, c 2, c 3, c 4, c 5, c 6, c 7], .agg #[c' 0, c' 1, c' 2, c' 3, c' 4, c' 5, c' 6, c' 7]] w fun e w' => e = .returned (.bool true) ∧ Below w.heap.size w w' := by
  rw [at_DRecPhase] at h
  obtain ⟨⟨ep0, _⟩, ⟨ep1, _, _⟩, ⟨ep2, _⟩, ⟨ep3, _⟩, ⟨ep4, _, _⟩, ⟨ep5, _, _⟩, ⟨ep6, _⟩, ⟨ep7, _⟩⟩ := h
  rw [ep0, ep1, ep2, ep3, ep4, ep5, ep6, ep7]
  clear ep0 ep1 ep2 ep3 ep4 ep5 ep6 ep7
  rw [at_DRecPhase] at h'
  obtain ⟨⟨eq0, _⟩, ⟨eq1, _, _⟩, ⟨eq2, _⟩, ⟨eq3, _⟩, ⟨eq4, _, _⟩, ⟨eq5, _, _⟩, ⟨eq6, _⟩, ⟨eq7, _⟩⟩ := h'
  rw [eq0, eq1, eq2, eq3, eq4, eq5, eq6, eq7]
  clear eq0 eq1 eq2 eq3 eq4 eq5 eq6 eq7
  have k0 : Hid (Below w.heap.size w ((w.alloc (.cells #[.string a.1, .int .i64 a.2.1, .string a.2.2.1, .string a.2.2.2.1, .int .i64 a.2.2.2.2.1, .int .i64 a.2.2.2.2.2.1, .string a.2.2.2.2.2.2.1, .string a.2.2.2.2.2.2.2] 75)).alloc (.cells #[.string a.1, .int .i64 a.2.1, .string a.2.2.1, .string a.2.2.2.1, .int .i64 a.2.2.2.2.1, .int .i64 a.2.2.2.2.2.1, .string a.2.2.2.2.2.2.1, .string a.2.2.2.2.2.2.2] 75))) := ((Below.refl _ _).alloc (Nat.le_refl _) _).alloc (by simp) _
  go_enter Tryz.func125, Tryz.ntmps125
  go_wp2
  go_ret
  exact ⟨rfl, k0.out⟩
open Go.Sort in
theorem eqRecPhaseq (S S' : Nat → Prop) (a : DRecPhase) (c c' : Nat → Value) (wr : World) (h : Lay.At S wr a c) (h' : Lay.At S' wr a c') (hS : ∀ b, S b → b < wr.heap.size) (hS' : ∀ b, S' b → b < wr.heap.size) (d : Nat) (os : Array Obj) : Calls Tryz.prog 125 #[.agg #[c 0, c 1, c 2, c 3, c 4, c 5, c 6, c 7], .agg #[c' 0, c' 1, c' 2, c' 3, c' 4, c' 5, c' 6, c' 7]] (grow (redrawn wr d) os) fun e w'' => e = .returned (.bool true) ∧ ∃ p : Regrown, w'' = grow (redrawn wr p.d) p.os :=
  Calls.regrown_of (eqRecPhase_any S S' a c c' _ (Lay.same h (Same.of_below (below_regrown wr d os) hS)) (Lay.same h' (Same.of_below (below_regrown wr d os) hS')) (fun b hb => Nat.lt_of_lt_of_le (hS b hb) (below_regrown wr d os).size) (fun b hb => Nat.lt_of_lt_of_le (hS' b hb) (below_regrown wr d os).size))
end Go.Proofs.YtobchllaopdchacGreat

namespace Go.Proofs.YtobchllaopdchacGreat
open Go.RowKit
set_option maxRecDepth 100000 in
set_option maxHeartbeats 4000000 in
theorem eqRecPhaseS_any (S S' : Nat → Prop) (l : List DRecPhase) (va vb : Value) (w : World) (ha : AtL S w l va) (hb : AtL S' w l vb) (hS : ∀ b, S b → b < w.heap.size) (hS' : ∀ b, S' b → b < w.heap.size) :
    Calls Tryz.prog 91 #[va, vb] w fun e w' => e = .returned (.bool true) ∧ Below w.heap.size w w' := by
  obtain ⟨oa, ca, rfl, hn, hca⟩ := ha
  obtain ⟨ob, cb, rfl, _, hcb⟩ := hb
  obtain ⟨n, en⟩ : ∃ n, l.length = n := ⟨_, rfl⟩
  rw [en] at hn
  rw [en]
  unfold maxLen at hn
  have HA : Hid _ := hca
  have HB : Hid _ := hcb
  clear hca hcb
  go_enter Tryz.func91, Tryz.ntmps91
  go_wp2
  go_loopw [5] (fun i wr => ∃ k : Nat, k ≤ n ∧ i = .int .i64 k ∧ Hid (Below w.heap.size w wr)) (fun i _ => n - (intOf i).toNat)
  case atStart => exact ⟨0, Nat.zero_le _, rfl, Below.refl _ _⟩
  case round =>
    obtain ⟨k, hk, rfl, hbel⟩ := hrel
    have hs := hbel.out.size
    by_cases hlt : k < n
    · obtain ⟨ba, fa, rfl, hba, cc, hxa, hata⟩ := HA.out k (by omega)
      obtain ⟨bb, fb, rfl, hbb, dd, hxb, hatb⟩ := HB.out k (by omega)
      have hba' := hS ba hba
      have hbb' := hS' bb hbb
      rw [width_DRecPhase] at hxa hxb
      have a0 : wr.cell? ⟨ba, fa + k * 8, none⟩ = some (cc 0) := (hbel.out.cell (p := ⟨ba, fa + k * 8, none⟩) (by show ba < _; omega)).trans (by have hq := hxa 0 (by omega); first | exact hq | simpa using hq)
      have a1 : wr.cell? ⟨ba, fa + k * 8 + 1, none⟩ = some (cc 1) := (hbel.out.cell (p := ⟨ba, fa + k * 8 + 1, none⟩) (by show ba < _; omega)).trans (by have hq := hxa 1 (by omega); first | exact hq | simpa using hq)
      have a2 : wr.cell? ⟨ba, fa + k * 8 + 2, none⟩ = some (cc 2) := (hbel.out.cell (p := ⟨ba, fa + k * 8 + 2, none⟩) (by show ba < _; omega)).trans (by have hq := hxa 2 (by omega); first | exact hq | simpa using hq)
      have a3 : wr.cell? ⟨ba, fa + k * 8 + 3, none⟩ = some (cc 3) := (hbel.out.cell (p := ⟨ba, fa + k * 8 + 3, none⟩) (by show ba < _; omega)).trans (by have hq := hxa 3 (by omega); first | exact hq | simpa using hq)
      have a4 : wr.cell? ⟨ba, fa + k * 8 + 4, none⟩ = some (cc 4) := (hbel.out.cell (p := ⟨ba, fa + k * 8 + 4, none⟩) (by show ba < _; omega)).trans (by have hq := hxa 4 (by omega); first | exact hq | simpa using hq)
      have a5 : wr.cell? ⟨ba, fa + k * 8 + 5, none⟩ = some (cc 5) := (hbel.out.cell (p := ⟨ba, fa + k * 8 + 5, none⟩) (by show ba < _; omega)).trans (by have hq := hxa 5 (by omega); first | exact hq | simpa using hq)
      have a6 : wr.cell? ⟨ba, fa + k * 8 + 6, none⟩ = some (cc 6) := (hbel.out.cell (p := ⟨ba, fa + k * 8 + 6, none⟩) (by show ba < _; omega)).trans (by have hq := hxa 6 (by omega); first | exact hq | simpa using hq)
      have a7 : wr.cell? ⟨ba, fa + k * 8 + 7, none⟩ = some (cc 7) := (hbel.out.cell (p := ⟨ba, fa + k * 8 + 7, none⟩) (by show ba < _; omega)).trans (by have hq := hxa 7 (by omega); first | exact hq | simpa using hq)
      have c0 : wr.cell? ⟨bb, fb + k * 8, none⟩ = some (dd 0) := (hbel.out.cell (p := ⟨bb, fb + k * 8, none⟩) (by show bb < _; omega)).trans (by have hq := hxb 0 (by omega); first | exact hq | simpa using hq)
      have c1 : wr.cell? ⟨bb, fb + k * 8 + 1, none⟩ = some (dd 1) := (hbel.out.cell (p := ⟨bb, fb + k * 8 + 1, none⟩) (by show bb < _; omega)).trans (by have hq := hxb 1 (by omega); first | exact hq | simpa using hq)
      have c2 : wr.cell? ⟨bb, fb + k * 8 + 2, none⟩ = some (dd 2) := (hbel.out.cell (p := ⟨bb, fb + k * 8 + 2, none⟩) (by show bb < _; omega)).trans (by have hq := hxb 2 (by omega); first | exact hq | simpa using hq)
      have c3 : wr.cell? ⟨bb, fb + k * 8 + 3, none⟩ = some (dd 3) := (hbel.out.cell (p := ⟨bb, fb + k * 8 + 3, none⟩) (by show bb < _; omega)).trans (by have hq := hxb 3 (by omega); first | exact hq | simpa using hq)
      have c4 : wr.cell? ⟨bb, fb + k * 8 + 4, none⟩ = some (dd 4) := (hbel.out.cell (p := ⟨bb, fb + k * 8 + 4, none⟩) (by show bb < _; omega)).trans (by have hq := hxb 4 (by omega); first | exact hq | simpa using hq)
      have c5 : wr.cell? ⟨bb, fb + k * 8 + 5, none⟩ = some (dd 5) := (hbel.out.cell (p := ⟨bb, fb + k * 8 + 5, none⟩) (by show bb < _; omega)).trans (by have hq := hxb 5 (by omega); first | exact hq | simpa using hq)
      have c6 : wr.cell? ⟨bb, fb + k * 8 + 6, none⟩ = some (dd 6) := (hbel.out.cell (p := ⟨bb, fb + k * 8 + 6, none⟩) (by show bb < _; omega)).trans (by have hq := hxb 6 (by omega); first | exact hq | simpa using hq)
      have c7 : wr.cell? ⟨bb, fb + k * 8 + 7, none⟩ = some (dd 7) := (hbel.out.cell (p := ⟨bb, fb + k * 8 + 7, none⟩) (by show bb < _; omega)).trans (by have hq := hxb 7 (by omega); first | exact hq | simpa using hq)
      have HAA : Hid (Lay.At S wr (l[k]'(by omega)) cc) := Lay.same hata (Same.of_below hbel.out hS)
      have HBB : Hid (Lay.At S' wr (l[k]'(by omega)) dd) := Lay.same hatb (Same.of_below hbel.out hS')
      clear hata hatb
      have hSr : ∀ b, S b → b < wr.heap.size := fun b hb => Nat.lt_of_lt_of_le (hS b hb) hs
      have hSr' : ∀ b, S' b → b < wr.heap.size := fun b hb => Nat.lt_of_lt_of_le (hS' b hb) hs
      clear hxa hxb
      have qa0 := fun d os => cell_regrown a0 d os
      have qa1 := fun d os => cell_regrown a1 d os
      have qa2 := fun d os => cell_regrown a2 d os
      have qa3 := fun d os => cell_regrown a3 d os
      have qa4 := fun d os => cell_regrown a4 d os
      have qa5 := fun d os => cell_regrown a5 d os
      have qa6 := fun d os => cell_regrown a6 d os
      have qa7 := fun d os => cell_regrown a7 d os
      have qc0 := fun d os => cell_regrown c0 d os
      have qc1 := fun d os => cell_regrown c1 d os
      have qc2 := fun d os => cell_regrown c2 d os
      have qc3 := fun d os => cell_regrown c3 d os
      have qc4 := fun d os => cell_regrown c4 d os
      have qc5 := fun d os => cell_regrown c5 d os
      have qc6 := fun d os => cell_regrown c6 d os
      have qc7 := fun d os => cell_regrown c7 d os
      go_wp2
      refine wp_region_quiet_below (by kernel_rfl) (by kernel_rfl) ?_
      repeat (first | go_big_quiet_step (with_reducible exact eqRecPhaseq S S' _ _ _ _ HAA.out HBB.out hSr hSr' _ _) | quiet_step (with_reducible exact eqRecPhaseq S S' _ _ _ _ HAA.out HBB.out hSr hSr' _ _))
      refine wpQuiet_nil ?_
      intro _ hw'
      obtain ⟨⟨dq, osq⟩, hw''⟩ := hw'
      subst hw''
      go_wp2
      go_roundw
      case rel => exact ⟨k + 1, by omega, by go_num, hbel.out.trans ((below_regrown _ dq osq).mono hs)⟩
      case measure => simp [intOf]; omega
    · go_wp2
      go_ret
      exact ⟨rfl, hbel.out⟩
end Go.Proofs.YtobchllaopdchacGreat

namespace Go.Proofs.YtobchllaopdchacGreat
open Go.RowKit
set_option maxRecDepth 100000 in
set_option maxHeartbeats 4000000 in
theorem eqRunSlot_any (S S' : Nat → Prop) (a : DRunSlot) (c c' : Nat → Value) (w : World) (h : Lay.At S w a c) (h' : Lay.At S' w a c') (_hS : ∀ b, S b → b < w.heap.size) (_hS' : ∀ b, S' b → b < w.heap.size) :
    Calls Tryz.prog 126 #[.agg #[c 0, c 1], .agg #[c' 0, c' 1]] w fun e w' => e = .returned (.bool true) ∧ Below w.heap.size w w' := by
  rw [at_DRunSlot] at h
  obtain ⟨⟨ep0, _⟩, ⟨ep1, _⟩⟩ := h
  rw [ep0, ep1]
  clear ep0 ep1
  rw [at_DRunSlot] at h'
  obtain ⟨⟨eq0, _⟩, ⟨eq1, _⟩⟩ := h'
  rw [eq0, eq1]
  clear eq0 eq1
  have k0 : Hid (Below w.heap.size w ((w.alloc (.cells #[.string a.1, .string a.2] 142)).alloc (.cells #[.string a.1, .string a.2] 142))) := ((Below.refl _ _).alloc (Nat.le_refl _) _).alloc (by simp) _
  go_enter Tryz.func126, Tryz.ntmps126
  go_wp2
  go_ret
  exact ⟨rfl, k0.out⟩
open Go.Sort in
theorem eqRunSlotq (S S' : Nat → Prop) (a : DRunSlot) (c c' : Nat → Value) (wr : World) (h : Lay.At S wr a c) (h' : Lay.At S' wr a c') (hS : ∀ b, S b → b < wr.heap.size) (hS' : ∀ b, S' b → b < wr.heap.size) (d : Nat) (os : Array Obj) : Calls Tryz.prog 126 #[.agg #[c 0, c 1], .agg #[c' 0, c' 1]] (grow (redrawn wr d) os) fun e w'' => e = .returned (.bool true) ∧ ∃ p : Regrown, w'' = grow (redrawn wr p.d) p.os :=
  Calls.regrown_of (eqRunSlot_any S S' a c c' _ (Lay.same h (Same.of_below (below_regrown wr d os) hS)) (Lay.same h' (Same.of_below (below_regrown wr d os) hS')) (fun b hb => Nat.lt_of_lt_of_le (hS b hb) (below_regrown wr d os).size) (fun b hb => Nat.lt_of_lt_of_le (hS' b hb) (below_regrown wr d os).size))
set_option maxRecDepth 100000 in
set_option maxHeartbeats 4000000 in
theorem eqRunSlotS_any (S S' : Nat → Prop) (l : List DRunSlot) (va vb : Value) (w : World) (ha : AtL S w l va) (hb : AtL S' w l vb) (hS : ∀ b, S b → b < w.heap.size) (hS' : ∀ b, S' b → b < w.heap.size) :
    Calls Tryz.prog 92 #[va, vb] w fun e w' => e = .returned (.bool true) ∧ Below w.heap.size w w' := by
  obtain ⟨oa, ca, rfl, hn, hca⟩ := ha
  obtain ⟨ob, cb, rfl, _, hcb⟩ := hb
  obtain ⟨n, en⟩ : ∃ n, l.length = n := ⟨_, rfl⟩
  rw [en] at hn
  rw [en]
  unfold maxLen at hn
  have HA : Hid _ := hca
  have HB : Hid _ := hcb
  clear hca hcb
  go_enter Tryz.func92, Tryz.ntmps92
  go_wp2
  go_loopw [5] (fun i wr => ∃ k : Nat, k ≤ n ∧ i = .int .i64 k ∧ Hid (Below w.heap.size w wr)) (fun i _ => n - (intOf i).toNat)
  case atStart => exact ⟨0, Nat.zero_le _, rfl, Below.refl _ _⟩
  case round =>
    obtain ⟨k, hk, rfl, hbel⟩ := hrel
    have hs := hbel.out.size
    by_cases hlt : k < n
    · obtain ⟨ba, fa, rfl, hba, cc, hxa, hata⟩ := HA.out k (by omega)
      obtain ⟨bb, fb, rfl, hbb, dd, hxb, hatb⟩ := HB.out k (by omega)
      have hba' := hS ba hba
      have hbb' := hS' bb hbb
      rw [width_DRunSlot] at hxa hxb
      have a0 : wr.cell? ⟨ba, fa + k * 2, none⟩ = some (cc 0) := (hbel.out.cell (p := ⟨ba, fa + k * 2, none⟩) (by show ba < _; omega)).trans (by have hq := hxa 0 (by omega); first | exact hq | simpa using hq)
      have a1 : wr.cell? ⟨ba, fa + k * 2 + 1, none⟩ = some (cc 1) := (hbel.out.cell (p := ⟨ba, fa + k * 2 + 1, none⟩) (by show ba < _; omega)).trans (by have hq := hxa 1 (by omega); first | exact hq | simpa using hq)
      have c0 : wr.cell? ⟨bb, fb + k * 2, none⟩ = some (dd 0) := (hbel.out.cell (p := ⟨bb, fb + k * 2, none⟩) (by show bb < _; omega)).trans (by have hq := hxb 0 (by omega); first | exact hq | simpa using hq)
      have c1 : wr.cell? ⟨bb, fb + k * 2 + 1, none⟩ = some (dd 1) := (hbel.out.cell (p := ⟨bb, fb + k * 2 + 1, none⟩) (by show bb < _; omega)).trans (by have hq := hxb 1 (by omega); first | exact hq | simpa using hq)
      have HAA : Hid (Lay.At S wr (l[k]'(by omega)) cc) := Lay.same hata (Same.of_below hbel.out hS)
      have HBB : Hid (Lay.At S' wr (l[k]'(by omega)) dd) := Lay.same hatb (Same.of_below hbel.out hS')
      clear hata hatb
      have hSr : ∀ b, S b → b < wr.heap.size := fun b hb => Nat.lt_of_lt_of_le (hS b hb) hs
      have hSr' : ∀ b, S' b → b < wr.heap.size := fun b hb => Nat.lt_of_lt_of_le (hS' b hb) hs
      clear hxa hxb
      have qa0 := fun d os => cell_regrown a0 d os
      have qa1 := fun d os => cell_regrown a1 d os
      have qc0 := fun d os => cell_regrown c0 d os
      have qc1 := fun d os => cell_regrown c1 d os
      go_wp2
      refine wp_region_quiet_below (by kernel_rfl) (by kernel_rfl) ?_
      repeat (first | go_big_quiet_step (with_reducible exact eqRunSlotq S S' _ _ _ _ HAA.out HBB.out hSr hSr' _ _) | quiet_step (with_reducible exact eqRunSlotq S S' _ _ _ _ HAA.out HBB.out hSr hSr' _ _))
      refine wpQuiet_nil ?_
      intro _ hw'
      obtain ⟨⟨dq, osq⟩, hw''⟩ := hw'
      subst hw''
      go_wp2
      go_roundw
      case rel => exact ⟨k + 1, by omega, by go_num, hbel.out.trans ((below_regrown _ dq osq).mono hs)⟩
      case measure => simp [intOf]; omega
    · go_wp2
      go_ret
      exact ⟨rfl, hbel.out⟩
set_option maxRecDepth 100000 in
set_option maxHeartbeats 4000000 in
theorem eqRunBatch_any (S S' : Nat → Prop) (a : DRunBatch) (c c' : Nat → Value) (w : World) (h : Lay.At S w a c) (h' : Lay.At S' w a c') (hS : ∀ b, S b → b < w.heap.size) (hS' : ∀ b, S' b → b < w.heap.size) :
    Calls Tryz.prog 49 #[.agg #[c 0, c 1, c 2, c 3, c 4, c 5], .agg #[c' 0, c' 1, c' 2, c' 3, c' 4, c' 5]] w fun e w' => e = .returned (.bool true) ∧ Below w.heap.size w w' := by
  rw [at_DRunBatch] at h
  obtain ⟨⟨ep0, _⟩, Hp1, Hp2, ⟨ep3, _⟩, ⟨ep4, _, _⟩, ⟨ep5, _, _⟩⟩ := h
  obtain ⟨vp1, ep1⟩ : ∃ v, c 1 = v := ⟨_, rfl⟩
  rw [ep1] at Hp1
  obtain ⟨vp2, ep2⟩ : ∃ v, c 2 = v := ⟨_, rfl⟩
  rw [ep2] at Hp2
  rw [ep0, ep1, ep2, ep3, ep4, ep5]
  clear ep0 ep1 ep2 ep3 ep4 ep5
  rw [at_DRunBatch] at h'
  obtain ⟨⟨eq0, _⟩, Hq1, Hq2, ⟨eq3, _⟩, ⟨eq4, _, _⟩, ⟨eq5, _, _⟩⟩ := h'
  obtain ⟨vq1, eq1⟩ : ∃ v, c' 1 = v := ⟨_, rfl⟩
  rw [eq1] at Hq1
  obtain ⟨vq2, eq2⟩ : ∃ v, c' 2 = v := ⟨_, rfl⟩
  rw [eq2] at Hq2
  rw [eq0, eq1, eq2, eq3, eq4, eq5]
  clear eq0 eq1 eq2 eq3 eq4 eq5
  have k0 : Hid (Below w.heap.size w ((w.alloc (.cells #[.string a.1, vp1, vp2, .string a.2.2.2.1, .int .i64 a.2.2.2.2.1, .int .i64 a.2.2.2.2.2] 49)).alloc (.cells #[.string a.1, vq1, vq2, .string a.2.2.2.1, .int .i64 a.2.2.2.2.1, .int .i64 a.2.2.2.2.2] 49))) := ((Below.refl _ _).alloc (Nat.le_refl _) _).alloc (by simp) _
  go_enter Tryz.func49, Tryz.ntmps49
  go_wp2_with fail
  refine (eqRecPhaseS_any S S' _ vp1 vq1 _ (Hp1.same (Same.of_below k0.out hS)) (Hq1.same (Same.of_below k0.out hS')) (fun b hb => by have := hS b hb; simp; omega) (fun b hb => by have := hS' b hb; simp; omega)).mono ?_
  rintro e w1 ⟨rfl, hb1⟩
  have k1 : Hid (Below w.heap.size w w1) := k0.out.trans (hb1.mono (by simp; omega))
  have x1_2 : w1.cell? ⟨w.heap.size, 2, none⟩ = some (vp2) := (hb1.cell (p := ⟨w.heap.size, 2, none⟩) (by simp; omega)).trans (cell_past (cell_row (heap_alloc_new w (.cells #[.string a.1, vp1, vp2, .string a.2.2.2.1, .int .i64 a.2.2.2.2.1, .int .i64 a.2.2.2.2.2] 49)) 2 _ rfl).1 (by simp) _)
  have y1_2 : w1.cell? ⟨w.heap.size + 1, 2, none⟩ = some (vq2) := (hb1.cell (p := ⟨w.heap.size + 1, 2, none⟩) (by simp)).trans (by simp)
  have x1_3 : w1.cell? ⟨w.heap.size, 3, none⟩ = some (.string a.2.2.2.1) := (hb1.cell (p := ⟨w.heap.size, 3, none⟩) (by simp; omega)).trans (cell_past (cell_row (heap_alloc_new w (.cells #[.string a.1, vp1, vp2, .string a.2.2.2.1, .int .i64 a.2.2.2.2.1, .int .i64 a.2.2.2.2.2] 49)) 3 _ rfl).1 (by simp) _)
  have y1_3 : w1.cell? ⟨w.heap.size + 1, 3, none⟩ = some (.string a.2.2.2.1) := (hb1.cell (p := ⟨w.heap.size + 1, 3, none⟩) (by simp)).trans (by simp)
  have x1_4 : w1.cell? ⟨w.heap.size, 4, none⟩ = some (.int .i64 a.2.2.2.2.1) := (hb1.cell (p := ⟨w.heap.size, 4, none⟩) (by simp; omega)).trans (cell_past (cell_row (heap_alloc_new w (.cells #[.string a.1, vp1, vp2, .string a.2.2.2.1, .int .i64 a.2.2.2.2.1, .int .i64 a.2.2.2.2.2] 49)) 4 _ rfl).1 (by simp) _)
  have y1_4 : w1.cell? ⟨w.heap.size + 1, 4, none⟩ = some (.int .i64 a.2.2.2.2.1) := (hb1.cell (p := ⟨w.heap.size + 1, 4, none⟩) (by simp)).trans (by simp)
  have x1_5 : w1.cell? ⟨w.heap.size, 5, none⟩ = some (.int .i64 a.2.2.2.2.2) := (hb1.cell (p := ⟨w.heap.size, 5, none⟩) (by simp; omega)).trans (cell_past (cell_row (heap_alloc_new w (.cells #[.string a.1, vp1, vp2, .string a.2.2.2.1, .int .i64 a.2.2.2.2.1, .int .i64 a.2.2.2.2.2] 49)) 5 _ rfl).1 (by simp) _)
  have y1_5 : w1.cell? ⟨w.heap.size + 1, 5, none⟩ = some (.int .i64 a.2.2.2.2.2) := (hb1.cell (p := ⟨w.heap.size + 1, 5, none⟩) (by simp)).trans (by simp)
  have s1 : w.heap.size + 2 ≤ w1.heap.size := by have := hb1.size; simp at this; omega
  go_wp2_with fail
  refine (eqRunSlotS_any S S' _ vp2 vq2 _ (Hp2.same (Same.of_below k1.out hS)) (Hq2.same (Same.of_below k1.out hS')) (fun b hb => by have := hS b hb; omega) (fun b hb => by have := hS' b hb; omega)).mono ?_
  rintro e w2 ⟨rfl, hb2⟩
  have k2 : Hid (Below w.heap.size w w2) := k1.out.trans (hb2.mono (by omega))
  have x2_3 : w2.cell? ⟨w.heap.size, 3, none⟩ = some (.string a.2.2.2.1) := (hb2.cell (p := ⟨w.heap.size, 3, none⟩) (by show w.heap.size < _; omega)).trans x1_3
  have y2_3 : w2.cell? ⟨w.heap.size + 1, 3, none⟩ = some (.string a.2.2.2.1) := (hb2.cell (p := ⟨w.heap.size + 1, 3, none⟩) (by show w.heap.size + 1 < _; omega)).trans y1_3
  have x2_4 : w2.cell? ⟨w.heap.size, 4, none⟩ = some (.int .i64 a.2.2.2.2.1) := (hb2.cell (p := ⟨w.heap.size, 4, none⟩) (by show w.heap.size < _; omega)).trans x1_4
  have y2_4 : w2.cell? ⟨w.heap.size + 1, 4, none⟩ = some (.int .i64 a.2.2.2.2.1) := (hb2.cell (p := ⟨w.heap.size + 1, 4, none⟩) (by show w.heap.size + 1 < _; omega)).trans y1_4
  have x2_5 : w2.cell? ⟨w.heap.size, 5, none⟩ = some (.int .i64 a.2.2.2.2.2) := (hb2.cell (p := ⟨w.heap.size, 5, none⟩) (by show w.heap.size < _; omega)).trans x1_5
  have y2_5 : w2.cell? ⟨w.heap.size + 1, 5, none⟩ = some (.int .i64 a.2.2.2.2.2) := (hb2.cell (p := ⟨w.heap.size + 1, 5, none⟩) (by show w.heap.size + 1 < _; omega)).trans y1_5
  have s2 : w.heap.size + 2 ≤ w2.heap.size := by have := hb2.size; omega
  go_wp2_with fail
  go_ret
  exact ⟨rfl, k2.out⟩
open Go.Sort in
theorem eqRunBatchq (S S' : Nat → Prop) (a : DRunBatch) (c c' : Nat → Value) (wr : World) (h : Lay.At S wr a c) (h' : Lay.At S' wr a c') (hS : ∀ b, S b → b < wr.heap.size) (hS' : ∀ b, S' b → b < wr.heap.size) (d : Nat) (os : Array Obj) : Calls Tryz.prog 49 #[.agg #[c 0, c 1, c 2, c 3, c 4, c 5], .agg #[c' 0, c' 1, c' 2, c' 3, c' 4, c' 5]] (grow (redrawn wr d) os) fun e w'' => e = .returned (.bool true) ∧ ∃ p : Regrown, w'' = grow (redrawn wr p.d) p.os :=
  Calls.regrown_of (eqRunBatch_any S S' a c c' _ (Lay.same h (Same.of_below (below_regrown wr d os) hS)) (Lay.same h' (Same.of_below (below_regrown wr d os) hS')) (fun b hb => Nat.lt_of_lt_of_le (hS b hb) (below_regrown wr d os).size) (fun b hb => Nat.lt_of_lt_of_le (hS' b hb) (below_regrown wr d os).size))
end Go.Proofs.YtobchllaopdchacGreat

namespace Go.Proofs.YtobchllaopdchacGreat
open Go.RowKit
set_option maxRecDepth 100000 in
set_option maxHeartbeats 4000000 in
theorem eqStringS_any (S S' : Nat → Prop) (l : List ByteArray) (va vb : Value) (w : World) (ha : AtL S w l va) (hb : AtL S' w l vb) (hS : ∀ b, S b → b < w.heap.size) (hS' : ∀ b, S' b → b < w.heap.size) :
    Calls Tryz.prog 47 #[va, vb] w fun e w' => e = .returned (.bool true) ∧ Below w.heap.size w w' := by
  obtain ⟨oa, ca, rfl, hn, hca⟩ := ha
  obtain ⟨ob, cb, rfl, _, hcb⟩ := hb
  obtain ⟨n, en⟩ : ∃ n, l.length = n := ⟨_, rfl⟩
  rw [en] at hn
  rw [en]
  unfold maxLen at hn
  have HA : Hid _ := hca
  have HB : Hid _ := hcb
  clear hca hcb
  go_enter Tryz.func47, Tryz.ntmps47
  go_wp2
  go_loopw [5] (fun i wr => ∃ k : Nat, k ≤ n ∧ i = .int .i64 k ∧ Hid (Below w.heap.size w wr)) (fun i _ => n - (intOf i).toNat)
  case atStart => exact ⟨0, Nat.zero_le _, rfl, Below.refl _ _⟩
  case round =>
    obtain ⟨k, hk, rfl, hbel⟩ := hrel
    have hs := hbel.out.size
    by_cases hlt : k < n
    · obtain ⟨ba, fa, rfl, hba, cc, hxa, hata⟩ := HA.out k (by omega)
      obtain ⟨bb, fb, rfl, hbb, dd, hxb, hatb⟩ := HB.out k (by omega)
      have hba' := hS ba hba
      have hbb' := hS' bb hbb
      rw [width_str] at hxa hxb
      have a0 : wr.cell? ⟨ba, fa + k, none⟩ = some (cc 0) := (hbel.out.cell (p := ⟨ba, fa + k, none⟩) (by show ba < _; omega)).trans (by have hq := hxa 0 (by omega); first | exact hq | simpa using hq)
      have c0 : wr.cell? ⟨bb, fb + k, none⟩ = some (dd 0) := (hbel.out.cell (p := ⟨bb, fb + k, none⟩) (by show bb < _; omega)).trans (by have hq := hxb 0 (by omega); first | exact hq | simpa using hq)
      rw [at_str] at hata hatb
      rw [hata.1] at a0
      rw [hatb.1] at c0
      clear hata hatb
      clear hxa hxb
      have qa0 := fun d os => cell_regrown a0 d os
      have qc0 := fun d os => cell_regrown c0 d os
      go_wp2
      refine wp_region_quiet_below (by kernel_rfl) (by kernel_rfl) ?_
      repeat (first | go_big_quiet_step (fail) | quiet_step (fail))
      refine wpQuiet_nil ?_
      intro _ hw'
      obtain ⟨⟨dq, osq⟩, hw''⟩ := hw'
      subst hw''
      go_wp2
      go_roundw
      case rel => exact ⟨k + 1, by omega, by go_num, hbel.out.trans ((below_regrown _ dq osq).mono hs)⟩
      case measure => simp [intOf]; omega
    · go_wp2
      go_ret
      exact ⟨rfl, hbel.out⟩
set_option maxRecDepth 100000 in
set_option maxHeartbeats 4000000 in
theorem eqShareBatch_any (S S' : Nat → Prop) (a : DShareBatch) (c c' : Nat → Value) (w : World) (h : Lay.At S w a c) (h' : Lay.At S' w a c') (hS : ∀ b, S b → b < w.heap.size) (hS' : ∀ b, S' b → b < w.heap.size) :
    Calls Tryz.prog 90 #[.agg #[c 0, c 1, c 2], .agg #[c' 0, c' 1, c' 2]] w fun e w' => e = .returned (.bool true) ∧ Below w.heap.size w w' := by
  rw [at_DShareBatch] at h
  obtain ⟨⟨ep0, _⟩, Hp1, Hp2⟩ := h
  obtain ⟨vp1, ep1⟩ : ∃ v, c 1 = v := ⟨_, rfl⟩
  rw [ep1] at Hp1
  obtain ⟨vp2, ep2⟩ : ∃ v, c 2 = v := ⟨_, rfl⟩
  rw [ep2] at Hp2
  rw [ep0, ep1, ep2]
  clear ep0 ep1 ep2
  rw [at_DShareBatch] at h'
  obtain ⟨⟨eq0, _⟩, Hq1, Hq2⟩ := h'
  obtain ⟨vq1, eq1⟩ : ∃ v, c' 1 = v := ⟨_, rfl⟩
  rw [eq1] at Hq1
  obtain ⟨vq2, eq2⟩ : ∃ v, c' 2 = v := ⟨_, rfl⟩
  rw [eq2] at Hq2
  rw [eq0, eq1, eq2]
  clear eq0 eq1 eq2
  have k0 : Hid (Below w.heap.size w ((w.alloc (.cells #[.string a.1, vp1, vp2] 103)).alloc (.cells #[.string a.1, vq1, vq2] 103))) := ((Below.refl _ _).alloc (Nat.le_refl _) _).alloc (by simp) _
  go_enter Tryz.func90, Tryz.ntmps90
  go_wp2_with fail
  refine (eqStringS_any S S' _ vp1 vq1 _ (Hp1.same (Same.of_below k0.out hS)) (Hq1.same (Same.of_below k0.out hS')) (fun b hb => by have := hS b hb; simp; omega) (fun b hb => by have := hS' b hb; simp; omega)).mono ?_
  rintro e w1 ⟨rfl, hb1⟩
  have k1 : Hid (Below w.heap.size w w1) := k0.out.trans (hb1.mono (by simp; omega))
  have x1_2 : w1.cell? ⟨w.heap.size, 2, none⟩ = some (vp2) := (hb1.cell (p := ⟨w.heap.size, 2, none⟩) (by simp; omega)).trans (cell_past (cell_row (heap_alloc_new w (.cells #[.string a.1, vp1, vp2] 103)) 2 _ rfl).1 (by simp) _)
  have y1_2 : w1.cell? ⟨w.heap.size + 1, 2, none⟩ = some (vq2) := (hb1.cell (p := ⟨w.heap.size + 1, 2, none⟩) (by simp)).trans (by simp)
  have s1 : w.heap.size + 2 ≤ w1.heap.size := by have := hb1.size; simp at this; omega
  go_wp2_with fail
  refine (eqStringS_any S S' _ vp2 vq2 _ (Hp2.same (Same.of_below k1.out hS)) (Hq2.same (Same.of_below k1.out hS')) (fun b hb => by have := hS b hb; omega) (fun b hb => by have := hS' b hb; omega)).mono ?_
  rintro e w2 ⟨rfl, hb2⟩
  have k2 : Hid (Below w.heap.size w w2) := k1.out.trans (hb2.mono (by omega))
  have s2 : w.heap.size + 2 ≤ w2.heap.size := by have := hb2.size; omega
  go_wp2_with fail
  go_ret
  exact ⟨rfl, k2.out⟩
open Go.Sort in
theorem eqShareBatchq (S S' : Nat → Prop) (a : DShareBatch) (c c' : Nat → Value) (wr : World) (h : Lay.At S wr a c) (h' : Lay.At S' wr a c') (hS : ∀ b, S b → b < wr.heap.size) (hS' : ∀ b, S' b → b < wr.heap.size) (d : Nat) (os : Array Obj) : Calls Tryz.prog 90 #[.agg #[c 0, c 1, c 2], .agg #[c' 0, c' 1, c' 2]] (grow (redrawn wr d) os) fun e w'' => e = .returned (.bool true) ∧ ∃ p : Regrown, w'' = grow (redrawn wr p.d) p.os :=
  Calls.regrown_of (eqShareBatch_any S S' a c c' _ (Lay.same h (Same.of_below (below_regrown wr d os) hS)) (Lay.same h' (Same.of_below (below_regrown wr d os) hS')) (fun b hb => Nat.lt_of_lt_of_le (hS b hb) (below_regrown wr d os).size) (fun b hb => Nat.lt_of_lt_of_le (hS' b hb) (below_regrown wr d os).size))
set_option maxRecDepth 100000 in
set_option maxHeartbeats 4000000 in
theorem eqShareBatchS_any (S S' : Nat → Prop) (l : List DShareBatch) (va vb : Value) (w : World) (ha : AtL S w l va) (hb : AtL S' w l vb) (hS : ∀ b, S b → b < w.heap.size) (hS' : ∀ b, S' b → b < w.heap.size) :
    Calls Tryz.prog 48 #[va, vb] w fun e w' => e = .returned (.bool true) ∧ Below w.heap.size w w' := by
  obtain ⟨oa, ca, rfl, hn, hca⟩ := ha
  obtain ⟨ob, cb, rfl, _, hcb⟩ := hb
  obtain ⟨n, en⟩ : ∃ n, l.length = n := ⟨_, rfl⟩
  rw [en] at hn
  rw [en]
  unfold maxLen at hn
  have HA : Hid _ := hca
  have HB : Hid _ := hcb
  clear hca hcb
  go_enter Tryz.func48, Tryz.ntmps48
  go_wp2
  go_loopw [5] (fun i wr => ∃ k : Nat, k ≤ n ∧ i = .int .i64 k ∧ Hid (Below w.heap.size w wr)) (fun i _ => n - (intOf i).toNat)
  case atStart => exact ⟨0, Nat.zero_le _, rfl, Below.refl _ _⟩
  case round =>
    obtain ⟨k, hk, rfl, hbel⟩ := hrel
    have hs := hbel.out.size
    by_cases hlt : k < n
    · obtain ⟨ba, fa, rfl, hba, cc, hxa, hata⟩ := HA.out k (by omega)
      obtain ⟨bb, fb, rfl, hbb, dd, hxb, hatb⟩ := HB.out k (by omega)
      have hba' := hS ba hba
      have hbb' := hS' bb hbb
      rw [width_DShareBatch] at hxa hxb
      have a0 : wr.cell? ⟨ba, fa + k * 3, none⟩ = some (cc 0) := (hbel.out.cell (p := ⟨ba, fa + k * 3, none⟩) (by show ba < _; omega)).trans (by have hq := hxa 0 (by omega); first | exact hq | simpa using hq)
      have a1 : wr.cell? ⟨ba, fa + k * 3 + 1, none⟩ = some (cc 1) := (hbel.out.cell (p := ⟨ba, fa + k * 3 + 1, none⟩) (by show ba < _; omega)).trans (by have hq := hxa 1 (by omega); first | exact hq | simpa using hq)
      have a2 : wr.cell? ⟨ba, fa + k * 3 + 2, none⟩ = some (cc 2) := (hbel.out.cell (p := ⟨ba, fa + k * 3 + 2, none⟩) (by show ba < _; omega)).trans (by have hq := hxa 2 (by omega); first | exact hq | simpa using hq)
      have c0 : wr.cell? ⟨bb, fb + k * 3, none⟩ = some (dd 0) := (hbel.out.cell (p := ⟨bb, fb + k * 3, none⟩) (by show bb < _; omega)).trans (by have hq := hxb 0 (by omega); first | exact hq | simpa using hq)
      have c1 : wr.cell? ⟨bb, fb + k * 3 + 1, none⟩ = some (dd 1) := (hbel.out.cell (p := ⟨bb, fb + k * 3 + 1, none⟩) (by show bb < _; omega)).trans (by have hq := hxb 1 (by omega); first | exact hq | simpa using hq)
      have c2 : wr.cell? ⟨bb, fb + k * 3 + 2, none⟩ = some (dd 2) := (hbel.out.cell (p := ⟨bb, fb + k * 3 + 2, none⟩) (by show bb < _; omega)).trans (by have hq := hxb 2 (by omega); first | exact hq | simpa using hq)
      have HAA : Hid (Lay.At S wr (l[k]'(by omega)) cc) := Lay.same hata (Same.of_below hbel.out hS)
      have HBB : Hid (Lay.At S' wr (l[k]'(by omega)) dd) := Lay.same hatb (Same.of_below hbel.out hS')
      clear hata hatb
      have hSr : ∀ b, S b → b < wr.heap.size := fun b hb => Nat.lt_of_lt_of_le (hS b hb) hs
      have hSr' : ∀ b, S' b → b < wr.heap.size := fun b hb => Nat.lt_of_lt_of_le (hS' b hb) hs
      clear hxa hxb
      have qa0 := fun d os => cell_regrown a0 d os
      have qa1 := fun d os => cell_regrown a1 d os
      have qa2 := fun d os => cell_regrown a2 d os
      have qc0 := fun d os => cell_regrown c0 d os
      have qc1 := fun d os => cell_regrown c1 d os
      have qc2 := fun d os => cell_regrown c2 d os
      go_wp2
      refine wp_region_quiet_below (by kernel_rfl) (by kernel_rfl) ?_
      repeat (first | go_big_quiet_step (with_reducible exact eqShareBatchq S S' _ _ _ _ HAA.out HBB.out hSr hSr' _ _) | quiet_step (with_reducible exact eqShareBatchq S S' _ _ _ _ HAA.out HBB.out hSr hSr' _ _))
      refine wpQuiet_nil ?_
      intro _ hw'
      obtain ⟨⟨dq, osq⟩, hw''⟩ := hw'
      subst hw''
      go_wp2
      go_roundw
      case rel => exact ⟨k + 1, by omega, by go_num, hbel.out.trans ((below_regrown _ dq osq).mono hs)⟩
      case measure => simp [intOf]; omega
    · go_wp2
      go_ret
      exact ⟨rfl, hbel.out⟩
set_option maxRecDepth 100000 in
set_option maxHeartbeats 4000000 in
theorem eqShareBook_any (S S' : Nat → Prop) (a : DShareBook) (c c' : Nat → Value) (w : World) (h : Lay.At S w a c) (h' : Lay.At S' w a c') (hS : ∀ b, S b → b < w.heap.size) (hS' : ∀ b, S' b → b < w.heap.size) :
    Calls Tryz.prog 21 #[.agg #[c 0, c 1], .agg #[c' 0, c' 1]] w fun e w' => e = .returned (.bool true) ∧ Below w.heap.size w w' := by
  rw [at_DShareBook] at h
  obtain ⟨Hp0, Hp1⟩ := h
  obtain ⟨vp0, ep0⟩ : ∃ v, c 0 = v := ⟨_, rfl⟩
  rw [ep0] at Hp0
  obtain ⟨vp1, ep1⟩ : ∃ v, c 1 = v := ⟨_, rfl⟩
  rw [ep1] at Hp1
  rw [ep0, ep1]
  clear ep0 ep1
  rw [at_DShareBook] at h'
  obtain ⟨Hq0, Hq1⟩ := h'
  obtain ⟨vq0, eq0⟩ : ∃ v, c' 0 = v := ⟨_, rfl⟩
  rw [eq0] at Hq0
  obtain ⟨vq1, eq1⟩ : ∃ v, c' 1 = v := ⟨_, rfl⟩
  rw [eq1] at Hq1
  rw [eq0, eq1]
  clear eq0 eq1
  have k0 : Hid (Below w.heap.size w ((w.alloc (.cells #[vp0, vp1] 34)).alloc (.cells #[vq0, vq1] 34))) := ((Below.refl _ _).alloc (Nat.le_refl _) _).alloc (by simp) _
  go_enter Tryz.func21, Tryz.ntmps21
  go_wp2_with fail
  refine (eqStringS_any S S' _ vp0 vq0 _ (Hp0.same (Same.of_below k0.out hS)) (Hq0.same (Same.of_below k0.out hS')) (fun b hb => by have := hS b hb; simp; omega) (fun b hb => by have := hS' b hb; simp; omega)).mono ?_
  rintro e w1 ⟨rfl, hb1⟩
  have k1 : Hid (Below w.heap.size w w1) := k0.out.trans (hb1.mono (by simp; omega))
  have x1_1 : w1.cell? ⟨w.heap.size, 1, none⟩ = some (vp1) := (hb1.cell (p := ⟨w.heap.size, 1, none⟩) (by simp; omega)).trans (cell_past (cell_row (heap_alloc_new w (.cells #[vp0, vp1] 34)) 1 _ rfl).1 (by simp) _)
  have y1_1 : w1.cell? ⟨w.heap.size + 1, 1, none⟩ = some (vq1) := (hb1.cell (p := ⟨w.heap.size + 1, 1, none⟩) (by simp)).trans (by simp)
  have s1 : w.heap.size + 2 ≤ w1.heap.size := by have := hb1.size; simp at this; omega
  go_wp2_with fail
  refine (eqShareBatchS_any S S' _ vp1 vq1 _ (Hp1.same (Same.of_below k1.out hS)) (Hq1.same (Same.of_below k1.out hS')) (fun b hb => by have := hS b hb; omega) (fun b hb => by have := hS' b hb; omega)).mono ?_
  rintro e w2 ⟨rfl, hb2⟩
  have k2 : Hid (Below w.heap.size w w2) := k1.out.trans (hb2.mono (by omega))
  have s2 : w.heap.size + 2 ≤ w2.heap.size := by have := hb2.size; omega
  go_wp2_with fail
  go_ret
  exact ⟨rfl, k2.out⟩
end Go.Proofs.YtobchllaopdchacGreat
