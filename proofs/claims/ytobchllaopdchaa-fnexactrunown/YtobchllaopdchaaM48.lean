/-
  Several texts in one.
-/
import Derived.Test.YtobchllaopdchaaVrk
import Derived.Test.YtobchllaopdchaaXrm
import Derived.Test.YtobchllaopdchaaVma
import Derived.Deep.Cut
import Derived.Test.YtobchllaopdchaaXrt
import Derived.Test.YtobchllaopdchaaXwt
namespace Go.Proofs.Ytobchllaopdchaa
open Go.RowKit
set_option maxRecDepth 100000 in
set_option maxHeartbeats 4000000 in
theorem markRunBatch_any (S : Nat → Prop) (a : DRunBatch) (c : Nat → Value) (k : Int) (w : World) (h : Own.On S w a c) (hS : ∀ b, S b → b < w.heap.size) (h1 : 1 ≤ k) (h2 : k + cntL a.2.1 + cntL a.2.2.1 ≤ 20000000) :
    Calls Try.prog 10 #[.agg #[c 0, c 1, c 2, c 3, c 4, c 5], .int .i64 k] w fun e w' => e = .returned (.int .i64 (k + cntL a.2.1 + cntL a.2.2.1)) ∧ But S w w' := by
  obtain ⟨A0, B0, p0, q0, ⟨e0, z0⟩, A1, B1, p1, q1, H1, A2, B2, p2, q2, H2, A3, B3, p3, q3, ⟨e3, z3⟩, A4, B4, p4, q4, ⟨e4, _, _⟩, ⟨e5, _, _⟩⟩ := on_DRunBatch.1 h
  clear h p3 q3 p4 q4
  obtain ⟨so1, sc1, e1, _⟩ := id H1
  obtain ⟨so2, sc2, e2, _⟩ := id H2
  rw [e1] at H1
  rw [e2] at H2
  rw [e0, e1, e2, e3, e4, e5]
  clear e0 e1 e2 e3 e4 e5
  obtain ⟨n1, en1⟩ : ∃ n, a.2.1.length = n := ⟨_, rfl⟩
  obtain ⟨n2, en2⟩ : ∃ n, a.2.2.1.length = n := ⟨_, rfl⟩
  rw [en1] at H1 ⊢
  rw [en2] at H2 ⊢
  clear en1 en2
  have T1 : Hid (∀ b, A1 b → S b) := fun b hb => q0 b (p1 b hb).1
  have T2 : Hid (∀ b, A2 b → S b) := fun b hb => q0 b (q1 b (p2 b hb).1)
  have X12 : Hid (∀ b, A2 b → ¬ A1 b) := fun b hb ha => (p1 b ha).2 (p2 b hb).1
  obtain ⟨W, hW⟩ : ∃ W, W = w.alloc (.cells #[.string a.1, .slice so1 n1 sc1, .slice so2 n2 sc2, .string a.2.2.2.1, .int .i64 a.2.2.2.2.1, .int .i64 a.2.2.2.2.2] 32) := ⟨_, rfl⟩
  have EW : Hid (W = w.alloc (.cells #[.string a.1, .slice so1 n1 sc1, .slice so2 n2 sc2, .string a.2.2.2.1, .int .i64 a.2.2.2.2.1, .int .i64 a.2.2.2.2.2] 32)) := hW
  have BW : Hid (Below w.heap.size w W) := by rw [hW]; exact (Below.refl _ _).alloc (Nat.le_refl _) _
  have y1 : W.cell? ⟨w.heap.size, 1, none⟩ = some (.slice so1 n1 sc1) := by rw [hW]; exact box_at _ _ (Below.refl _ _) 1 _ rfl
  have Y2 : Hid (W.cell? ⟨w.heap.size, 2, none⟩ = some (.slice so2 n2 sc2)) := by rw [hW]; exact box_at _ _ (Below.refl _ _) 2 _ rfl
  have L1 : Hid (OnL A1 W a.2.1 (.slice so1 n1 sc1)) := H1.same (fun b hb => BW.out.block b (hS b (T1.out b hb)))
  have L2 : Hid (OnL A2 W a.2.2.1 (.slice so2 n2 sc2)) := H2.same (fun b hb => BW.out.block b (hS b (T2.out b hb)))
  have HS : Hid (∀ b, S b → b < w.heap.size) := hS
  have sW : w.heap.size + 1 ≤ W.heap.size := by rw [hW]; simp
  clear hW H1 H2 hS p0 q0 p1 q1 p2 q2
  obtain ⟨m1, em1⟩ : ∃ m : Nat, cntL a.2.1 = m := ⟨_, rfl⟩
  obtain ⟨m2, em2⟩ : ∃ m : Nat, cntL a.2.2.1 = m := ⟨_, rfl⟩
  have M1 := @markRecPhaseS_any A1 a.2.1 (.slice so1 n1 sc1) k W L1.out (fun b hb => by have := HS.out b (T1.out b hb); omega) h1 (by omega)
  have M2 : Hid (∀ u, OnL A2 u a.2.2.1 (.slice so2 n2 sc2) → W.heap.size ≤ u.heap.size → Calls Try.prog 29 #[.slice so2 n2 sc2, .int .i64 (k + m1)] u fun e w' => e = .returned (.int .i64 (k + m1 + m2)) ∧ OnL A2 w' (mkL (k + m1) a.2.2.1) (.slice so2 n2 sc2) ∧ But A2 u w') := fun u hu hsz => by
    have := markRunSlotS_any A2 a.2.2.1 (.slice so2 n2 sc2) (k + m1) u hu (fun b hb => by have := HS.out b (T2.out b hb); omega) (by omega) (by omega)
    rw [em2] at this
    exact this
  rw [em1] at M1 h2
  rw [em2] at h2
  rw [em1, em2]
  clear em1 em2
  have MM1 : Hid _ := M1
  clear M1
  go_enter Try.func10, Try.ntmps10
  go_upto_region 1 with fail
  rw [← EW.out]
  go_wp2_with fail
  refine Calls.mono MM1.out ?_
  rintro e w1 ⟨rfl, _, u1⟩
  have U1 : Hid (But A1 W w1) := u1
  have s1 := u1.size
  have y2 : w1.cell? ⟨w.heap.size, 2, none⟩ = some (.slice so2 n2 sc2) := (World.cell?_of_block (a := ⟨w.heap.size, 2, none⟩) (u1.block w.heap.size (by omega) (fun h => by have := HS.out _ (T1.out _ h); omega))).trans Y2.out
  have L2b : Hid (OnL A2 w1 a.2.2.1 (.slice so2 n2 sc2)) := L2.out.same (fun b hb => u1.block b (by have := HS.out b (T2.out b hb); omega) (X12.out b hb))
  clear u1 y1
  go_wp2_with fail
  refine Calls.mono (M2.out w1 L2b.out s1) ?_
  rintro e w2 ⟨rfl, _, u2⟩
  have F : Hid (But S w w2) := (But.of_below BW.out).trans ((U1.out.up T1.out).trans (u2.up T2.out))
  clear u2 y2
  go_wp2_with fail
  go_ret
  exact ⟨rfl, F.out⟩
end Go.Proofs.Ytobchllaopdchaa

namespace Go.Proofs.Ytobchllaopdchaa
open Go.RowKit
set_option maxRecDepth 100000 in
set_option maxHeartbeats 4000000 in
theorem eqRecPhase_any (S S' : Nat → Prop) (a : DRecPhase) (c c' : Nat → Value) (w : World) (h : Lay.At S w a c) (h' : Lay.At S' w a c') (_hS : ∀ b, S b → b < w.heap.size) (_hS' : ∀ b, S' b → b < w.heap.size) :
    Calls Try.prog 47 #[.agg #[c 0, c 1, c 2, c 3, c 4, c 5, c 6, c 7], .agg #[c' 0, c' 1, c' 2, c' 3, c' 4, c' 5, c' 6, c' 7]] w fun e w' => e = .returned (.bool true) ∧ Below w.heap.size w w' := by
  rw [at_DRecPhase] at h
  obtain ⟨⟨ep0, _⟩, ⟨ep1, _, _⟩, ⟨ep2, _⟩, ⟨ep3, _⟩, ⟨ep4, _, _⟩, ⟨ep5, _, _⟩, ⟨ep6, _⟩, ⟨ep7, _⟩⟩ := h
  rw [ep0, ep1, ep2, ep3, ep4, ep5, ep6, ep7]
  clear ep0 ep1 ep2 ep3 ep4 ep5 ep6 ep7
  rw [at_DRecPhase] at h'
  obtain ⟨⟨eq0, _⟩, ⟨eq1, _, _⟩, ⟨eq2, _⟩, ⟨eq3, _⟩, ⟨eq4, _, _⟩, ⟨eq5, _, _⟩, ⟨eq6, _⟩, ⟨eq7, _⟩⟩ := h'
  rw [eq0, eq1, eq2, eq3, eq4, eq5, eq6, eq7]
  clear eq0 eq1 eq2 eq3 eq4 eq5 eq6 eq7
  have k0 : Hid (Below w.heap.size w ((w.alloc (.cells #[.string a.1, .int .i64 a.2.1, .string a.2.2.1, .string a.2.2.2.1, .int .i64 a.2.2.2.2.1, .int .i64 a.2.2.2.2.2.1, .string a.2.2.2.2.2.2.1, .string a.2.2.2.2.2.2.2] 45)).alloc (.cells #[.string a.1, .int .i64 a.2.1, .string a.2.2.1, .string a.2.2.2.1, .int .i64 a.2.2.2.2.1, .int .i64 a.2.2.2.2.2.1, .string a.2.2.2.2.2.2.1, .string a.2.2.2.2.2.2.2] 45))) := ((Below.refl _ _).alloc (Nat.le_refl _) _).alloc (by simp) _
  go_enter Try.func47, Try.ntmps47
  go_wp2
  go_ret
  exact ⟨rfl, k0.out⟩
open Go.Sort in
theorem eqRecPhaseq (S S' : Nat → Prop) (a : DRecPhase) (c c' : Nat → Value) (wr : World) (h : Lay.At S wr a c) (h' : Lay.At S' wr a c') (hS : ∀ b, S b → b < wr.heap.size) (hS' : ∀ b, S' b → b < wr.heap.size) (d : Nat) (os : Array Obj) : Calls Try.prog 47 #[.agg #[c 0, c 1, c 2, c 3, c 4, c 5, c 6, c 7], .agg #[c' 0, c' 1, c' 2, c' 3, c' 4, c' 5, c' 6, c' 7]] (grow (redrawn wr d) os) fun e w'' => e = .returned (.bool true) ∧ ∃ p : Regrown, w'' = grow (redrawn wr p.d) p.os :=
  Calls.regrown_of (eqRecPhase_any S S' a c c' _ (Lay.same h (Same.of_below (below_regrown wr d os) hS)) (Lay.same h' (Same.of_below (below_regrown wr d os) hS')) (fun b hb => Nat.lt_of_lt_of_le (hS b hb) (below_regrown wr d os).size) (fun b hb => Nat.lt_of_lt_of_le (hS' b hb) (below_regrown wr d os).size))
end Go.Proofs.Ytobchllaopdchaa

namespace Go.Proofs.Ytobchllaopdchaa
open Go.RowKit
set_option maxRecDepth 100000 in
set_option maxHeartbeats 4000000 in
theorem eqRecPhaseS_any (S S' : Nat → Prop) (l : List DRecPhase) (va vb : Value) (w : World) (ha : AtL S w l va) (hb : AtL S' w l vb) (hS : ∀ b, S b → b < w.heap.size) (hS' : ∀ b, S' b → b < w.heap.size) :
    Calls Try.prog 26 #[va, vb] w fun e w' => e = .returned (.bool true) ∧ Below w.heap.size w w' := by
  obtain ⟨oa, ca, rfl, hn, hca⟩ := ha
  obtain ⟨ob, cb, rfl, _, hcb⟩ := hb
  obtain ⟨n, en⟩ : ∃ n, l.length = n := ⟨_, rfl⟩
  rw [en] at hn
  rw [en]
  unfold maxLen at hn
  have HA : Hid _ := hca
  have HB : Hid _ := hcb
  clear hca hcb
  go_enter Try.func26, Try.ntmps26
  go_wp2
  go_loopw [5] (fun i wr => ∃ k : Nat, k ≤ n ∧ i = .int .i64 k ∧ Hid (Below w.heap.size w wr)) (fun i _ => n - (intOf i).toNat)
  case atStart => exact ⟨0, Nat.zero_le _, rfl, Below.refl _ _⟩
  case round =>
    obtain ⟨k, hk, rfl, hbel⟩ := hrel
    have hs := hbel.out.size
    by_cases hlt : k < n
    · obtain ⟨ba, fa, rfl, hba, cc, hxa, hata⟩ := HA.out k (by omega)
      obtain ⟨bb, fb, rfl, hbb, dd, hxb, hatb⟩ := HB.out k (by omega)
      have hba' := hS ba hba
      have hbb' := hS' bb hbb
      rw [width_DRecPhase] at hxa hxb
      have a0 : wr.cell? ⟨ba, fa + k * 8, none⟩ = some (cc 0) := (hbel.out.cell (p := ⟨ba, fa + k * 8, none⟩) (by show ba < _; omega)).trans (by have hq := hxa 0 (by omega); first | exact hq | simpa using hq)
      have a1 : wr.cell? ⟨ba, fa + k * 8 + 1, none⟩ = some (cc 1) := (hbel.out.cell (p := ⟨ba, fa + k * 8 + 1, none⟩) (by show ba < _; omega)).trans (by have hq := hxa 1 (by omega); first | exact hq | simpa using hq)
      have a2 : wr.cell? ⟨ba, fa + k * 8 + 2, none⟩ = some (cc 2) := (hbel.out.cell (p := ⟨ba, fa + k * 8 + 2, none⟩) (by show ba < _; omega)).trans (by have hq := hxa 2 (by omega); first | exact hq | simpa using hq)
      have a3 : wr.cell? ⟨ba, fa + k * 8 + 3, none⟩ = some (cc 3) := (hbel.out.cell (p := ⟨ba, fa + k * 8 + 3, none⟩) (by show ba < _; omega)).trans (by have hq := hxa 3 (by omega); first | exact hq | simpa using hq)
      have a4 : wr.cell? ⟨ba, fa + k * 8 + 4, none⟩ = some (cc 4) := (hbel.out.cell (p := ⟨ba, fa + k * 8 + 4, none⟩) (by show ba < _; omega)).trans (by have hq := hxa 4 (by omega); first | exact hq | simpa using hq)
      have a5 : wr.cell? ⟨ba, fa + k * 8 + 5, none⟩ = some (cc 5) := (hbel.out.cell (p := ⟨ba, fa + k * 8 + 5, none⟩) (by show ba < _; omega)).trans (by have hq := hxa 5 (by omega); first | exact hq | simpa using hq)
      have a6 : wr.cell? ⟨ba, fa + k * 8 + 6, none⟩ = some (cc 6) := (hbel.out.cell (p := ⟨ba, fa + k * 8 + 6, none⟩) (by show ba < _; omega)).trans (by have hq := hxa 6 (by omega); first | exact hq | simpa using hq)
      have a7 : wr.cell? ⟨ba, fa + k * 8 + 7, none⟩ = some (cc 7) := (hbel.out.cell (p := ⟨ba, fa + k * 8 + 7, none⟩) (by show ba < _; omega)).trans (by have hq := hxa 7 (by omega); first | exact hq | simpa using hq)
      have c0 : wr.cell? ⟨bb, fb + k * 8, none⟩ = some (dd 0) := (hbel.out.cell (p := ⟨bb, fb + k * 8, none⟩) (by show bb < _; omega)).trans (by have hq := hxb 0 (by omega); first | exact hq | simpa using hq)
      have c1 : wr.cell? ⟨bb, fb + k * 8 + 1, none⟩ = some (dd 1) := (hbel.out.cell (p := ⟨bb, fb + k * 8 + 1, none⟩) (by show bb < _; omega)).trans (by have hq := hxb 1 (by omega); first | exact hq | simpa using hq)
      have c2 : wr.cell? ⟨bb, fb + k * 8 + 2, none⟩ = some (dd 2) := (hbel.out.cell (p := ⟨bb, fb + k * 8 + 2, none⟩) (by show bb < _; omega)).trans (by have hq := hxb 2 (by omega); first | exact hq | simpa using hq)
      have c3 : wr.cell? ⟨bb, fb + k * 8 + 3, none⟩ = some (dd 3) := (hbel.out.cell (p := ⟨bb, fb + k * 8 + 3, none⟩) (by show bb < _; omega)).trans (by have hq := hxb 3 (by omega); first | exact hq | simpa using hq)
      have c4 : wr.cell? ⟨bb, fb + k * 8 + 4, none⟩ = some (dd 4) := (hbel.out.cell (p := ⟨bb, fb + k * 8 + 4, none⟩) (by show bb < _; omega)).trans (by have hq := hxb 4 (by omega); first | exact hq | simpa using hq)
      have c5 : wr.cell? ⟨bb, fb + k * 8 + 5, none⟩ = some (dd 5) := (hbel.out.cell (p := ⟨bb, fb + k * 8 + 5, none⟩) (by show bb < _; omega)).trans (by have hq := hxb 5 (by omega); first | exact hq | simpa using hq)
      have c6 : wr.cell? ⟨bb, fb + k * 8 + 6, none⟩ = some (dd 6) := (hbel.out.cell (p := ⟨bb, fb + k * 8 + 6, none⟩) (by show bb < _; omega)).trans (by have hq := hxb 6 (by omega); first | exact hq | simpa using hq)
      have c7 : wr.cell? ⟨bb, fb + k * 8 + 7, none⟩ = some (dd 7) := (hbel.out.cell (p := ⟨bb, fb + k * 8 + 7, none⟩) (by show bb < _; omega)).trans (by have hq := hxb 7 (by omega); first | exact hq | simpa using hq)
      have HAA : Hid (Lay.At S wr (l[k]'(by omega)) cc) := Lay.same hata (Same.of_below hbel.out hS)
      have HBB : Hid (Lay.At S' wr (l[k]'(by omega)) dd) := Lay.same hatb (Same.of_below hbel.out hS')
      clear hata hatb
      have hSr : ∀ b, S b → b < wr.heap.size := fun b hb => Nat.lt_of_lt_of_le (hS b hb) hs
      have hSr' : ∀ b, S' b → b < wr.heap.size := fun b hb => Nat.lt_of_lt_of_le (hS' b hb) hs
      clear hxa hxb
      have qa0 := fun d os => cell_regrown a0 d os
      have qa1 := fun d os => cell_regrown a1 d os
      have qa2 := fun d os => cell_regrown a2 d os
      have qa3 := fun d os => cell_regrown a3 d os
      have qa4 := fun d os => cell_regrown a4 d os
      have qa5 := fun d os => cell_regrown a5 d os
      have qa6 := fun d os => cell_regrown a6 d os
      have qa7 := fun d os => cell_regrown a7 d os
      have qc0 := fun d os => cell_regrown c0 d os
      have qc1 := fun d os => cell_regrown c1 d os
      have qc2 := fun d os => cell_regrown c2 d os
      have qc3 := fun d os => cell_regrown c3 d os
      have qc4 := fun d os => cell_regrown c4 d os
      have qc5 := fun d os => cell_regrown c5 d os
      have qc6 := fun d os => cell_regrown c6 d os
      have qc7 := fun d os => cell_regrown c7 d os
      go_wp2
      refine wp_region_quiet_below (by kernel_rfl) (by kernel_rfl) ?_
      repeat (first | go_big_quiet_step (with_reducible exact eqRecPhaseq S S' _ _ _ _ HAA.out HBB.out hSr hSr' _ _) | quiet_step (with_reducible exact eqRecPhaseq S S' _ _ _ _ HAA.out HBB.out hSr hSr' _ _))
      refine wpQuiet_nil ?_
      intro _ hw'
      obtain ⟨⟨dq, osq⟩, hw''⟩ := hw'
      subst hw''
      go_wp2
      go_roundw
      case rel => exact ⟨k + 1, by omega, by go_num, hbel.out.trans ((below_regrown _ dq osq).mono hs)⟩
      case measure => simp [intOf]; omega
    · go_wp2
      go_ret
      exact ⟨rfl, hbel.out⟩
end Go.Proofs.Ytobchllaopdchaa
