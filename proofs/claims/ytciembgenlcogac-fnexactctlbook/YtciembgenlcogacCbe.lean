/-
  Contracts of the laws' own comparing of data that hold the same.
-/
import Derived.Test.YtciembgenlcogacCbo
import Derived.Test.YtciembgenlcogacCwe
namespace Go.Proofs.Ytciembgenlcogac
open Go.RowKit

set_option maxRecDepth 100000 in
set_option maxHeartbeats 4000000 in
theorem eqClaimFoe_any (S S' : Nat → Prop) (a : DClaimFoe) (c c' : Nat → Value) (w : World) (h : Lay.At S w a c) (h' : Lay.At S' w a c') (_hS : ∀ b, S b → b < w.heap.size) (_hS' : ∀ b, S' b → b < w.heap.size) :
    Calls Try.prog 60 #[.agg #[c 0, c 1], .agg #[c' 0, c' 1]] w fun e w' => e = .returned (.bool true) ∧ Below w.heap.size w w' := by
  rw [at_DClaimFoe] at h
  obtain ⟨⟨ep0, _⟩, ⟨ep1, _⟩⟩ := h
  rw [ep0, ep1]
  clear ep0 ep1
  rw [at_DClaimFoe] at h'
  obtain ⟨⟨eq0, _⟩, ⟨eq1, _⟩⟩ := h'
  rw [eq0, eq1]
  clear eq0 eq1
  have k0 : Hid (Below w.heap.size w ((w.alloc (.cells #[.string a.1, .string a.2] 53)).alloc (.cells #[.string a.1, .string a.2] 53))) := ((Below.refl _ _).alloc (Nat.le_refl _) _).alloc (by simp) _
  go_enter Try.func60, Try.ntmps60
  go_wp2
  go_ret
  exact ⟨rfl, k0.out⟩
open Go.Sort in
theorem eqClaimFoeq (S S' : Nat → Prop) (a : DClaimFoe) (c c' : Nat → Value) (wr : World) (h : Lay.At S wr a c) (h' : Lay.At S' wr a c') (hS : ∀ b, S b → b < wr.heap.size) (hS' : ∀ b, S' b → b < wr.heap.size) (d : Nat) (os : Array Obj) : Calls Try.prog 60 #[.agg #[c 0, c 1], .agg #[c' 0, c' 1]] (grow (redrawn wr d) os) fun e w'' => e = .returned (.bool true) ∧ ∃ p : Regrown, w'' = grow (redrawn wr p.d) p.os :=
  Calls.regrown_of (eqClaimFoe_any S S' a c c' _ (Lay.same h (Same.of_below (below_regrown wr d os) hS)) (Lay.same h' (Same.of_below (below_regrown wr d os) hS')) (fun b hb => Nat.lt_of_lt_of_le (hS b hb) (below_regrown wr d os).size) (fun b hb => Nat.lt_of_lt_of_le (hS' b hb) (below_regrown wr d os).size))

set_option maxRecDepth 100000 in
set_option maxHeartbeats 4000000 in
theorem eqClaimSpot_any (S S' : Nat → Prop) (a : DClaimSpot) (c c' : Nat → Value) (w : World) (h : Lay.At S w a c) (h' : Lay.At S' w a c') (hS : ∀ b, S b → b < w.heap.size) (hS' : ∀ b, S' b → b < w.heap.size) :
    Calls Try.prog 61 #[.agg #[c 0, c 1, c 2, c 3, c 4], .agg #[c' 0, c' 1, c' 2, c' 3, c' 4]] w fun e w' => e = .returned (.bool true) ∧ Below w.heap.size w w' := by
  rw [at_DClaimSpot] at h
  obtain ⟨⟨ep0, _⟩, ⟨ep1, _, _⟩, ⟨ep2, _, _⟩, ⟨ep3, _, _⟩, Hp4⟩ := h
  obtain ⟨vp4, ep4⟩ : ∃ v, c 4 = v := ⟨_, rfl⟩
  rw [ep4] at Hp4
  rw [ep0, ep1, ep2, ep3, ep4]
  clear ep0 ep1 ep2 ep3 ep4
  rw [at_DClaimSpot] at h'
  obtain ⟨⟨eq0, _⟩, ⟨eq1, _, _⟩, ⟨eq2, _, _⟩, ⟨eq3, _, _⟩, Hq4⟩ := h'
  obtain ⟨vq4, eq4⟩ : ∃ v, c' 4 = v := ⟨_, rfl⟩
  rw [eq4] at Hq4
  rw [eq0, eq1, eq2, eq3, eq4]
  clear eq0 eq1 eq2 eq3 eq4
  have k0 : Hid (Below w.heap.size w ((w.alloc (.cells #[.string a.1, .int .i64 a.2.1, .int .i64 a.2.2.1, .int .i64 a.2.2.2.1, vp4] 57)).alloc (.cells #[.string a.1, .int .i64 a.2.1, .int .i64 a.2.2.1, .int .i64 a.2.2.2.1, vq4] 57))) := ((Below.refl _ _).alloc (Nat.le_refl _) _).alloc (by simp) _
  go_enter Try.func61, Try.ntmps61
  go_wp2_with fail
  refine (eqStringS_any S S' _ vp4 vq4 _ (Hp4.same (Same.of_below k0.out hS)) (Hq4.same (Same.of_below k0.out hS')) (fun b hb => by have := hS b hb; simp; omega) (fun b hb => by have := hS' b hb; simp; omega)).mono ?_
  rintro e w1 ⟨rfl, hb1⟩
  have k1 : Hid (Below w.heap.size w w1) := k0.out.trans (hb1.mono (by simp; omega))
  have s1 : w.heap.size + 2 ≤ w1.heap.size := by have := hb1.size; simp at this; omega
  go_wp2_with fail
  go_ret
  exact ⟨rfl, k1.out⟩
open Go.Sort in
theorem eqClaimSpotq (S S' : Nat → Prop) (a : DClaimSpot) (c c' : Nat → Value) (wr : World) (h : Lay.At S wr a c) (h' : Lay.At S' wr a c') (hS : ∀ b, S b → b < wr.heap.size) (hS' : ∀ b, S' b → b < wr.heap.size) (d : Nat) (os : Array Obj) : Calls Try.prog 61 #[.agg #[c 0, c 1, c 2, c 3, c 4], .agg #[c' 0, c' 1, c' 2, c' 3, c' 4]] (grow (redrawn wr d) os) fun e w'' => e = .returned (.bool true) ∧ ∃ p : Regrown, w'' = grow (redrawn wr p.d) p.os :=
  Calls.regrown_of (eqClaimSpot_any S S' a c c' _ (Lay.same h (Same.of_below (below_regrown wr d os) hS)) (Lay.same h' (Same.of_below (below_regrown wr d os) hS')) (fun b hb => Nat.lt_of_lt_of_le (hS b hb) (below_regrown wr d os).size) (fun b hb => Nat.lt_of_lt_of_le (hS' b hb) (below_regrown wr d os).size))

set_option maxRecDepth 100000 in
set_option maxHeartbeats 4000000 in
theorem eqClaimPart_any (S S' : Nat → Prop) (a : DClaimPart) (c c' : Nat → Value) (w : World) (h : Lay.At S w a c) (h' : Lay.At S' w a c') (hS : ∀ b, S b → b < w.heap.size) (hS' : ∀ b, S' b → b < w.heap.size) :
    Calls Try.prog 62 #[.agg #[c 0, c 1, c 2, c 3, c 4, c 5, c 6], .agg #[c' 0, c' 1, c' 2, c' 3, c' 4, c' 5, c' 6]] w fun e w' => e = .returned (.bool true) ∧ Below w.heap.size w w' := by
  rw [at_DClaimPart] at h
  obtain ⟨⟨ep0, zp0, yp0⟩, ⟨ep1, zp1, yp1⟩, Hp2, Hp3, Hp4, Hp5, ep6⟩ := h
  obtain ⟨vp2, ep2⟩ : ∃ v, c 2 = v := ⟨_, rfl⟩
  rw [ep2] at Hp2
  obtain ⟨vp3, ep3⟩ : ∃ v, c 3 = v := ⟨_, rfl⟩
  rw [ep3] at Hp3
  obtain ⟨vp4, ep4⟩ : ∃ v, c 4 = v := ⟨_, rfl⟩
  rw [ep4] at Hp4
  obtain ⟨vp5, ep5⟩ : ∃ v, c 5 = v := ⟨_, rfl⟩
  rw [ep5] at Hp5
  rw [ep0, ep1, ep2, ep3, ep4, ep5, ep6]
  clear ep0 ep1 ep2 ep3 ep4 ep5 ep6
  rw [at_DClaimPart] at h'
  obtain ⟨⟨eq0, zq0, yq0⟩, ⟨eq1, zq1, yq1⟩, Hq2, Hq3, Hq4, Hq5, eq6⟩ := h'
  obtain ⟨vq2, eq2⟩ : ∃ v, c' 2 = v := ⟨_, rfl⟩
  rw [eq2] at Hq2
  obtain ⟨vq3, eq3⟩ : ∃ v, c' 3 = v := ⟨_, rfl⟩
  rw [eq3] at Hq3
  obtain ⟨vq4, eq4⟩ : ∃ v, c' 4 = v := ⟨_, rfl⟩
  rw [eq4] at Hq4
  obtain ⟨vq5, eq5⟩ : ∃ v, c' 5 = v := ⟨_, rfl⟩
  rw [eq5] at Hq5
  rw [eq0, eq1, eq2, eq3, eq4, eq5, eq6]
  clear eq0 eq1 eq2 eq3 eq4 eq5 eq6
  have k0 : Hid (Below w.heap.size w ((w.alloc (.cells #[.int .i64 a.1, .int .i64 a.2.1, vp2, vp3, vp4, vp5, .bool a.2.2.2.2.2.2] 104)).alloc (.cells #[.int .i64 a.1, .int .i64 a.2.1, vq2, vq3, vq4, vq5, .bool a.2.2.2.2.2.2] 104))) := ((Below.refl _ _).alloc (Nat.le_refl _) _).alloc (by simp) _
  have HP : Hid (Lay.At S ((w.alloc (.cells #[.int .i64 a.1, .int .i64 a.2.1, vp2, vp3, vp4, vp5, .bool a.2.2.2.2.2.2] 104)).alloc (.cells #[.int .i64 a.1, .int .i64 a.2.1, vq2, vq3, vq4, vq5, .bool a.2.2.2.2.2.2] 104)) ((a.1, a.2.1, a.2.2.1, a.2.2.2.1, a.2.2.2.2.1, a.2.2.2.2.2.1) : DClaimWant) (cs [.int .i64 a.1, .int .i64 a.2.1, vp2, vp3, vp4, vp5])) := at_DClaimWant.2 ⟨⟨rfl, zp0, yp0⟩, ⟨rfl, zp1, yp1⟩, Hp2.same (Same.of_below k0.out hS), Hp3.same (Same.of_below k0.out hS), Hp4.same (Same.of_below k0.out hS), Hp5.same (Same.of_below k0.out hS)⟩
  have HQ : Hid (Lay.At S' ((w.alloc (.cells #[.int .i64 a.1, .int .i64 a.2.1, vp2, vp3, vp4, vp5, .bool a.2.2.2.2.2.2] 104)).alloc (.cells #[.int .i64 a.1, .int .i64 a.2.1, vq2, vq3, vq4, vq5, .bool a.2.2.2.2.2.2] 104)) ((a.1, a.2.1, a.2.2.1, a.2.2.2.1, a.2.2.2.2.1, a.2.2.2.2.2.1) : DClaimWant) (cs [.int .i64 a.1, .int .i64 a.2.1, vq2, vq3, vq4, vq5])) := at_DClaimWant.2 ⟨⟨rfl, zq0, yq0⟩, ⟨rfl, zq1, yq1⟩, Hq2.same (Same.of_below k0.out hS'), Hq3.same (Same.of_below k0.out hS'), Hq4.same (Same.of_below k0.out hS'), Hq5.same (Same.of_below k0.out hS')⟩
  go_enter Try.func62, Try.ntmps62
  go_wp2_with fail
  refine (eqClaimWant_any S S' _ (cs [.int .i64 a.1, .int .i64 a.2.1, vp2, vp3, vp4, vp5]) (cs [.int .i64 a.1, .int .i64 a.2.1, vq2, vq3, vq4, vq5]) _ HP.out HQ.out (fun b hb => by have := hS b hb; have := k0.out.size; omega) (fun b hb => by have := hS' b hb; have := k0.out.size; omega)).mono ?_
  rintro e w1 ⟨rfl, hb1⟩
  have k1 : Hid (Below w.heap.size w w1) := k0.out.trans (hb1.mono k0.out.size)
  have x1_6 : w1.cell? ⟨w.heap.size, 6, none⟩ = some (.bool a.2.2.2.2.2.2) := (hb1.cell (p := ⟨w.heap.size, 6, none⟩) (by simp; omega)).trans (cell_past (cell_row (heap_alloc_new w (.cells #[.int .i64 a.1, .int .i64 a.2.1, vp2, vp3, vp4, vp5, .bool a.2.2.2.2.2.2] 104)) 6 _ rfl).1 (by simp) _)
  have y1_6 : w1.cell? ⟨w.heap.size + 1, 6, none⟩ = some (.bool a.2.2.2.2.2.2) := (hb1.cell (p := ⟨w.heap.size + 1, 6, none⟩) (by simp)).trans (by simp)
  have s1 : w.heap.size + 2 ≤ w1.heap.size := by have := hb1.size; simp at this; omega
  go_wp2_with fail
  go_ret
  exact ⟨rfl, k1.out⟩
open Go.Sort in
theorem eqClaimPartq (S S' : Nat → Prop) (a : DClaimPart) (c c' : Nat → Value) (wr : World) (h : Lay.At S wr a c) (h' : Lay.At S' wr a c') (hS : ∀ b, S b → b < wr.heap.size) (hS' : ∀ b, S' b → b < wr.heap.size) (d : Nat) (os : Array Obj) : Calls Try.prog 62 #[.agg #[c 0, c 1, c 2, c 3, c 4, c 5, c 6], .agg #[c' 0, c' 1, c' 2, c' 3, c' 4, c' 5, c' 6]] (grow (redrawn wr d) os) fun e w'' => e = .returned (.bool true) ∧ ∃ p : Regrown, w'' = grow (redrawn wr p.d) p.os :=
  Calls.regrown_of (eqClaimPart_any S S' a c c' _ (Lay.same h (Same.of_below (below_regrown wr d os) hS)) (Lay.same h' (Same.of_below (below_regrown wr d os) hS')) (fun b hb => Nat.lt_of_lt_of_le (hS b hb) (below_regrown wr d os).size) (fun b hb => Nat.lt_of_lt_of_le (hS' b hb) (below_regrown wr d os).size))

set_option maxRecDepth 100000 in
set_option maxHeartbeats 4000000 in
theorem eqClaimFoeS_any (S S' : Nat → Prop) (l : List DClaimFoe) (va vb : Value) (w : World) (ha : AtL S w l va) (hb : AtL S' w l vb) (hS : ∀ b, S b → b < w.heap.size) (hS' : ∀ b, S' b → b < w.heap.size) :
    Calls Try.prog 26 #[va, vb] w fun e w' => e = .returned (.bool true) ∧ Below w.heap.size w w' := by
  obtain ⟨oa, ca, rfl, hn, hca⟩ := ha
  obtain ⟨ob, cb, rfl, _, hcb⟩ := hb
  obtain ⟨n, en⟩ : ∃ n, l.length = n := ⟨_, rfl⟩
  rw [en] at hn
  rw [en]
  unfold maxLen at hn
  have HA : Hid _ := hca
  have HB : Hid _ := hcb
  clear hca hcb
  go_enter Try.func26, Try.ntmps26
  go_wp2
  go_loopw [5] (fun i wr => ∃ k : Nat, k ≤ n ∧ i = .int .i64 k ∧ Hid (Below w.heap.size w wr)) (fun i _ => n - (intOf i).toNat)
  case atStart => exact ⟨0, Nat.zero_le _, rfl, Below.refl _ _⟩
  case round =>
    obtain ⟨k, hk, rfl, hbel⟩ := hrel
    have hs := hbel.out.size
    by_cases hlt : k < n
    · obtain ⟨ba, fa, rfl, hba, cc, hxa, hata⟩ := HA.out k (by omega)
      obtain ⟨bb, fb, rfl, hbb, dd, hxb, hatb⟩ := HB.out k (by omega)
      have hba' := hS ba hba
      have hbb' := hS' bb hbb
      rw [width_DClaimFoe] at hxa hxb
      have a0 : wr.cell? ⟨ba, fa + k * 2, none⟩ = some (cc 0) := (hbel.out.cell (p := ⟨ba, fa + k * 2, none⟩) (by show ba < _; omega)).trans (by simpa using hxa 0 (by omega))
      have a1 : wr.cell? ⟨ba, fa + k * 2 + 1, none⟩ = some (cc 1) := (hbel.out.cell (p := ⟨ba, fa + k * 2 + 1, none⟩) (by show ba < _; omega)).trans (by simpa using hxa 1 (by omega))
      have c0 : wr.cell? ⟨bb, fb + k * 2, none⟩ = some (dd 0) := (hbel.out.cell (p := ⟨bb, fb + k * 2, none⟩) (by show bb < _; omega)).trans (by simpa using hxb 0 (by omega))
      have c1 : wr.cell? ⟨bb, fb + k * 2 + 1, none⟩ = some (dd 1) := (hbel.out.cell (p := ⟨bb, fb + k * 2 + 1, none⟩) (by show bb < _; omega)).trans (by simpa using hxb 1 (by omega))
      have HAA : Hid (Lay.At S wr (l[k]'(by omega)) cc) := Lay.same hata (Same.of_below hbel.out hS)
      have HBB : Hid (Lay.At S' wr (l[k]'(by omega)) dd) := Lay.same hatb (Same.of_below hbel.out hS')
      clear hata hatb
      have hSr : ∀ b, S b → b < wr.heap.size := fun b hb => Nat.lt_of_lt_of_le (hS b hb) hs
      have hSr' : ∀ b, S' b → b < wr.heap.size := fun b hb => Nat.lt_of_lt_of_le (hS' b hb) hs
      clear hxa hxb
      have qa0 := fun d os => cell_regrown a0 d os
      have qa1 := fun d os => cell_regrown a1 d os
      have qc0 := fun d os => cell_regrown c0 d os
      have qc1 := fun d os => cell_regrown c1 d os
      go_wp2
      refine wp_region_quiet_below (by kernel_rfl) (by kernel_rfl) ?_
      repeat (first | go_big_quiet_step (with_reducible exact eqClaimFoeq S S' _ _ _ _ HAA.out HBB.out hSr hSr' _ _) | quiet_step (with_reducible exact eqClaimFoeq S S' _ _ _ _ HAA.out HBB.out hSr hSr' _ _))
      refine wpQuiet_nil ?_
      intro _ hw'
      obtain ⟨⟨dq, osq⟩, hw''⟩ := hw'
      subst hw''
      go_wp2
      go_roundw
      case rel => exact ⟨k + 1, by omega, by go_num, hbel.out.trans ((below_regrown _ dq osq).mono hs)⟩
      case measure => simp [intOf]; omega
    · go_wp2
      go_ret
      exact ⟨rfl, hbel.out⟩

set_option maxRecDepth 100000 in
set_option maxHeartbeats 4000000 in
theorem eqClaimSpotS_any (S S' : Nat → Prop) (l : List DClaimSpot) (va vb : Value) (w : World) (ha : AtL S w l va) (hb : AtL S' w l vb) (hS : ∀ b, S b → b < w.heap.size) (hS' : ∀ b, S' b → b < w.heap.size) :
    Calls Try.prog 27 #[va, vb] w fun e w' => e = .returned (.bool true) ∧ Below w.heap.size w w' := by
  obtain ⟨oa, ca, rfl, hn, hca⟩ := ha
  obtain ⟨ob, cb, rfl, _, hcb⟩ := hb
  obtain ⟨n, en⟩ : ∃ n, l.length = n := ⟨_, rfl⟩
  rw [en] at hn
  rw [en]
  unfold maxLen at hn
  have HA : Hid _ := hca
  have HB : Hid _ := hcb
  clear hca hcb
  go_enter Try.func27, Try.ntmps27
  go_wp2
  go_loopw [5] (fun i wr => ∃ k : Nat, k ≤ n ∧ i = .int .i64 k ∧ Hid (Below w.heap.size w wr)) (fun i _ => n - (intOf i).toNat)
  case atStart => exact ⟨0, Nat.zero_le _, rfl, Below.refl _ _⟩
  case round =>
    obtain ⟨k, hk, rfl, hbel⟩ := hrel
    have hs := hbel.out.size
    by_cases hlt : k < n
    · obtain ⟨ba, fa, rfl, hba, cc, hxa, hata⟩ := HA.out k (by omega)
      obtain ⟨bb, fb, rfl, hbb, dd, hxb, hatb⟩ := HB.out k (by omega)
      have hba' := hS ba hba
      have hbb' := hS' bb hbb
      rw [width_DClaimSpot] at hxa hxb
      have a0 : wr.cell? ⟨ba, fa + k * 5, none⟩ = some (cc 0) := (hbel.out.cell (p := ⟨ba, fa + k * 5, none⟩) (by show ba < _; omega)).trans (by simpa using hxa 0 (by omega))
      have a1 : wr.cell? ⟨ba, fa + k * 5 + 1, none⟩ = some (cc 1) := (hbel.out.cell (p := ⟨ba, fa + k * 5 + 1, none⟩) (by show ba < _; omega)).trans (by simpa using hxa 1 (by omega))
      have a2 : wr.cell? ⟨ba, fa + k * 5 + 2, none⟩ = some (cc 2) := (hbel.out.cell (p := ⟨ba, fa + k * 5 + 2, none⟩) (by show ba < _; omega)).trans (by simpa using hxa 2 (by omega))
      have a3 : wr.cell? ⟨ba, fa + k * 5 + 3, none⟩ = some (cc 3) := (hbel.out.cell (p := ⟨ba, fa + k * 5 + 3, none⟩) (by show ba < _; omega)).trans (by simpa using hxa 3 (by omega))
      have a4 : wr.cell? ⟨ba, fa + k * 5 + 4, none⟩ = some (cc 4) := (hbel.out.cell (p := ⟨ba, fa + k * 5 + 4, none⟩) (by show ba < _; omega)).trans (by simpa using hxa 4 (by omega))
      have c0 : wr.cell? ⟨bb, fb + k * 5, none⟩ = some (dd 0) := (hbel.out.cell (p := ⟨bb, fb + k * 5, none⟩) (by show bb < _; omega)).trans (by simpa using hxb 0 (by omega))
      have c1 : wr.cell? ⟨bb, fb + k * 5 + 1, none⟩ = some (dd 1) := (hbel.out.cell (p := ⟨bb, fb + k * 5 + 1, none⟩) (by show bb < _; omega)).trans (by simpa using hxb 1 (by omega))
      have c2 : wr.cell? ⟨bb, fb + k * 5 + 2, none⟩ = some (dd 2) := (hbel.out.cell (p := ⟨bb, fb + k * 5 + 2, none⟩) (by show bb < _; omega)).trans (by simpa using hxb 2 (by omega))
      have c3 : wr.cell? ⟨bb, fb + k * 5 + 3, none⟩ = some (dd 3) := (hbel.out.cell (p := ⟨bb, fb + k * 5 + 3, none⟩) (by show bb < _; omega)).trans (by simpa using hxb 3 (by omega))
      have c4 : wr.cell? ⟨bb, fb + k * 5 + 4, none⟩ = some (dd 4) := (hbel.out.cell (p := ⟨bb, fb + k * 5 + 4, none⟩) (by show bb < _; omega)).trans (by simpa using hxb 4 (by omega))
      have HAA : Hid (Lay.At S wr (l[k]'(by omega)) cc) := Lay.same hata (Same.of_below hbel.out hS)
      have HBB : Hid (Lay.At S' wr (l[k]'(by omega)) dd) := Lay.same hatb (Same.of_below hbel.out hS')
      clear hata hatb
      have hSr : ∀ b, S b → b < wr.heap.size := fun b hb => Nat.lt_of_lt_of_le (hS b hb) hs
      have hSr' : ∀ b, S' b → b < wr.heap.size := fun b hb => Nat.lt_of_lt_of_le (hS' b hb) hs
      clear hxa hxb
      have qa0 := fun d os => cell_regrown a0 d os
      have qa1 := fun d os => cell_regrown a1 d os
      have qa2 := fun d os => cell_regrown a2 d os
      have qa3 := fun d os => cell_regrown a3 d os
      have qa4 := fun d os => cell_regrown a4 d os
      have qc0 := fun d os => cell_regrown c0 d os
      have qc1 := fun d os => cell_regrown c1 d os
      have qc2 := fun d os => cell_regrown c2 d os
      have qc3 := fun d os => cell_regrown c3 d os
      have qc4 := fun d os => cell_regrown c4 d os
      go_wp2
      refine wp_region_quiet_below (by kernel_rfl) (by kernel_rfl) ?_
      repeat (first | go_big_quiet_step (with_reducible exact eqClaimSpotq S S' _ _ _ _ HAA.out HBB.out hSr hSr' _ _) | quiet_step (with_reducible exact eqClaimSpotq S S' _ _ _ _ HAA.out HBB.out hSr hSr' _ _))
      refine wpQuiet_nil ?_
      intro _ hw'
      obtain ⟨⟨dq, osq⟩, hw''⟩ := hw'
      subst hw''
      go_wp2
      go_roundw
      case rel => exact ⟨k + 1, by omega, by go_num, hbel.out.trans ((below_regrown _ dq osq).mono hs)⟩
      case measure => simp [intOf]; omega
    · go_wp2
      go_ret
      exact ⟨rfl, hbel.out⟩

set_option maxRecDepth 100000 in
set_option maxHeartbeats 4000000 in
theorem eqClaimPartS_any (S S' : Nat → Prop) (l : List DClaimPart) (va vb : Value) (w : World) (ha : AtL S w l va) (hb : AtL S' w l vb) (hS : ∀ b, S b → b < w.heap.size) (hS' : ∀ b, S' b → b < w.heap.size) :
    Calls Try.prog 29 #[va, vb] w fun e w' => e = .returned (.bool true) ∧ Below w.heap.size w w' := by
  obtain ⟨oa, ca, rfl, hn, hca⟩ := ha
  obtain ⟨ob, cb, rfl, _, hcb⟩ := hb
  obtain ⟨n, en⟩ : ∃ n, l.length = n := ⟨_, rfl⟩
  rw [en] at hn
  rw [en]
  unfold maxLen at hn
  have HA : Hid _ := hca
  have HB : Hid _ := hcb
  clear hca hcb
  go_enter Try.func29, Try.ntmps29
  go_wp2
  go_loopw [5] (fun i wr => ∃ k : Nat, k ≤ n ∧ i = .int .i64 k ∧ Hid (Below w.heap.size w wr)) (fun i _ => n - (intOf i).toNat)
  case atStart => exact ⟨0, Nat.zero_le _, rfl, Below.refl _ _⟩
  case round =>
    obtain ⟨k, hk, rfl, hbel⟩ := hrel
    have hs := hbel.out.size
    by_cases hlt : k < n
    · obtain ⟨ba, fa, rfl, hba, cc, hxa, hata⟩ := HA.out k (by omega)
      obtain ⟨bb, fb, rfl, hbb, dd, hxb, hatb⟩ := HB.out k (by omega)
      have hba' := hS ba hba
      have hbb' := hS' bb hbb
      rw [width_DClaimPart] at hxa hxb
      have a0 : wr.cell? ⟨ba, fa + k * 7, none⟩ = some (cc 0) := (hbel.out.cell (p := ⟨ba, fa + k * 7, none⟩) (by show ba < _; omega)).trans (by simpa using hxa 0 (by omega))
      have a1 : wr.cell? ⟨ba, fa + k * 7 + 1, none⟩ = some (cc 1) := (hbel.out.cell (p := ⟨ba, fa + k * 7 + 1, none⟩) (by show ba < _; omega)).trans (by simpa using hxa 1 (by omega))
      have a2 : wr.cell? ⟨ba, fa + k * 7 + 2, none⟩ = some (cc 2) := (hbel.out.cell (p := ⟨ba, fa + k * 7 + 2, none⟩) (by show ba < _; omega)).trans (by simpa using hxa 2 (by omega))
      have a3 : wr.cell? ⟨ba, fa + k * 7 + 3, none⟩ = some (cc 3) := (hbel.out.cell (p := ⟨ba, fa + k * 7 + 3, none⟩) (by show ba < _; omega)).trans (by simpa using hxa 3 (by omega))
      have a4 : wr.cell? ⟨ba, fa + k * 7 + 4, none⟩ = some (cc 4) := (hbel.out.cell (p := ⟨ba, fa + k * 7 + 4, none⟩) (by show ba < _; omega)).trans (by simpa using hxa 4 (by omega))
      have a5 : wr.cell? ⟨ba, fa + k * 7 + 5, none⟩ = some (cc 5) := (hbel.out.cell (p := ⟨ba, fa + k * 7 + 5, none⟩) (by show ba < _; omega)).trans (by simpa using hxa 5 (by omega))
      have a6 : wr.cell? ⟨ba, fa + k * 7 + 6, none⟩ = some (cc 6) := (hbel.out.cell (p := ⟨ba, fa + k * 7 + 6, none⟩) (by show ba < _; omega)).trans (by simpa using hxa 6 (by omega))
      have c0 : wr.cell? ⟨bb, fb + k * 7, none⟩ = some (dd 0) := (hbel.out.cell (p := ⟨bb, fb + k * 7, none⟩) (by show bb < _; omega)).trans (by simpa using hxb 0 (by omega))
      have c1 : wr.cell? ⟨bb, fb + k * 7 + 1, none⟩ = some (dd 1) := (hbel.out.cell (p := ⟨bb, fb + k * 7 + 1, none⟩) (by show bb < _; omega)).trans (by simpa using hxb 1 (by omega))
      have c2 : wr.cell? ⟨bb, fb + k * 7 + 2, none⟩ = some (dd 2) := (hbel.out.cell (p := ⟨bb, fb + k * 7 + 2, none⟩) (by show bb < _; omega)).trans (by simpa using hxb 2 (by omega))
      have c3 : wr.cell? ⟨bb, fb + k * 7 + 3, none⟩ = some (dd 3) := (hbel.out.cell (p := ⟨bb, fb + k * 7 + 3, none⟩) (by show bb < _; omega)).trans (by simpa using hxb 3 (by omega))
      have c4 : wr.cell? ⟨bb, fb + k * 7 + 4, none⟩ = some (dd 4) := (hbel.out.cell (p := ⟨bb, fb + k * 7 + 4, none⟩) (by show bb < _; omega)).trans (by simpa using hxb 4 (by omega))
      have c5 : wr.cell? ⟨bb, fb + k * 7 + 5, none⟩ = some (dd 5) := (hbel.out.cell (p := ⟨bb, fb + k * 7 + 5, none⟩) (by show bb < _; omega)).trans (by simpa using hxb 5 (by omega))
      have c6 : wr.cell? ⟨bb, fb + k * 7 + 6, none⟩ = some (dd 6) := (hbel.out.cell (p := ⟨bb, fb + k * 7 + 6, none⟩) (by show bb < _; omega)).trans (by simpa using hxb 6 (by omega))
      have HAA : Hid (Lay.At S wr (l[k]'(by omega)) cc) := Lay.same hata (Same.of_below hbel.out hS)
      have HBB : Hid (Lay.At S' wr (l[k]'(by omega)) dd) := Lay.same hatb (Same.of_below hbel.out hS')
      clear hata hatb
      have hSr : ∀ b, S b → b < wr.heap.size := fun b hb => Nat.lt_of_lt_of_le (hS b hb) hs
      have hSr' : ∀ b, S' b → b < wr.heap.size := fun b hb => Nat.lt_of_lt_of_le (hS' b hb) hs
      clear hxa hxb
      have qa0 := fun d os => cell_regrown a0 d os
      have qa1 := fun d os => cell_regrown a1 d os
      have qa2 := fun d os => cell_regrown a2 d os
      have qa3 := fun d os => cell_regrown a3 d os
      have qa4 := fun d os => cell_regrown a4 d os
      have qa5 := fun d os => cell_regrown a5 d os
      have qa6 := fun d os => cell_regrown a6 d os
      have qc0 := fun d os => cell_regrown c0 d os
      have qc1 := fun d os => cell_regrown c1 d os
      have qc2 := fun d os => cell_regrown c2 d os
      have qc3 := fun d os => cell_regrown c3 d os
      have qc4 := fun d os => cell_regrown c4 d os
      have qc5 := fun d os => cell_regrown c5 d os
      have qc6 := fun d os => cell_regrown c6 d os
      go_wp2
      refine wp_region_quiet_below (by kernel_rfl) (by kernel_rfl) ?_
      repeat (first | go_big_quiet_step (with_reducible exact eqClaimPartq S S' _ _ _ _ HAA.out HBB.out hSr hSr' _ _) | quiet_step (with_reducible exact eqClaimPartq S S' _ _ _ _ HAA.out HBB.out hSr hSr' _ _))
      refine wpQuiet_nil ?_
      intro _ hw'
      obtain ⟨⟨dq, osq⟩, hw''⟩ := hw'
      subst hw''
      go_wp2
      go_roundw
      case rel => exact ⟨k + 1, by omega, by go_num, hbel.out.trans ((below_regrown _ dq osq).mono hs)⟩
      case measure => simp [intOf]; omega
    · go_wp2
      go_ret
      exact ⟨rfl, hbel.out⟩

set_option maxRecDepth 100000 in
set_option maxHeartbeats 4000000 in
theorem eqClaimBook_any (S S' : Nat → Prop) (a : DClaimBook) (c c' : Nat → Value) (w : World) (h : Lay.At S w a c) (h' : Lay.At S' w a c') (hS : ∀ b, S b → b < w.heap.size) (hS' : ∀ b, S' b → b < w.heap.size) :
    Calls Try.prog 8 #[.agg #[c 0, c 1, c 2, c 3, c 4], .agg #[c' 0, c' 1, c' 2, c' 3, c' 4]] w fun e w' => e = .returned (.bool true) ∧ Below w.heap.size w w' := by
  rw [at_DClaimBook] at h
  obtain ⟨Hp0, Hp1, Hp2, Hp3, ⟨ep4, _, _⟩⟩ := h
  obtain ⟨vp0, ep0⟩ : ∃ v, c 0 = v := ⟨_, rfl⟩
  rw [ep0] at Hp0
  obtain ⟨vp1, ep1⟩ : ∃ v, c 1 = v := ⟨_, rfl⟩
  rw [ep1] at Hp1
  obtain ⟨vp2, ep2⟩ : ∃ v, c 2 = v := ⟨_, rfl⟩
  rw [ep2] at Hp2
  obtain ⟨vp3, ep3⟩ : ∃ v, c 3 = v := ⟨_, rfl⟩
  rw [ep3] at Hp3
  rw [ep0, ep1, ep2, ep3, ep4]
  clear ep0 ep1 ep2 ep3 ep4
  rw [at_DClaimBook] at h'
  obtain ⟨Hq0, Hq1, Hq2, Hq3, ⟨eq4, _, _⟩⟩ := h'
  obtain ⟨vq0, eq0⟩ : ∃ v, c' 0 = v := ⟨_, rfl⟩
  rw [eq0] at Hq0
  obtain ⟨vq1, eq1⟩ : ∃ v, c' 1 = v := ⟨_, rfl⟩
  rw [eq1] at Hq1
  obtain ⟨vq2, eq2⟩ : ∃ v, c' 2 = v := ⟨_, rfl⟩
  rw [eq2] at Hq2
  obtain ⟨vq3, eq3⟩ : ∃ v, c' 3 = v := ⟨_, rfl⟩
  rw [eq3] at Hq3
  rw [eq0, eq1, eq2, eq3, eq4]
  clear eq0 eq1 eq2 eq3 eq4
  have k0 : Hid (Below w.heap.size w ((w.alloc (.cells #[vp0, vp1, vp2, vp3, .int .i64 a.2.2.2.2] 33)).alloc (.cells #[vq0, vq1, vq2, vq3, .int .i64 a.2.2.2.2] 33))) := ((Below.refl _ _).alloc (Nat.le_refl _) _).alloc (by simp) _
  go_enter Try.func8, Try.ntmps8
  go_wp2_with fail
  refine (eqClaimFoeS_any S S' _ vp0 vq0 _ (Hp0.same (Same.of_below k0.out hS)) (Hq0.same (Same.of_below k0.out hS')) (fun b hb => by have := hS b hb; simp; omega) (fun b hb => by have := hS' b hb; simp; omega)).mono ?_
  rintro e w1 ⟨rfl, hb1⟩
  have k1 : Hid (Below w.heap.size w w1) := k0.out.trans (hb1.mono (by simp; omega))
  have x1_1 : w1.cell? ⟨w.heap.size, 1, none⟩ = some (vp1) := (hb1.cell (p := ⟨w.heap.size, 1, none⟩) (by simp; omega)).trans (cell_past (cell_row (heap_alloc_new w (.cells #[vp0, vp1, vp2, vp3, .int .i64 a.2.2.2.2] 33)) 1 _ rfl).1 (by simp) _)
  have y1_1 : w1.cell? ⟨w.heap.size + 1, 1, none⟩ = some (vq1) := (hb1.cell (p := ⟨w.heap.size + 1, 1, none⟩) (by simp)).trans (by simp)
  have x1_2 : w1.cell? ⟨w.heap.size, 2, none⟩ = some (vp2) := (hb1.cell (p := ⟨w.heap.size, 2, none⟩) (by simp; omega)).trans (cell_past (cell_row (heap_alloc_new w (.cells #[vp0, vp1, vp2, vp3, .int .i64 a.2.2.2.2] 33)) 2 _ rfl).1 (by simp) _)
  have y1_2 : w1.cell? ⟨w.heap.size + 1, 2, none⟩ = some (vq2) := (hb1.cell (p := ⟨w.heap.size + 1, 2, none⟩) (by simp)).trans (by simp)
  have x1_3 : w1.cell? ⟨w.heap.size, 3, none⟩ = some (vp3) := (hb1.cell (p := ⟨w.heap.size, 3, none⟩) (by simp; omega)).trans (cell_past (cell_row (heap_alloc_new w (.cells #[vp0, vp1, vp2, vp3, .int .i64 a.2.2.2.2] 33)) 3 _ rfl).1 (by simp) _)
  have y1_3 : w1.cell? ⟨w.heap.size + 1, 3, none⟩ = some (vq3) := (hb1.cell (p := ⟨w.heap.size + 1, 3, none⟩) (by simp)).trans (by simp)
  have x1_4 : w1.cell? ⟨w.heap.size, 4, none⟩ = some (.int .i64 a.2.2.2.2) := (hb1.cell (p := ⟨w.heap.size, 4, none⟩) (by simp; omega)).trans (cell_past (cell_row (heap_alloc_new w (.cells #[vp0, vp1, vp2, vp3, .int .i64 a.2.2.2.2] 33)) 4 _ rfl).1 (by simp) _)
  have y1_4 : w1.cell? ⟨w.heap.size + 1, 4, none⟩ = some (.int .i64 a.2.2.2.2) := (hb1.cell (p := ⟨w.heap.size + 1, 4, none⟩) (by simp)).trans (by simp)
  have s1 : w.heap.size + 2 ≤ w1.heap.size := by have := hb1.size; simp at this; omega
  go_wp2_with fail
  refine (eqClaimSpotS_any S S' _ vp1 vq1 _ (Hp1.same (Same.of_below k1.out hS)) (Hq1.same (Same.of_below k1.out hS')) (fun b hb => by have := hS b hb; omega) (fun b hb => by have := hS' b hb; omega)).mono ?_
  rintro e w2 ⟨rfl, hb2⟩
  have k2 : Hid (Below w.heap.size w w2) := k1.out.trans (hb2.mono (by omega))
  have x2_2 : w2.cell? ⟨w.heap.size, 2, none⟩ = some (vp2) := (hb2.cell (p := ⟨w.heap.size, 2, none⟩) (by show w.heap.size < _; omega)).trans x1_2
  have y2_2 : w2.cell? ⟨w.heap.size + 1, 2, none⟩ = some (vq2) := (hb2.cell (p := ⟨w.heap.size + 1, 2, none⟩) (by show w.heap.size + 1 < _; omega)).trans y1_2
  have x2_3 : w2.cell? ⟨w.heap.size, 3, none⟩ = some (vp3) := (hb2.cell (p := ⟨w.heap.size, 3, none⟩) (by show w.heap.size < _; omega)).trans x1_3
  have y2_3 : w2.cell? ⟨w.heap.size + 1, 3, none⟩ = some (vq3) := (hb2.cell (p := ⟨w.heap.size + 1, 3, none⟩) (by show w.heap.size + 1 < _; omega)).trans y1_3
  have x2_4 : w2.cell? ⟨w.heap.size, 4, none⟩ = some (.int .i64 a.2.2.2.2) := (hb2.cell (p := ⟨w.heap.size, 4, none⟩) (by show w.heap.size < _; omega)).trans x1_4
  have y2_4 : w2.cell? ⟨w.heap.size + 1, 4, none⟩ = some (.int .i64 a.2.2.2.2) := (hb2.cell (p := ⟨w.heap.size + 1, 4, none⟩) (by show w.heap.size + 1 < _; omega)).trans y1_4
  have s2 : w.heap.size + 2 ≤ w2.heap.size := by have := hb2.size; omega
  go_wp2_with fail
  refine (eqStringS_any S S' _ vp2 vq2 _ (Hp2.same (Same.of_below k2.out hS)) (Hq2.same (Same.of_below k2.out hS')) (fun b hb => by have := hS b hb; omega) (fun b hb => by have := hS' b hb; omega)).mono ?_
  rintro e w3 ⟨rfl, hb3⟩
  have k3 : Hid (Below w.heap.size w w3) := k2.out.trans (hb3.mono (by omega))
  have x3_3 : w3.cell? ⟨w.heap.size, 3, none⟩ = some (vp3) := (hb3.cell (p := ⟨w.heap.size, 3, none⟩) (by show w.heap.size < _; omega)).trans x2_3
  have y3_3 : w3.cell? ⟨w.heap.size + 1, 3, none⟩ = some (vq3) := (hb3.cell (p := ⟨w.heap.size + 1, 3, none⟩) (by show w.heap.size + 1 < _; omega)).trans y2_3
  have x3_4 : w3.cell? ⟨w.heap.size, 4, none⟩ = some (.int .i64 a.2.2.2.2) := (hb3.cell (p := ⟨w.heap.size, 4, none⟩) (by show w.heap.size < _; omega)).trans x2_4
  have y3_4 : w3.cell? ⟨w.heap.size + 1, 4, none⟩ = some (.int .i64 a.2.2.2.2) := (hb3.cell (p := ⟨w.heap.size + 1, 4, none⟩) (by show w.heap.size + 1 < _; omega)).trans y2_4
  have s3 : w.heap.size + 2 ≤ w3.heap.size := by have := hb3.size; omega
  go_wp2_with fail
  refine (eqClaimPartS_any S S' _ vp3 vq3 _ (Hp3.same (Same.of_below k3.out hS)) (Hq3.same (Same.of_below k3.out hS')) (fun b hb => by have := hS b hb; omega) (fun b hb => by have := hS' b hb; omega)).mono ?_
  rintro e w4 ⟨rfl, hb4⟩
  have k4 : Hid (Below w.heap.size w w4) := k3.out.trans (hb4.mono (by omega))
  have x4_4 : w4.cell? ⟨w.heap.size, 4, none⟩ = some (.int .i64 a.2.2.2.2) := (hb4.cell (p := ⟨w.heap.size, 4, none⟩) (by show w.heap.size < _; omega)).trans x3_4
  have y4_4 : w4.cell? ⟨w.heap.size + 1, 4, none⟩ = some (.int .i64 a.2.2.2.2) := (hb4.cell (p := ⟨w.heap.size + 1, 4, none⟩) (by show w.heap.size + 1 < _; omega)).trans y3_4
  have s4 : w.heap.size + 2 ≤ w4.heap.size := by have := hb4.size; omega
  go_wp2_with fail
  go_ret
  exact ⟨rfl, k4.out⟩
open Go.Sort in
theorem eqClaimBookq (S S' : Nat → Prop) (a : DClaimBook) (c c' : Nat → Value) (wr : World) (h : Lay.At S wr a c) (h' : Lay.At S' wr a c') (hS : ∀ b, S b → b < wr.heap.size) (hS' : ∀ b, S' b → b < wr.heap.size) (d : Nat) (os : Array Obj) : Calls Try.prog 8 #[.agg #[c 0, c 1, c 2, c 3, c 4], .agg #[c' 0, c' 1, c' 2, c' 3, c' 4]] (grow (redrawn wr d) os) fun e w'' => e = .returned (.bool true) ∧ ∃ p : Regrown, w'' = grow (redrawn wr p.d) p.os :=
  Calls.regrown_of (eqClaimBook_any S S' a c c' _ (Lay.same h (Same.of_below (below_regrown wr d os) hS)) (Lay.same h' (Same.of_below (below_regrown wr d os) hS')) (fun b hb => Nat.lt_of_lt_of_le (hS b hb) (below_regrown wr d os).size) (fun b hb => Nat.lt_of_lt_of_le (hS' b hb) (below_regrown wr d os).size))

end Go.Proofs.Ytciembgenlcogac
