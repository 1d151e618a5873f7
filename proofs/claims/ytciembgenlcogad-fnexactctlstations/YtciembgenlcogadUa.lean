/-
  Contracts of the law's own comparing of two plants that hold the same.
-/
import Derived.Test.YtciembgenlcogadTc
namespace Go.Proofs.Ytciembgenlcogad
open Go.RowKit

set_option maxRecDepth 100000 in
set_option maxHeartbeats 1000000 in
theorem eqFoe (a b : ByteArray) (w : World) : Calls Try.prog 48 #[.agg #[.string a, .string b], .agg #[.string a, .string b]] w fun e w' => e = .returned (.bool true) ∧ Below w.heap.size w w' := by
  go_enter Try.func48, Try.ntmps48
  go_wp2
  go_ret
  exact ⟨rfl, ((Below.refl _ _).alloc (Nat.le_refl _) _).alloc (by simp) _⟩
open Go.Sort in
theorem eqFoeq (a b : ByteArray) (wr : World) (dr : Nat) (os : Array Obj) : Calls Try.prog 48 #[.agg #[.string a, .string b], .agg #[.string a, .string b]] (grow (redrawn wr dr) os) fun e w'' => e = .returned (.bool true) ∧ ∃ p : Regrown, w'' = grow (redrawn wr p.d) p.os :=
  Calls.regrown_of (eqFoe a b _)

set_option maxRecDepth 100000 in
set_option maxHeartbeats 1000000 in
theorem eqPlace (a b : ByteArray) (c : Int) (w : World) : Calls Try.prog 49 #[.agg #[.string a, .int .i64 c, .string b], .agg #[.string a, .int .i64 c, .string b]] w fun e w' => e = .returned (.bool true) ∧ Below w.heap.size w w' := by
  go_enter Try.func49, Try.ntmps49
  go_wp2
  go_ret
  exact ⟨rfl, ((Below.refl _ _).alloc (Nat.le_refl _) _).alloc (by simp) _⟩
open Go.Sort in
theorem eqPlaceq (a b : ByteArray) (c : Int) (wr : World) (dr : Nat) (os : Array Obj) : Calls Try.prog 49 #[.agg #[.string a, .int .i64 c, .string b], .agg #[.string a, .int .i64 c, .string b]] (grow (redrawn wr dr) os) fun e w'' => e = .returned (.bool true) ∧ ∃ p : Regrown, w'' = grow (redrawn wr p.d) p.os :=
  Calls.regrown_of (eqPlace a b c _)

set_option maxRecDepth 100000 in
set_option maxHeartbeats 1000000 in
theorem eqValve (a b c d : ByteArray) (w : World) : Calls Try.prog 50 #[.agg #[.string a, .string b, .string c, .string d], .agg #[.string a, .string b, .string c, .string d]] w fun e w' => e = .returned (.bool true) ∧ Below w.heap.size w w' := by
  go_enter Try.func50, Try.ntmps50
  go_wp2
  go_ret
  exact ⟨rfl, ((Below.refl _ _).alloc (Nat.le_refl _) _).alloc (by simp) _⟩
open Go.Sort in
theorem eqValveq (a b c d : ByteArray) (wr : World) (dr : Nat) (os : Array Obj) : Calls Try.prog 50 #[.agg #[.string a, .string b, .string c, .string d], .agg #[.string a, .string b, .string c, .string d]] (grow (redrawn wr dr) os) fun e w'' => e = .returned (.bool true) ∧ ∃ p : Regrown, w'' = grow (redrawn wr p.d) p.os :=
  Calls.regrown_of (eqValve a b c d _)

set_option maxRecDepth 100000 in
set_option maxHeartbeats 2000000 in
theorem eqS_lst (B B' : Nat) (va vb : Value) (n : Nat) (f : Nat → ByteArray) (w : World) (ha : Lst B w va n 1 (cS f)) (hb : Lst B' w vb n 1 (cS f)) (hB : B ≤ w.heap.size) (hB' : B' ≤ w.heap.size) :
    Calls Try.prog 8 #[va, vb] w fun e w' => e = .returned (.bool true) ∧ Below w.heap.size w w' := by
  obtain ⟨oa, ca, rfl, hn, hca⟩ := ha
  obtain ⟨ob, cb, rfl, _, hcb⟩ := hb
  unfold maxLen at hn
  have HA : Hid _ := hca
  have HB : Hid _ := hcb
  clear hca hcb
  go_enter Try.func8, Try.ntmps8
  go_wp2
  go_loopw [5] (fun i wr => ∃ k : Nat, k ≤ n ∧ i = .int .i64 k ∧ Hid (Below w.heap.size w wr)) (fun i _ => n - (intOf i).toNat)
  case atStart => exact ⟨0, Nat.zero_le _, rfl, Below.refl _ _⟩
  case round =>
    obtain ⟨k, hk, rfl, hbel⟩ := hrel
    have hs := hbel.out.size
    by_cases hlt : k < n
    · obtain ⟨ba, fa, rfl, hba, hxa⟩ := HA.out k hlt
      obtain ⟨bb, fb, rfl, hbb, hxb⟩ := HB.out k hlt
      have a0 : wr.cell? ⟨ba, fa + k, none⟩ = some (.string (f k)) := (hbel.out.cell (p := ⟨ba, fa + k, none⟩) (by show ba < _; omega)).trans (by simpa [cS] using hxa 0 (by omega))
      have qa0 := fun d os => cell_regrown a0 d os
      have c0 : wr.cell? ⟨bb, fb + k, none⟩ = some (.string (f k)) := (hbel.out.cell (p := ⟨bb, fb + k, none⟩) (by show bb < _; omega)).trans (by simpa [cS] using hxb 0 (by omega))
      have qc0 := fun d os => cell_regrown c0 d os
      go_wp2
      refine wp_region_quiet_below (by kernel_rfl) (by kernel_rfl) ?_
      repeat (first | go_big_quiet_step (fail) | quiet_step (fail))
      refine wpQuiet_nil ?_
      intro _ hw'
      obtain ⟨⟨dq, osq⟩, hw''⟩ := hw'
      subst hw''
      go_wp2
      go_roundw
      case rel => exact ⟨k + 1, by omega, by go_num, hbel.out.trans ((below_regrown _ dq osq).mono hs)⟩
      case measure => simp [intOf]; omega
    · go_wp2
      go_ret
      exact ⟨rfl, hbel.out⟩

set_option maxRecDepth 100000 in
set_option maxHeartbeats 2000000 in
theorem eqF_lst (B B' : Nat) (va vb : Value) (n : Nat) (f : Nat → ByteArray × ByteArray) (w : World) (ha : Lst B w va n 2 (cF f)) (hb : Lst B' w vb n 2 (cF f)) (hB : B ≤ w.heap.size) (hB' : B' ≤ w.heap.size) :
    Calls Try.prog 25 #[va, vb] w fun e w' => e = .returned (.bool true) ∧ Below w.heap.size w w' := by
  obtain ⟨oa, ca, rfl, hn, hca⟩ := ha
  obtain ⟨ob, cb, rfl, _, hcb⟩ := hb
  unfold maxLen at hn
  have HA : Hid _ := hca
  have HB : Hid _ := hcb
  clear hca hcb
  go_enter Try.func25, Try.ntmps25
  go_wp2
  go_loopw [5] (fun i wr => ∃ k : Nat, k ≤ n ∧ i = .int .i64 k ∧ Hid (Below w.heap.size w wr)) (fun i _ => n - (intOf i).toNat)
  case atStart => exact ⟨0, Nat.zero_le _, rfl, Below.refl _ _⟩
  case round =>
    obtain ⟨k, hk, rfl, hbel⟩ := hrel
    have hs := hbel.out.size
    by_cases hlt : k < n
    · obtain ⟨ba, fa, rfl, hba, hxa⟩ := HA.out k hlt
      obtain ⟨bb, fb, rfl, hbb, hxb⟩ := HB.out k hlt
      have a0 : wr.cell? ⟨ba, fa + k * 2, none⟩ = some (.string (f k).1) := (hbel.out.cell (p := ⟨ba, fa + k * 2, none⟩) (by show ba < _; omega)).trans (by simpa [cF] using hxa 0 (by omega))
      have qa0 := fun d os => cell_regrown a0 d os
      have a1 : wr.cell? ⟨ba, fa + k * 2 + 1, none⟩ = some (.string (f k).2) := (hbel.out.cell (p := ⟨ba, fa + k * 2 + 1, none⟩) (by show ba < _; omega)).trans (by simpa [cF] using hxa 1 (by omega))
      have qa1 := fun d os => cell_regrown a1 d os
      have c0 : wr.cell? ⟨bb, fb + k * 2, none⟩ = some (.string (f k).1) := (hbel.out.cell (p := ⟨bb, fb + k * 2, none⟩) (by show bb < _; omega)).trans (by simpa [cF] using hxb 0 (by omega))
      have qc0 := fun d os => cell_regrown c0 d os
      have c1 : wr.cell? ⟨bb, fb + k * 2 + 1, none⟩ = some (.string (f k).2) := (hbel.out.cell (p := ⟨bb, fb + k * 2 + 1, none⟩) (by show bb < _; omega)).trans (by simpa [cF] using hxb 1 (by omega))
      have qc1 := fun d os => cell_regrown c1 d os
      go_wp2
      refine wp_region_quiet_below (by kernel_rfl) (by kernel_rfl) ?_
      repeat (first | go_big_quiet_step (with_reducible exact eqFoeq _ _ _ _ _) | quiet_step (with_reducible exact eqFoeq _ _ _ _ _))
      refine wpQuiet_nil ?_
      intro _ hw'
      obtain ⟨⟨dq, osq⟩, hw''⟩ := hw'
      subst hw''
      go_wp2
      go_roundw
      case rel => exact ⟨k + 1, by omega, by go_num, hbel.out.trans ((below_regrown _ dq osq).mono hs)⟩
      case measure => simp [intOf]; omega
    · go_wp2
      go_ret
      exact ⟨rfl, hbel.out⟩

set_option maxRecDepth 100000 in
set_option maxHeartbeats 2000000 in
theorem eqP_lst (B B' : Nat) (va vb : Value) (n : Nat) (f : Nat → ByteArray × Int × ByteArray) (w : World) (ha : Lst B w va n 3 (cP f)) (hb : Lst B' w vb n 3 (cP f)) (hB : B ≤ w.heap.size) (hB' : B' ≤ w.heap.size) :
    Calls Try.prog 26 #[va, vb] w fun e w' => e = .returned (.bool true) ∧ Below w.heap.size w w' := by
  obtain ⟨oa, ca, rfl, hn, hca⟩ := ha
  obtain ⟨ob, cb, rfl, _, hcb⟩ := hb
  unfold maxLen at hn
  have HA : Hid _ := hca
  have HB : Hid _ := hcb
  clear hca hcb
  go_enter Try.func26, Try.ntmps26
  go_wp2
  go_loopw [5] (fun i wr => ∃ k : Nat, k ≤ n ∧ i = .int .i64 k ∧ Hid (Below w.heap.size w wr)) (fun i _ => n - (intOf i).toNat)
  case atStart => exact ⟨0, Nat.zero_le _, rfl, Below.refl _ _⟩
  case round =>
    obtain ⟨k, hk, rfl, hbel⟩ := hrel
    have hs := hbel.out.size
    by_cases hlt : k < n
    · obtain ⟨ba, fa, rfl, hba, hxa⟩ := HA.out k hlt
      obtain ⟨bb, fb, rfl, hbb, hxb⟩ := HB.out k hlt
      have a0 : wr.cell? ⟨ba, fa + k * 3, none⟩ = some (.string (f k).1) := (hbel.out.cell (p := ⟨ba, fa + k * 3, none⟩) (by show ba < _; omega)).trans (by simpa [cP] using hxa 0 (by omega))
      have qa0 := fun d os => cell_regrown a0 d os
      have a1 : wr.cell? ⟨ba, fa + k * 3 + 1, none⟩ = some (.int .i64 (f k).2.1) := (hbel.out.cell (p := ⟨ba, fa + k * 3 + 1, none⟩) (by show ba < _; omega)).trans (by simpa [cP] using hxa 1 (by omega))
      have qa1 := fun d os => cell_regrown a1 d os
      have a2 : wr.cell? ⟨ba, fa + k * 3 + 2, none⟩ = some (.string (f k).2.2) := (hbel.out.cell (p := ⟨ba, fa + k * 3 + 2, none⟩) (by show ba < _; omega)).trans (by simpa [cP] using hxa 2 (by omega))
      have qa2 := fun d os => cell_regrown a2 d os
      have c0 : wr.cell? ⟨bb, fb + k * 3, none⟩ = some (.string (f k).1) := (hbel.out.cell (p := ⟨bb, fb + k * 3, none⟩) (by show bb < _; omega)).trans (by simpa [cP] using hxb 0 (by omega))
      have qc0 := fun d os => cell_regrown c0 d os
      have c1 : wr.cell? ⟨bb, fb + k * 3 + 1, none⟩ = some (.int .i64 (f k).2.1) := (hbel.out.cell (p := ⟨bb, fb + k * 3 + 1, none⟩) (by show bb < _; omega)).trans (by simpa [cP] using hxb 1 (by omega))
      have qc1 := fun d os => cell_regrown c1 d os
      have c2 : wr.cell? ⟨bb, fb + k * 3 + 2, none⟩ = some (.string (f k).2.2) := (hbel.out.cell (p := ⟨bb, fb + k * 3 + 2, none⟩) (by show bb < _; omega)).trans (by simpa [cP] using hxb 2 (by omega))
      have qc2 := fun d os => cell_regrown c2 d os
      go_wp2
      refine wp_region_quiet_below (by kernel_rfl) (by kernel_rfl) ?_
      repeat (first | go_big_quiet_step (with_reducible exact eqPlaceq _ _ _ _ _ _) | quiet_step (with_reducible exact eqPlaceq _ _ _ _ _ _))
      refine wpQuiet_nil ?_
      intro _ hw'
      obtain ⟨⟨dq, osq⟩, hw''⟩ := hw'
      subst hw''
      go_wp2
      go_roundw
      case rel => exact ⟨k + 1, by omega, by go_num, hbel.out.trans ((below_regrown _ dq osq).mono hs)⟩
      case measure => simp [intOf]; omega
    · go_wp2
      go_ret
      exact ⟨rfl, hbel.out⟩

set_option maxRecDepth 100000 in
set_option maxHeartbeats 2000000 in
theorem eqV_lst (B B' : Nat) (va vb : Value) (n : Nat) (f : Nat → ByteArray × ByteArray × ByteArray × ByteArray) (w : World) (ha : Lst B w va n 4 (cV f)) (hb : Lst B' w vb n 4 (cV f)) (hB : B ≤ w.heap.size) (hB' : B' ≤ w.heap.size) :
    Calls Try.prog 27 #[va, vb] w fun e w' => e = .returned (.bool true) ∧ Below w.heap.size w w' := by
  obtain ⟨oa, ca, rfl, hn, hca⟩ := ha
  obtain ⟨ob, cb, rfl, _, hcb⟩ := hb
  unfold maxLen at hn
  have HA : Hid _ := hca
  have HB : Hid _ := hcb
  clear hca hcb
  go_enter Try.func27, Try.ntmps27
  go_wp2
  go_loopw [5] (fun i wr => ∃ k : Nat, k ≤ n ∧ i = .int .i64 k ∧ Hid (Below w.heap.size w wr)) (fun i _ => n - (intOf i).toNat)
  case atStart => exact ⟨0, Nat.zero_le _, rfl, Below.refl _ _⟩
  case round =>
    obtain ⟨k, hk, rfl, hbel⟩ := hrel
    have hs := hbel.out.size
    by_cases hlt : k < n
    · obtain ⟨ba, fa, rfl, hba, hxa⟩ := HA.out k hlt
      obtain ⟨bb, fb, rfl, hbb, hxb⟩ := HB.out k hlt
      have a0 : wr.cell? ⟨ba, fa + k * 4, none⟩ = some (.string (f k).1) := (hbel.out.cell (p := ⟨ba, fa + k * 4, none⟩) (by show ba < _; omega)).trans (by simpa [cV] using hxa 0 (by omega))
      have qa0 := fun d os => cell_regrown a0 d os
      have a1 : wr.cell? ⟨ba, fa + k * 4 + 1, none⟩ = some (.string (f k).2.1) := (hbel.out.cell (p := ⟨ba, fa + k * 4 + 1, none⟩) (by show ba < _; omega)).trans (by simpa [cV] using hxa 1 (by omega))
      have qa1 := fun d os => cell_regrown a1 d os
      have a2 : wr.cell? ⟨ba, fa + k * 4 + 2, none⟩ = some (.string (f k).2.2.1) := (hbel.out.cell (p := ⟨ba, fa + k * 4 + 2, none⟩) (by show ba < _; omega)).trans (by simpa [cV] using hxa 2 (by omega))
      have qa2 := fun d os => cell_regrown a2 d os
      have a3 : wr.cell? ⟨ba, fa + k * 4 + 3, none⟩ = some (.string (f k).2.2.2) := (hbel.out.cell (p := ⟨ba, fa + k * 4 + 3, none⟩) (by show ba < _; omega)).trans (by simpa [cV] using hxa 3 (by omega))
      have qa3 := fun d os => cell_regrown a3 d os
      have c0 : wr.cell? ⟨bb, fb + k * 4, none⟩ = some (.string (f k).1) := (hbel.out.cell (p := ⟨bb, fb + k * 4, none⟩) (by show bb < _; omega)).trans (by simpa [cV] using hxb 0 (by omega))
      have qc0 := fun d os => cell_regrown c0 d os
      have c1 : wr.cell? ⟨bb, fb + k * 4 + 1, none⟩ = some (.string (f k).2.1) := (hbel.out.cell (p := ⟨bb, fb + k * 4 + 1, none⟩) (by show bb < _; omega)).trans (by simpa [cV] using hxb 1 (by omega))
      have qc1 := fun d os => cell_regrown c1 d os
      have c2 : wr.cell? ⟨bb, fb + k * 4 + 2, none⟩ = some (.string (f k).2.2.1) := (hbel.out.cell (p := ⟨bb, fb + k * 4 + 2, none⟩) (by show bb < _; omega)).trans (by simpa [cV] using hxb 2 (by omega))
      have qc2 := fun d os => cell_regrown c2 d os
      have c3 : wr.cell? ⟨bb, fb + k * 4 + 3, none⟩ = some (.string (f k).2.2.2) := (hbel.out.cell (p := ⟨bb, fb + k * 4 + 3, none⟩) (by show bb < _; omega)).trans (by simpa [cV] using hxb 3 (by omega))
      have qc3 := fun d os => cell_regrown c3 d os
      go_wp2
      refine wp_region_quiet_below (by kernel_rfl) (by kernel_rfl) ?_
      repeat (first | go_big_quiet_step (with_reducible exact eqValveq _ _ _ _ _ _ _) | quiet_step (with_reducible exact eqValveq _ _ _ _ _ _ _))
      refine wpQuiet_nil ?_
      intro _ hw'
      obtain ⟨⟨dq, osq⟩, hw''⟩ := hw'
      subst hw''
      go_wp2
      go_roundw
      case rel => exact ⟨k + 1, by omega, by go_num, hbel.out.trans ((below_regrown _ dq osq).mono hs)⟩
      case measure => simp [intOf]; omega
    · go_wp2
      go_ret
      exact ⟨rfl, hbel.out⟩

set_option maxRecDepth 100000 in
set_option maxHeartbeats 2000000 in
theorem eqPlant_any (B B' : Nat) (a0 a1 a2 a3 b0 b1 b2 b3 : Value) (D : PD) (w : World) (ha : PAt B w a0 a1 a2 a3 D) (hb : PAt B' w b0 b1 b2 b3 D) (hB : B ≤ w.heap.size) (hB' : B' ≤ w.heap.size) :
    Calls Try.prog 9 #[.agg #[a0, a1, a2, a3], .agg #[b0, b1, b2, b3]] w fun e w' => e = .returned (.bool true) ∧ Below w.heap.size w w' := by
  have HA : Hid (∀ w', Below w.heap.size w w' → PAt B w' a0 a1 a2 a3 D) := fun w' h => ha.kept h hB
  have HB : Hid (∀ w', Below w.heap.size w w' → PAt B' w' b0 b1 b2 b3 D) := fun w' h => hb.kept h hB'
  clear ha hb
  have k0 : Hid (Below w.heap.size w ((w.alloc (.cells #[a0, a1, a2, a3] 34)).alloc (.cells #[b0, b1, b2, b3] 34))) := ((Below.refl _ _).alloc (Nat.le_refl _) _).alloc (by simp) _
  go_enter Try.func9, Try.ntmps9
  go_wp2_with fail
  refine (eqS_lst B B' a0 b0 D.ns D.fs _ (HA.out _ k0.out).s (HB.out _ k0.out).s (by simp; omega) (by simp; omega)).mono ?_; rintro e w1 ⟨rfl, hb1⟩
  have k1 : Hid (Below w.heap.size w w1) := k0.out.trans (hb1.mono (by simp; omega))
  have x10 := (hb1.cell (p := ⟨w.heap.size, 0, none⟩) (by simp; omega)).trans (cell_past (new_cell w #[a0, a1, a2, a3] 34 0 _ rfl) (by simp) (.cells #[b0, b1, b2, b3] 34))
  have x11 := (hb1.cell (p := ⟨w.heap.size, 1, none⟩) (by simp; omega)).trans (cell_past (new_cell w #[a0, a1, a2, a3] 34 1 _ rfl) (by simp) (.cells #[b0, b1, b2, b3] 34))
  have x12 := (hb1.cell (p := ⟨w.heap.size, 2, none⟩) (by simp; omega)).trans (cell_past (new_cell w #[a0, a1, a2, a3] 34 2 _ rfl) (by simp) (.cells #[b0, b1, b2, b3] 34))
  have x13 := (hb1.cell (p := ⟨w.heap.size, 3, none⟩) (by simp; omega)).trans (cell_past (new_cell w #[a0, a1, a2, a3] 34 3 _ rfl) (by simp) (.cells #[b0, b1, b2, b3] 34))
  have y10 : w1.cell? ⟨w.heap.size + 1, 0, none⟩ = some b0 := (hb1.cell (p := ⟨w.heap.size + 1, 0, none⟩) (by simp)).trans (by simp)
  have y11 : w1.cell? ⟨w.heap.size + 1, 1, none⟩ = some b1 := (hb1.cell (p := ⟨w.heap.size + 1, 1, none⟩) (by simp)).trans (by simp)
  have y12 : w1.cell? ⟨w.heap.size + 1, 2, none⟩ = some b2 := (hb1.cell (p := ⟨w.heap.size + 1, 2, none⟩) (by simp)).trans (by simp)
  have y13 : w1.cell? ⟨w.heap.size + 1, 3, none⟩ = some b3 := (hb1.cell (p := ⟨w.heap.size + 1, 3, none⟩) (by simp)).trans (by simp)
  have s1 : w.heap.size + 2 ≤ w1.heap.size := by have := hb1.size; simp at this; omega
  simp only [List.getElem_toArray, List.getElem_cons_zero, List.getElem_cons_succ] at x10 x11 x12 x13
  go_wp2_with fail
  refine (eqF_lst B B' a1 b1 D.nf D.ff _ (HA.out _ k1.out).f (HB.out _ k1.out).f (by omega) (by omega)).mono ?_; rintro e w2 ⟨rfl, hb2⟩
  have k2 : Hid (Below w.heap.size w w2) := k1.out.trans (hb2.mono (by omega))
  have x20 := (hb2.cell (p := ⟨w.heap.size, 0, none⟩) (by show w.heap.size < _; omega)).trans x10
  have x21 := (hb2.cell (p := ⟨w.heap.size, 1, none⟩) (by show w.heap.size < _; omega)).trans x11
  have x22 := (hb2.cell (p := ⟨w.heap.size, 2, none⟩) (by show w.heap.size < _; omega)).trans x12
  have x23 := (hb2.cell (p := ⟨w.heap.size, 3, none⟩) (by show w.heap.size < _; omega)).trans x13
  have y20 := (hb2.cell (p := ⟨w.heap.size + 1, 0, none⟩) (by show w.heap.size + 1 < _; omega)).trans y10
  have y21 := (hb2.cell (p := ⟨w.heap.size + 1, 1, none⟩) (by show w.heap.size + 1 < _; omega)).trans y11
  have y22 := (hb2.cell (p := ⟨w.heap.size + 1, 2, none⟩) (by show w.heap.size + 1 < _; omega)).trans y12
  have y23 := (hb2.cell (p := ⟨w.heap.size + 1, 3, none⟩) (by show w.heap.size + 1 < _; omega)).trans y13
  have s2 : w.heap.size + 2 ≤ w2.heap.size := by have := hb2.size; omega
  go_wp2_with fail
  refine (eqP_lst B B' a2 b2 D.np D.fp _ (HA.out _ k2.out).p (HB.out _ k2.out).p (by omega) (by omega)).mono ?_; rintro e w3 ⟨rfl, hb3⟩
  have k3 : Hid (Below w.heap.size w w3) := k2.out.trans (hb3.mono (by omega))
  have x30 := (hb3.cell (p := ⟨w.heap.size, 0, none⟩) (by show w.heap.size < _; omega)).trans x20
  have x31 := (hb3.cell (p := ⟨w.heap.size, 1, none⟩) (by show w.heap.size < _; omega)).trans x21
  have x32 := (hb3.cell (p := ⟨w.heap.size, 2, none⟩) (by show w.heap.size < _; omega)).trans x22
  have x33 := (hb3.cell (p := ⟨w.heap.size, 3, none⟩) (by show w.heap.size < _; omega)).trans x23
  have y30 := (hb3.cell (p := ⟨w.heap.size + 1, 0, none⟩) (by show w.heap.size + 1 < _; omega)).trans y20
  have y31 := (hb3.cell (p := ⟨w.heap.size + 1, 1, none⟩) (by show w.heap.size + 1 < _; omega)).trans y21
  have y32 := (hb3.cell (p := ⟨w.heap.size + 1, 2, none⟩) (by show w.heap.size + 1 < _; omega)).trans y22
  have y33 := (hb3.cell (p := ⟨w.heap.size + 1, 3, none⟩) (by show w.heap.size + 1 < _; omega)).trans y23
  have s3 : w.heap.size + 2 ≤ w3.heap.size := by have := hb3.size; omega
  go_wp2_with fail
  refine (eqV_lst B B' a3 b3 D.nv D.fv _ (HA.out _ k3.out).v (HB.out _ k3.out).v (by omega) (by omega)).mono ?_; rintro e w4 ⟨rfl, hb4⟩
  have k4 : Hid (Below w.heap.size w w4) := k3.out.trans (hb4.mono (by omega))
  go_wp2_with fail
  go_ret
  exact ⟨rfl, k4.out⟩

end Go.Proofs.Ytciembgenlcogad
