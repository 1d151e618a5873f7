/-
  Several texts in one.
-/
import Derived.Test.YtffmfomonmhkcaaGreatTc
import Derived.Deep.RegionWith
import Derived.Deep.Slices
import Derived.Lib.SmallJoins
import Derived.ProofKit
/-
  Contracts of the law's own comparing of two plants that hold the same.
-/
namespace Go.Proofs.YtffmfomonmhkcaaGreat
open Go.RowKit

set_option maxRecDepth 100000 in
set_option maxHeartbeats 1000000 in
theorem eqFoe (a b : ByteArray) (w : World) : Calls Tryz.prog 74 #[.agg #[.string a, .string b], .agg #[.string a, .string b]] w fun e w' => e = .returned (.bool true) ∧ Below w.heap.size w w' := by
  go_enter Tryz.func74, Tryz.ntmps74
  go_wp2
  go_ret
  exact ⟨rfl, ((Below.refl _ _).alloc (Nat.le_refl _) _).alloc (by simp) _⟩
open Go.Sort in
theorem eqFoeq (a b : ByteArray) (wr : World) (dr : Nat) (os : Array Obj) : Calls Tryz.prog 74 #[.agg #[.string a, .string b], .agg #[.string a, .string b]] (grow (redrawn wr dr) os) fun e w'' => e = .returned (.bool true) ∧ ∃ p : Regrown, w'' = grow (redrawn wr p.d) p.os :=
  Calls.regrown_of (eqFoe a b _)

set_option maxRecDepth 100000 in
set_option maxHeartbeats 1000000 in
theorem eqPlace (a b : ByteArray) (c : Int) (w : World) : Calls Tryz.prog 75 #[.agg #[.string a, .int .i64 c, .string b], .agg #[.string a, .int .i64 c, .string b]] w fun e w' => e = .returned (.bool true) ∧ Below w.heap.size w w' := by
  go_enter Tryz.func75, Tryz.ntmps75
  go_wp2
  go_ret
  exact ⟨rfl, ((Below.refl _ _).alloc (Nat.le_refl _) _).alloc (by simp) _⟩
open Go.Sort in
theorem eqPlaceq (a b : ByteArray) (c : Int) (wr : World) (dr : Nat) (os : Array Obj) : Calls Tryz.prog 75 #[.agg #[.string a, .int .i64 c, .string b], .agg #[.string a, .int .i64 c, .string b]] (grow (redrawn wr dr) os) fun e w'' => e = .returned (.bool true) ∧ ∃ p : Regrown, w'' = grow (redrawn wr p.d) p.os :=
  Calls.regrown_of (eqPlace a b c _)

set_option maxRecDepth 100000 in
set_option maxHeartbeats 1000000 in
theorem eqValve (a b c d : ByteArray) (w : World) : Calls Tryz.prog 76 #[.agg #[.string a, .string b, .string c, .string d], .agg #[.string a, .string b, .string c, .string d]] w fun e w' => e = .returned (.bool true) ∧ Below w.heap.size w w' := by
  go_enter Tryz.func76, Tryz.ntmps76
  go_wp2
  go_ret
  exact ⟨rfl, ((Below.refl _ _).alloc (Nat.le_refl _) _).alloc (by simp) _⟩
open Go.Sort in
theorem eqValveq (a b c d : ByteArray) (wr : World) (dr : Nat) (os : Array Obj) : Calls Tryz.prog 76 #[.agg #[.string a, .string b, .string c, .string d], .agg #[.string a, .string b, .string c, .string d]] (grow (redrawn wr dr) os) fun e w'' => e = .returned (.bool true) ∧ ∃ p : Regrown, w'' = grow (redrawn wr p.d) p.os :=
  Calls.regrown_of (eqValve a b c d _)

set_option maxRecDepth 100000 in
set_option maxHeartbeats 2000000 in
theorem eqS_lst (B B' : Nat) (va vb : Value) (n : Nat) (f : Nat → ByteArray) (w : World) (ha : Lst B w va n 1 (cS f)) (hb : Lst B' w vb n 1 (cS f)) (hB : B ≤ w.heap.size) (hB' : B' ≤ w.heap.size) :
    Calls Tryz.prog 12 #[va, vb] w fun e w' => e = .returned (.bool true) ∧ Below w.heap.size w w' := by
  obtain ⟨oa, ca, rfl, hn, hca⟩ := ha
  obtain ⟨ob, cb, rfl, _, hcb⟩ := hb
  unfold maxLen at hn
  have HA : Hid _ := hca
  have HB : Hid _ := hcb
  clear hca hcb
  go_enter Tryz.func12, Tryz.ntmps12
  go_wp2
  go_loopw [5] (fun i wr => ∃ k : Nat, k ≤ n ∧ i = .int .i64 k ∧ Hid (Below w.heap.size w wr)) (fun i _ => n - (intOf i).toNat)
  case atStart => exact ⟨0, Nat.zero_le _, rfl, Below.refl _ _⟩
  case round =>
    obtain ⟨k, hk, rfl, hbel⟩ := hrel
    have hs := hbel.out.size
    by_cases hlt : k < n
    · obtain ⟨ba, fa, rfl, hba, hxa⟩ := HA.out k hlt
      obtain ⟨bb, fb, rfl, hbb, hxb⟩ := HB.out k hlt
      have a0 : wr.cell? ⟨ba, fa + k, none⟩ = some (.string (f k)) := (hbel.out.cell (p := ⟨ba, fa + k, none⟩) (by show ba < _; omega)).trans (by simpa [cS] using hxa 0 (by omega))
      have qa0 := fun d os => cell_regrown a0 d os
      have c0 : wr.cell? ⟨bb, fb + k, none⟩ = some (.string (f k)) := (hbel.out.cell (p := ⟨bb, fb + k, none⟩) (by show bb < _; omega)).trans (by simpa [cS] using hxb 0 (by omega))
      have qc0 := fun d os => cell_regrown c0 d os
      go_wp2
      refine wp_region_quiet_below (by kernel_rfl) (by kernel_rfl) ?_
      repeat (first | go_big_quiet_step (fail) | quiet_step (fail))
      refine wpQuiet_nil ?_
      intro _ hw'
      obtain ⟨⟨dq, osq⟩, hw''⟩ := hw'
      subst hw''
      go_wp2
      go_roundw
      case rel => exact ⟨k + 1, by omega, by go_num, hbel.out.trans ((below_regrown _ dq osq).mono hs)⟩
      case measure => simp [intOf]; omega
    · go_wp2
      go_ret
      exact ⟨rfl, hbel.out⟩

set_option maxRecDepth 100000 in
set_option maxHeartbeats 2000000 in
theorem eqF_lst (B B' : Nat) (va vb : Value) (n : Nat) (f : Nat → ByteArray × ByteArray) (w : World) (ha : Lst B w va n 2 (cF f)) (hb : Lst B' w vb n 2 (cF f)) (hB : B ≤ w.heap.size) (hB' : B' ≤ w.heap.size) :
    Calls Tryz.prog 33 #[va, vb] w fun e w' => e = .returned (.bool true) ∧ Below w.heap.size w w' := by
  obtain ⟨oa, ca, rfl, hn, hca⟩ := ha
  obtain ⟨ob, cb, rfl, _, hcb⟩ := hb
  unfold maxLen at hn
  have HA : Hid _ := hca
  have HB : Hid _ := hcb
  clear hca hcb
  go_enter Tryz.func33, Tryz.ntmps33
  go_wp2
  go_loopw [5] (fun i wr => ∃ k : Nat, k ≤ n ∧ i = .int .i64 k ∧ Hid (Below w.heap.size w wr)) (fun i _ => n - (intOf i).toNat)
  case atStart => exact ⟨0, Nat.zero_le _, rfl, Below.refl _ _⟩
  case round =>
    obtain ⟨k, hk, rfl, hbel⟩ := hrel
    have hs := hbel.out.size
    by_cases hlt : k < n
    · obtain ⟨ba, fa, rfl, hba, hxa⟩ := HA.out k hlt
      obtain ⟨bb, fb, rfl, hbb, hxb⟩ := HB.out k hlt
      have a0 : wr.cell? ⟨ba, fa + k * 2, none⟩ = some (.string (f k).1) := (hbel.out.cell (p := ⟨ba, fa + k * 2, none⟩) (by show ba < _; omega)).trans (by simpa [cF] using hxa 0 (by omega))
      have qa0 := fun d os => cell_regrown a0 d os
      have a1 : wr.cell? ⟨ba, fa + k * 2 + 1, none⟩ = some (.string (f k).2) := (hbel.out.cell (p := ⟨ba, fa + k * 2 + 1, none⟩) (by show ba < _; omega)).trans (by simpa [cF] using hxa 1 (by omega))
      have qa1 := fun d os => cell_regrown a1 d os
      have c0 : wr.cell? ⟨bb, fb + k * 2, none⟩ = some (.string (f k).1) := (hbel.out.cell (p := ⟨bb, fb + k * 2, none⟩) (by show bb < _; omega)).trans (by simpa [cF] using hxb 0 (by omega))
      have qc0 := fun d os => cell_regrown c0 d os
      have c1 : wr.cell? ⟨bb, fb + k * 2 + 1, none⟩ = some (.string (f k).2) := (hbel.out.cell (p := ⟨bb, fb + k * 2 + 1, none⟩) (by show bb < _; omega)).trans (by simpa [cF] using hxb 1 (by omega))
      have qc1 := fun d os => cell_regrown c1 d os
      go_wp2
      refine wp_region_quiet_below (by kernel_rfl) (by kernel_rfl) ?_
      repeat (first | go_big_quiet_step (with_reducible exact eqFoeq _ _ _ _ _) | quiet_step (with_reducible exact eqFoeq _ _ _ _ _))
      refine wpQuiet_nil ?_
      intro _ hw'
      obtain ⟨⟨dq, osq⟩, hw''⟩ := hw'
      subst hw''
      go_wp2
      go_roundw
      case rel => exact ⟨k + 1, by omega, by go_num, hbel.out.trans ((below_regrown _ dq osq).mono hs)⟩
      case measure => simp [intOf]; omega
    · go_wp2
      go_ret
      exact ⟨rfl, hbel.out⟩

set_option maxRecDepth 100000 in
set_option maxHeartbeats 2000000 in
theorem eqP_lst (B B' : Nat) (va vb : Value) (n : Nat) (f : Nat → ByteArray × Int × ByteArray) (w : World) (ha : Lst B w va n 3 (cP f)) (hb : Lst B' w vb n 3 (cP f)) (hB : B ≤ w.heap.size) (hB' : B' ≤ w.heap.size) :
    Calls Tryz.prog 34 #[va, vb] w fun e w' => e = .returned (.bool true) ∧ Below w.heap.size w w' := by
  obtain ⟨oa, ca, rfl, hn, hca⟩ := ha
  obtain ⟨ob, cb, rfl, _, hcb⟩ := hb
  unfold maxLen at hn
  have HA : Hid _ := hca
  have HB : Hid _ := hcb
  clear hca hcb
  go_enter Tryz.func34, Tryz.ntmps34
  go_wp2
  go_loopw [5] (fun i wr => ∃ k : Nat, k ≤ n ∧ i = .int .i64 k ∧ Hid (Below w.heap.size w wr)) (fun i _ => n - (intOf i).toNat)
  case atStart => exact ⟨0, Nat.zero_le _, rfl, Below.refl _ _⟩
  case round =>
    obtain ⟨k, hk, rfl, hbel⟩ := hrel
    have hs := hbel.out.size
    by_cases hlt : k < n
    · obtain ⟨ba, fa, rfl, hba, hxa⟩ := HA.out k hlt
      obtain ⟨bb, fb, rfl, hbb, hxb⟩ := HB.out k hlt
      have a0 : wr.cell? ⟨ba, fa + k * 3, none⟩ = some (.string (f k).1) := (hbel.out.cell (p := ⟨ba, fa + k * 3, none⟩) (by show ba < _; omega)).trans (by simpa [cP] using hxa 0 (by omega))
      have qa0 := fun d os => cell_regrown a0 d os
      have a1 : wr.cell? ⟨ba, fa + k * 3 + 1, none⟩ = some (.int .i64 (f k).2.1) := (hbel.out.cell (p := ⟨ba, fa + k * 3 + 1, none⟩) (by show ba < _; omega)).trans (by simpa [cP] using hxa 1 (by omega))
      have qa1 := fun d os => cell_regrown a1 d os
      have a2 : wr.cell? ⟨ba, fa + k * 3 + 2, none⟩ = some (.string (f k).2.2) := (hbel.out.cell (p := ⟨ba, fa + k * 3 + 2, none⟩) (by show ba < _; omega)).trans (by simpa [cP] using hxa 2 (by omega))
      have qa2 := fun d os => cell_regrown a2 d os
      have c0 : wr.cell? ⟨bb, fb + k * 3, none⟩ = some (.string (f k).1) := (hbel.out.cell (p := ⟨bb, fb + k * 3, none⟩) (by show bb < _; omega)).trans (by simpa [cP] using hxb 0 (by omega))
      have qc0 := fun d os => cell_regrown c0 d os
      have c1 : wr.cell? ⟨bb, fb + k * 3 + 1, none⟩ = some (.int .i64 (f k).2.1) := (hbel.out.cell (p := ⟨bb, fb + k * 3 + 1, none⟩) (by show bb < _; omega)).trans (by simpa [cP] using hxb 1 (by omega))
      have qc1 := fun d os => cell_regrown c1 d os
      have c2 : wr.cell? ⟨bb, fb + k * 3 + 2, none⟩ = some (.string (f k).2.2) := (hbel.out.cell (p := ⟨bb, fb + k * 3 + 2, none⟩) (by show bb < _; omega)).trans (by simpa [cP] using hxb 2 (by omega))
      have qc2 := fun d os => cell_regrown c2 d os
      go_wp2
      refine wp_region_quiet_below (by kernel_rfl) (by kernel_rfl) ?_
      repeat (first | go_big_quiet_step (with_reducible exact eqPlaceq _ _ _ _ _ _) | quiet_step (with_reducible exact eqPlaceq _ _ _ _ _ _))
      refine wpQuiet_nil ?_
      intro _ hw'
      obtain ⟨⟨dq, osq⟩, hw''⟩ := hw'
      subst hw''
      go_wp2
      go_roundw
      case rel => exact ⟨k + 1, by omega, by go_num, hbel.out.trans ((below_regrown _ dq osq).mono hs)⟩
      case measure => simp [intOf]; omega
    · go_wp2
      go_ret
      exact ⟨rfl, hbel.out⟩

set_option maxRecDepth 100000 in
set_option maxHeartbeats 2000000 in
theorem eqV_lst (B B' : Nat) (va vb : Value) (n : Nat) (f : Nat → ByteArray × ByteArray × ByteArray × ByteArray) (w : World) (ha : Lst B w va n 4 (cV f)) (hb : Lst B' w vb n 4 (cV f)) (hB : B ≤ w.heap.size) (hB' : B' ≤ w.heap.size) :
    Calls Tryz.prog 35 #[va, vb] w fun e w' => e = .returned (.bool true) ∧ Below w.heap.size w w' := by
  obtain ⟨oa, ca, rfl, hn, hca⟩ := ha
  obtain ⟨ob, cb, rfl, _, hcb⟩ := hb
  unfold maxLen at hn
  have HA : Hid _ := hca
  have HB : Hid _ := hcb
  clear hca hcb
  go_enter Tryz.func35, Tryz.ntmps35
  go_wp2
  go_loopw [5] (fun i wr => ∃ k : Nat, k ≤ n ∧ i = .int .i64 k ∧ Hid (Below w.heap.size w wr)) (fun i _ => n - (intOf i).toNat)
  case atStart => exact ⟨0, Nat.zero_le _, rfl, Below.refl _ _⟩
  case round =>
    obtain ⟨k, hk, rfl, hbel⟩ := hrel
    have hs := hbel.out.size
    by_cases hlt : k < n
    · obtain ⟨ba, fa, rfl, hba, hxa⟩ := HA.out k hlt
      obtain ⟨bb, fb, rfl, hbb, hxb⟩ := HB.out k hlt
      have a0 : wr.cell? ⟨ba, fa + k * 4, none⟩ = some (.string (f k).1) := (hbel.out.cell (p := ⟨ba, fa + k * 4, none⟩) (by show ba < _; omega)).trans (by simpa [cV] using hxa 0 (by omega))
      have qa0 := fun d os => cell_regrown a0 d os
      have a1 : wr.cell? ⟨ba, fa + k * 4 + 1, none⟩ = some (.string (f k).2.1) := (hbel.out.cell (p := ⟨ba, fa + k * 4 + 1, none⟩) (by show ba < _; omega)).trans (by simpa [cV] using hxa 1 (by omega))
      have qa1 := fun d os => cell_regrown a1 d os
      have a2 : wr.cell? ⟨ba, fa + k * 4 + 2, none⟩ = some (.string (f k).2.2.1) := (hbel.out.cell (p := ⟨ba, fa + k * 4 + 2, none⟩) (by show ba < _; omega)).trans (by simpa [cV] using hxa 2 (by omega))
      have qa2 := fun d os => cell_regrown a2 d os
      have a3 : wr.cell? ⟨ba, fa + k * 4 + 3, none⟩ = some (.string (f k).2.2.2) := (hbel.out.cell (p := ⟨ba, fa + k * 4 + 3, none⟩) (by show ba < _; omega)).trans (by simpa [cV] using hxa 3 (by omega))
      have qa3 := fun d os => cell_regrown a3 d os
      have c0 : wr.cell? ⟨bb, fb + k * 4, none⟩ = some (.string (f k).1) := (hbel.out.cell (p := ⟨bb, fb + k * 4, none⟩) (by show bb < _; omega)).trans (by simpa [cV] using hxb 0 (by omega))
      have qc0 := fun d os => cell_regrown c0 d os
      have c1 : wr.cell? ⟨bb, fb + k * 4 + 1, none⟩ = some (.string (f k).2.1) := (hbel.out.cell (p := ⟨bb, fb + k * 4 + 1, none⟩) (by show bb < _; omega)).trans (by simpa [cV] using hxb 1 (by omega))
      have qc1 := fun d os => cell_regrown c1 d os
      have c2 : wr.cell? ⟨bb, fb + k * 4 + 2, none⟩ = some (.string (f k).2.2.1) := (hbel.out.cell (p := ⟨bb, fb + k * 4 + 2, none⟩) (by show bb < _; omega)).trans (by simpa [cV] using hxb 2 (by omega))
      have qc2 := fun d os => cell_regrown c2 d os
      have c3 : wr.cell? ⟨bb, fb + k * 4 + 3, none⟩ = some (.string (f k).2.2.2) := (hbel.out.cell (p := ⟨bb, fb + k * 4 + 3, none⟩) (by show bb < _; omega)).trans (by simpa [cV] using hxb 3 (by omega))
      have qc3 := fun d os => cell_regrown c3 d os
      go_wp2
      refine wp_region_quiet_below (by kernel_rfl) (by kernel_rfl) ?_
      repeat (first | go_big_quiet_step (with_reducible exact eqValveq _ _ _ _ _ _ _) | quiet_step (with_reducible exact eqValveq _ _ _ _ _ _ _))
      refine wpQuiet_nil ?_
      intro _ hw'
      obtain ⟨⟨dq, osq⟩, hw''⟩ := hw'
      subst hw''
      go_wp2
      go_roundw
      case rel => exact ⟨k + 1, by omega, by go_num, hbel.out.trans ((below_regrown _ dq osq).mono hs)⟩
      case measure => simp [intOf]; omega
    · go_wp2
      go_ret
      exact ⟨rfl, hbel.out⟩

set_option maxRecDepth 100000 in
set_option maxHeartbeats 2000000 in
theorem eqPlant_any (B B' : Nat) (a0 a1 a2 a3 b0 b1 b2 b3 : Value) (D : PD) (w : World) (ha : PAt B w a0 a1 a2 a3 D) (hb : PAt B' w b0 b1 b2 b3 D) (hB : B ≤ w.heap.size) (hB' : B' ≤ w.heap.size) :
    Calls Tryz.prog 11 #[.agg #[a0, a1, a2, a3], .agg #[b0, b1, b2, b3]] w fun e w' => e = .returned (.bool true) ∧ Below w.heap.size w w' := by
  have HA : Hid (∀ w', Below w.heap.size w w' → PAt B w' a0 a1 a2 a3 D) := fun w' h => ha.kept h hB
  have HB : Hid (∀ w', Below w.heap.size w w' → PAt B' w' b0 b1 b2 b3 D) := fun w' h => hb.kept h hB'
  clear ha hb
  have k0 : Hid (Below w.heap.size w ((w.alloc (.cells #[a0, a1, a2, a3] 36)).alloc (.cells #[b0, b1, b2, b3] 36))) := ((Below.refl _ _).alloc (Nat.le_refl _) _).alloc (by simp) _
  go_enter Tryz.func11, Tryz.ntmps11
  go_wp2_with fail
  refine (eqS_lst B B' a0 b0 D.ns D.fs _ (HA.out _ k0.out).s (HB.out _ k0.out).s (by simp; omega) (by simp; omega)).mono ?_; rintro e w1 ⟨rfl, hb1⟩
  have k1 : Hid (Below w.heap.size w w1) := k0.out.trans (hb1.mono (by simp; omega))
  have x10 := (hb1.cell (p := ⟨w.heap.size, 0, none⟩) (by simp; omega)).trans (cell_past (new_cell w #[a0, a1, a2, a3] 36 0 _ rfl) (by simp) (.cells #[b0, b1, b2, b3] 36))
  have x11 := (hb1.cell (p := ⟨w.heap.size, 1, none⟩) (by simp; omega)).trans (cell_past (new_cell w #[a0, a1, a2, a3] 36 1 _ rfl) (by simp) (.cells #[b0, b1, b2, b3] 36))
  have x12 := (hb1.cell (p := ⟨w.heap.size, 2, none⟩) (by simp; omega)).trans (cell_past (new_cell w #[a0, a1, a2, a3] 36 2 _ rfl) (by simp) (.cells #[b0, b1, b2, b3] 36))
  have x13 := (hb1.cell (p := ⟨w.heap.size, 3, none⟩) (by simp; omega)).trans (cell_past (new_cell w #[a0, a1, a2, a3] 36 3 _ rfl) (by simp) (.cells #[b0, b1, b2, b3] 36))
  have y10 : w1.cell? ⟨w.heap.size + 1, 0, none⟩ = some b0 := (hb1.cell (p := ⟨w.heap.size + 1, 0, none⟩) (by simp)).trans (by simp)
  have y11 : w1.cell? ⟨w.heap.size + 1, 1, none⟩ = some b1 := (hb1.cell (p := ⟨w.heap.size + 1, 1, none⟩) (by simp)).trans (by simp)
  have y12 : w1.cell? ⟨w.heap.size + 1, 2, none⟩ = some b2 := (hb1.cell (p := ⟨w.heap.size + 1, 2, none⟩) (by simp)).trans (by simp)
  have y13 : w1.cell? ⟨w.heap.size + 1, 3, none⟩ = some b3 := (hb1.cell (p := ⟨w.heap.size + 1, 3, none⟩) (by simp)).trans (by simp)
  have s1 : w.heap.size + 2 ≤ w1.heap.size := by have := hb1.size; simp at this; omega
  simp only [List.getElem_toArray, List.getElem_cons_zero, List.getElem_cons_succ] at x10 x11 x12 x13
  go_wp2_with fail
  refine (eqF_lst B B' a1 b1 D.nf D.ff _ (HA.out _ k1.out).f (HB.out _ k1.out).f (by omega) (by omega)).mono ?_; rintro e w2 ⟨rfl, hb2⟩
  have k2 : Hid (Below w.heap.size w w2) := k1.out.trans (hb2.mono (by omega))
  have x20 := (hb2.cell (p := ⟨w.heap.size, 0, none⟩) (by show w.heap.size < _; omega)).trans x10
  have x21 := (hb2.cell (p := ⟨w.heap.size, 1, none⟩) (by show w.heap.size < _; omega)).trans x11
  have x22 := (hb2.cell (p := ⟨w.heap.size, 2, none⟩) (by show w.heap.size < _; omega)).trans x12
  have x23 := (hb2.cell (p := ⟨w.heap.size, 3, none⟩) (by show w.heap.size < _; omega)).trans x13
  have y20 := (hb2.cell (p := ⟨w.heap.size + 1, 0, none⟩) (by show w.heap.size + 1 < _; omega)).trans y10
  have y21 := (hb2.cell (p := ⟨w.heap.size + 1, 1, none⟩) (by show w.heap.size + 1 < _; omega)).trans y11
  have y22 := (hb2.cell (p := ⟨w.heap.size + 1, 2, none⟩) (by show w.heap.size + 1 < _; omega)).trans y12
  have y23 := (hb2.cell (p := ⟨w.heap.size + 1, 3, none⟩) (by show w.heap.size + 1 < _; omega)).trans y13
  have s2 : w.heap.size + 2 ≤ w2.heap.size := by have := hb2.size; omega
  go_wp2_with fail
  refine (eqP_lst B B' a2 b2 D.np D.fp _ (HA.out _ k2.out).p (HB.out _ k2.out).p (by omega) (by omega)).mono ?_; rintro e w3 ⟨rfl, hb3⟩
  have k3 : Hid (Below w.heap.size w w3) := k2.out.trans (hb3.mono (by omega))
  have x30 := (hb3.cell (p := ⟨w.heap.size, 0, none⟩) (by show w.heap.size < _; omega)).trans x20
  have x31 := (hb3.cell (p := ⟨w.heap.size, 1, none⟩) (by show w.heap.size < _; omega)).trans x21
  have x32 := (hb3.cell (p := ⟨w.heap.size, 2, none⟩) (by show w.heap.size < _; omega)).trans x22
  have x33 := (hb3.cell (p := ⟨w.heap.size, 3, none⟩) (by show w.heap.size < _; omega)).trans x23
  have y30 := (hb3.cell (p := ⟨w.heap.size + 1, 0, none⟩) (by show w.heap.size + 1 < _; omega)).trans y20
  have y31 := (hb3.cell (p := ⟨w.heap.size + 1, 1, none⟩) (by show w.heap.size + 1 < _; omega)).trans y21
  have y32 := (hb3.cell (p := ⟨w.heap.size + 1, 2, none⟩) (by show w.heap.size + 1 < _; omega)).trans y22
  have y33 := (hb3.cell (p := ⟨w.heap.size + 1, 3, none⟩) (by show w.heap.size + 1 < _; omega)).trans y23
  have s3 : w.heap.size + 2 ≤ w3.heap.size := by have := hb3.size; omega
  go_wp2_with fail
  refine (eqV_lst B B' a3 b3 D.nv D.fv _ (HA.out _ k3.out).v (HB.out _ k3.out).v (by omega) (by omega)).mono ?_; rintro e w4 ⟨rfl, hb4⟩
  have k4 : Hid (Below w.heap.size w w4) := k3.out.trans (hb4.mono (by omega))
  go_wp2_with fail
  go_ret
  exact ⟨rfl, k4.out⟩

end Go.Proofs.YtffmfomonmhkcaaGreat

/-
  Two small laws.
-/
namespace Go.Proofs.YtffmfomonmhkcaaGreat
open Go.RowKit

theorem PD.All.sz {D : PD} (h : D.All) : D.Sz := ⟨h.s, h.p, fun i hi => ⟨(h.v i hi).1, (h.v i hi).2.2.2⟩⟩

theorem bool_same {a b : Bool} {p : Prop} (h1 : a = true ↔ p) (h2 : b = true ↔ p) : a = b := by
  rw [Bool.eq_iff_iff]; exact h1.trans h2.symm

end Go.Proofs.YtffmfomonmhkcaaGreat

/-
  From a plant that can be read to its lists in memory.
-/
namespace Go.Proofs.YtffmfomonmhkcaaGreat
open Go.ChangeShapes Go.WideShapes Go.ChangeAt Go.RowKit

theorem c9 : Tryz.prog.cellsOf 9 = 1 := by kernel_rfl
theorem c3 : Tryz.prog.cellsOf 3 = 1 := by kernel_rfl
theorem c84 : Tryz.prog.cellsOf 77 = 2 := by kernel_rfl
theorem c87 : Tryz.prog.cellsOf 80 = 3 := by kernel_rfl
theorem c90 : Tryz.prog.cellsOf 83 = 4 := by kernel_rfl

section
variable {H : Type} {enc : TypeId × Value → H} {w : World} {base : Nat} {spare : Nat → Bool} {held : Bool}

/-- A list that can be read, its elements' cells as a function says. -/
theorem lst_of {t e : TypeId} {fuel k : Nat} {v : Value} {x : DataW H × List MemPlace} {α : Type} [Inhabited α] (ht : Tryz.prog.underlying t = some (.slice e)) (hk : Tryz.prog.cellsOf e = k) (hk1 : 1 ≤ k) (c : (Nat → α) → Nat → Nat → Value) (q : α → Prop)
    (hc : ∀ f i j, c f i j = c (fun _ => f i) 0 j)
    (hel : ∀ n cs y, cs.length = k → DataW.trod enc Tryz.prog w base spare held n e cs = some y → ∃ a : α, q a ∧ ∀ j, j < k → cs[j]? = some (c (fun _ => a) 0 j))
    (h : DataW.trod enc Tryz.prog w base spare held fuel t [v] = some x) : ∃ (n : Nat) (f : Nat → α), Lst w.heap.size w v n k (c f) ∧ ∀ i, i < n → q (f i) := by
  rcases Deep.open_slice ht h with ⟨h1, _⟩ | ⟨a, len, cap, m, n, D, Pl, h1, hb, hl, hm, hmm, _, hx⟩
  · simp at h1; subst h1
    exact ⟨0, fun _ => default, ⟨none, 0, rfl, Nat.zero_le _, fun i hi => by omega⟩, fun i hi => by omega⟩
  · simp at h1; subst h1
    have hle : len ≤ m := by rw [hmm]; split <;> omega
    obtain ⟨f, hf⟩ := Deep.choose_lt (α := α) (n := len) (p := fun i a' => q a' ∧ ∀ j, j < k → w.cell? ((a.add (i * k)).add j) = some (c (fun _ => a') 0 j)) (fun i hi => by
      obtain ⟨cs', h2, h3⟩ := hx i (by omega)
      rw [hk] at h2
      obtain ⟨_, h4, h5⟩ := World.cells?_some h2
      obtain ⟨a', hq, h6⟩ := hel n cs' _ h4 h3
      exact ⟨a', hq, fun j hj => (h5 j hj).trans (h6 j hj)⟩)
    refine ⟨len, f, ⟨some a, cap, rfl, Nat.le_trans hl hm, fun i hi => ?_⟩, fun i hi => (hf i hi).1⟩
    have h0 := (hf 0 (by omega)).2 0 hk1
    have hsp : a.spot = none := by
      have h7 := World.cell?_spot h0
      simpa [Addr.add] using h7
    obtain ⟨b, off, sp⟩ := a
    simp only at hsp
    subst hsp
    refine ⟨b, off, rfl, ?_, fun j hj => ?_⟩
    · exact World.block_lt_of_cell? w _ (by simpa [add_plain] using h0)
    · have h8 := (hf i hi).2 j hj
      rw [add_plain, add_plain] at h8
      rw [hc]; exact h8

theorem el_str {n : Nat} {cs : List Value} {y : DataW H × List MemPlace} (h : DataW.trod enc Tryz.prog w base spare held n 9 cs = some y) : ∃ a : ByteArray, cs = [.string a] ∧ a.size ≤ maxLen := by
  obtain ⟨s, h1, _, h2⟩ := DataW.trod_string Tryz.underlying9 h
  exact ⟨s, h1, h2⟩
theorem el_int {n : Nat} {cs : List Value} {y : DataW H × List MemPlace} (h : DataW.trod enc Tryz.prog w base spare held n 3 cs = some y) : ∃ a : Int, cs = [.int .i64 a] := by
  obtain ⟨s, h1, _, _⟩ := DataW.trod_int Tryz.underlying3 h
  exact ⟨s, h1⟩

theorem lst_str {fuel : Nat} {v : Value} {x : DataW H × List MemPlace} (h : DataW.trod enc Tryz.prog w base spare held fuel 22 [v] = some x) : ∃ (n : Nat) (f : Nat → ByteArray), Lst w.heap.size w v n 1 (cS f) ∧ ∀ i, i < n → (f i).size ≤ maxLen :=
  lst_of (α := ByteArray) Tryz.underlying22 c9 (Nat.le_refl _) cS (fun a => a.size ≤ maxLen) (fun _ _ _ => rfl) (fun n cs y hl hy => by
    obtain ⟨a, rfl, ha⟩ := el_str hy
    exact ⟨a, ha, fun j hj => by
      have e : j = 0 := by omega
      subst e; rfl⟩) h

theorem lst_foe {fuel : Nat} {v : Value} {x : DataW H × List MemPlace} (h : DataW.trod enc Tryz.prog w base spare held fuel 23 [v] = some x) : ∃ (n : Nat) (f : Nat → ByteArray × ByteArray), Lst w.heap.size w v n 2 (cF f) ∧ ∀ i, i < n → (f i).1.size ≤ maxLen ∧ (f i).2.size ≤ maxLen :=
  lst_of (α := ByteArray × ByteArray) Tryz.underlying23 c84 (by omega) cF (fun a => a.1.size ≤ maxLen ∧ a.2.size ≤ maxLen) (fun _ _ _ => rfl) (fun n cs y hl hy => by
    match cs, hl with
    | [x0, x1], _ =>
      obtain ⟨xs, m, _, _, _, hlen, hf⟩ := DataW.trod_struct Tryz.underlying77 hy
      have g0 : DataW.trod enc Tryz.prog w base spare held m 9 [x0] = xs[0]? := by simpa [c9, c3] using hf 0 _ rfl
      have g1 : DataW.trod enc Tryz.prog w base spare held m 9 [x1] = xs[1]? := by simpa [c9, c3] using hf 1 _ rfl
      rw [List.getElem?_eq_getElem (by rw [hlen]; decide)] at g0 g1
      obtain ⟨a0, e0, k0⟩ := el_str g0
      obtain ⟨a1, e1, k1⟩ := el_str g1
      simp at e0 e1
      subst e0 e1
      exact ⟨(a0, a1), ⟨k0, k1⟩, fun j hj => by
        rcases (show j = 0 ∨ j = 1 by omega) with rfl | rfl <;> rfl⟩) h

theorem lst_place {fuel : Nat} {v : Value} {x : DataW H × List MemPlace} (h : DataW.trod enc Tryz.prog w base spare held fuel 24 [v] = some x) : ∃ (n : Nat) (f : Nat → ByteArray × Int × ByteArray), Lst w.heap.size w v n 3 (cP f) ∧ ∀ i, i < n → (f i).1.size ≤ maxLen ∧ (f i).2.2.size ≤ maxLen :=
  lst_of (α := ByteArray × Int × ByteArray) Tryz.underlying24 c87 (by omega) cP (fun a => a.1.size ≤ maxLen ∧ a.2.2.size ≤ maxLen) (fun _ _ _ => rfl) (fun n cs y hl hy => by
    match cs, hl with
    | [x0, x1, x2], _ =>
      obtain ⟨xs, m, _, _, _, hlen, hf⟩ := DataW.trod_struct Tryz.underlying80 hy
      have g0 : DataW.trod enc Tryz.prog w base spare held m 9 [x0] = xs[0]? := by simpa [c9, c3] using hf 0 _ rfl
      have g1 : DataW.trod enc Tryz.prog w base spare held m 3 [x1] = xs[1]? := by simpa [c9, c3] using hf 1 _ rfl
      have g2 : DataW.trod enc Tryz.prog w base spare held m 9 [x2] = xs[2]? := by simpa [c9, c3] using hf 2 _ rfl
      rw [List.getElem?_eq_getElem (by rw [hlen]; decide)] at g0 g1 g2
      obtain ⟨a0, e0, k0⟩ := el_str g0
      obtain ⟨a1, e1⟩ := el_int g1
      obtain ⟨a2, e2, k2⟩ := el_str g2
      simp at e0 e1 e2
      subst e0 e1 e2
      exact ⟨(a0, a1, a2), ⟨k0, k2⟩, fun j hj => by
        rcases (show j = 0 ∨ j = 1 ∨ j = 2 by omega) with rfl | rfl | rfl <;> rfl⟩) h

theorem lst_valve {fuel : Nat} {v : Value} {x : DataW H × List MemPlace} (h : DataW.trod enc Tryz.prog w base spare held fuel 25 [v] = some x) : ∃ (n : Nat) (f : Nat → ByteArray × ByteArray × ByteArray × ByteArray), Lst w.heap.size w v n 4 (cV f) ∧ ∀ i, i < n → (f i).1.size ≤ maxLen ∧ (f i).2.1.size ≤ maxLen ∧ (f i).2.2.1.size ≤ maxLen ∧ (f i).2.2.2.size ≤ maxLen :=
  lst_of (α := ByteArray × ByteArray × ByteArray × ByteArray) Tryz.underlying25 c90 (by omega) cV (fun a => a.1.size ≤ maxLen ∧ a.2.1.size ≤ maxLen ∧ a.2.2.1.size ≤ maxLen ∧ a.2.2.2.size ≤ maxLen) (fun _ _ _ => rfl) (fun n cs y hl hy => by
    match cs, hl with
    | [x0, x1, x2, x3], _ =>
      obtain ⟨xs, m, _, _, _, hlen, hf⟩ := DataW.trod_struct Tryz.underlying83 hy
      have g0 : DataW.trod enc Tryz.prog w base spare held m 9 [x0] = xs[0]? := by simpa [c9, c3] using hf 0 _ rfl
      have g1 : DataW.trod enc Tryz.prog w base spare held m 9 [x1] = xs[1]? := by simpa [c9, c3] using hf 1 _ rfl
      have g2 : DataW.trod enc Tryz.prog w base spare held m 9 [x2] = xs[2]? := by simpa [c9, c3] using hf 2 _ rfl
      have g3 : DataW.trod enc Tryz.prog w base spare held m 9 [x3] = xs[3]? := by simpa [c9, c3] using hf 3 _ rfl
      rw [List.getElem?_eq_getElem (by rw [hlen]; decide)] at g0 g1 g2 g3
      obtain ⟨a0, e0, k0⟩ := el_str g0
      obtain ⟨a1, e1, k1⟩ := el_str g1
      obtain ⟨a2, e2, k2⟩ := el_str g2
      obtain ⟨a3, e3, k3⟩ := el_str g3
      simp at e0 e1 e2 e3
      subst e0 e1 e2 e3
      exact ⟨(a0, a1, a2, a3), ⟨k0, k1, k2, k3⟩, fun j hj => by
        rcases (show j = 0 ∨ j = 1 ∨ j = 2 ∨ j = 3 by omega) with rfl | rfl | rfl | rfl <;> rfl⟩) h

set_option maxRecDepth 100000 in
theorem plant_of {r : Reach} {b0 : Nat} {v : Value} {d : DataW H} {p : List MemPlace} (hv : Value.okWide Tryz.prog w r b0 27 v) (h : DataW.Trod enc Tryz.prog w base spare held 27 v d p) :
    ∃ v0 v1 v2 v3 D, v = .agg #[v0, v1, v2, v3] ∧ PAt w.heap.size w v0 v1 v2 v3 D ∧ D.All := by
  obtain ⟨v0, v1, v2, v3, y0, y1, y2, y3, n, rfl, _, _, h0, h1, h2, h3⟩ := Joins.open_agg4 Tryz.underlying27 (by kernel_rfl) (by kernel_rfl) hv h
  obtain ⟨ns, fs, a0, b0⟩ := lst_str h0
  obtain ⟨nf, ff, a1, b1⟩ := lst_foe h1
  obtain ⟨np, fp, a2, b2⟩ := lst_place h2
  obtain ⟨nv, fv, a3, b3⟩ := lst_valve h3
  exact ⟨v0, v1, v2, v3, ⟨ns, fs, nf, ff, np, fp, nv, fv⟩, rfl, ⟨a0, a1, a2, a3⟩, ⟨b0, b1, b2, b3⟩⟩
end

end Go.Proofs.YtffmfomonmhkcaaGreat
