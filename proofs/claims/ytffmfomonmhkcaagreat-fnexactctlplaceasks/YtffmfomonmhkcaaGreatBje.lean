/-
  Contracts of the laws' own comparing of asks that hold the same.
-/
import Derived.Test.YtffmfomonmhkcaaGreatCwe
import Derived.Test.YtffmfomonmhkcaaGreatM21
import Derived.Test.YtffmfomonmhkcaaGreatKt
import Derived.Deep.Cut
namespace Go.Proofs.YtffmfomonmhkcaaGreat
open Go.RowKit

set_option maxRecDepth 100000 in
set_option maxHeartbeats 4000000 in
theorem eqCtlAsk_any (S S' : Nat → Prop) (a : DCtlAsk) (c c' : Nat → Value) (w : World) (h : Lay.At S w a c) (h' : Lay.At S' w a c') (hS : ∀ b, S b → b < w.heap.size) (hS' : ∀ b, S' b → b < w.heap.size) :
    Calls Tryz.prog 32 #[.agg #[c 0, c 1, c 2, c 3, c 4, c 5, c 6], .agg #[c' 0, c' 1, c' 2, c' 3, c' 4, c' 5, c' 6]] w fun e w' => e = .returned (.bool true) ∧ Below w.heap.size w w' := by
  rw [at_DCtlAsk] at h h'
  obtain ⟨⟨ep0, _⟩, hp⟩ := h
  obtain ⟨⟨eq0, _⟩, hq⟩ := h'
  have HP : Lay.At S w a.2 (fun j => c (j + 1)) := at_DClaimWant.2 hp
  have HQ : Lay.At S' w a.2 (fun j => c' (j + 1)) := at_DClaimWant.2 hq
  rw [ep0, eq0]
  clear ep0 eq0 hp hq
  obtain ⟨W, hW⟩ : ∃ u, u = (w.alloc (.cells #[.string a.1, c 1, c 2, c 3, c 4, c 5, c 6] 66)).alloc (.cells #[.string a.1, c' 1, c' 2, c' 3, c' 4, c' 5, c' 6] 66) := ⟨_, rfl⟩
  have EW : Hid (W = (w.alloc (.cells #[.string a.1, c 1, c 2, c 3, c 4, c 5, c 6] 66)).alloc (.cells #[.string a.1, c' 1, c' 2, c' 3, c' 4, c' 5, c' 6] 66)) := hW
  have bW : Hid (Below w.heap.size w W) := by rw [hW]; exact ((Below.refl _ _).alloc (Nat.le_refl _) _).alloc (by simp) _
  have bx : Hid (∀ w', Below (w.heap.size + 1 + 1) W w' → (w'.cell? ⟨w.heap.size, 0, none⟩ = some (.string a.1) ∧ w'.cell? ⟨w.heap.size, 1, none⟩ = some (c 1) ∧ w'.cell? ⟨w.heap.size, 2, none⟩ = some (c 2) ∧ w'.cell? ⟨w.heap.size, 3, none⟩ = some (c 3) ∧ w'.cell? ⟨w.heap.size, 4, none⟩ = some (c 4) ∧ w'.cell? ⟨w.heap.size, 5, none⟩ = some (c 5) ∧ w'.cell? ⟨w.heap.size, 6, none⟩ = some (c 6)) ∧ w'.cell? ⟨w.heap.size + 1, 0, none⟩ = some (.string a.1) ∧ w'.cell? ⟨w.heap.size + 1, 1, none⟩ = some (c' 1) ∧ w'.cell? ⟨w.heap.size + 1, 2, none⟩ = some (c' 2) ∧ w'.cell? ⟨w.heap.size + 1, 3, none⟩ = some (c' 3) ∧ w'.cell? ⟨w.heap.size + 1, 4, none⟩ = some (c' 4) ∧ w'.cell? ⟨w.heap.size + 1, 5, none⟩ = some (c' 5) ∧ w'.cell? ⟨w.heap.size + 1, 6, none⟩ = some (c' 6)) := fun w' hb => by
    rw [hW] at hb
    obtain ⟨h1, h2⟩ := two_box hb
    exact ⟨⟨h1 0 _ rfl, h1 1 _ rfl, h1 2 _ rfl, h1 3 _ rfl, h1 4 _ rfl, h1 5 _ rfl, h1 6 _ rfl⟩, h2 0 _ rfl, h2 1 _ rfl, h2 2 _ rfl, h2 3 _ rfl, h2 4 _ rfl, h2 5 _ rfl, h2 6 _ rfl⟩
  have sW : w.heap.size + 1 + 1 ≤ W.heap.size := by rw [hW]; simp
  clear hW
  have kP : Hid (Lay.At S W a.2 (fun j => c (j + 1))) := Lay.same HP (Same.of_below bW.out hS)
  have kQ : Hid (Lay.At S' W a.2 (fun j => c' (j + 1))) := Lay.same HQ (Same.of_below bW.out hS')
  clear HP HQ
  go_enter Tryz.func32, Tryz.ntmps32
  go_upto_region 1 with fail
  rw [← EW.out]
  obtain ⟨⟨x0, x1, x2, x3, x4, x5, x6⟩, y0, y1, y2, y3, y4, y5, y6⟩ := bx.out W (Below.refl _ _)
  go_wp2_with fail
  refine (eqClaimWant_any S S' a.2 (fun j => c (j + 1)) (fun j => c' (j + 1)) _ kP.out kQ.out (fun b hb => Nat.lt_of_lt_of_le (hS b hb) bW.out.size) (fun b hb => Nat.lt_of_lt_of_le (hS' b hb) bW.out.size)).mono ?_
  rintro e w1 ⟨rfl, hb1⟩
  have b1 : Hid (Below w.heap.size w w1) := bW.out.trans (hb1.mono bW.out.size)
  clear hb1
  go_wp2_with fail
  go_ret
  exact ⟨rfl, b1.out⟩
open Go.Sort in
theorem eqCtlAskq (S S' : Nat → Prop) (a : DCtlAsk) (c c' : Nat → Value) (wr : World) (h : Lay.At S wr a c) (h' : Lay.At S' wr a c') (hS : ∀ b, S b → b < wr.heap.size) (hS' : ∀ b, S' b → b < wr.heap.size) (d : Nat) (os : Array Obj) : Calls Tryz.prog 32 #[.agg #[c 0, c 1, c 2, c 3, c 4, c 5, c 6], .agg #[c' 0, c' 1, c' 2, c' 3, c' 4, c' 5, c' 6]] (grow (redrawn wr d) os) fun e w'' => e = .returned (.bool true) ∧ ∃ p : Regrown, w'' = grow (redrawn wr p.d) p.os :=
  Calls.regrown_of (eqCtlAsk_any S S' a c c' _ (Lay.same h (Same.of_below (below_regrown wr d os) hS)) (Lay.same h' (Same.of_below (below_regrown wr d os) hS')) (fun b hb => Nat.lt_of_lt_of_le (hS b hb) (below_regrown wr d os).size) (fun b hb => Nat.lt_of_lt_of_le (hS' b hb) (below_regrown wr d os).size))

set_option maxRecDepth 100000 in
set_option maxHeartbeats 4000000 in
theorem eqCtlAskS_any (S S' : Nat → Prop) (l : List DCtlAsk) (va vb : Value) (w : World) (ha : AtL S w l va) (hb : AtL S' w l vb) (hS : ∀ b, S b → b < w.heap.size) (hS' : ∀ b, S' b → b < w.heap.size) :
    Calls Tryz.prog 10 #[va, vb] w fun e w' => e = .returned (.bool true) ∧ Below w.heap.size w w' := by
  obtain ⟨oa, ca, rfl, hn, hca⟩ := ha
  obtain ⟨ob, cb, rfl, _, hcb⟩ := hb
  obtain ⟨n, en⟩ : ∃ n, l.length = n := ⟨_, rfl⟩
  rw [en] at hn
  rw [en]
  unfold maxLen at hn
  have HA : Hid _ := hca
  have HB : Hid _ := hcb
  clear hca hcb
  go_enter Tryz.func10, Tryz.ntmps10
  go_wp2
  go_loopw [5] (fun i wr => ∃ k : Nat, k ≤ n ∧ i = .int .i64 k ∧ Hid (Below w.heap.size w wr)) (fun i _ => n - (intOf i).toNat)
  case atStart => exact ⟨0, Nat.zero_le _, rfl, Below.refl _ _⟩
  case round =>
    obtain ⟨k, hk, rfl, hbel⟩ := hrel
    have hs := hbel.out.size
    by_cases hlt : k < n
    · obtain ⟨ba, fa, rfl, hba, cc, hxa, hata⟩ := HA.out k (by omega)
      obtain ⟨bb, fb, rfl, hbb, dd, hxb, hatb⟩ := HB.out k (by omega)
      have hba' := hS ba hba
      have hbb' := hS' bb hbb
      rw [width_DCtlAsk] at hxa hxb
      have a0 : wr.cell? ⟨ba, fa + k * 7, none⟩ = some (cc 0) := (hbel.out.cell (p := ⟨ba, fa + k * 7, none⟩) (by show ba < _; omega)).trans (hxa 0 (by omega))
      have a1 : wr.cell? ⟨ba, fa + k * 7 + 1, none⟩ = some (cc 1) := (hbel.out.cell (p := ⟨ba, fa + k * 7 + 1, none⟩) (by show ba < _; omega)).trans (hxa 1 (by omega))
      have a2 : wr.cell? ⟨ba, fa + k * 7 + 2, none⟩ = some (cc 2) := (hbel.out.cell (p := ⟨ba, fa + k * 7 + 2, none⟩) (by show ba < _; omega)).trans (hxa 2 (by omega))
      have a3 : wr.cell? ⟨ba, fa + k * 7 + 3, none⟩ = some (cc 3) := (hbel.out.cell (p := ⟨ba, fa + k * 7 + 3, none⟩) (by show ba < _; omega)).trans (hxa 3 (by omega))
      have a4 : wr.cell? ⟨ba, fa + k * 7 + 4, none⟩ = some (cc 4) := (hbel.out.cell (p := ⟨ba, fa + k * 7 + 4, none⟩) (by show ba < _; omega)).trans (hxa 4 (by omega))
      have a5 : wr.cell? ⟨ba, fa + k * 7 + 5, none⟩ = some (cc 5) := (hbel.out.cell (p := ⟨ba, fa + k * 7 + 5, none⟩) (by show ba < _; omega)).trans (hxa 5 (by omega))
      have a6 : wr.cell? ⟨ba, fa + k * 7 + 6, none⟩ = some (cc 6) := (hbel.out.cell (p := ⟨ba, fa + k * 7 + 6, none⟩) (by show ba < _; omega)).trans (hxa 6 (by omega))
      have c0 : wr.cell? ⟨bb, fb + k * 7, none⟩ = some (dd 0) := (hbel.out.cell (p := ⟨bb, fb + k * 7, none⟩) (by show bb < _; omega)).trans (hxb 0 (by omega))
      have c1 : wr.cell? ⟨bb, fb + k * 7 + 1, none⟩ = some (dd 1) := (hbel.out.cell (p := ⟨bb, fb + k * 7 + 1, none⟩) (by show bb < _; omega)).trans (hxb 1 (by omega))
      have c2 : wr.cell? ⟨bb, fb + k * 7 + 2, none⟩ = some (dd 2) := (hbel.out.cell (p := ⟨bb, fb + k * 7 + 2, none⟩) (by show bb < _; omega)).trans (hxb 2 (by omega))
      have c3 : wr.cell? ⟨bb, fb + k * 7 + 3, none⟩ = some (dd 3) := (hbel.out.cell (p := ⟨bb, fb + k * 7 + 3, none⟩) (by show bb < _; omega)).trans (hxb 3 (by omega))
      have c4 : wr.cell? ⟨bb, fb + k * 7 + 4, none⟩ = some (dd 4) := (hbel.out.cell (p := ⟨bb, fb + k * 7 + 4, none⟩) (by show bb < _; omega)).trans (hxb 4 (by omega))
      have c5 : wr.cell? ⟨bb, fb + k * 7 + 5, none⟩ = some (dd 5) := (hbel.out.cell (p := ⟨bb, fb + k * 7 + 5, none⟩) (by show bb < _; omega)).trans (hxb 5 (by omega))
      have c6 : wr.cell? ⟨bb, fb + k * 7 + 6, none⟩ = some (dd 6) := (hbel.out.cell (p := ⟨bb, fb + k * 7 + 6, none⟩) (by show bb < _; omega)).trans (hxb 6 (by omega))
      have HAA : Hid (Lay.At S wr (l[k]'(by omega)) cc) := Lay.same hata (Same.of_below hbel.out hS)
      have HBB : Hid (Lay.At S' wr (l[k]'(by omega)) dd) := Lay.same hatb (Same.of_below hbel.out hS')
      clear hata hatb
      have hSr : ∀ b, S b → b < wr.heap.size := fun b hb => Nat.lt_of_lt_of_le (hS b hb) hs
      have hSr' : ∀ b, S' b → b < wr.heap.size := fun b hb => Nat.lt_of_lt_of_le (hS' b hb) hs
      clear hxa hxb
      have qa0 := fun d os => cell_regrown a0 d os
      have qa1 := fun d os => cell_regrown a1 d os
      have qa2 := fun d os => cell_regrown a2 d os
      have qa3 := fun d os => cell_regrown a3 d os
      have qa4 := fun d os => cell_regrown a4 d os
      have qa5 := fun d os => cell_regrown a5 d os
      have qa6 := fun d os => cell_regrown a6 d os
      have qc0 := fun d os => cell_regrown c0 d os
      have qc1 := fun d os => cell_regrown c1 d os
      have qc2 := fun d os => cell_regrown c2 d os
      have qc3 := fun d os => cell_regrown c3 d os
      have qc4 := fun d os => cell_regrown c4 d os
      have qc5 := fun d os => cell_regrown c5 d os
      have qc6 := fun d os => cell_regrown c6 d os
      go_wp2
      refine wp_region_quiet_below (by kernel_rfl) (by kernel_rfl) ?_
      repeat (first | go_big_quiet_step (with_reducible exact eqCtlAskq S S' _ _ _ _ HAA.out HBB.out hSr hSr' _ _) | quiet_step (with_reducible exact eqCtlAskq S S' _ _ _ _ HAA.out HBB.out hSr hSr' _ _))
      refine wpQuiet_nil ?_
      intro _ hw'
      obtain ⟨⟨dq, osq⟩, hw''⟩ := hw'
      subst hw''
      go_wp2
      go_roundw
      case rel => exact ⟨k + 1, by omega, by go_num, hbel.out.trans ((below_regrown _ dq osq).mono hs)⟩
      case measure => simp [intOf]; omega
    · go_wp2
      go_ret
      exact ⟨rfl, hbel.out⟩

end Go.Proofs.YtffmfomonmhkcaaGreat
