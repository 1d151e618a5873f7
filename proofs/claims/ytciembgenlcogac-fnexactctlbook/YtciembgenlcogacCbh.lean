/-
  Contracts of the laws' own asking for the marks.
-/
import Derived.Test.YtciembgenlcogacCbm
namespace Go.Proofs.Ytciembgenlcogac
open Go.RowKit

theorem at_DClaimBookL {S : Nat → Prop} {w : World} {a : DClaimBookL} {c : Nat → Value} : Lay.At S w a c ↔ AtL S w a.1 (c 0) ∧ AtL S w a.2.1 (c 1) ∧ AtL S w a.2.2.1 (c 2) ∧ AtL S w a.2.2.2 (c 3) := Iff.rfl

set_option maxRecDepth 100000 in
set_option maxHeartbeats 4000000 in
theorem heldStringS_any (S : Nat → Prop) (l : List ByteArray) (v : Value) (k : Int) (w : World) (h : AtL S w (mkL k l) v) (hS : ∀ b, S b → b < w.heap.size) (h1 : 1 ≤ k) (h2 : k + cntL l ≤ 20000000) :
    Calls Try.prog 42 #[v, .int .i64 k] w fun e w' => e = .returned (.int .i64 (k + cntL l)) ∧ Below w.heap.size w w' := by
  obtain ⟨oa, cap, rfl, hn, hc⟩ := h
  have HC : Hid _ := hc
  have HS : Hid (∀ b, S b → b < w.heap.size) := hS
  have HML : Hid ((mkL k l).length = l.length) := mkL_len k l
  have HCL : Hid (cntTo l l.length = cntL l) := rfl
  have HCM : Hid (∀ i, i < l.length → cntTo l (i + 1) ≤ cntL l) := cntTo_le l
  rw [mkL_len] at hn
  unfold maxLen at hn
  rw [mkL_len]
  clear hc hS
  obtain ⟨n, en⟩ : ∃ n, l.length = n := ⟨_, rfl⟩
  obtain ⟨m, em⟩ : ∃ m, cntL l = m := ⟨_, rfl⟩
  rw [en] at hn
  rw [em] at h2
  rw [en, em]
  have EN : Hid (l.length = n) := en
  have EM : Hid (cntL l = m) := em
  clear en em
  go_enter Try.func42, Try.ntmps42
  go_wp2
  go_loopw [1, 5] (fun q i wr => ∃ i' : Nat, i' ≤ n ∧ i = .int .i64 i' ∧ q = .int .i64 (k + cntTo l i') ∧ Hid (Below w.heap.size w wr)) (fun _ i _ => n - (intOf i).toNat)
  case atStart => exact ⟨0, Nat.zero_le _, rfl, by rw [cntTo_zero]; simp, Below.refl _ _⟩
  case round =>
    obtain ⟨i, hi, rfl, rfl, hbel⟩ := hrel
    have hsz := hbel.out.size
    by_cases hlt : i < n
    · have hil : i < l.length := by have := EN.out; omega
      obtain ⟨b, off, rfl, hbS, cc, hcell, hat⟩ := HC.out i (by rw [HML.out]; exact hil)
      have hb := HS.out b hbS
      rw [mkL_at k l i hil] at hat
      have hcs := cntTo_succ l i hil
      have hle := HCM.out i hil
      obtain ⟨a, ea⟩ : ∃ a, l[i]'hil = a := ⟨_, rfl⟩
      rw [ea] at hcs hat
      rw [show Own.cnt a = 1 from rfl] at hcs
      rw [hcs, EM.out] at hle
      have HCS : Hid _ := hcs
      obtain ⟨p, ep⟩ : ∃ p, cntTo l i = p := ⟨_, rfl⟩
      rw [ep] at hle HCS hat
      rw [ep]
      clear hcs ep ea hil
      rw [width_str] at hcell
      have e0 : w.cell? ⟨b, off + i, none⟩ = some (cc 0) := by simpa using hcell 0 (by omega)
      clear hcell
      obtain ⟨ge0, _⟩ := at_str.1 hat
      clear hat
      have ge0 : cc 0 = .string (mkO (k + p)) := ge0
      rw [ge0] at e0
      clear ge0
      have E0 : Hid (w.cell? ⟨b, off + i, none⟩ = some (.string (mkO (k + p)))) := e0
      clear e0
      have c0 : wr.cell? ⟨b, off + i, none⟩ = some (.string (mkO (k + p))) := (hbel.out.cell (p := ⟨b, off + i, none⟩) (by show b < _; exact hb)).trans E0.out
      have gw0 : b < wr.heap.size := by omega
      go_wp2
      go_region_with (go_at_call 66; refine (mkTx_any _ _ (by omega) (by omega)).mono ?_; rintro e u0 ⟨rfl, hb0⟩; have d0 := (hb0.cell (p := ⟨b, off + i, none⟩) gw0).trans c0)
      all_goals
        have bl0 : Hid (Below w.heap.size w u0) := hbel.out.drew.trans (hb0.mono hsz)
        have sz0 := bl0.out.size
        go_wp2
        go_roundw
        case rel => exact ⟨i + 1, by omega, by go_num, by rw [HCS.out]; congr 1; omega, bl0.out⟩
        case measure => simp [intOf]; omega
    · have hin : i = n := by omega
      subst hin
      have hck : cntTo l i = m := by rw [← EM.out, ← HCL.out, EN.out]
      rw [hck]
      clear hck
      go_wp2
      go_ret
      exact ⟨rfl, hbel.out⟩

set_option maxRecDepth 100000 in
set_option maxHeartbeats 4000000 in
theorem heldClaimUseS_any (S : Nat → Prop) (l : List DClaimUse) (v : Value) (k : Int) (w : World) (h : AtL S w (mkL k l) v) (hS : ∀ b, S b → b < w.heap.size) (h1 : 1 ≤ k) (h2 : k + cntL l ≤ 20000000) :
    Calls Try.prog 68 #[v, .int .i64 k] w fun e w' => e = .returned (.int .i64 (k + cntL l)) ∧ Below w.heap.size w w' := by
  obtain ⟨oa, cap, rfl, hn, hc⟩ := h
  have HC : Hid _ := hc
  have HS : Hid (∀ b, S b → b < w.heap.size) := hS
  have HML : Hid ((mkL k l).length = l.length) := mkL_len k l
  have HCL : Hid (cntTo l l.length = cntL l) := rfl
  have HCM : Hid (∀ i, i < l.length → cntTo l (i + 1) ≤ cntL l) := cntTo_le l
  rw [mkL_len] at hn
  unfold maxLen at hn
  rw [mkL_len]
  clear hc hS
  obtain ⟨n, en⟩ : ∃ n, l.length = n := ⟨_, rfl⟩
  obtain ⟨m, em⟩ : ∃ m, cntL l = m := ⟨_, rfl⟩
  rw [en] at hn
  rw [em] at h2
  rw [en, em]
  have EN : Hid (l.length = n) := en
  have EM : Hid (cntL l = m) := em
  clear en em
  go_enter Try.func68, Try.ntmps68
  go_wp2
  go_loopw [1, 5] (fun q i wr => ∃ i' : Nat, i' ≤ n ∧ i = .int .i64 i' ∧ q = .int .i64 (k + cntTo l i') ∧ Hid (Below w.heap.size w wr)) (fun _ i _ => n - (intOf i).toNat)
  case atStart => exact ⟨0, Nat.zero_le _, rfl, by rw [cntTo_zero]; simp, Below.refl _ _⟩
  case round =>
    obtain ⟨i, hi, rfl, rfl, hbel⟩ := hrel
    have hsz := hbel.out.size
    by_cases hlt : i < n
    · have hil : i < l.length := by have := EN.out; omega
      obtain ⟨b, off, rfl, hbS, cc, hcell, hat⟩ := HC.out i (by rw [HML.out]; exact hil)
      have hb := HS.out b hbS
      rw [mkL_at k l i hil] at hat
      have hcs := cntTo_succ l i hil
      have hle := HCM.out i hil
      obtain ⟨a, ea⟩ : ∃ a, l[i]'hil = a := ⟨_, rfl⟩
      rw [ea] at hcs hat
      rw [cnt_DClaimUse] at hcs
      rw [hcs, EM.out] at hle
      have HCS : Hid _ := hcs
      obtain ⟨p, ep⟩ : ∃ p, cntTo l i = p := ⟨_, rfl⟩
      rw [ep] at hle HCS hat
      rw [ep]
      clear hcs ep ea hil
      rw [width_DClaimUse] at hcell
      have e0 : w.cell? ⟨b, off + i * 3, none⟩ = some (cc 0) := by simpa using hcell 0 (by omega)
      have e1 : w.cell? ⟨b, off + i * 3 + 1, none⟩ = some (cc 1) := by simpa using hcell 1 (by omega)
      have e2 : w.cell? ⟨b, off + i * 3 + 2, none⟩ = some (cc 2) := by simpa using hcell 2 (by omega)
      clear hcell
      rw [mkD_DClaimUse] at hat
      obtain ⟨⟨ge0, _⟩, ⟨ge1, _, _⟩, ⟨ge2, _, _⟩⟩ := at_DClaimUse.1 hat
      clear hat
      have ge0 : cc 0 = .string (mkO (k + p)) := ge0
      rw [ge0] at e0
      clear ge0
      have E0 : Hid (w.cell? ⟨b, off + i * 3, none⟩ = some (.string (mkO (k + p)))) := e0
      clear e0
      have ge1 : cc 1 = .int .i64 (k + p + 1) := ge1
      rw [ge1] at e1
      clear ge1
      have E1 : Hid (w.cell? ⟨b, off + i * 3 + 1, none⟩ = some (.int .i64 (k + p + 1))) := e1
      clear e1
      have ge2 : cc 2 = .int .i64 (k + p + 1 + 1) := ge2
      rw [ge2] at e2
      clear ge2
      have E2 : Hid (w.cell? ⟨b, off + i * 3 + 2, none⟩ = some (.int .i64 (k + p + 1 + 1))) := e2
      clear e2
      have c0 : wr.cell? ⟨b, off + i * 3, none⟩ = some (.string (mkO (k + p))) := (hbel.out.cell (p := ⟨b, off + i * 3, none⟩) (by show b < _; exact hb)).trans E0.out
      have gw0 : b < wr.heap.size := by omega
      go_wp2
      go_region_with (go_at_call 66; refine (mkTx_any _ _ (by omega) (by omega)).mono ?_; rintro e u0 ⟨rfl, hb0⟩; have d0 := (hb0.cell (p := ⟨b, off + i * 3, none⟩) gw0).trans c0)
      all_goals
        have bl0 : Hid (Below w.heap.size w u0) := hbel.out.drew.trans (hb0.mono hsz)
        have sz0 := bl0.out.size
        have c1 : u0.cell? ⟨b, off + i * 3 + 1, none⟩ = some (.int .i64 (k + p + 1)) := (bl0.out.cell (p := ⟨b, off + i * 3 + 1, none⟩) (by show b < _; exact hb)).trans E1.out
        have xx1 : ((k + p + 1 : Int) == k + p + 1) = true := by simp
        have c2 : u0.cell? ⟨b, off + i * 3 + 2, none⟩ = some (.int .i64 (k + p + 1 + 1)) := (bl0.out.cell (p := ⟨b, off + i * 3 + 2, none⟩) (by show b < _; exact hb)).trans E2.out
        have xx2 : ((k + p + 1 + 1 : Int) == k + p + 1 + 1) = true := by simp
        go_wp2
        go_roundw
        case rel => exact ⟨i + 1, by omega, by go_num, by rw [HCS.out]; congr 1; omega, bl0.out⟩
        case measure => simp [intOf]; omega
    · have hin : i = n := by omega
      subst hin
      have hck : cntTo l i = m := by rw [← EM.out, ← HCL.out, EN.out]
      rw [hck]
      clear hck
      go_wp2
      go_ret
      exact ⟨rfl, hbel.out⟩

set_option maxRecDepth 100000 in
set_option maxHeartbeats 4000000 in
theorem heldClaimFoeS_any (S : Nat → Prop) (l : List DClaimFoe) (v : Value) (k : Int) (w : World) (h : AtL S w (mkL k l) v) (hS : ∀ b, S b → b < w.heap.size) (h1 : 1 ≤ k) (h2 : k + cntL l ≤ 20000000) :
    Calls Try.prog 40 #[v, .int .i64 k] w fun e w' => e = .returned (.int .i64 (k + cntL l)) ∧ Below w.heap.size w w' := by
  obtain ⟨oa, cap, rfl, hn, hc⟩ := h
  have HC : Hid _ := hc
  have HS : Hid (∀ b, S b → b < w.heap.size) := hS
  have HML : Hid ((mkL k l).length = l.length) := mkL_len k l
  have HCL : Hid (cntTo l l.length = cntL l) := rfl
  have HCM : Hid (∀ i, i < l.length → cntTo l (i + 1) ≤ cntL l) := cntTo_le l
  rw [mkL_len] at hn
  unfold maxLen at hn
  rw [mkL_len]
  clear hc hS
  obtain ⟨n, en⟩ : ∃ n, l.length = n := ⟨_, rfl⟩
  obtain ⟨m, em⟩ : ∃ m, cntL l = m := ⟨_, rfl⟩
  rw [en] at hn
  rw [em] at h2
  rw [en, em]
  have EN : Hid (l.length = n) := en
  have EM : Hid (cntL l = m) := em
  clear en em
  go_enter Try.func40, Try.ntmps40
  go_wp2
  go_loopw [1, 5] (fun q i wr => ∃ i' : Nat, i' ≤ n ∧ i = .int .i64 i' ∧ q = .int .i64 (k + cntTo l i') ∧ Hid (Below w.heap.size w wr)) (fun _ i _ => n - (intOf i).toNat)
  case atStart => exact ⟨0, Nat.zero_le _, rfl, by rw [cntTo_zero]; simp, Below.refl _ _⟩
  case round =>
    obtain ⟨i, hi, rfl, rfl, hbel⟩ := hrel
    have hsz := hbel.out.size
    by_cases hlt : i < n
    · have hil : i < l.length := by have := EN.out; omega
      obtain ⟨b, off, rfl, hbS, cc, hcell, hat⟩ := HC.out i (by rw [HML.out]; exact hil)
      have hb := HS.out b hbS
      rw [mkL_at k l i hil] at hat
      have hcs := cntTo_succ l i hil
      have hle := HCM.out i hil
      obtain ⟨a, ea⟩ : ∃ a, l[i]'hil = a := ⟨_, rfl⟩
      rw [ea] at hcs hat
      rw [cnt_DClaimFoe] at hcs
      rw [hcs, EM.out] at hle
      have HCS : Hid _ := hcs
      obtain ⟨p, ep⟩ : ∃ p, cntTo l i = p := ⟨_, rfl⟩
      rw [ep] at hle HCS hat
      rw [ep]
      clear hcs ep ea hil
      rw [width_DClaimFoe] at hcell
      have e0 : w.cell? ⟨b, off + i * 2, none⟩ = some (cc 0) := by simpa using hcell 0 (by omega)
      have e1 : w.cell? ⟨b, off + i * 2 + 1, none⟩ = some (cc 1) := by simpa using hcell 1 (by omega)
      clear hcell
      rw [mkD_DClaimFoe] at hat
      obtain ⟨⟨ge0, _⟩, ⟨ge1, _⟩⟩ := at_DClaimFoe.1 hat
      clear hat
      have ge0 : cc 0 = .string (mkO (k + p)) := ge0
      rw [ge0] at e0
      clear ge0
      have E0 : Hid (w.cell? ⟨b, off + i * 2, none⟩ = some (.string (mkO (k + p)))) := e0
      clear e0
      have ge1 : cc 1 = .string (mkO (k + p + 1)) := ge1
      rw [ge1] at e1
      clear ge1
      have E1 : Hid (w.cell? ⟨b, off + i * 2 + 1, none⟩ = some (.string (mkO (k + p + 1)))) := e1
      clear e1
      have c0 : wr.cell? ⟨b, off + i * 2, none⟩ = some (.string (mkO (k + p))) := (hbel.out.cell (p := ⟨b, off + i * 2, none⟩) (by show b < _; exact hb)).trans E0.out
      have gw0 : b < wr.heap.size := by omega
      go_wp2
      go_region_with (go_at_call 66; refine (mkTx_any _ _ (by omega) (by omega)).mono ?_; rintro e u0 ⟨rfl, hb0⟩; have d0 := (hb0.cell (p := ⟨b, off + i * 2, none⟩) gw0).trans c0)
      all_goals
        have bl0 : Hid (Below w.heap.size w u0) := hbel.out.drew.trans (hb0.mono hsz)
        have sz0 := bl0.out.size
        have c1 : u0.cell? ⟨b, off + i * 2 + 1, none⟩ = some (.string (mkO (k + p + 1))) := (bl0.out.cell (p := ⟨b, off + i * 2 + 1, none⟩) (by show b < _; exact hb)).trans E1.out
        have gw1 : b < u0.heap.size := by omega
        go_wp2
        go_region_with (go_at_call 66; refine (mkTx_any _ _ (by omega) (by omega)).mono ?_; rintro e u1 ⟨rfl, hb1⟩; have d1 := (hb1.cell (p := ⟨b, off + i * 2 + 1, none⟩) gw1).trans c1)
        all_goals
          have bl1 : Hid (Below w.heap.size w u1) := bl0.out.drew.trans (hb1.mono sz0)
          have sz1 := bl1.out.size
          go_wp2
          go_roundw
          case rel => exact ⟨i + 1, by omega, by go_num, by rw [HCS.out]; congr 1; omega, bl1.out⟩
          case measure => simp [intOf]; omega
    · have hin : i = n := by omega
      subst hin
      have hck : cntTo l i = m := by rw [← EM.out, ← HCL.out, EN.out]
      rw [hck]
      clear hck
      go_wp2
      go_ret
      exact ⟨rfl, hbel.out⟩

set_option maxRecDepth 100000 in
set_option maxHeartbeats 4000000 in
theorem heldClaimSpotS_any (S : Nat → Prop) (l : List DClaimSpot) (v : Value) (k : Int) (w : World) (h : AtL S w (mkL k l) v) (hS : ∀ b, S b → b < w.heap.size) (h1 : 1 ≤ k) (h2 : k + cntL l ≤ 20000000) :
    Calls Try.prog 41 #[v, .int .i64 k] w fun e w' => e = .returned (.int .i64 (k + cntL l)) ∧ Below w.heap.size w w' := by
  obtain ⟨oa, cap, rfl, hn, hc⟩ := h
  have HC : Hid _ := hc
  have HS : Hid (∀ b, S b → b < w.heap.size) := hS
  have HML : Hid ((mkL k l).length = l.length) := mkL_len k l
  have HCL : Hid (cntTo l l.length = cntL l) := rfl
  have HCM : Hid (∀ i, i < l.length → cntTo l (i + 1) ≤ cntL l) := cntTo_le l
  rw [mkL_len] at hn
  unfold maxLen at hn
  rw [mkL_len]
  clear hc hS
  obtain ⟨n, en⟩ : ∃ n, l.length = n := ⟨_, rfl⟩
  obtain ⟨m, em⟩ : ∃ m, cntL l = m := ⟨_, rfl⟩
  rw [en] at hn
  rw [em] at h2
  rw [en, em]
  have EN : Hid (l.length = n) := en
  have EM : Hid (cntL l = m) := em
  clear en em
  go_enter Try.func41, Try.ntmps41
  go_wp2
  go_loopw [1, 5] (fun q i wr => ∃ i' : Nat, i' ≤ n ∧ i = .int .i64 i' ∧ q = .int .i64 (k + cntTo l i') ∧ Hid (Below w.heap.size w wr)) (fun _ i _ => n - (intOf i).toNat)
  case atStart => exact ⟨0, Nat.zero_le _, rfl, by rw [cntTo_zero]; simp, Below.refl _ _⟩
  case round =>
    obtain ⟨i, hi, rfl, rfl, hbel⟩ := hrel
    have hsz := hbel.out.size
    by_cases hlt : i < n
    · have hil : i < l.length := by have := EN.out; omega
      obtain ⟨b, off, rfl, hbS, cc, hcell, hat⟩ := HC.out i (by rw [HML.out]; exact hil)
      have hb := HS.out b hbS
      rw [mkL_at k l i hil] at hat
      have hcs := cntTo_succ l i hil
      have hle := HCM.out i hil
      obtain ⟨a, ea⟩ : ∃ a, l[i]'hil = a := ⟨_, rfl⟩
      rw [ea] at hcs hat
      rw [cnt_DClaimSpot] at hcs
      rw [hcs, EM.out] at hle
      have HCS : Hid _ := hcs
      obtain ⟨p, ep⟩ : ∃ p, cntTo l i = p := ⟨_, rfl⟩
      rw [ep] at hle HCS hat
      rw [ep]
      clear hcs ep ea hil
      rw [width_DClaimSpot] at hcell
      have e0 : w.cell? ⟨b, off + i * 5, none⟩ = some (cc 0) := by simpa using hcell 0 (by omega)
      have e1 : w.cell? ⟨b, off + i * 5 + 1, none⟩ = some (cc 1) := by simpa using hcell 1 (by omega)
      have e2 : w.cell? ⟨b, off + i * 5 + 2, none⟩ = some (cc 2) := by simpa using hcell 2 (by omega)
      have e3 : w.cell? ⟨b, off + i * 5 + 3, none⟩ = some (cc 3) := by simpa using hcell 3 (by omega)
      have e4 : w.cell? ⟨b, off + i * 5 + 4, none⟩ = some (cc 4) := by simpa using hcell 4 (by omega)
      clear hcell
      rw [mkD_DClaimSpot] at hat
      obtain ⟨⟨ge0, _⟩, ⟨ge1, _, _⟩, ⟨ge2, _, _⟩, ⟨ge3, _, _⟩, H4⟩ := at_DClaimSpot.1 hat
      clear hat
      have ge0 : cc 0 = .string (mkO (k + p)) := ge0
      rw [ge0] at e0
      clear ge0
      have E0 : Hid (w.cell? ⟨b, off + i * 5, none⟩ = some (.string (mkO (k + p)))) := e0
      clear e0
      have ge1 : cc 1 = .int .i64 (k + p + 1) := ge1
      rw [ge1] at e1
      clear ge1
      have E1 : Hid (w.cell? ⟨b, off + i * 5 + 1, none⟩ = some (.int .i64 (k + p + 1))) := e1
      clear e1
      have ge2 : cc 2 = .int .i64 (k + p + 1 + 1) := ge2
      rw [ge2] at e2
      clear ge2
      have E2 : Hid (w.cell? ⟨b, off + i * 5 + 2, none⟩ = some (.int .i64 (k + p + 1 + 1))) := e2
      clear e2
      have ge3 : cc 3 = .int .i64 (k + p + 1 + 1 + 1) := ge3
      rw [ge3] at e3
      clear ge3
      have E3 : Hid (w.cell? ⟨b, off + i * 5 + 3, none⟩ = some (.int .i64 (k + p + 1 + 1 + 1))) := e3
      clear e3
      have L4 : Hid (AtL S w (mkL (k + p + 1 + 1 + 1 + 1) a.2.2.2.2) (cc 4)) := H4
      clear H4
      have E4 : Hid (w.cell? ⟨b, off + i * 5 + 4, none⟩ = some (cc 4)) := e4
      clear e4
      have c0 : wr.cell? ⟨b, off + i * 5, none⟩ = some (.string (mkO (k + p))) := (hbel.out.cell (p := ⟨b, off + i * 5, none⟩) (by show b < _; exact hb)).trans E0.out
      have gw0 : b < wr.heap.size := by omega
      go_wp2
      go_region_with (go_at_call 66; refine (mkTx_any _ _ (by omega) (by omega)).mono ?_; rintro e u0 ⟨rfl, hb0⟩; have d0 := (hb0.cell (p := ⟨b, off + i * 5, none⟩) gw0).trans c0)
      all_goals
        have bl0 : Hid (Below w.heap.size w u0) := hbel.out.drew.trans (hb0.mono hsz)
        have sz0 := bl0.out.size
        have c1 : u0.cell? ⟨b, off + i * 5 + 1, none⟩ = some (.int .i64 (k + p + 1)) := (bl0.out.cell (p := ⟨b, off + i * 5 + 1, none⟩) (by show b < _; exact hb)).trans E1.out
        have xx1 : ((k + p + 1 : Int) == k + p + 1) = true := by simp
        have c2 : u0.cell? ⟨b, off + i * 5 + 2, none⟩ = some (.int .i64 (k + p + 1 + 1)) := (bl0.out.cell (p := ⟨b, off + i * 5 + 2, none⟩) (by show b < _; exact hb)).trans E2.out
        have xx2 : ((k + p + 1 + 1 : Int) == k + p + 1 + 1) = true := by simp
        have c3 : u0.cell? ⟨b, off + i * 5 + 3, none⟩ = some (.int .i64 (k + p + 1 + 1 + 1)) := (bl0.out.cell (p := ⟨b, off + i * 5 + 3, none⟩) (by show b < _; exact hb)).trans E3.out
        have xx3 : ((k + p + 1 + 1 + 1 : Int) == k + p + 1 + 1 + 1) = true := by simp
        have c4 : u0.cell? ⟨b, off + i * 5 + 4, none⟩ = some (cc 4) := (bl0.out.cell (p := ⟨b, off + i * 5 + 4, none⟩) (by show b < _; exact hb)).trans E4.out
        go_wp2_with fail
        refine (heldStringS_any S a.2.2.2.2 (cc 4) _ _ (L4.out.same (Same.of_below bl0.out HS.out)) (fun b hb => Nat.lt_of_lt_of_le (HS.out b hb) bl0.out.size) (by omega) (by omega)).mono ?_
        rintro e u1 ⟨rfl, hb1⟩
        have bl1 : Hid (Below w.heap.size w u1) := bl0.out.trans (hb1.mono sz0)
        have sz1 := bl1.out.size
        go_wp2
        go_roundw
        case rel => exact ⟨i + 1, by omega, by go_num, by rw [HCS.out]; congr 1; omega, bl1.out⟩
        case measure => simp [intOf]; omega
    · have hin : i = n := by omega
      subst hin
      have hck : cntTo l i = m := by rw [← EM.out, ← HCL.out, EN.out]
      rw [hck]
      clear hck
      go_wp2
      go_ret
      exact ⟨rfl, hbel.out⟩

set_option maxRecDepth 100000 in
set_option maxHeartbeats 4000000 in
theorem heldClaimPartS_any (S : Nat → Prop) (l : List DClaimPart) (v : Value) (k : Int) (w : World) (h : AtL S w (mkL k l) v) (hS : ∀ b, S b → b < w.heap.size) (h1 : 1 ≤ k) (h2 : k + cntL l ≤ 20000000) :
    Calls Try.prog 43 #[v, .int .i64 k] w fun e w' => e = .returned (.int .i64 (k + cntL l)) ∧ Below w.heap.size w w' := by
  obtain ⟨oa, cap, rfl, hn, hc⟩ := h
  have HC : Hid _ := hc
  have HS : Hid (∀ b, S b → b < w.heap.size) := hS
  have HML : Hid ((mkL k l).length = l.length) := mkL_len k l
  have HCL : Hid (cntTo l l.length = cntL l) := rfl
  have HCM : Hid (∀ i, i < l.length → cntTo l (i + 1) ≤ cntL l) := cntTo_le l
  rw [mkL_len] at hn
  unfold maxLen at hn
  rw [mkL_len]
  clear hc hS
  obtain ⟨n, en⟩ : ∃ n, l.length = n := ⟨_, rfl⟩
  obtain ⟨m, em⟩ : ∃ m, cntL l = m := ⟨_, rfl⟩
  rw [en] at hn
  rw [em] at h2
  rw [en, em]
  have EN : Hid (l.length = n) := en
  have EM : Hid (cntL l = m) := em
  clear en em
  go_enter Try.func43, Try.ntmps43
  go_wp2
  go_loopw [1, 5] (fun q i wr => ∃ i' : Nat, i' ≤ n ∧ i = .int .i64 i' ∧ q = .int .i64 (k + cntTo l i') ∧ Hid (Below w.heap.size w wr)) (fun _ i _ => n - (intOf i).toNat)
  case atStart => exact ⟨0, Nat.zero_le _, rfl, by rw [cntTo_zero]; simp, Below.refl _ _⟩
  case round =>
    obtain ⟨i, hi, rfl, rfl, hbel⟩ := hrel
    have hsz := hbel.out.size
    by_cases hlt : i < n
    · have hil : i < l.length := by have := EN.out; omega
      obtain ⟨b, off, rfl, hbS, cc, hcell, hat⟩ := HC.out i (by rw [HML.out]; exact hil)
      have hb := HS.out b hbS
      rw [mkL_at k l i hil] at hat
      have hcs := cntTo_succ l i hil
      have hle := HCM.out i hil
      obtain ⟨a, ea⟩ : ∃ a, l[i]'hil = a := ⟨_, rfl⟩
      rw [ea] at hcs hat
      rw [cnt_DClaimPart] at hcs
      rw [hcs, EM.out] at hle
      have HCS : Hid _ := hcs
      obtain ⟨p, ep⟩ : ∃ p, cntTo l i = p := ⟨_, rfl⟩
      rw [ep] at hle HCS hat
      rw [ep]
      clear hcs ep ea hil
      rw [width_DClaimPart] at hcell
      have e0 : w.cell? ⟨b, off + i * 7, none⟩ = some (cc 0) := by simpa using hcell 0 (by omega)
      have e1 : w.cell? ⟨b, off + i * 7 + 1, none⟩ = some (cc 1) := by simpa using hcell 1 (by omega)
      have e2 : w.cell? ⟨b, off + i * 7 + 2, none⟩ = some (cc 2) := by simpa using hcell 2 (by omega)
      have e3 : w.cell? ⟨b, off + i * 7 + 3, none⟩ = some (cc 3) := by simpa using hcell 3 (by omega)
      have e4 : w.cell? ⟨b, off + i * 7 + 4, none⟩ = some (cc 4) := by simpa using hcell 4 (by omega)
      have e5 : w.cell? ⟨b, off + i * 7 + 5, none⟩ = some (cc 5) := by simpa using hcell 5 (by omega)
      have e6 : w.cell? ⟨b, off + i * 7 + 6, none⟩ = some (cc 6) := by simpa using hcell 6 (by omega)
      clear hcell
      rw [mkD_DClaimPart] at hat
      obtain ⟨⟨ge0, _, _⟩, ⟨ge1, _, _⟩, H2, H3, H4, H5, ge6⟩ := at_DClaimPart.1 hat
      clear hat
      have ge0 : cc 0 = .int .i64 (k + p) := ge0
      rw [ge0] at e0
      clear ge0
      have E0 : Hid (w.cell? ⟨b, off + i * 7, none⟩ = some (.int .i64 (k + p))) := e0
      clear e0
      have ge1 : cc 1 = .int .i64 (k + p + 1) := ge1
      rw [ge1] at e1
      clear ge1
      have E1 : Hid (w.cell? ⟨b, off + i * 7 + 1, none⟩ = some (.int .i64 (k + p + 1))) := e1
      clear e1
      have L2 : Hid (AtL S w (mkL (k + p + 1 + 1) a.2.2.1) (cc 2)) := H2
      clear H2
      have E2 : Hid (w.cell? ⟨b, off + i * 7 + 2, none⟩ = some (cc 2)) := e2
      clear e2
      have L3 : Hid (AtL S w (mkL (k + p + 1 + 1 + cntL a.2.2.1) a.2.2.2.1) (cc 3)) := H3
      clear H3
      have E3 : Hid (w.cell? ⟨b, off + i * 7 + 3, none⟩ = some (cc 3)) := e3
      clear e3
      have L4 : Hid (AtL S w (mkL (k + p + 1 + 1 + cntL a.2.2.1 + cntL a.2.2.2.1) a.2.2.2.2.1) (cc 4)) := H4
      clear H4
      have E4 : Hid (w.cell? ⟨b, off + i * 7 + 4, none⟩ = some (cc 4)) := e4
      clear e4
      have L5 : Hid (AtL S w (mkL (k + p + 1 + 1 + cntL a.2.2.1 + cntL a.2.2.2.1 + cntL a.2.2.2.2.1) a.2.2.2.2.2.1) (cc 5)) := H5
      clear H5
      have E5 : Hid (w.cell? ⟨b, off + i * 7 + 5, none⟩ = some (cc 5)) := e5
      clear e5
      have ge6 : cc 6 = .bool (decide ((k + p + 1 + 1 + cntL a.2.2.1 + cntL a.2.2.2.1 + cntL a.2.2.2.2.1 + cntL a.2.2.2.2.2.1) % 3 = 0)) := ge6
      rw [ge6] at e6
      clear ge6
      have E6 : Hid (w.cell? ⟨b, off + i * 7 + 6, none⟩ = some (.bool (decide ((k + p + 1 + 1 + cntL a.2.2.1 + cntL a.2.2.2.1 + cntL a.2.2.2.2.1 + cntL a.2.2.2.2.2.1) % 3 = 0)))) := e6
      clear e6
      have c0 : wr.cell? ⟨b, off + i * 7, none⟩ = some (.int .i64 (k + p)) := (hbel.out.cell (p := ⟨b, off + i * 7, none⟩) (by show b < _; exact hb)).trans E0.out
      have xx0 : ((k + p : Int) == k + p) = true := by simp
      have c1 : wr.cell? ⟨b, off + i * 7 + 1, none⟩ = some (.int .i64 (k + p + 1)) := (hbel.out.cell (p := ⟨b, off + i * 7 + 1, none⟩) (by show b < _; exact hb)).trans E1.out
      have xx1 : ((k + p + 1 : Int) == k + p + 1) = true := by simp
      have c2 : wr.cell? ⟨b, off + i * 7 + 2, none⟩ = some (cc 2) := (hbel.out.cell (p := ⟨b, off + i * 7 + 2, none⟩) (by show b < _; exact hb)).trans E2.out
      go_wp2_with fail
      refine (heldStringS_any S a.2.2.1 (cc 2) _ _ (L2.out.same (Same.of_below hbel.out HS.out)) (fun b hb => Nat.lt_of_lt_of_le (HS.out b hb) hbel.out.size) (by omega) (by omega)).mono ?_
      rintro e u0 ⟨rfl, hb0⟩
      have bl0 : Hid (Below w.heap.size w u0) := hbel.out.trans (hb0.mono hsz)
      have sz0 := bl0.out.size
      have c3 : u0.cell? ⟨b, off + i * 7 + 3, none⟩ = some (cc 3) := (bl0.out.cell (p := ⟨b, off + i * 7 + 3, none⟩) (by show b < _; exact hb)).trans E3.out
      go_wp2_with fail
      refine (heldClaimUseS_any S a.2.2.2.1 (cc 3) _ _ (L3.out.same (Same.of_below bl0.out HS.out)) (fun b hb => Nat.lt_of_lt_of_le (HS.out b hb) bl0.out.size) (by omega) (by omega)).mono ?_
      rintro e u1 ⟨rfl, hb1⟩
      have bl1 : Hid (Below w.heap.size w u1) := bl0.out.trans (hb1.mono sz0)
      have sz1 := bl1.out.size
      have c4 : u1.cell? ⟨b, off + i * 7 + 4, none⟩ = some (cc 4) := (bl1.out.cell (p := ⟨b, off + i * 7 + 4, none⟩) (by show b < _; exact hb)).trans E4.out
      go_wp2_with fail
      refine (heldStringS_any S a.2.2.2.2.1 (cc 4) _ _ (L4.out.same (Same.of_below bl1.out HS.out)) (fun b hb => Nat.lt_of_lt_of_le (HS.out b hb) bl1.out.size) (by omega) (by omega)).mono ?_
      rintro e u2 ⟨rfl, hb2⟩
      have bl2 : Hid (Below w.heap.size w u2) := bl1.out.trans (hb2.mono sz1)
      have sz2 := bl2.out.size
      have c5 : u2.cell? ⟨b, off + i * 7 + 5, none⟩ = some (cc 5) := (bl2.out.cell (p := ⟨b, off + i * 7 + 5, none⟩) (by show b < _; exact hb)).trans E5.out
      go_wp2_with fail
      refine (heldStringS_any S a.2.2.2.2.2.1 (cc 5) _ _ (L5.out.same (Same.of_below bl2.out HS.out)) (fun b hb => Nat.lt_of_lt_of_le (HS.out b hb) bl2.out.size) (by omega) (by omega)).mono ?_
      rintro e u3 ⟨rfl, hb3⟩
      have bl3 : Hid (Below w.heap.size w u3) := bl2.out.trans (hb3.mono sz2)
      have sz3 := bl3.out.size
      have c6 : u3.cell? ⟨b, off + i * 7 + 6, none⟩ = some (.bool (decide ((k + p + 1 + 1 + cntL a.2.2.1 + cntL a.2.2.2.1 + cntL a.2.2.2.2.1 + cntL a.2.2.2.2.2.1) % 3 = 0))) := (bl3.out.cell (p := ⟨b, off + i * 7 + 6, none⟩) (by show b < _; exact hb)).trans E6.out
      have xb : (!(decide ((k + p + 1 + 1 + cntL a.2.2.1 + cntL a.2.2.2.1 + cntL a.2.2.2.2.1 + cntL a.2.2.2.2.2.1) % 3 = 0) == ((k + p + 1 + 1 + cntL a.2.2.1 + cntL a.2.2.2.1 + cntL a.2.2.2.2.1 + cntL a.2.2.2.2.2.1) % 3 == 0))) = false := by by_cases h : (k + p + 1 + 1 + cntL a.2.2.1 + cntL a.2.2.2.1 + cntL a.2.2.2.2.1 + cntL a.2.2.2.2.2.1) % 3 = 0 <;> simp [h]
      go_wp2
      go_roundw
      case rel => exact ⟨i + 1, by omega, by go_num, by rw [HCS.out]; congr 1; omega, bl3.out⟩
      case measure => simp [intOf]; omega
    · have hin : i = n := by omega
      subst hin
      have hck : cntTo l i = m := by rw [← EM.out, ← HCL.out, EN.out]
      rw [hck]
      clear hck
      go_wp2
      go_ret
      exact ⟨rfl, hbel.out⟩

set_option maxRecDepth 100000 in
set_option maxHeartbeats 4000000 in
theorem heldClaimBook_any (S : Nat → Prop) (a : DClaimBookL) (c : Nat → Value) (sn k : Int) (w : World) (h : Lay.At S w (Own.mkD k a) c) (hS : ∀ b, S b → b < w.heap.size) (h1 : 1 ≤ k) (h2 : k + Own.cnt a ≤ 20000000) :
    Calls Try.prog 12 #[.agg #[c 0, c 1, c 2, c 3, .int .i64 sn], .int .i64 k] w fun e w' => e = .returned (.int .i64 (k + Own.cnt a)) ∧ Below w.heap.size w w' := by
  rw [cnt_DClaimBookL] at h2
  rw [cnt_DClaimBookL]
  rw [mkD_DClaimBookL] at h
  obtain ⟨H0, H1, H2, H3⟩ := at_DClaimBookL.1 h
  clear h
  obtain ⟨so0, sc0, ge0, _⟩ := id H0
  rw [ge0] at H0
  rw [ge0]
  clear ge0
  have L0 : Hid (AtL S w (mkL (k) a.1) (.slice so0 (mkL (k) a.1).length sc0)) := H0
  clear H0
  obtain ⟨so1, sc1, ge1, _⟩ := id H1
  rw [ge1] at H1
  rw [ge1]
  clear ge1
  have L1 : Hid (AtL S w (mkL (k + cntL a.1) a.2.1) (.slice so1 (mkL (k + cntL a.1) a.2.1).length sc1)) := H1
  clear H1
  obtain ⟨so2, sc2, ge2, _⟩ := id H2
  rw [ge2] at H2
  rw [ge2]
  clear ge2
  have L2 : Hid (AtL S w (mkL (k + cntL a.1 + cntL a.2.1) a.2.2.1) (.slice so2 (mkL (k + cntL a.1 + cntL a.2.1) a.2.2.1).length sc2)) := H2
  clear H2
  obtain ⟨so3, sc3, ge3, _⟩ := id H3
  rw [ge3] at H3
  rw [ge3]
  clear ge3
  have L3 : Hid (AtL S w (mkL (k + cntL a.1 + cntL a.2.1 + cntL a.2.2.1) a.2.2.2) (.slice so3 (mkL (k + cntL a.1 + cntL a.2.1 + cntL a.2.2.1) a.2.2.2).length sc3)) := H3
  clear H3
  have HS : Hid (∀ b, S b → b < w.heap.size) := hS
  clear hS
  have b0 : Hid (Below w.heap.size w (w.alloc (.cells #[.slice so0 (mkL (k) a.1).length sc0, .slice so1 (mkL (k + cntL a.1) a.2.1).length sc1, .slice so2 (mkL (k + cntL a.1 + cntL a.2.1) a.2.2.1).length sc2, .slice so3 (mkL (k + cntL a.1 + cntL a.2.1 + cntL a.2.2.1) a.2.2.2).length sc3, .int .i64 sn] 33))) := (Below.refl _ _).alloc (Nat.le_refl _) _
  go_enter Try.func12, Try.ntmps12
  go_wp2_with fail
  refine (heldClaimFoeS_any S a.1 _ _ _ (L0.out.same (Same.of_below b0.out HS.out)) (fun b hb => Nat.lt_of_lt_of_le (HS.out b hb) b0.out.size) (by omega) (by omega)).mono ?_
  rintro e w1 ⟨rfl, u1⟩
  have b1 : Hid (Below w.heap.size w w1) := b0.out.trans (u1.mono b0.out.size)
  have x1_1 : w1.cell? ⟨w.heap.size, 1, none⟩ = some (.slice so1 (mkL (k + cntL a.1) a.2.1).length sc1) := (u1.cell (p := ⟨w.heap.size, 1, none⟩) (by simp)).trans (by simp)
  have x1_2 : w1.cell? ⟨w.heap.size, 2, none⟩ = some (.slice so2 (mkL (k + cntL a.1 + cntL a.2.1) a.2.2.1).length sc2) := (u1.cell (p := ⟨w.heap.size, 2, none⟩) (by simp)).trans (by simp)
  have x1_3 : w1.cell? ⟨w.heap.size, 3, none⟩ = some (.slice so3 (mkL (k + cntL a.1 + cntL a.2.1 + cntL a.2.2.1) a.2.2.2).length sc3) := (u1.cell (p := ⟨w.heap.size, 3, none⟩) (by simp)).trans (by simp)
  have s1 : w.heap.size < w1.heap.size := by have := u1.size; simp at this; omega
  go_wp2_with fail
  refine (heldClaimSpotS_any S a.2.1 _ _ _ (L1.out.same (Same.of_below b1.out HS.out)) (fun b hb => Nat.lt_of_lt_of_le (HS.out b hb) b1.out.size) (by omega) (by omega)).mono ?_
  rintro e w2 ⟨rfl, u2⟩
  have b2 : Hid (Below w.heap.size w w2) := b1.out.trans (u2.mono b1.out.size)
  have x2_2 : w2.cell? ⟨w.heap.size, 2, none⟩ = some (.slice so2 (mkL (k + cntL a.1 + cntL a.2.1) a.2.2.1).length sc2) := (u2.cell (p := ⟨w.heap.size, 2, none⟩) (by show w.heap.size < _; omega)).trans x1_2
  have x2_3 : w2.cell? ⟨w.heap.size, 3, none⟩ = some (.slice so3 (mkL (k + cntL a.1 + cntL a.2.1 + cntL a.2.2.1) a.2.2.2).length sc3) := (u2.cell (p := ⟨w.heap.size, 3, none⟩) (by show w.heap.size < _; omega)).trans x1_3
  have s2 : w.heap.size < w2.heap.size := by have := u2.size; omega
  go_wp2_with fail
  refine (heldStringS_any S a.2.2.1 _ _ _ (L2.out.same (Same.of_below b2.out HS.out)) (fun b hb => Nat.lt_of_lt_of_le (HS.out b hb) b2.out.size) (by omega) (by omega)).mono ?_
  rintro e w3 ⟨rfl, u3⟩
  have b3 : Hid (Below w.heap.size w w3) := b2.out.trans (u3.mono b2.out.size)
  have x3_3 : w3.cell? ⟨w.heap.size, 3, none⟩ = some (.slice so3 (mkL (k + cntL a.1 + cntL a.2.1 + cntL a.2.2.1) a.2.2.2).length sc3) := (u3.cell (p := ⟨w.heap.size, 3, none⟩) (by show w.heap.size < _; omega)).trans x2_3
  have s3 : w.heap.size < w3.heap.size := by have := u3.size; omega
  go_wp2_with fail
  refine (heldClaimPartS_any S a.2.2.2 _ _ _ (L3.out.same (Same.of_below b3.out HS.out)) (fun b hb => Nat.lt_of_lt_of_le (HS.out b hb) b3.out.size) (by omega) (by omega)).mono ?_
  rintro e w4 ⟨rfl, u4⟩
  have b4 : Hid (Below w.heap.size w w4) := b3.out.trans (u4.mono b3.out.size)
  have s4 : w.heap.size < w4.heap.size := by have := u4.size; omega
  have hx : Hid (k + cntL a.1 + cntL a.2.1 + cntL a.2.2.1 + cntL a.2.2.2 = k + ((cntL a.1 + (cntL a.2.1 + (cntL a.2.2.1 + (cntL a.2.2.2))) : Nat) : Int)) := by show _ = _; omega
  go_wp2_with fail
  go_ret
  exact ⟨by rw [← hx.out]; rfl, b4.out⟩

end Go.Proofs.Ytciembgenlcogac
