/-
  Several texts in one.
-/
import Derived.Test.YtndacfockllehaaGreatBjm
import Derived.Test.YtndacfockllehaaGreatM11
import Derived.Test.YtndacfockllehaaGreatRz
import Derived.Test.YtndacfockllehaaGreatRva
/-
  Contracts of the laws' own asking for the marks.
-/
namespace Go.Proofs.YtndacfockllehaaGreat
open Go.RowKit

set_option maxRecDepth 100000 in
set_option maxHeartbeats 4000000 in
theorem heldStringS_any (S : Nat → Prop) (l : List ByteArray) (v : Value) (k : Int) (w : World) (h : AtL S w (mkL k l) v) (hS : ∀ b, S b → b < w.heap.size) (h1 : 1 ≤ k) (h2 : k + cntL l ≤ 100000000) :
    Calls Tryz.prog 44 #[v, .int .i64 k] w fun e w' => e = .returned (.int .i64 (k + cntL l)) ∧ Below w.heap.size w w' := by
  obtain ⟨oa, cap, rfl, hn, hc⟩ := h
  have HC : Hid _ := hc
  have HS : Hid (∀ b, S b → b < w.heap.size) := hS
  have HML : Hid ((mkL k l).length = l.length) := mkL_len k l
  have HCL : Hid (cntTo l l.length = cntL l) := rfl
  have HCM : Hid (∀ i, i < l.length → cntTo l (i + 1) ≤ cntL l) := cntTo_le l
  rw [mkL_len] at hn
  unfold maxLen at hn
  rw [mkL_len]
  clear hc hS
  obtain ⟨n, en⟩ : ∃ n, l.length = n := ⟨_, rfl⟩
  obtain ⟨m, em⟩ : ∃ m, cntL l = m := ⟨_, rfl⟩
  rw [en] at hn
  rw [em] at h2
  rw [en, em]
  have EN : Hid (l.length = n) := en
  have EM : Hid (cntL l = m) := em
  clear en em
  go_enter Tryz.func44, Tryz.ntmps44
  go_wp2
  go_loopw [1, 5] (fun q i wr => ∃ i' : Nat, i' ≤ n ∧ i = .int .i64 i' ∧ q = .int .i64 (k + cntTo l i') ∧ Hid (Below w.heap.size w wr)) (fun _ i _ => n - (intOf i).toNat)
  case atStart => exact ⟨0, Nat.zero_le _, rfl, by rw [cntTo_zero]; simp, Below.refl _ _⟩
  case round =>
    obtain ⟨i, hi, rfl, rfl, hbel⟩ := hrel
    have hsz := hbel.out.size
    by_cases hlt : i < n
    · have hil : i < l.length := by have := EN.out; omega
      obtain ⟨b, off, rfl, hbS, cc, hcell, hat⟩ := HC.out i (by rw [HML.out]; exact hil)
      have hb := HS.out b hbS
      rw [mkL_at k l i hil] at hat
      have hcs := cntTo_succ l i hil
      have hle := HCM.out i hil
      obtain ⟨a, ea⟩ : ∃ a, l[i]'hil = a := ⟨_, rfl⟩
      rw [ea] at hcs hat
      rw [show Own.cnt a = 1 from rfl] at hcs
      rw [hcs, EM.out] at hle
      have HCS : Hid _ := hcs
      obtain ⟨p, ep⟩ : ∃ p, cntTo l i = p := ⟨_, rfl⟩
      rw [ep] at hle HCS hat
      rw [ep]
      clear hcs ep ea hil
      rw [width_str] at hcell
      have e0 : w.cell? ⟨b, off + i, none⟩ = some (cc 0) := by simpa using hcell 0 (by omega)
      clear hcell
      obtain ⟨ge0, _⟩ := at_str.1 hat
      clear hat
      have ge0 : cc 0 = .string (mkO (k + p)) := ge0
      rw [ge0] at e0
      clear ge0
      have E0 : Hid (w.cell? ⟨b, off + i, none⟩ = some (.string (mkO (k + p)))) := e0
      clear e0
      have c0 : wr.cell? ⟨b, off + i, none⟩ = some (.string (mkO (k + p))) := (hbel.out.cell (p := ⟨b, off + i, none⟩) (by show b < _; exact hb)).trans E0.out
      have gw0 : b < wr.heap.size := by omega
      go_wp2
      go_region_with (go_at_call 42; refine (mkTx_any _ _ (by omega) (by omega)).mono ?_; rintro e u0 ⟨rfl, hb0⟩; have d0 := (hb0.cell (p := ⟨b, off + i, none⟩) gw0).trans c0)
      all_goals
        have bl0 : Hid (Below w.heap.size w u0) := hbel.out.drew.trans (hb0.mono hsz)
        have sz0 := bl0.out.size
        go_wp2
        go_roundw
        case rel => exact ⟨i + 1, by omega, by go_num, by rw [HCS.out]; congr 1; omega, bl0.out⟩
        case measure => simp [intOf]; omega
    · have hin : i = n := by omega
      subst hin
      have hck : cntTo l i = m := by rw [← EM.out, ← HCL.out, EN.out]
      rw [hck]
      clear hck
      go_wp2
      go_ret
      exact ⟨rfl, hbel.out⟩

set_option maxRecDepth 100000 in
set_option maxHeartbeats 4000000 in
theorem heldClaimUseS_any (S : Nat → Prop) (l : List DClaimUse) (v : Value) (k : Int) (w : World) (h : AtL S w (mkL k l) v) (hS : ∀ b, S b → b < w.heap.size) (h1 : 1 ≤ k) (h2 : k + cntL l ≤ 100000000) :
    Calls Tryz.prog 45 #[v, .int .i64 k] w fun e w' => e = .returned (.int .i64 (k + cntL l)) ∧ Below w.heap.size w w' := by
  obtain ⟨oa, cap, rfl, hn, hc⟩ := h
  have HC : Hid _ := hc
  have HS : Hid (∀ b, S b → b < w.heap.size) := hS
  have HML : Hid ((mkL k l).length = l.length) := mkL_len k l
  have HCL : Hid (cntTo l l.length = cntL l) := rfl
  have HCM : Hid (∀ i, i < l.length → cntTo l (i + 1) ≤ cntL l) := cntTo_le l
  rw [mkL_len] at hn
  unfold maxLen at hn
  rw [mkL_len]
  clear hc hS
  obtain ⟨n, en⟩ : ∃ n, l.length = n := ⟨_, rfl⟩
  obtain ⟨m, em⟩ : ∃ m, cntL l = m := ⟨_, rfl⟩
  rw [en] at hn
  rw [em] at h2
  rw [en, em]
  have EN : Hid (l.length = n) := en
  have EM : Hid (cntL l = m) := em
  clear en em
  go_enter Tryz.func45, Tryz.ntmps45
  go_wp2
  go_loopw [1, 5] (fun q i wr => ∃ i' : Nat, i' ≤ n ∧ i = .int .i64 i' ∧ q = .int .i64 (k + cntTo l i') ∧ Hid (Below w.heap.size w wr)) (fun _ i _ => n - (intOf i).toNat)
  case atStart => exact ⟨0, Nat.zero_le _, rfl, by rw [cntTo_zero]; simp, Below.refl _ _⟩
  case round =>
    obtain ⟨i, hi, rfl, rfl, hbel⟩ := hrel
    have hsz := hbel.out.size
    by_cases hlt : i < n
    · have hil : i < l.length := by have := EN.out; omega
      obtain ⟨b, off, rfl, hbS, cc, hcell, hat⟩ := HC.out i (by rw [HML.out]; exact hil)
      have hb := HS.out b hbS
      rw [mkL_at k l i hil] at hat
      have hcs := cntTo_succ l i hil
      have hle := HCM.out i hil
      obtain ⟨a, ea⟩ : ∃ a, l[i]'hil = a := ⟨_, rfl⟩
      rw [ea] at hcs hat
      rw [cnt_DClaimUse] at hcs
      rw [hcs, EM.out] at hle
      have HCS : Hid _ := hcs
      obtain ⟨p, ep⟩ : ∃ p, cntTo l i = p := ⟨_, rfl⟩
      rw [ep] at hle HCS hat
      rw [ep]
      clear hcs ep ea hil
      rw [width_DClaimUse] at hcell
      have e0 : w.cell? ⟨b, off + i * 3, none⟩ = some (cc 0) := by simpa using hcell 0 (by omega)
      have e1 : w.cell? ⟨b, off + i * 3 + 1, none⟩ = some (cc 1) := by simpa using hcell 1 (by omega)
      have e2 : w.cell? ⟨b, off + i * 3 + 2, none⟩ = some (cc 2) := by simpa using hcell 2 (by omega)
      clear hcell
      rw [mkD_DClaimUse] at hat
      obtain ⟨⟨ge0, _⟩, ⟨ge1, _, _⟩, ⟨ge2, _, _⟩⟩ := at_DClaimUse.1 hat
      clear hat
      have ge0 : cc 0 = .string (mkO (k + p)) := ge0
      rw [ge0] at e0
      clear ge0
      have E0 : Hid (w.cell? ⟨b, off + i * 3, none⟩ = some (.string (mkO (k + p)))) := e0
      clear e0
      have ge1 : cc 1 = .int .i64 (k + p + 1) := ge1
      rw [ge1] at e1
      clear ge1
      have E1 : Hid (w.cell? ⟨b, off + i * 3 + 1, none⟩ = some (.int .i64 (k + p + 1))) := e1
      clear e1
      have ge2 : cc 2 = .int .i64 (k + p + 1 + 1) := ge2
      rw [ge2] at e2
      clear ge2
      have E2 : Hid (w.cell? ⟨b, off + i * 3 + 2, none⟩ = some (.int .i64 (k + p + 1 + 1))) := e2
      clear e2
      have c0 : wr.cell? ⟨b, off + i * 3, none⟩ = some (.string (mkO (k + p))) := (hbel.out.cell (p := ⟨b, off + i * 3, none⟩) (by show b < _; exact hb)).trans E0.out
      have gw0 : b < wr.heap.size := by omega
      go_wp2
      go_region_with (go_at_call 42; refine (mkTx_any _ _ (by omega) (by omega)).mono ?_; rintro e u0 ⟨rfl, hb0⟩; have d0 := (hb0.cell (p := ⟨b, off + i * 3, none⟩) gw0).trans c0)
      all_goals
        have bl0 : Hid (Below w.heap.size w u0) := hbel.out.drew.trans (hb0.mono hsz)
        have sz0 := bl0.out.size
        have c1 : u0.cell? ⟨b, off + i * 3 + 1, none⟩ = some (.int .i64 (k + p + 1)) := (bl0.out.cell (p := ⟨b, off + i * 3 + 1, none⟩) (by show b < _; exact hb)).trans E1.out
        have xx1 : ((k + p + 1 : Int) == k + p + 1) = true := by simp
        have c2 : u0.cell? ⟨b, off + i * 3 + 2, none⟩ = some (.int .i64 (k + p + 1 + 1)) := (bl0.out.cell (p := ⟨b, off + i * 3 + 2, none⟩) (by show b < _; exact hb)).trans E2.out
        have xx2 : ((k + p + 1 + 1 : Int) == k + p + 1 + 1) = true := by simp
        go_wp2
        go_roundw
        case rel => exact ⟨i + 1, by omega, by go_num, by rw [HCS.out]; congr 1; omega, bl0.out⟩
        case measure => simp [intOf]; omega
    · have hin : i = n := by omega
      subst hin
      have hck : cntTo l i = m := by rw [← EM.out, ← HCL.out, EN.out]
      rw [hck]
      clear hck
      go_wp2
      go_ret
      exact ⟨rfl, hbel.out⟩

set_option maxRecDepth 100000 in
set_option maxHeartbeats 4000000 in
theorem heldCtlAskS_any (S : Nat → Prop) (l : List DCtlAsk) (v : Value) (k : Int) (w : World) (h : AtL S w (mkL k l) v) (hS : ∀ b, S b → b < w.heap.size) (h1 : 1 ≤ k) (h2 : k + cntL l ≤ 100000000) :
    Calls Tryz.prog 16 #[v, .int .i64 k] w fun e w' => e = .returned (.int .i64 (k + cntL l)) ∧ Below w.heap.size w w' := by
  obtain ⟨oa, cap, rfl, hn, hc⟩ := h
  have HC : Hid _ := hc
  have HS : Hid (∀ b, S b → b < w.heap.size) := hS
  have HML : Hid ((mkL k l).length = l.length) := mkL_len k l
  have HCL : Hid (cntTo l l.length = cntL l) := rfl
  have HCM : Hid (∀ i, i < l.length → cntTo l (i + 1) ≤ cntL l) := cntTo_le l
  rw [mkL_len] at hn
  unfold maxLen at hn
  rw [mkL_len]
  clear hc hS
  obtain ⟨n, en⟩ : ∃ n, l.length = n := ⟨_, rfl⟩
  obtain ⟨m, em⟩ : ∃ m, cntL l = m := ⟨_, rfl⟩
  rw [en] at hn
  rw [em] at h2
  rw [en, em]
  have EN : Hid (l.length = n) := en
  have EM : Hid (cntL l = m) := em
  clear en em
  go_enter Tryz.func16, Tryz.ntmps16
  go_wp2
  go_loopw [1, 5] (fun q i wr => ∃ i' : Nat, i' ≤ n ∧ i = .int .i64 i' ∧ q = .int .i64 (k + cntTo l i') ∧ Hid (Below w.heap.size w wr)) (fun _ i _ => n - (intOf i).toNat)
  case atStart => exact ⟨0, Nat.zero_le _, rfl, by rw [cntTo_zero]; simp, Below.refl _ _⟩
  case round =>
    obtain ⟨i, hi, rfl, rfl, hbel⟩ := hrel
    have hsz := hbel.out.size
    by_cases hlt : i < n
    · have hil : i < l.length := by have := EN.out; omega
      obtain ⟨b, off, rfl, hbS, cc, hcell, hat⟩ := HC.out i (by rw [HML.out]; exact hil)
      have hb := HS.out b hbS
      rw [mkL_at k l i hil] at hat
      have hcs := cntTo_succ l i hil
      have hle := HCM.out i hil
      obtain ⟨a, ea⟩ : ∃ a, l[i]'hil = a := ⟨_, rfl⟩
      rw [ea] at hcs hat
      rw [cnt_DCtlAsk] at hcs
      rw [hcs, EM.out] at hle
      have HCS : Hid _ := hcs
      obtain ⟨p, ep⟩ : ∃ p, cntTo l i = p := ⟨_, rfl⟩
      rw [ep] at hle HCS hat
      rw [ep]
      clear hcs ep ea hil
      rw [width_DCtlAsk] at hcell
      have e0 : w.cell? ⟨b, off + i * 7, none⟩ = some (cc 0) := by simpa using hcell 0 (by omega)
      have e1 : w.cell? ⟨b, off + i * 7 + 1, none⟩ = some (cc 1) := by simpa using hcell 1 (by omega)
      have e2 : w.cell? ⟨b, off + i * 7 + 2, none⟩ = some (cc 2) := by simpa using hcell 2 (by omega)
      have e3 : w.cell? ⟨b, off + i * 7 + 3, none⟩ = some (cc 3) := by simpa using hcell 3 (by omega)
      have e4 : w.cell? ⟨b, off + i * 7 + 4, none⟩ = some (cc 4) := by simpa using hcell 4 (by omega)
      have e5 : w.cell? ⟨b, off + i * 7 + 5, none⟩ = some (cc 5) := by simpa using hcell 5 (by omega)
      have e6 : w.cell? ⟨b, off + i * 7 + 6, none⟩ = some (cc 6) := by simpa using hcell 6 (by omega)
      clear hcell
      rw [mkD_DCtlAsk] at hat
      obtain ⟨⟨ge0, _⟩, ⟨ge1, _, _⟩, ⟨ge2, _, _⟩, H3, H4, H5, H6⟩ := at_DCtlAsk.1 hat
      clear hat
      have ge0 : cc 0 = .string (mkO (k + p)) := ge0
      rw [ge0] at e0
      clear ge0
      have E0 : Hid (w.cell? ⟨b, off + i * 7, none⟩ = some (.string (mkO (k + p)))) := e0
      clear e0
      have ge1 : cc 1 = .int .i64 (k + p + 1) := ge1
      rw [ge1] at e1
      clear ge1
      have E1 : Hid (w.cell? ⟨b, off + i * 7 + 1, none⟩ = some (.int .i64 (k + p + 1))) := e1
      clear e1
      have ge2 : cc 2 = .int .i64 (k + p + 1 + 1) := ge2
      rw [ge2] at e2
      clear ge2
      have E2 : Hid (w.cell? ⟨b, off + i * 7 + 2, none⟩ = some (.int .i64 (k + p + 1 + 1))) := e2
      clear e2
      have L3 : Hid (AtL S w (mkL (k + p + 1 + 1 + 1) a.2.2.2.1) (cc 3)) := H3
      clear H3
      have E3 : Hid (w.cell? ⟨b, off + i * 7 + 3, none⟩ = some (cc 3)) := e3
      clear e3
      have L4 : Hid (AtL S w (mkL (k + p + 1 + 1 + 1 + cntL a.2.2.2.1) a.2.2.2.2.1) (cc 4)) := H4
      clear H4
      have E4 : Hid (w.cell? ⟨b, off + i * 7 + 4, none⟩ = some (cc 4)) := e4
      clear e4
      have L5 : Hid (AtL S w (mkL (k + p + 1 + 1 + 1 + cntL a.2.2.2.1 + cntL a.2.2.2.2.1) a.2.2.2.2.2.1) (cc 5)) := H5
      clear H5
      have E5 : Hid (w.cell? ⟨b, off + i * 7 + 5, none⟩ = some (cc 5)) := e5
      clear e5
      have L6 : Hid (AtL S w (mkL (k + p + 1 + 1 + 1 + cntL a.2.2.2.1 + cntL a.2.2.2.2.1 + cntL a.2.2.2.2.2.1) a.2.2.2.2.2.2) (cc 6)) := H6
      clear H6
      have E6 : Hid (w.cell? ⟨b, off + i * 7 + 6, none⟩ = some (cc 6)) := e6
      clear e6
      have c0 : wr.cell? ⟨b, off + i * 7, none⟩ = some (.string (mkO (k + p))) := (hbel.out.cell (p := ⟨b, off + i * 7, none⟩) (by show b < _; exact hb)).trans E0.out
      have gw0 : b < wr.heap.size := by omega
      go_wp2
      go_region_with (go_at_call 42; refine (mkTx_any _ _ (by omega) (by omega)).mono ?_; rintro e u0 ⟨rfl, hb0⟩; have d0 := (hb0.cell (p := ⟨b, off + i * 7, none⟩) gw0).trans c0)
      all_goals
        have bl0 : Hid (Below w.heap.size w u0) := hbel.out.drew.trans (hb0.mono hsz)
        have sz0 := bl0.out.size
        have c1 : u0.cell? ⟨b, off + i * 7 + 1, none⟩ = some (.int .i64 (k + p + 1)) := (bl0.out.cell (p := ⟨b, off + i * 7 + 1, none⟩) (by show b < _; exact hb)).trans E1.out
        have xx1 : ((k + p + 1 : Int) == k + p + 1) = true := by simp
        have c2 : u0.cell? ⟨b, off + i * 7 + 2, none⟩ = some (.int .i64 (k + p + 1 + 1)) := (bl0.out.cell (p := ⟨b, off + i * 7 + 2, none⟩) (by show b < _; exact hb)).trans E2.out
        have xx2 : ((k + p + 1 + 1 : Int) == k + p + 1 + 1) = true := by simp
        have c3 : u0.cell? ⟨b, off + i * 7 + 3, none⟩ = some (cc 3) := (bl0.out.cell (p := ⟨b, off + i * 7 + 3, none⟩) (by show b < _; exact hb)).trans E3.out
        go_wp2_with fail
        refine (heldStringS_any S a.2.2.2.1 (cc 3) _ _ (L3.out.same (Same.of_below bl0.out HS.out)) (fun b hb => Nat.lt_of_lt_of_le (HS.out b hb) bl0.out.size) (by omega) (by omega)).mono ?_
        rintro e u1 ⟨rfl, hb1⟩
        have bl1 : Hid (Below w.heap.size w u1) := bl0.out.trans (hb1.mono sz0)
        have sz1 := bl1.out.size
        have c4 : u1.cell? ⟨b, off + i * 7 + 4, none⟩ = some (cc 4) := (bl1.out.cell (p := ⟨b, off + i * 7 + 4, none⟩) (by show b < _; exact hb)).trans E4.out
        go_wp2_with fail
        refine (heldClaimUseS_any S a.2.2.2.2.1 (cc 4) _ _ (L4.out.same (Same.of_below bl1.out HS.out)) (fun b hb => Nat.lt_of_lt_of_le (HS.out b hb) bl1.out.size) (by omega) (by omega)).mono ?_
        rintro e u2 ⟨rfl, hb2⟩
        have bl2 : Hid (Below w.heap.size w u2) := bl1.out.trans (hb2.mono sz1)
        have sz2 := bl2.out.size
        have c5 : u2.cell? ⟨b, off + i * 7 + 5, none⟩ = some (cc 5) := (bl2.out.cell (p := ⟨b, off + i * 7 + 5, none⟩) (by show b < _; exact hb)).trans E5.out
        go_wp2_with fail
        refine (heldStringS_any S a.2.2.2.2.2.1 (cc 5) _ _ (L5.out.same (Same.of_below bl2.out HS.out)) (fun b hb => Nat.lt_of_lt_of_le (HS.out b hb) bl2.out.size) (by omega) (by omega)).mono ?_
        rintro e u3 ⟨rfl, hb3⟩
        have bl3 : Hid (Below w.heap.size w u3) := bl2.out.trans (hb3.mono sz2)
        have sz3 := bl3.out.size
        have c6 : u3.cell? ⟨b, off + i * 7 + 6, none⟩ = some (cc 6) := (bl3.out.cell (p := ⟨b, off + i * 7 + 6, none⟩) (by show b < _; exact hb)).trans E6.out
        go_wp2_with fail
        refine (heldStringS_any S a.2.2.2.2.2.2 (cc 6) _ _ (L6.out.same (Same.of_below bl3.out HS.out)) (fun b hb => Nat.lt_of_lt_of_le (HS.out b hb) bl3.out.size) (by omega) (by omega)).mono ?_
        rintro e u4 ⟨rfl, hb4⟩
        have bl4 : Hid (Below w.heap.size w u4) := bl3.out.trans (hb4.mono sz3)
        have sz4 := bl4.out.size
        go_wp2
        go_roundw
        case rel => exact ⟨i + 1, by omega, by go_num, by rw [HCS.out]; congr 1; omega, bl4.out⟩
        case measure => simp [intOf]; omega
    · have hin : i = n := by omega
      subst hin
      have hck : cntTo l i = m := by rw [← EM.out, ← HCL.out, EN.out]
      rw [hck]
      clear hck
      go_wp2
      go_ret
      exact ⟨rfl, hbel.out⟩

end Go.Proofs.YtndacfockllehaaGreat

/-
  Small laws for the exact laws whose answer is a list of texts: how an owned list is read, marked, and held.
-/
namespace Go.Proofs.YtndacfockllehaaGreat
open Go.RowKit

theorem own_outs {B L H : Nat} {w w' : World} {e size : Nat} {v : Value} {n : Nat} {xs : List Value} (h : w.ownsRow B e size v n xs) (ho : Outs L H w w') (hH : H ≤ B) : w'.ownsRow B e size v n xs := by
  refine ⟨h.1, ?_⟩
  rcases h.2 with hn | ⟨g, cap, cur, hv, hbg, hg, rest⟩
  · exact Or.inl hn
  · exact Or.inr ⟨g, cap, cur, hv, hbg, (ho.out g (by omega) (Array.getElem?_eq_some_iff.1 hg).1).trans hg, rest⟩

theorem mark_own (B : Nat) (v : Value) (n : Nat) (xs : List Value) (w : World) (hn : n ≤ 1048576) (h : w.ownsRow B 9 1 v n xs) :
    Calls Tryz.prog 37 #[v, .int .i64 1] w fun e w' => e = .returned (.int .i64 (1 + n)) ∧ Below B w w' ∧ Lst w'.heap.size w' v n 1 (cS (mkF 1)) := by
  rcases h.2 with ⟨rfl, rfl⟩ | ⟨g, cap, cur, rfl, hb, hg, hc, hm, hs, ht⟩
  · refine (mkS_nil none 0 1 w).mono ?_
    rintro e w' ⟨rfl, rfl⟩
    exact ⟨by simp, Below.refl _ _, none, 0, rfl, Nat.zero_le _, fun i hi => by omega⟩
  · refine (mkS_any B (g + 1) g n cap cap 1 cur w hg (by omega) hb (by omega) hc (by omega) (by omega)).mono ?_
    rintro e w' ⟨rfl, ho, cur', hg', _, hall⟩
    refine ⟨rfl, ho.bel, _, _, rfl, by unfold maxLen; omega, fun i hi => ⟨g, 0, rfl, (Array.getElem?_eq_some_iff.1 hg').1, fun j hj => ?_⟩⟩
    have ej : j = 0 := by omega
    subst ej
    rw [Nat.zero_add, Nat.mul_one, Nat.add_zero]
    exact (cell_row hg' i _ (hall i hi)).1

end Go.Proofs.YtndacfockllehaaGreat
