/-
  Several texts in one.
-/
import Derived.Test.YtffmfomonmhkcabGreatBjm
import Derived.Test.YtffmfomonmhkcabGreatM10
import Derived.Test.YtffmfomonmhkcabGreatM16
/-
  Contracts of the laws' own asking for the marks.
-/
namespace Go.Proofs.YtffmfomonmhkcabGreat
open Go.RowKit

set_option maxRecDepth 100000 in
set_option maxHeartbeats 4000000 in
theorem heldStringS_any (S : Nat → Prop) (l : List ByteArray) (v : Value) (k : Int) (w : World) (h : AtL S w (mkL k l) v) (hS : ∀ b, S b → b < w.heap.size) (h1 : 1 ≤ k) (h2 : k + cntL l ≤ 100000000) :
    Calls Tryz.prog 46 #[v, .int .i64 k] w fun e w' => e = .returned (.int .i64 (k + cntL l)) ∧ Below w.heap.size w w' := by
  obtain ⟨oa, cap, rfl, hn, hc⟩ := h
  have HC : Hid _ := hc
  have HS : Hid (∀ b, S b → b < w.heap.size) := hS
  have HML : Hid ((mkL k l).length = l.length) := mkL_len k l
  have HCL : Hid (cntTo l l.length = cntL l) := rfl
  have HCM : Hid (∀ i, i < l.length → cntTo l (i + 1) ≤ cntL l) := cntTo_le l
  rw [mkL_len] at hn
  unfold maxLen at hn
  rw [mkL_len]
  clear hc hS
  obtain ⟨n, en⟩ : ∃ n, l.length = n := ⟨_, rfl⟩
  obtain ⟨m, em⟩ : ∃ m, cntL l = m := ⟨_, rfl⟩
  rw [en] at hn
  rw [em] at h2
  rw [en, em]
  have EN : Hid (l.length = n) := en
  have EM : Hid (cntL l = m) := em
  clear en em
  go_enter Tryz.func46, Tryz.ntmps46
  go_wp2
  go_loopw [1, 5] (fun q i wr => ∃ i' : Nat, i' ≤ n ∧ i = .int .i64 i' ∧ q = .int .i64 (k + cntTo l i') ∧ Hid (Below w.heap.size w wr)) (fun _ i _ => n - (intOf i).toNat)
  case atStart => exact ⟨0, Nat.zero_le _, rfl, by rw [cntTo_zero]; simp, Below.refl _ _⟩
  case round =>
    obtain ⟨i, hi, rfl, rfl, hbel⟩ := hrel
    have hsz := hbel.out.size
    by_cases hlt : i < n
    · have hil : i < l.length := by have := EN.out; omega
      obtain ⟨b, off, rfl, hbS, cc, hcell, hat⟩ := HC.out i (by rw [HML.out]; exact hil)
      have hb := HS.out b hbS
      rw [mkL_at k l i hil] at hat
      have hcs := cntTo_succ l i hil
      have hle := HCM.out i hil
      obtain ⟨a, ea⟩ : ∃ a, l[i]'hil = a := ⟨_, rfl⟩
      rw [ea] at hcs hat
      rw [show Own.cnt a = 1 from rfl] at hcs
      rw [hcs, EM.out] at hle
      have HCS : Hid _ := hcs
      obtain ⟨p, ep⟩ : ∃ p, cntTo l i = p := ⟨_, rfl⟩
      rw [ep] at hle HCS hat
      rw [ep]
      clear hcs ep ea hil
      rw [width_str] at hcell
      have e0 : w.cell? ⟨b, off + i, none⟩ = some (cc 0) := by simpa using hcell 0 (by omega)
      clear hcell
      obtain ⟨ge0, _⟩ := at_str.1 hat
      clear hat
      have ge0 : cc 0 = .string (mkO (k + p)) := ge0
      rw [ge0] at e0
      clear ge0
      have E0 : Hid (w.cell? ⟨b, off + i, none⟩ = some (.string (mkO (k + p)))) := e0
      clear e0
      have c0 : wr.cell? ⟨b, off + i, none⟩ = some (.string (mkO (k + p))) := (hbel.out.cell (p := ⟨b, off + i, none⟩) (by show b < _; exact hb)).trans E0.out
      have gw0 : b < wr.heap.size := by omega
      go_wp2
      go_region_with (go_at_call 44; refine (mkTx_any _ _ (by omega) (by omega)).mono ?_; rintro e u0 ⟨rfl, hb0⟩; have d0 := (hb0.cell (p := ⟨b, off + i, none⟩) gw0).trans c0)
      all_goals
        have bl0 : Hid (Below w.heap.size w u0) := hbel.out.drew.trans (hb0.mono hsz)
        have sz0 := bl0.out.size
        go_wp2
        go_roundw
        case rel => exact ⟨i + 1, by omega, by go_num, by rw [HCS.out]; congr 1; omega, bl0.out⟩
        case measure => simp [intOf]; omega
    · have hin : i = n := by omega
      subst hin
      have hck : cntTo l i = m := by rw [← EM.out, ← HCL.out, EN.out]
      rw [hck]
      clear hck
      go_wp2
      go_ret
      exact ⟨rfl, hbel.out⟩

set_option maxRecDepth 100000 in
set_option maxHeartbeats 4000000 in
theorem heldClaimUseS_any (S : Nat → Prop) (l : List DClaimUse) (v : Value) (k : Int) (w : World) (h : AtL S w (mkL k l) v) (hS : ∀ b, S b → b < w.heap.size) (h1 : 1 ≤ k) (h2 : k + cntL l ≤ 100000000) :
    Calls Tryz.prog 47 #[v, .int .i64 k] w fun e w' => e = .returned (.int .i64 (k + cntL l)) ∧ Below w.heap.size w w' := by
  obtain ⟨oa, cap, rfl, hn, hc⟩ := h
  have HC : Hid _ := hc
  have HS : Hid (∀ b, S b → b < w.heap.size) := hS
  have HML : Hid ((mkL k l).length = l.length) := mkL_len k l
  have HCL : Hid (cntTo l l.length = cntL l) := rfl
  have HCM : Hid (∀ i, i < l.length → cntTo l (i + 1) ≤ cntL l) := cntTo_le l
  rw [mkL_len] at hn
  unfold maxLen at hn
  rw [mkL_len]
  clear hc hS
  obtain ⟨n, en⟩ : ∃ n, l.length = n := ⟨_, rfl⟩
  obtain ⟨m, em⟩ : ∃ m, cntL l = m := ⟨_, rfl⟩
  rw [en] at hn
  rw [em] at h2
  rw [en, em]
  have EN : Hid (l.length = n) := en
  have EM : Hid (cntL l = m) := em
  clear en em
  go_enter Tryz.func47, Tryz.ntmps47
  go_wp2
  go_loopw [1, 5] (fun q i wr => ∃ i' : Nat, i' ≤ n ∧ i = .int .i64 i' ∧ q = .int .i64 (k + cntTo l i') ∧ Hid (Below w.heap.size w wr)) (fun _ i _ => n - (intOf i).toNat)
  case atStart => exact ⟨0, Nat.zero_le _, rfl, by rw [cntTo_zero]; simp, Below.refl _ _⟩
  case round =>
    obtain ⟨i, hi, rfl, rfl, hbel⟩ := hrel
    have hsz := hbel.out.size
    by_cases hlt : i < n
    · have hil : i < l.length := by have := EN.out; omega
      obtain ⟨b, off, rfl, hbS, cc, hcell, hat⟩ := HC.out i (by rw [HML.out]; exact hil)
      have hb := HS.out b hbS
      rw [mkL_at k l i hil] at hat
      have hcs := cntTo_succ l i hil
      have hle := HCM.out i hil
      obtain ⟨a, ea⟩ : ∃ a, l[i]'hil = a := ⟨_, rfl⟩
      rw [ea] at hcs hat
      rw [cnt_DClaimUse] at hcs
      rw [hcs, EM.out] at hle
      have HCS : Hid _ := hcs
      obtain ⟨p, ep⟩ : ∃ p, cntTo l i = p := ⟨_, rfl⟩
      rw [ep] at hle HCS hat
      rw [ep]
      clear hcs ep ea hil
      rw [width_DClaimUse] at hcell
      have e0 : w.cell? ⟨b, off + i * 3, none⟩ = some (cc 0) := by simpa using hcell 0 (by omega)
      have e1 : w.cell? ⟨b, off + i * 3 + 1, none⟩ = some (cc 1) := by simpa using hcell 1 (by omega)
      have e2 : w.cell? ⟨b, off + i * 3 + 2, none⟩ = some (cc 2) := by simpa using hcell 2 (by omega)
      clear hcell
      rw [mkD_DClaimUse] at hat
      obtain ⟨⟨ge0, _⟩, ⟨ge1, _, _⟩, ⟨ge2, _, _⟩⟩ := at_DClaimUse.1 hat
      clear hat
      have ge0 : cc 0 = .string (mkO (k + p)) := ge0
      rw [ge0] at e0
      clear ge0
      have E0 : Hid (w.cell? ⟨b, off + i * 3, none⟩ = some (.string (mkO (k + p)))) := e0
      clear e0
      have ge1 : cc 1 = .int .i64 (k + p + 1) := ge1
      rw [ge1] at e1
      clear ge1
      have E1 : Hid (w.cell? ⟨b, off + i * 3 + 1, none⟩ = some (.int .i64 (k + p + 1))) := e1
      clear e1
      have ge2 : cc 2 = .int .i64 (k + p + 1 + 1) := ge2
      rw [ge2] at e2
      clear ge2
      have E2 : Hid (w.cell? ⟨b, off + i * 3 + 2, none⟩ = some (.int .i64 (k + p + 1 + 1))) := e2
      clear e2
      have c0 : wr.cell? ⟨b, off + i * 3, none⟩ = some (.string (mkO (k + p))) := (hbel.out.cell (p := ⟨b, off + i * 3, none⟩) (by show b < _; exact hb)).trans E0.out
      have gw0 : b < wr.heap.size := by omega
      go_wp2
      go_region_with (go_at_call 44; refine (mkTx_any _ _ (by omega) (by omega)).mono ?_; rintro e u0 ⟨rfl, hb0⟩; have d0 := (hb0.cell (p := ⟨b, off + i * 3, none⟩) gw0).trans c0)
      all_goals
        have bl0 : Hid (Below w.heap.size w u0) := hbel.out.drew.trans (hb0.mono hsz)
        have sz0 := bl0.out.size
        have c1 : u0.cell? ⟨b, off + i * 3 + 1, none⟩ = some (.int .i64 (k + p + 1)) := (bl0.out.cell (p := ⟨b, off + i * 3 + 1, none⟩) (by show b < _; exact hb)).trans E1.out
        have xx1 : ((k + p + 1 : Int) == k + p + 1) = true := by simp
        have c2 : u0.cell? ⟨b, off + i * 3 + 2, none⟩ = some (.int .i64 (k + p + 1 + 1)) := (bl0.out.cell (p := ⟨b, off + i * 3 + 2, none⟩) (by show b < _; exact hb)).trans E2.out
        have xx2 : ((k + p + 1 + 1 : Int) == k + p + 1 + 1) = true := by simp
        go_wp2
        go_roundw
        case rel => exact ⟨i + 1, by omega, by go_num, by rw [HCS.out]; congr 1; omega, bl0.out⟩
        case measure => simp [intOf]; omega
    · have hin : i = n := by omega
      subst hin
      have hck : cntTo l i = m := by rw [← EM.out, ← HCL.out, EN.out]
      rw [hck]
      clear hck
      go_wp2
      go_ret
      exact ⟨rfl, hbel.out⟩

set_option maxRecDepth 100000 in
set_option maxHeartbeats 4000000 in
theorem heldCtlAskS_any (S : Nat → Prop) (l : List DCtlAsk) (v : Value) (k : Int) (w : World) (h : AtL S w (mkL k l) v) (hS : ∀ b, S b → b < w.heap.size) (h1 : 1 ≤ k) (h2 : k + cntL l ≤ 100000000) :
    Calls Tryz.prog 20 #[v, .int .i64 k] w fun e w' => e = .returned (.int .i64 (k + cntL l)) ∧ Below w.heap.size w w' := by
  obtain ⟨oa, cap, rfl, hn, hc⟩ := h
  have HC : Hid _ := hc
  have HS : Hid (∀ b, S b → b < w.heap.size) := hS
  have HML : Hid ((mkL k l).length = l.length) := mkL_len k l
  have HCL : Hid (cntTo l l.length = cntL l) := rfl
  have HCM : Hid (∀ i, i < l.length → cntTo l (i + 1) ≤ cntL l) := cntTo_le l
  rw [mkL_len] at hn
  unfold maxLen at hn
  rw [mkL_len]
  clear hc hS
  obtain ⟨n, en⟩ : ∃ n, l.length = n := ⟨_, rfl⟩
  obtain ⟨m, em⟩ : ∃ m, cntL l = m := ⟨_, rfl⟩
  rw [en] at hn
  rw [em] at h2
  rw [en, em]
  have EN : Hid (l.length = n) := en
  have EM : Hid (cntL l = m) := em
  clear en em
  go_enter Tryz.func20, Tryz.ntmps20
  go_wp2
  go_loopw [1, 5] (fun q i wr => ∃ i' : Nat, i' ≤ n ∧ i = .int .i64 i' ∧ q = .int .i64 (k + cntTo l i') ∧ Hid (Below w.heap.size w wr)) (fun _ i _ => n - (intOf i).toNat)
  case atStart => exact ⟨0, Nat.zero_le _, rfl, by rw [cntTo_zero]; simp, Below.refl _ _⟩
  case round =>
    obtain ⟨i, hi, rfl, rfl, hbel⟩ := hrel
    have hsz := hbel.out.size
    by_cases hlt : i < n
    · have hil : i < l.length := by have := EN.out; omega
      obtain ⟨b, off, rfl, hbS, cc, hcell, hat⟩ := HC.out i (by rw [HML.out]; exact hil)
      have hb := HS.out b hbS
      rw [mkL_at k l i hil] at hat
      have hcs := cntTo_succ l i hil
      have hle := HCM.out i hil
      obtain ⟨a, ea⟩ : ∃ a, l[i]'hil = a := ⟨_, rfl⟩
      rw [ea] at hcs hat
      rw [cnt_DCtlAsk] at hcs
      rw [hcs, EM.out] at hle
      have HCS : Hid _ := hcs
      obtain ⟨p, ep⟩ : ∃ p, cntTo l i = p := ⟨_, rfl⟩
      rw [ep] at hle HCS hat
      rw [ep]
      clear hcs ep ea hil
      rw [width_DCtlAsk] at hcell
      have e0 : w.cell? ⟨b, off + i * 7, none⟩ = some (cc 0) := by simpa using hcell 0 (by omega)
      have e1 : w.cell? ⟨b, off + i * 7 + 1, none⟩ = some (cc 1) := by simpa using hcell 1 (by omega)
      have e2 : w.cell? ⟨b, off + i * 7 + 2, none⟩ = some (cc 2) := by simpa using hcell 2 (by omega)
      have e3 : w.cell? ⟨b, off + i * 7 + 3, none⟩ = some (cc 3) := by simpa using hcell 3 (by omega)
      have e4 : w.cell? ⟨b, off + i * 7 + 4, none⟩ = some (cc 4) := by simpa using hcell 4 (by omega)
      have e5 : w.cell? ⟨b, off + i * 7 + 5, none⟩ = some (cc 5) := by simpa using hcell 5 (by omega)
      have e6 : w.cell? ⟨b, off + i * 7 + 6, none⟩ = some (cc 6) := by simpa using hcell 6 (by omega)
      clear hcell
      rw [mkD_DCtlAsk] at hat
      obtain ⟨⟨ge0, _⟩, ⟨ge1, _, _⟩, ⟨ge2, _, _⟩, H3, H4, H5, H6⟩ := at_DCtlAsk.1 hat
      clear hat
      have ge0 : cc 0 = .string (mkO (k + p)) := ge0
      rw [ge0] at e0
      clear ge0
      have E0 : Hid (w.cell? ⟨b, off + i * 7, none⟩ = some (.string (mkO (k + p)))) := e0
      clear e0
      have ge1 : cc 1 = .int .i64 (k + p + 1) := ge1
      rw [ge1] at e1
      clear ge1
      have E1 : Hid (w.cell? ⟨b, off + i * 7 + 1, none⟩ = some (.int .i64 (k + p + 1))) := e1
      clear e1
      have ge2 : cc 2 = .int .i64 (k + p + 1 + 1) := ge2
      rw [ge2] at e2
      clear ge2
      have E2 : Hid (w.cell? ⟨b, off + i * 7 + 2, none⟩ = some (.int .i64 (k + p + 1 + 1))) := e2
      clear e2
      have L3 : Hid (AtL S w (mkL (k + p + 1 + 1 + 1) a.2.2.2.1) (cc 3)) := H3
      clear H3
      have E3 : Hid (w.cell? ⟨b, off + i * 7 + 3, none⟩ = some (cc 3)) := e3
      clear e3
      have L4 : Hid (AtL S w (mkL (k + p + 1 + 1 + 1 + cntL a.2.2.2.1) a.2.2.2.2.1) (cc 4)) := H4
      clear H4
      have E4 : Hid (w.cell? ⟨b, off + i * 7 + 4, none⟩ = some (cc 4)) := e4
      clear e4
      have L5 : Hid (AtL S w (mkL (k + p + 1 + 1 + 1 + cntL a.2.2.2.1 + cntL a.2.2.2.2.1) a.2.2.2.2.2.1) (cc 5)) := H5
      clear H5
      have E5 : Hid (w.cell? ⟨b, off + i * 7 + 5, none⟩ = some (cc 5)) := e5
      clear e5
      have L6 : Hid (AtL S w (mkL (k + p + 1 + 1 + 1 + cntL a.2.2.2.1 + cntL a.2.2.2.2.1 + cntL a.2.2.2.2.2.1) a.2.2.2.2.2.2) (cc 6)) := H6
      clear H6
      have E6 : Hid (w.cell? ⟨b, off + i * 7 + 6, none⟩ = some (cc 6)) := e6
      clear e6
      have c0 : wr.cell? ⟨b, off + i * 7, none⟩ = some (.string (mkO (k + p))) := (hbel.out.cell (p := ⟨b, off + i * 7, none⟩) (by show b < _; exact hb)).trans E0.out
      have gw0 : b < wr.heap.size := by omega
      go_wp2
      go_region_with (go_at_call 44; refine (mkTx_any _ _ (by omega) (by omega)).mono ?_; rintro e u0 ⟨rfl, hb0⟩; have d0 := (hb0.cell (p := ⟨b, off + i * 7, none⟩) gw0).trans c0)
      all_goals
        have bl0 : Hid (Below w.heap.size w u0) := hbel.out.drew.trans (hb0.mono hsz)
        have sz0 := bl0.out.size
        have c1 : u0.cell? ⟨b, off + i * 7 + 1, none⟩ = some (.int .i64 (k + p + 1)) := (bl0.out.cell (p := ⟨b, off + i * 7 + 1, none⟩) (by show b < _; exact hb)).trans E1.out
        have xx1 : ((k + p + 1 : Int) == k + p + 1) = true := by simp
        have c2 : u0.cell? ⟨b, off + i * 7 + 2, none⟩ = some (.int .i64 (k + p + 1 + 1)) := (bl0.out.cell (p := ⟨b, off + i * 7 + 2, none⟩) (by show b < _; exact hb)).trans E2.out
        have xx2 : ((k + p + 1 + 1 : Int) == k + p + 1 + 1) = true := by simp
        have c3 : u0.cell? ⟨b, off + i * 7 + 3, none⟩ = some (cc 3) := (bl0.out.cell (p := ⟨b, off + i * 7 + 3, none⟩) (by show b < _; exact hb)).trans E3.out
        go_wp2_with fail
        refine (heldStringS_any S a.2.2.2.1 (cc 3) _ _ (L3.out.same (Same.of_below bl0.out HS.out)) (fun b hb => Nat.lt_of_lt_of_le (HS.out b hb) bl0.out.size) (by omega) (by omega)).mono ?_
        rintro e u1 ⟨rfl, hb1⟩
        have bl1 : Hid (Below w.heap.size w u1) := bl0.out.trans (hb1.mono sz0)
        have sz1 := bl1.out.size
        have c4 : u1.cell? ⟨b, off + i * 7 + 4, none⟩ = some (cc 4) := (bl1.out.cell (p := ⟨b, off + i * 7 + 4, none⟩) (by show b < _; exact hb)).trans E4.out
        go_wp2_with fail
        refine (heldClaimUseS_any S a.2.2.2.2.1 (cc 4) _ _ (L4.out.same (Same.of_below bl1.out HS.out)) (fun b hb => Nat.lt_of_lt_of_le (HS.out b hb) bl1.out.size) (by omega) (by omega)).mono ?_
        rintro e u2 ⟨rfl, hb2⟩
        have bl2 : Hid (Below w.heap.size w u2) := bl1.out.trans (hb2.mono sz1)
        have sz2 := bl2.out.size
        have c5 : u2.cell? ⟨b, off + i * 7 + 5, none⟩ = some (cc 5) := (bl2.out.cell (p := ⟨b, off + i * 7 + 5, none⟩) (by show b < _; exact hb)).trans E5.out
        go_wp2_with fail
        refine (heldStringS_any S a.2.2.2.2.2.1 (cc 5) _ _ (L5.out.same (Same.of_below bl2.out HS.out)) (fun b hb => Nat.lt_of_lt_of_le (HS.out b hb) bl2.out.size) (by omega) (by omega)).mono ?_
        rintro e u3 ⟨rfl, hb3⟩
        have bl3 : Hid (Below w.heap.size w u3) := bl2.out.trans (hb3.mono sz2)
        have sz3 := bl3.out.size
        have c6 : u3.cell? ⟨b, off + i * 7 + 6, none⟩ = some (cc 6) := (bl3.out.cell (p := ⟨b, off + i * 7 + 6, none⟩) (by show b < _; exact hb)).trans E6.out
        go_wp2_with fail
        refine (heldStringS_any S a.2.2.2.2.2.2 (cc 6) _ _ (L6.out.same (Same.of_below bl3.out HS.out)) (fun b hb => Nat.lt_of_lt_of_le (HS.out b hb) bl3.out.size) (by omega) (by omega)).mono ?_
        rintro e u4 ⟨rfl, hb4⟩
        have bl4 : Hid (Below w.heap.size w u4) := bl3.out.trans (hb4.mono sz3)
        have sz4 := bl4.out.size
        go_wp2
        go_roundw
        case rel => exact ⟨i + 1, by omega, by go_num, by rw [HCS.out]; congr 1; omega, bl4.out⟩
        case measure => simp [intOf]; omega
    · have hin : i = n := by omega
      subst hin
      have hck : cntTo l i = m := by rw [← EM.out, ← HCL.out, EN.out]
      rw [hck]
      clear hck
      go_wp2
      go_ret
      exact ⟨rfl, hbel.out⟩

end Go.Proofs.YtffmfomonmhkcabGreat

/-
  Contracts of the law's own marking of a plant's lists and of lists of texts, and of asking for the marks.
-/
namespace Go.Proofs.YtffmfomonmhkcabGreat
open Go.RowKit

/-- Blocks outside L to H stand as they stood, and no block changes its size. -/
structure Outs (L H : Nat) (w w' : World) : Prop where
  bel : Below L w w'
  out : ∀ k, H ≤ k → k < w.heap.size → w'.heap[k]? = w.heap[k]?
  blk : ∀ (g t m : Nat), (∃ c : Array Value, w.heap[g]? = some (.cells c t (0, 0)) ∧ c.size = m) → ∃ c : Array Value, w'.heap[g]? = some (.cells c t (0, 0)) ∧ c.size = m
theorem Outs.refl (L H : Nat) (w : World) : Outs L H w w := ⟨Below.refl _ _, fun _ _ _ => rfl, fun _ _ _ h => h⟩
theorem Outs.trans {L H : Nat} {a b c : World} (h : Outs L H a b) (k : Outs L H b c) : Outs L H a c :=
  ⟨h.bel.trans k.bel, fun i hi hs => (k.out i hi (Nat.lt_of_lt_of_le hs h.bel.size)).trans (h.out i hi hs), fun g t m hh => k.blk g t m (h.blk g t m hh)⟩
theorem Outs.of_below {L H : Nat} {w w' : World} (h : Below w.heap.size w w') (hL : L ≤ w.heap.size) : Outs L H w w' :=
  ⟨h.mono hL, fun k _ hs => h.block k hs, fun g _ _ ⟨c, hc, hs⟩ => ⟨c, (h.block g (Array.getElem?_eq_some_iff.1 hc).1).trans hc, hs⟩⟩
theorem Outs.set {L H : Nat} {a w : World} (h : Outs L H a w) {g : Nat} (hL : L ≤ g) (hH : g < H) (i : Nat) (x : Value) : Outs L H a (w.setCell ⟨g, i, none⟩ x) := by
  refine h.trans ⟨(Below.refl _ w).setCell (p := ⟨g, i, none⟩) hL x, fun k hk _ => Below.heap_setCell w _ x k (by show k ≠ g; omega), fun g' t m ⟨c, hc, hs⟩ => ?_⟩
  by_cases e : g' = g
  · subst e; exact ⟨_, set_row hc i x, by simpa using hs⟩
  · exact ⟨c, (Below.heap_setCell w _ x g' (by show g' ≠ g; exact e)).trans hc, hs⟩

/-- The text that marks place j, written digit by digit from its end. -/
def dgF : Nat → Int → ByteArray → ByteArray
  | 0, _, t => t
  | n + 1, k, t => if 0 < k then dgF n (k / 10) (⟨#[UInt8.ofNat (48 + k % 10).toNat]⟩ ++ t) else t
def mkT (k : Int) : ByteArray := ⟨#[109]⟩ ++ dgF 20 k ⟨#[]⟩
theorem dgF_end (n : Nat) (k : Int) (t : ByteArray) (h : ¬ 0 < k) : dgF n k t = t := by
  cases n with
  | zero => rfl
  | succ n => simp [dgF, h]

set_option maxRecDepth 100000 in
set_option maxHeartbeats 400000 in
theorem mkText_any (k : Int) (w : World) (h1 : 1 ≤ k) (h2 : k ≤ 20000000) :
    Calls Tryz.prog 44 #[.int .i64 k] w fun e w' => e = .returned (.string (mkT k)) ∧ Below w.heap.size w w' := by
  have hd : decide (k ≤ 0) = false := by simp; omega
  have hcv := conv_one
  go_enter Tryz.func44, Tryz.ntmps44
  go_wp2
  go_loopw [0, 3] (fun i t wr => ∃ (j : Int) (u : ByteArray) (n : Nat), 0 ≤ j ∧ j ≤ 20000000 ∧ Hid (j < 10 ^ n) ∧ i = .int .i64 j ∧ t = .string u ∧ Hid (dgF n j u = dgF 20 k ⟨#[]⟩) ∧ u.size + n ≤ 20 ∧ Below w.heap.size w wr) (fun i _ _ => (intOf i).toNat)
  case atStart => exact ⟨k, _, 20, by omega, by omega, by show k < _; omega, rfl, rfl, rfl, by decide, Below.refl _ _⟩
  case round =>
    obtain ⟨j, u, n, hj1, hj2, hn, rfl, rfl, he, hu, hbel⟩ := hrel
    by_cases hp : 0 < j
    · go_wp2
      go_roundw
      case rel =>
        cases n with
        | zero => exact absurd hn.out (by simp; omega)
        | succ n =>
          refine ⟨j / 10, _, n, by omega, by omega, ?_, rfl, rfl, ?_, ?_, hbel.alloc hbel.size _⟩
          · have h := hn.out
            rw [Int.pow_succ] at h
            show j / 10 < 10 ^ n
            omega
          · show dgF n (j / 10) _ = _
            rw [← he.out, dgF, if_pos (by omega)]
          · have e1 : (⟨#[UInt8.ofNat (48 + j % 10).toNat]⟩ : ByteArray).size = 1 := rfl
            rw [ByteArray.size_append, e1]; omega
      case measure => simp [intOf]; omega
    · go_wp2
      go_ret
      refine ⟨?_, hbel⟩
      rw [mkT, ← he.out, dgF_end _ _ _ (by omega)]
      rfl

set_option maxRecDepth 100000 in
set_option maxHeartbeats 1000000 in
theorem mkS_any (L H g n cap m : Nat) (k0 : Int) (cur : Array Value) (w : World) (hg : w.heap[g]? = some (.cells cur 9 (0, 0))) (hcs : cur.size = m) (hL : L ≤ g) (hH : g < H) (hn : n ≤ m) (h1 : 1 ≤ k0) (h2 : k0 + n ≤ 20000000) :
    Calls Tryz.prog 18 #[.slice (some ⟨g, 0, none⟩) n cap, .int .i64 k0] w fun e w' => e = .returned (.int .i64 (k0 + n)) ∧ Outs L H w w' ∧
      ∃ cur', w'.heap[g]? = some (.cells cur' 9 (0, 0)) ∧ cur'.size = m ∧ ∀ i, i < n → cur'[i]? = some (.string (mkT (k0 + i))) := by
  go_enter Tryz.func18, Tryz.ntmps18
  go_wp2
  go_loopw [1, 5] (fun q i wr => ∃ (k : Nat) (c : Array Value), k ≤ n ∧ i = .int .i64 k ∧ q = .int .i64 (k0 + k) ∧ Hid (Outs L H w wr) ∧ Hid (wr.heap[g]? = some (.cells c 9 (0, 0))) ∧ c.size = m ∧ Hid (∀ i, i < k → c[i]? = some (.string (mkT (k0 + i))))) (fun _ i _ => n - (intOf i).toNat)
  case atStart => exact ⟨0, cur, Nat.zero_le _, rfl, by simp, Outs.refl _ _ _, hg, hcs, fun _ h => by omega⟩
  case round =>
    obtain ⟨k, c, hk, rfl, rfl, hout, hgr, hcs', hall⟩ := hrel
    by_cases hlt : k < n
    · obtain ⟨v0, hv0⟩ : ∃ v0, c[k]? = some v0 := ⟨_, Array.getElem?_eq_getElem (by omega)⟩
      have hgl : g < wr.heap.size := (Array.getElem?_eq_some_iff.1 hgr.out).1
      have hsz := hout.out.bel.size
      go_wp2_with fail
      refine (mkText_any _ _ (by omega) (by omega)).mono ?_
      rintro e w1 ⟨rfl, hb1⟩
      have hr1 : Hid (w1.heap[g]? = some (.cells c 9 (0, 0))) := (hb1.block g hgl).trans hgr.out
      obtain ⟨hcl, hfr⟩ := cell_row hr1.out k v0 hv0
      clear hv0
      go_wp2_with fail
      go_roundw
      case rel =>
        refine ⟨k + 1, c.setIfInBounds k (.string (mkT (k0 + k))), by omega, by go_num, by go_num, (hout.out.trans (Outs.of_below hb1 (by omega))).set hL hH k _, set_row hr1.out k _, by simpa using hcs', ?_⟩
        intro i hi
        by_cases e : i = k
        · subst e
          exact set_at c i _ (by omega)
        · rw [Array.getElem?_setIfInBounds_ne (fun h => e h.symm)]
          exact hall.out i (by omega)
      case measure => simp [intOf]; omega
    · go_wp2_with fail
      go_ret
      have hkn : k = n := by omega
      subst hkn
      exact ⟨rfl, hout.out, c, hgr.out, hcs', hall.out⟩

set_option maxRecDepth 100000 in
set_option maxHeartbeats 400000 in
theorem mkS_nil (oa : Option Addr) (cap : Nat) (k0 : Int) (w : World) :
    Calls Tryz.prog 18 #[.slice oa 0 cap, .int .i64 k0] w fun e w' => e = .returned (.int .i64 k0) ∧ w' = w := by
  go_enter Tryz.func18, Tryz.ntmps18
  go_wp2
  go_loop [1, 5] (fun q i => q = .int .i64 k0 ∧ i = .int .i64 0) (fun _ _ => 0)
  case atStart => exact ⟨rfl, rfl⟩
  case round =>
    obtain ⟨rfl, rfl⟩ := hrel
    go_wp2
    go_ret
    exact ⟨rfl, rfl⟩

/-- The marks from k0 on. -/
def mkF (k0 : Int) (i : Nat) : ByteArray := mkT (k0 + i)

set_option maxRecDepth 100000 in
set_option maxHeartbeats 1000000 in
theorem heldS_lst (B : Nat) (v : Value) (n : Nat) (k0 : Int) (w : World) (h : Lst B w v n 1 (cS (mkF k0))) (hB : B ≤ w.heap.size) (h1 : 1 ≤ k0) (h2 : k0 + n ≤ 20000000) :
    Calls Tryz.prog 46 #[v, .int .i64 k0] w fun e w' => e = .returned (.int .i64 (k0 + n)) ∧ Below w.heap.size w w' := by
  obtain ⟨oa, cap, rfl, _, hc⟩ := h
  have HC : Hid _ := hc
  clear hc
  go_enter Tryz.func46, Tryz.ntmps46
  go_wp2
  go_loopw [1, 5] (fun q i wr => ∃ k : Nat, k ≤ n ∧ i = .int .i64 k ∧ q = .int .i64 (k0 + k) ∧ Hid (Below w.heap.size w wr)) (fun _ i _ => n - (intOf i).toNat)
  case atStart => exact ⟨0, Nat.zero_le _, rfl, by simp, Below.refl _ _⟩
  case round =>
    obtain ⟨k, hk, rfl, rfl, hbel⟩ := hrel
    by_cases hlt : k < n
    · obtain ⟨b, off, rfl, hbB, hcell⟩ := HC.out k hlt
      have hck : wr.cell? ⟨b, off + k, none⟩ = some (.string (mkT (k0 + k))) := (hbel.out.cell (p := ⟨b, off + k, none⟩) (by show b < _; omega)).trans (by simpa [cS, mkF] using hcell 0 (by omega))
      have hgw : b < wr.heap.size := by have := hbel.out.size; omega
      have hsz := hbel.out.size
      clear hcell
      go_wp2
      go_region_with (go_at_call 44; refine (mkText_any _ _ (by omega) (by omega)).mono ?_; rintro e w1 ⟨rfl, hb1⟩; have hck1 := (hb1.cell (p := ⟨b, off + k, none⟩) hgw).trans hck)
      all_goals
        go_wp2
        go_roundw
        case rel => exact ⟨k + 1, by omega, by go_num, by go_num, hbel.out.drew.trans (hb1.mono hsz)⟩
        case measure => simp [intOf]; omega
    · go_wp2
      go_ret
      have hkn : k = n := by omega
      subst hkn
      exact ⟨rfl, hbel.out⟩

set_option maxRecDepth 100000 in
set_option maxHeartbeats 2000000 in
theorem mkF_any (L H g n cap m : Nat) (k0 : Int) (w : World) (hb : ∃ c : Array Value, w.heap[g]? = some (.cells c 98 (0, 0)) ∧ c.size = m) (hL : L ≤ g) (hH : g < H) (hn : n * 2 ≤ m) (h1 : 1 ≤ k0) (h2 : k0 + n * 2 ≤ 20000000) :
    Calls Tryz.prog 41 #[.slice (some ⟨g, 0, none⟩) n cap, .int .i64 k0] w fun e w' => e = .returned (.int .i64 (k0 + n * 2)) ∧ Outs L H w w' := by
  go_enter Tryz.func41, Tryz.ntmps41
  go_wp2
  go_loopw [1, 5] (fun q i wr => ∃ k : Nat, k ≤ n ∧ i = .int .i64 k ∧ q = .int .i64 (k0 + k * 2) ∧ Hid (Outs L H w wr)) (fun _ i _ => n - (intOf i).toNat)
  case atStart => exact ⟨0, Nat.zero_le _, rfl, by simp, Outs.refl _ _ _⟩
  case round =>
    obtain ⟨k, hk, rfl, rfl, hout⟩ := hrel
    by_cases hlt : k < n
    · obtain ⟨c, hc, hcs⟩ := hout.out.blk g 98 m hb
      have hc0 : Hid (wr.heap[g]? = some (.cells c 98 (0, 0))) := hc
      clear hc
      have hgl : g < wr.heap.size := (Array.getElem?_eq_some_iff.1 hc0.out).1
      have hsz := hout.out.bel.size
      go_wp2_with fail
      refine (mkText_any _ _ (by omega) (by omega)).mono ?_
      rintro e u0 ⟨rfl, hb0⟩
      have hr0 : Hid (u0.heap[g]? = some (.cells (c) 98 (0, 0))) := (hb0.block g hgl).trans (hc0.out)
      obtain ⟨y0, hy0⟩ : ∃ v, (c)[k * 2]? = some v := ⟨_, Array.getElem?_eq_getElem (by first | omega | (simp; omega))⟩
      obtain ⟨hcl0, hfr0⟩ := cell_row hr0.out (k * 2) y0 hy0
      clear hy0
      have z0 : wr.heap.size ≤ u0.heap.size := hb0.size
      have hgl1 : g < u0.heap.size := by omega
      go_wp2_with fail
      refine (mkText_any _ _ (by omega) (by omega)).mono ?_
      rintro e u1 ⟨rfl, hb1⟩
      have hr1 : Hid (u1.heap[g]? = some (.cells ((c).setIfInBounds (k * 2) (.string (mkT (k0 + k * 2)))) 98 (0, 0))) := (hb1.block g (by simpa [World.setCell] using hgl1)).trans (set_row (hr0.out) (k * 2) _)
      obtain ⟨y1, hy1⟩ : ∃ v, ((c).setIfInBounds (k * 2) (.string (mkT (k0 + k * 2))))[k * 2 + 1]? = some v := ⟨_, Array.getElem?_eq_getElem (by first | omega | (simp; omega))⟩
      obtain ⟨hcl1, hfr1⟩ := cell_row hr1.out (k * 2 + 1) y1 hy1
      clear hy1
      have z1 : wr.heap.size ≤ u1.heap.size := Nat.le_trans z0 (by have := hb1.size; simpa [World.setCell] using this)
      have hgl2 : g < u1.heap.size := by omega
      go_wp2_with fail
      go_roundw
      case rel => exact ⟨k + 1, by omega, by go_num, by go_num, ((((hout.out).trans (Outs.of_below hb0 (by omega))).set hL hH (k * 2) _).trans (Outs.of_below hb1 (by simp [World.setCell]; omega))).set hL hH (k * 2 + 1) _⟩
      case measure => simp [intOf]; omega
    · go_wp2_with fail
      go_ret
      have hkn : k = n := by omega
      subst hkn
      exact ⟨rfl, hout.out⟩

set_option maxRecDepth 100000 in
set_option maxHeartbeats 2000000 in
theorem mkP_any (L H g n cap m : Nat) (k0 : Int) (w : World) (hb : ∃ c : Array Value, w.heap[g]? = some (.cells c 100 (0, 0)) ∧ c.size = m) (hL : L ≤ g) (hH : g < H) (hn : n * 3 ≤ m) (h1 : 1 ≤ k0) (h2 : k0 + n * 3 ≤ 20000000) :
    Calls Tryz.prog 42 #[.slice (some ⟨g, 0, none⟩) n cap, .int .i64 k0] w fun e w' => e = .returned (.int .i64 (k0 + n * 3)) ∧ Outs L H w w' := by
  go_enter Tryz.func42, Tryz.ntmps42
  go_wp2
  go_loopw [1, 5] (fun q i wr => ∃ k : Nat, k ≤ n ∧ i = .int .i64 k ∧ q = .int .i64 (k0 + k * 3) ∧ Hid (Outs L H w wr)) (fun _ i _ => n - (intOf i).toNat)
  case atStart => exact ⟨0, Nat.zero_le _, rfl, by simp, Outs.refl _ _ _⟩
  case round =>
    obtain ⟨k, hk, rfl, rfl, hout⟩ := hrel
    by_cases hlt : k < n
    · obtain ⟨c, hc, hcs⟩ := hout.out.blk g 100 m hb
      have hc0 : Hid (wr.heap[g]? = some (.cells c 100 (0, 0))) := hc
      clear hc
      have hgl : g < wr.heap.size := (Array.getElem?_eq_some_iff.1 hc0.out).1
      have hsz := hout.out.bel.size
      go_wp2_with fail
      refine (mkText_any _ _ (by omega) (by omega)).mono ?_
      rintro e u0 ⟨rfl, hb0⟩
      have hr0 : Hid (u0.heap[g]? = some (.cells (c) 100 (0, 0))) := (hb0.block g hgl).trans (hc0.out)
      obtain ⟨y0, hy0⟩ : ∃ v, (c)[k * 3]? = some v := ⟨_, Array.getElem?_eq_getElem (by first | omega | (simp; omega))⟩
      obtain ⟨hcl0, hfr0⟩ := cell_row hr0.out (k * 3) y0 hy0
      clear hy0
      obtain ⟨y1, hy1⟩ : ∃ v, (c)[k * 3 + 1]? = some v := ⟨_, Array.getElem?_eq_getElem (by first | omega | (simp; omega))⟩
      obtain ⟨hcl1, hfr1⟩ := cell_row hr0.out (k * 3 + 1) y1 hy1
      clear hy1
      have z0 : wr.heap.size ≤ u0.heap.size := hb0.size
      have hgl1 : g < u0.heap.size := by omega
      go_wp2_with fail
      refine (mkText_any _ _ (by omega) (by omega)).mono ?_
      rintro e u1 ⟨rfl, hb1⟩
      have hr1 : Hid (u1.heap[g]? = some (.cells (((c).setIfInBounds (k * 3) (.string (mkT (k0 + k * 3)))).setIfInBounds (k * 3 + 1) (.int .i64 (k0 + k * 3 + 1))) 100 (0, 0))) := (hb1.block g (by simpa [World.setCell] using hgl1)).trans (set_row (set_row (hr0.out) (k * 3) _) (k * 3 + 1) _)
      obtain ⟨y2, hy2⟩ : ∃ v, (((c).setIfInBounds (k * 3) (.string (mkT (k0 + k * 3)))).setIfInBounds (k * 3 + 1) (.int .i64 (k0 + k * 3 + 1)))[k * 3 + 2]? = some v := ⟨_, Array.getElem?_eq_getElem (by first | omega | (simp; omega))⟩
      obtain ⟨hcl2, hfr2⟩ := cell_row hr1.out (k * 3 + 2) y2 hy2
      clear hy2
      have z1 : wr.heap.size ≤ u1.heap.size := Nat.le_trans z0 (by have := hb1.size; simpa [World.setCell] using this)
      have hgl2 : g < u1.heap.size := by omega
      go_wp2_with fail
      go_roundw
      case rel => exact ⟨k + 1, by omega, by go_num, by go_num, (((((hout.out).trans (Outs.of_below hb0 (by omega))).set hL hH (k * 3) _).set hL hH (k * 3 + 1) _).trans (Outs.of_below hb1 (by simp [World.setCell]; omega))).set hL hH (k * 3 + 2) _⟩
      case measure => simp [intOf]; omega
    · go_wp2_with fail
      go_ret
      have hkn : k = n := by omega
      subst hkn
      exact ⟨rfl, hout.out⟩

set_option maxRecDepth 100000 in
set_option maxHeartbeats 2000000 in
theorem mkV_any (L H g n cap m : Nat) (k0 : Int) (w : World) (hb : ∃ c : Array Value, w.heap[g]? = some (.cells c 102 (0, 0)) ∧ c.size = m) (hL : L ≤ g) (hH : g < H) (hn : n * 4 ≤ m) (h1 : 1 ≤ k0) (h2 : k0 + n * 4 ≤ 20000000) :
    Calls Tryz.prog 43 #[.slice (some ⟨g, 0, none⟩) n cap, .int .i64 k0] w fun e w' => e = .returned (.int .i64 (k0 + n * 4)) ∧ Outs L H w w' := by
  go_enter Tryz.func43, Tryz.ntmps43
  go_wp2
  go_loopw [1, 5] (fun q i wr => ∃ k : Nat, k ≤ n ∧ i = .int .i64 k ∧ q = .int .i64 (k0 + k * 4) ∧ Hid (Outs L H w wr)) (fun _ i _ => n - (intOf i).toNat)
  case atStart => exact ⟨0, Nat.zero_le _, rfl, by simp, Outs.refl _ _ _⟩
  case round =>
    obtain ⟨k, hk, rfl, rfl, hout⟩ := hrel
    by_cases hlt : k < n
    · obtain ⟨c, hc, hcs⟩ := hout.out.blk g 102 m hb
      have hc0 : Hid (wr.heap[g]? = some (.cells c 102 (0, 0))) := hc
      clear hc
      have hgl : g < wr.heap.size := (Array.getElem?_eq_some_iff.1 hc0.out).1
      have hsz := hout.out.bel.size
      go_wp2_with fail
      refine (mkText_any _ _ (by omega) (by omega)).mono ?_
      rintro e u0 ⟨rfl, hb0⟩
      have hr0 : Hid (u0.heap[g]? = some (.cells (c) 102 (0, 0))) := (hb0.block g hgl).trans (hc0.out)
      obtain ⟨y0, hy0⟩ : ∃ v, (c)[k * 4]? = some v := ⟨_, Array.getElem?_eq_getElem (by first | omega | (simp; omega))⟩
      obtain ⟨hcl0, hfr0⟩ := cell_row hr0.out (k * 4) y0 hy0
      clear hy0
      have z0 : wr.heap.size ≤ u0.heap.size := hb0.size
      have hgl1 : g < u0.heap.size := by omega
      go_wp2_with fail
      refine (mkText_any _ _ (by omega) (by omega)).mono ?_
      rintro e u1 ⟨rfl, hb1⟩
      have hr1 : Hid (u1.heap[g]? = some (.cells ((c).setIfInBounds (k * 4) (.string (mkT (k0 + k * 4)))) 102 (0, 0))) := (hb1.block g (by simpa [World.setCell] using hgl1)).trans (set_row (hr0.out) (k * 4) _)
      obtain ⟨y1, hy1⟩ : ∃ v, ((c).setIfInBounds (k * 4) (.string (mkT (k0 + k * 4))))[k * 4 + 1]? = some v := ⟨_, Array.getElem?_eq_getElem (by first | omega | (simp; omega))⟩
      obtain ⟨hcl1, hfr1⟩ := cell_row hr1.out (k * 4 + 1) y1 hy1
      clear hy1
      have z1 : wr.heap.size ≤ u1.heap.size := Nat.le_trans z0 (by have := hb1.size; simpa [World.setCell] using this)
      have hgl2 : g < u1.heap.size := by omega
      go_wp2_with fail
      refine (mkText_any _ _ (by omega) (by omega)).mono ?_
      rintro e u2 ⟨rfl, hb2⟩
      have hr2 : Hid (u2.heap[g]? = some (.cells (((c).setIfInBounds (k * 4) (.string (mkT (k0 + k * 4)))).setIfInBounds (k * 4 + 1) (.string (mkT (k0 + k * 4 + 1)))) 102 (0, 0))) := (hb2.block g (by simpa [World.setCell] using hgl2)).trans (set_row (hr1.out) (k * 4 + 1) _)
      obtain ⟨y2, hy2⟩ : ∃ v, (((c).setIfInBounds (k * 4) (.string (mkT (k0 + k * 4)))).setIfInBounds (k * 4 + 1) (.string (mkT (k0 + k * 4 + 1))))[k * 4 + 2]? = some v := ⟨_, Array.getElem?_eq_getElem (by first | omega | (simp; omega))⟩
      obtain ⟨hcl2, hfr2⟩ := cell_row hr2.out (k * 4 + 2) y2 hy2
      clear hy2
      have z2 : wr.heap.size ≤ u2.heap.size := Nat.le_trans z1 (by have := hb2.size; simpa [World.setCell] using this)
      have hgl3 : g < u2.heap.size := by omega
      go_wp2_with fail
      refine (mkText_any _ _ (by omega) (by omega)).mono ?_
      rintro e u3 ⟨rfl, hb3⟩
      have hr3 : Hid (u3.heap[g]? = some (.cells ((((c).setIfInBounds (k * 4) (.string (mkT (k0 + k * 4)))).setIfInBounds (k * 4 + 1) (.string (mkT (k0 + k * 4 + 1)))).setIfInBounds (k * 4 + 2) (.string (mkT (k0 + k * 4 + 1 + 1)))) 102 (0, 0))) := (hb3.block g (by simpa [World.setCell] using hgl3)).trans (set_row (hr2.out) (k * 4 + 2) _)
      obtain ⟨y3, hy3⟩ : ∃ v, ((((c).setIfInBounds (k * 4) (.string (mkT (k0 + k * 4)))).setIfInBounds (k * 4 + 1) (.string (mkT (k0 + k * 4 + 1)))).setIfInBounds (k * 4 + 2) (.string (mkT (k0 + k * 4 + 1 + 1))))[k * 4 + 3]? = some v := ⟨_, Array.getElem?_eq_getElem (by first | omega | (simp; omega))⟩
      obtain ⟨hcl3, hfr3⟩ := cell_row hr3.out (k * 4 + 3) y3 hy3
      clear hy3
      have z3 : wr.heap.size ≤ u3.heap.size := Nat.le_trans z2 (by have := hb3.size; simpa [World.setCell] using this)
      have hgl4 : g < u3.heap.size := by omega
      go_wp2_with fail
      go_roundw
      case rel => exact ⟨k + 1, by omega, by go_num, by go_num, ((((((((hout.out).trans (Outs.of_below hb0 (by omega))).set hL hH (k * 4) _).trans (Outs.of_below hb1 (by simp [World.setCell]; omega))).set hL hH (k * 4 + 1) _).trans (Outs.of_below hb2 (by simp [World.setCell]; omega))).set hL hH (k * 4 + 2) _).trans (Outs.of_below hb3 (by simp [World.setCell]; omega))).set hL hH (k * 4 + 3) _⟩
      case measure => simp [intOf]; omega
    · go_wp2_with fail
      go_ret
      have hkn : k = n := by omega
      subst hkn
      exact ⟨rfl, hout.out⟩

set_option maxRecDepth 100000 in
set_option maxHeartbeats 2000000 in
/-- A plant in blocks of its own, marked. -/
theorem markPlant_le (A B g0 g1 g2 g3 : Nat) (D : PD) (w : World) (h : PBlk A B w g0 g1 g2 g3 D) (hB : B ≤ w.heap.size) (hA : A ≤ B) (hm : D.ns ≤ 1048576 ∧ D.nf ≤ 1048576 ∧ D.np ≤ 1048576 ∧ D.nv ≤ 1048576) :
    Calls Tryz.prog 16 #[.agg #[sl g0 D.ns, sl g1 D.nf, sl g2 D.np, sl g3 D.nv], .int .i64 1] w fun e w' => ∃ k : Int, e = .returned (.int .i64 k) ∧ (1 ≤ k ∧ k ≤ 10485761) ∧ Outs A B w w' := by
  obtain ⟨m0, m1, m2, m3⟩ := hm
  obtain ⟨⟨a0, a1, a2, a3⟩, ⟨l0, c0, r0, z0⟩, ⟨l1, r1⟩, ⟨l2, r2⟩, ⟨l3, r3⟩⟩ := h
  have R0 : Hid _ := r0
  have R1 : Hid _ := r1
  have R2 : Hid _ := r2
  have R3 : Hid _ := r3
  clear r0 r1 r2 r3
  have k0 : Hid (Below (w.heap.size + 1) (w.alloc (.cells #[sl g0 D.ns, sl g1 D.nf, sl g2 D.np, sl g3 D.nv] 39)) (w.alloc (.cells #[sl g0 D.ns, sl g1 D.nf, sl g2 D.np, sl g3 D.nv] 39))) := Below.refl _ _
  have O0 : Hid (Outs A B w (w.alloc (.cells #[sl g0 D.ns, sl g1 D.nf, sl g2 D.np, sl g3 D.nv] 39))) := Outs.of_below ((Below.refl _ _).alloc (Nat.le_refl _) _) (by omega)
  have bx : Hid (∀ w' : World, Outs A B (w.alloc (.cells #[sl g0 D.ns, sl g1 D.nf, sl g2 D.np, sl g3 D.nv] 39)) w' → w'.heap[w.heap.size]? = some (.cells #[sl g0 D.ns, sl g1 D.nf, sl g2 D.np, sl g3 D.nv] 39 (0, 0))) := fun w' ho => (ho.out _ hB (by simp)).trans (heap_alloc_new w _)
  go_enter Tryz.func16, Tryz.ntmps16
  go_wp2_with fail
  refine (mkS_any A B g0 D.ns D.ns D.ns 1 c0 _ ((Below.heap_alloc w _ g0 (by omega)).trans R0.out) z0 a0 l0 (Nat.le_refl _) (by omega) (by omega)).mono ?_; rintro e w1 ⟨rfl, o1, _⟩
  have O1 : Hid (Outs A B w w1) := O0.out.trans o1
  have B1 := bx.out w1 o1
  obtain ⟨x1, _⟩ := cell_row B1 1 _ rfl
  clear B1
  simp only [List.getElem_toArray, List.getElem_cons_zero, List.getElem_cons_succ] at x1
  go_wp2_with fail
  refine (mkF_any A B g1 D.nf D.nf (D.nf * 2) (1 + D.ns) _ (O1.out.blk g1 _ _ R1.out) a1 l1 (Nat.le_refl _) (by omega) (by omega)).mono ?_; rintro e w2 ⟨rfl, o2⟩
  have O2 : Hid (Outs A B w w2) := O1.out.trans o2
  have B2 := bx.out w2 (o1.trans o2)
  obtain ⟨x2, _⟩ := cell_row B2 2 _ rfl
  clear B2
  simp only [List.getElem_toArray, List.getElem_cons_zero, List.getElem_cons_succ] at x2
  go_wp2_with fail
  refine (mkP_any A B g2 D.np D.np (D.np * 3) (1 + D.ns + D.nf * 2) _ (O2.out.blk g2 _ _ R2.out) a2 l2 (Nat.le_refl _) (by omega) (by omega)).mono ?_; rintro e w3 ⟨rfl, o3⟩
  have O3 : Hid (Outs A B w w3) := O2.out.trans o3
  have B3 := bx.out w3 ((o1.trans o2).trans o3)
  obtain ⟨x3, _⟩ := cell_row B3 3 _ rfl
  clear B3
  simp only [List.getElem_toArray, List.getElem_cons_zero, List.getElem_cons_succ] at x3
  go_wp2_with fail
  refine (mkV_any A B g3 D.nv D.nv (D.nv * 4) (1 + D.ns + D.nf * 2 + D.np * 3) _ (O3.out.blk g3 _ _ R3.out) a3 l3 (Nat.le_refl _) (by omega) (by omega)).mono ?_; rintro e w4 ⟨rfl, o4⟩
  go_wp2_with fail
  go_ret
  exact ⟨_, rfl, ⟨by omega, by omega⟩, O3.out.trans o4⟩

theorem markPlant_any (A B g0 g1 g2 g3 : Nat) (D : PD) (w : World) (h : PBlk A B w g0 g1 g2 g3 D) (hB : B ≤ w.heap.size) (hA : A ≤ B) (hm : D.ns ≤ 1048576 ∧ D.nf ≤ 1048576 ∧ D.np ≤ 1048576 ∧ D.nv ≤ 1048576) :
    Calls Tryz.prog 16 #[.agg #[sl g0 D.ns, sl g1 D.nf, sl g2 D.np, sl g3 D.nv], .int .i64 1] w fun e w' => ∃ k : Int, e = .returned (.int .i64 k) ∧ 0 ≤ k ∧ Outs A B w w' :=
  (markPlant_le A B g0 g1 g2 g3 D w h hB hA hm).mono fun _ _ ⟨k, h1, h2, h3⟩ => ⟨k, h1, by omega, h3⟩

end Go.Proofs.YtffmfomonmhkcabGreat
