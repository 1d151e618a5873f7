/-
  Contracts of the laws' own asking for the marks.
-/
import Derived.Test.YtigkkelaadbhcaaZxm
namespace Go.Proofs.Ytigkkelaadbhcaa
open Go.RowKit

set_option maxRecDepth 100000 in
set_option maxHeartbeats 4000000 in
theorem heldStringS_any (S : Nat → Prop) (l : List ByteArray) (v : Value) (k : Int) (w : World) (h : AtL S w (mkL k l) v) (hS : ∀ b, S b → b < w.heap.size) (h1 : 1 ≤ k) (h2 : k + cntL l ≤ 20000000) :
    Calls Try.prog 42 #[v, .int .i64 k] w fun e w' => e = .returned (.int .i64 (k + cntL l)) ∧ Below w.heap.size w w' := by
  obtain ⟨oa, cap, rfl, hn, hc⟩ := h
  have HC : Hid _ := hc
  have HS : Hid (∀ b, S b → b < w.heap.size) := hS
  have HML : Hid ((mkL k l).length = l.length) := mkL_len k l
  have HCL : Hid (cntTo l l.length = cntL l) := rfl
  have HCM : Hid (∀ i, i < l.length → cntTo l (i + 1) ≤ cntL l) := cntTo_le l
  rw [mkL_len] at hn
  unfold maxLen at hn
  rw [mkL_len]
  clear hc hS
  obtain ⟨n, en⟩ : ∃ n, l.length = n := ⟨_, rfl⟩
  obtain ⟨m, em⟩ : ∃ m, cntL l = m := ⟨_, rfl⟩
  rw [en] at hn
  rw [em] at h2
  rw [en, em]
  have EN : Hid (l.length = n) := en
  have EM : Hid (cntL l = m) := em
  clear en em
  go_enter Try.func42, Try.ntmps42
  go_wp2
  go_loopw [1, 5] (fun q i wr => ∃ i' : Nat, i' ≤ n ∧ i = .int .i64 i' ∧ q = .int .i64 (k + cntTo l i') ∧ Hid (Below w.heap.size w wr)) (fun _ i _ => n - (intOf i).toNat)
  case atStart => exact ⟨0, Nat.zero_le _, rfl, by rw [cntTo_zero]; simp, Below.refl _ _⟩
  case round =>
    obtain ⟨i, hi, rfl, rfl, hbel⟩ := hrel
    have hsz := hbel.out.size
    by_cases hlt : i < n
    · have hil : i < l.length := by have := EN.out; omega
      obtain ⟨b, off, rfl, hbS, cc, hcell, hat⟩ := HC.out i (by rw [HML.out]; exact hil)
      have hb := HS.out b hbS
      rw [mkL_at k l i hil] at hat
      have hcs := cntTo_succ l i hil
      have hle := HCM.out i hil
      obtain ⟨a, ea⟩ : ∃ a, l[i]'hil = a := ⟨_, rfl⟩
      rw [ea] at hcs hat
      rw [show Own.cnt a = 1 from rfl] at hcs
      rw [hcs, EM.out] at hle
      have HCS : Hid _ := hcs
      obtain ⟨p, ep⟩ : ∃ p, cntTo l i = p := ⟨_, rfl⟩
      rw [ep] at hle HCS hat
      rw [ep]
      clear hcs ep ea hil
      rw [width_str] at hcell
      have e0 : w.cell? ⟨b, off + i, none⟩ = some (cc 0) := by simpa using hcell 0 (by omega)
      clear hcell
      obtain ⟨ge0, _⟩ := at_str.1 hat
      clear hat
      have ge0 : cc 0 = .string (mkO (k + p)) := ge0
      rw [ge0] at e0
      clear ge0
      have E0 : Hid (w.cell? ⟨b, off + i, none⟩ = some (.string (mkO (k + p)))) := e0
      clear e0
      have c0 : wr.cell? ⟨b, off + i, none⟩ = some (.string (mkO (k + p))) := (hbel.out.cell (p := ⟨b, off + i, none⟩) (by show b < _; exact hb)).trans E0.out
      have gw0 : b < wr.heap.size := by omega
      go_wp2
      go_region_with (go_at_call 20; refine (mkTx_any _ _ (by omega) (by omega)).mono ?_; rintro e u0 ⟨rfl, hb0⟩; have d0 := (hb0.cell (p := ⟨b, off + i, none⟩) gw0).trans c0)
      all_goals
        have bl0 : Hid (Below w.heap.size w u0) := hbel.out.drew.trans (hb0.mono hsz)
        have sz0 := bl0.out.size
        go_wp2
        go_roundw
        case rel => exact ⟨i + 1, by omega, by go_num, by rw [HCS.out]; congr 1; omega, bl0.out⟩
        case measure => simp [intOf]; omega
    · have hin : i = n := by omega
      subst hin
      have hck : cntTo l i = m := by rw [← EM.out, ← HCL.out, EN.out]
      rw [hck]
      clear hck
      go_wp2
      go_ret
      exact ⟨rfl, hbel.out⟩
set_option maxRecDepth 100000 in
set_option maxHeartbeats 4000000 in
theorem heldShareBatchS_any (S : Nat → Prop) (l : List DShareBatch) (v : Value) (k : Int) (w : World) (h : AtL S w (mkL k l) v) (hS : ∀ b, S b → b < w.heap.size) (h1 : 1 ≤ k) (h2 : k + cntL l ≤ 20000000) :
    Calls Try.prog 43 #[v, .int .i64 k] w fun e w' => e = .returned (.int .i64 (k + cntL l)) ∧ Below w.heap.size w w' := by
  obtain ⟨oa, cap, rfl, hn, hc⟩ := h
  have HC : Hid _ := hc
  have HS : Hid (∀ b, S b → b < w.heap.size) := hS
  have HML : Hid ((mkL k l).length = l.length) := mkL_len k l
  have HCL : Hid (cntTo l l.length = cntL l) := rfl
  have HCM : Hid (∀ i, i < l.length → cntTo l (i + 1) ≤ cntL l) := cntTo_le l
  rw [mkL_len] at hn
  unfold maxLen at hn
  rw [mkL_len]
  clear hc hS
  obtain ⟨n, en⟩ : ∃ n, l.length = n := ⟨_, rfl⟩
  obtain ⟨m, em⟩ : ∃ m, cntL l = m := ⟨_, rfl⟩
  rw [en] at hn
  rw [em] at h2
  rw [en, em]
  have EN : Hid (l.length = n) := en
  have EM : Hid (cntL l = m) := em
  clear en em
  go_enter Try.func43, Try.ntmps43
  go_wp2
  go_loopw [1, 5] (fun q i wr => ∃ i' : Nat, i' ≤ n ∧ i = .int .i64 i' ∧ q = .int .i64 (k + cntTo l i') ∧ Hid (Below w.heap.size w wr)) (fun _ i _ => n - (intOf i).toNat)
  case atStart => exact ⟨0, Nat.zero_le _, rfl, by rw [cntTo_zero]; simp, Below.refl _ _⟩
  case round =>
    obtain ⟨i, hi, rfl, rfl, hbel⟩ := hrel
    have hsz := hbel.out.size
    by_cases hlt : i < n
    · have hil : i < l.length := by have := EN.out; omega
      obtain ⟨b, off, rfl, hbS, cc, hcell, hat⟩ := HC.out i (by rw [HML.out]; exact hil)
      have hb := HS.out b hbS
      rw [mkL_at k l i hil] at hat
      have hcs := cntTo_succ l i hil
      have hle := HCM.out i hil
      obtain ⟨a, ea⟩ : ∃ a, l[i]'hil = a := ⟨_, rfl⟩
      rw [ea] at hcs hat
      rw [cnt_DShareBatch] at hcs
      rw [hcs, EM.out] at hle
      have HCS : Hid _ := hcs
      obtain ⟨p, ep⟩ : ∃ p, cntTo l i = p := ⟨_, rfl⟩
      rw [ep] at hle HCS hat
      rw [ep]
      clear hcs ep ea hil
      rw [width_DShareBatch] at hcell
      have e0 : w.cell? ⟨b, off + i * 3, none⟩ = some (cc 0) := by simpa using hcell 0 (by omega)
      have e1 : w.cell? ⟨b, off + i * 3 + 1, none⟩ = some (cc 1) := by simpa using hcell 1 (by omega)
      have e2 : w.cell? ⟨b, off + i * 3 + 2, none⟩ = some (cc 2) := by simpa using hcell 2 (by omega)
      clear hcell
      rw [mkD_DShareBatch] at hat
      obtain ⟨⟨ge0, _⟩, H1, H2⟩ := at_DShareBatch.1 hat
      clear hat
      have ge0 : cc 0 = .string (mkO (k + p)) := ge0
      rw [ge0] at e0
      clear ge0
      have E0 : Hid (w.cell? ⟨b, off + i * 3, none⟩ = some (.string (mkO (k + p)))) := e0
      clear e0
      have L1 : Hid (AtL S w (mkL (k + p + 1) a.2.1) (cc 1)) := H1
      clear H1
      have E1 : Hid (w.cell? ⟨b, off + i * 3 + 1, none⟩ = some (cc 1)) := e1
      clear e1
      have L2 : Hid (AtL S w (mkL (k + p + 1 + cntL a.2.1) a.2.2) (cc 2)) := H2
      clear H2
      have E2 : Hid (w.cell? ⟨b, off + i * 3 + 2, none⟩ = some (cc 2)) := e2
      clear e2
      have c0 : wr.cell? ⟨b, off + i * 3, none⟩ = some (.string (mkO (k + p))) := (hbel.out.cell (p := ⟨b, off + i * 3, none⟩) (by show b < _; exact hb)).trans E0.out
      have gw0 : b < wr.heap.size := by omega
      go_wp2
      go_region_with (go_at_call 20; refine (mkTx_any _ _ (by omega) (by omega)).mono ?_; rintro e u0 ⟨rfl, hb0⟩; have d0 := (hb0.cell (p := ⟨b, off + i * 3, none⟩) gw0).trans c0)
      all_goals
        have bl0 : Hid (Below w.heap.size w u0) := hbel.out.drew.trans (hb0.mono hsz)
        have sz0 := bl0.out.size
        have c1 : u0.cell? ⟨b, off + i * 3 + 1, none⟩ = some (cc 1) := (bl0.out.cell (p := ⟨b, off + i * 3 + 1, none⟩) (by show b < _; exact hb)).trans E1.out
        go_wp2_with fail
        refine (heldStringS_any S a.2.1 (cc 1) _ _ (L1.out.same (Same.of_below bl0.out HS.out)) (fun b hb => Nat.lt_of_lt_of_le (HS.out b hb) bl0.out.size) (by omega) (by omega)).mono ?_
        rintro e u1 ⟨rfl, hb1⟩
        have bl1 : Hid (Below w.heap.size w u1) := bl0.out.trans (hb1.mono sz0)
        have sz1 := bl1.out.size
        have c2 : u1.cell? ⟨b, off + i * 3 + 2, none⟩ = some (cc 2) := (bl1.out.cell (p := ⟨b, off + i * 3 + 2, none⟩) (by show b < _; exact hb)).trans E2.out
        go_wp2_with fail
        refine (heldStringS_any S a.2.2 (cc 2) _ _ (L2.out.same (Same.of_below bl1.out HS.out)) (fun b hb => Nat.lt_of_lt_of_le (HS.out b hb) bl1.out.size) (by omega) (by omega)).mono ?_
        rintro e u2 ⟨rfl, hb2⟩
        have bl2 : Hid (Below w.heap.size w u2) := bl1.out.trans (hb2.mono sz1)
        have sz2 := bl2.out.size
        go_wp2
        go_roundw
        case rel => exact ⟨i + 1, by omega, by go_num, by rw [HCS.out]; congr 1; omega, bl2.out⟩
        case measure => simp [intOf]; omega
    · have hin : i = n := by omega
      subst hin
      have hck : cntTo l i = m := by rw [← EM.out, ← HCL.out, EN.out]
      rw [hck]
      clear hck
      go_wp2
      go_ret
      exact ⟨rfl, hbel.out⟩
set_option maxRecDepth 100000 in
set_option maxHeartbeats 4000000 in
theorem heldShareBook_any (S : Nat → Prop) (a : DShareBook) (c : Nat → Value) (k : Int) (w : World) (h : Lay.At S w (Own.mkD k a) c) (hS : ∀ b, S b → b < w.heap.size) (h1 : 1 ≤ k) (h2 : k + Own.cnt a ≤ 20000000) :
    Calls Try.prog 24 #[.agg #[c 0, c 1], .int .i64 k] w fun e w' => e = .returned (.int .i64 (k + Own.cnt a)) ∧ Below w.heap.size w w' := by
  rw [cnt_DShareBook] at h2
  rw [cnt_DShareBook]
  rw [mkD_DShareBook] at h
  obtain ⟨H0, H1⟩ := at_DShareBook.1 h
  clear h
  obtain ⟨so0, sc0, ge0, _⟩ := id H0
  rw [ge0] at H0
  rw [ge0]
  clear ge0
  have L0 : Hid (AtL S w (mkL (k) a.1) (.slice so0 (mkL (k) a.1).length sc0)) := H0
  clear H0
  obtain ⟨so1, sc1, ge1, _⟩ := id H1
  rw [ge1] at H1
  rw [ge1]
  clear ge1
  have L1 : Hid (AtL S w (mkL (k + cntL a.1) a.2) (.slice so1 (mkL (k + cntL a.1) a.2).length sc1)) := H1
  clear H1
  have HS : Hid (∀ b, S b → b < w.heap.size) := hS
  clear hS
  have b0 : Hid (Below w.heap.size w (w.alloc (.cells #[.slice so0 (mkL (k) a.1).length sc0, .slice so1 (mkL (k + cntL a.1) a.2).length sc1] 26))) := (Below.refl _ _).alloc (Nat.le_refl _) _
  go_enter Try.func24, Try.ntmps24
  go_wp2_with fail
  refine (heldStringS_any S a.1 _ _ _ (L0.out.same (Same.of_below b0.out HS.out)) (fun b hb => Nat.lt_of_lt_of_le (HS.out b hb) b0.out.size) (by omega) (by omega)).mono ?_
  rintro e w1 ⟨rfl, u1⟩
  have b1 : Hid (Below w.heap.size w w1) := b0.out.trans (u1.mono b0.out.size)
  have x1_1 : w1.cell? ⟨w.heap.size, 1, none⟩ = some (.slice so1 (mkL (k + cntL a.1) a.2).length sc1) := (u1.cell (p := ⟨w.heap.size, 1, none⟩) (by simp)).trans (by simp)
  have s1 : w.heap.size < w1.heap.size := by have := u1.size; simp at this; omega
  go_wp2_with fail
  refine (heldShareBatchS_any S a.2 _ _ _ (L1.out.same (Same.of_below b1.out HS.out)) (fun b hb => Nat.lt_of_lt_of_le (HS.out b hb) b1.out.size) (by omega) (by omega)).mono ?_
  rintro e w2 ⟨rfl, u2⟩
  have b2 : Hid (Below w.heap.size w w2) := b1.out.trans (u2.mono b1.out.size)
  have s2 : w.heap.size < w2.heap.size := by have := u2.size; omega
  have hx : Hid (k + cntL a.1 + cntL a.2 = k + ((cntL a.1 + (cntL a.2) : Nat) : Int)) := by show _ = _; omega
  go_wp2_with fail
  go_ret
  exact ⟨by rw [← hx.out]; rfl, b2.out⟩
end Go.Proofs.Ytigkkelaadbhcaa
