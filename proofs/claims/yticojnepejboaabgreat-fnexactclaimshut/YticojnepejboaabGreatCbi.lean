/-
  Contracts of the laws' own marking, asking and comparing of a list of numbers.
-/
import Derived.Test.YticojnepejboaabGreatCbm
namespace Go.Proofs.YticojnepejboaabGreat
open Go.RowKit

set_option maxRecDepth 100000 in
set_option maxHeartbeats 4000000 in
theorem markIntS_any (S : Nat → Prop) (l : List Int) (v : Value) (k : Int) (w : World) (h : OnL S w l v) (hS : ∀ b, S b → b < w.heap.size) (h1 : 1 ≤ k) (h2 : k + cntL l ≤ 20000000) :
    Calls Tryz.prog 11 #[v, .int .i64 k] w fun e w' => e = .returned (.int .i64 (k + cntL l)) ∧ OnL S w' (mkL k l) v ∧ But S w w' := by
  obtain ⟨oa, cap, rfl, hn, h⟩ := h
  rcases h with h | ⟨g, off, Ss, cur, t, rfl, f, hf, h⟩
  · subst h
    go_enter Tryz.func11, Tryz.ntmps11
    go_wp2
    go_loop [1, 5] (fun s i => i = .int .i64 0 ∧ s = .int .i64 k) (fun _ _ => 0)
    case atStart => exact ⟨rfl, rfl⟩
    case round =>
      obtain ⟨rfl, rfl⟩ := hrel
      go_wp2
      go_ret
      exact ⟨by simp [cntL, cntTo], ⟨_, cap, rfl, hn, .inl rfl⟩, But.refl _ _⟩
  · have HE : Hid (Els S w g off Ss cur t l.length (markedTo k l f 0)) := by
      show Els _ _ _ _ _ _ _ _ _
      rw [mt_zero]; exact h
    have HF : Hid (∀ i (h : i < l.length), f i = l[i]) := hf
    have HN : Hid (Fits (some ⟨g, off, none⟩) l.length cap) := hn
    replace hn : l.length ≤ maxLen := hn.1
    have HS : Hid (∀ b, S b → b < w.heap.size) := hS
    have HCL : Hid (cntTo l l.length = cntL l) := rfl
    unfold maxLen at hn
    clear h hf hS
    have HCM : Hid (∀ i, i < l.length → cntTo l (i + 1) ≤ cntL l) := cntTo_le l
    obtain ⟨n, en⟩ : ∃ n, l.length = n := ⟨_, rfl⟩
    obtain ⟨m, em⟩ : ∃ m, cntL l = m := ⟨_, rfl⟩
    rw [en] at hn HE
    rw [em] at h2
    rw [en, em]
    have EN : Hid (l.length = n) := en
    have EM : Hid (cntL l = m) := em
    clear en em
    go_enter Tryz.func11, Tryz.ntmps11
    go_wp2
    go_loopw [1, 5] (fun q i wr => ∃ (i' : Nat) (c : Array Value), i' ≤ n ∧ i = .int .i64 i' ∧ q = .int .i64 (k + cntTo l i') ∧ Hid (Els S wr g off Ss c t n (markedTo k l f i')) ∧ Hid (But S w wr)) (fun _ i _ => n - (intOf i).toNat)
    case atStart => exact ⟨0, cur, Nat.zero_le _, rfl, by rw [cntTo_zero]; simp, HE, But.refl _ _⟩
    case round =>
      clear HE
      obtain ⟨i, c, hi, rfl, rfl, hE, hB⟩ := hrel
      by_cases hlt : i < n
      · obtain ⟨cc, hcell, hon⟩ := hE.out.el i hlt
        rw [mt_at] at hon
        have hrow : Hid (wr.heap[g]? = some (.cells c t (0, 0))) := hE.out.row
        have hgl : g < wr.heap.size := (Array.getElem?_eq_some_iff.1 hrow.out).1
        have HWS : Hid (∀ b, S b → b < wr.heap.size) := fun b hb => Nat.lt_of_lt_of_le (HS.out b hb) hB.out.size
        have SUB : Hid (∀ b, Ss i b → S b ∧ b ≠ g) := hE.out.sub i
        have hcs := cntTo_succ l i (by have := EN.out; omega)
        have hle := HCM.out i (by have := EN.out; omega)
        rw [← HF.out i (by have := EN.out; omega)] at hcs
        obtain ⟨a, ea⟩ : ∃ a, f i = a := ⟨_, rfl⟩
        rw [ea] at hcs hon
        rw [show Own.cnt a = 1 from rfl] at hcs
        rw [hcs, EM.out] at hle
        have HCS : Hid _ := hcs
        clear hcs
        obtain ⟨p, ep⟩ : ∃ p, cntTo l i = p := ⟨_, rfl⟩
        rw [ep] at hle HCS
        rw [ep]
        have EP : Hid (cntTo l i = p) := ep
        have EA : Hid (f i = a) := ea
        clear ep ea
        rw [width_int] at hcell
        have e0 : c[off + i]? = some (cc 0) := by simpa using hcell 0 (by omega)
        clear hcell
        have hsz : off + i < c.size := (Array.getElem?_eq_some_iff.1 e0).1
        obtain ⟨ge0, _⟩ := at_int.1 hon
        clear hon
        rw [ge0] at e0
        clear ge0
        have bt : Hid (But (fun b => b = g ∨ Ss i b) wr wr) := But.refl _ _
        obtain ⟨cl0, fr0⟩ := cell_row (hrow.out) (off + i) (.int .i64 a) e0
        have rs0 : Hid ((wr.setCell ⟨g, off + i, none⟩ (.int .i64 (k + p))).heap[g]? = some (.cells (c.setIfInBounds (off + i) (.int .i64 (k + p))) t (0, 0))) := set_row (hrow.out) (off + i) _
        have bs0 : Hid (But (fun b => b = g ∨ Ss i b) wr (wr.setCell ⟨g, off + i, none⟩ (.int .i64 (k + p)))) := bt.out.set (Or.inl rfl) (off + i) _
        have EF : Hid (Els S (wr.setCell ⟨g, off + i, none⟩ (.int .i64 (k + p))) g off Ss (c.setIfInBounds (off + i) (.int .i64 (k + p))) t n (markedTo k l f (i + 1))) := by
          refine hE.out.step i (rs0.out) ?_ ⟨cs [.int .i64 (k + p)], ?_, ?_⟩ (fun q hq => mt_ne k l f i q hq) bs0.out HWS.out
          · intro q j hq hj
            rw [width_int] at hj ⊢
            simp only [Array.getElem?_setIfInBounds]
            repeat rw [if_neg (by omega)]
          · intro j hj
            rw [width_int] at hj ⊢
            rcases (show j = 0 by omega) with rfl
            · show ((c.setIfInBounds (off + i) (.int .i64 (k + p))))[off + i * 1 + 0]? = some (.int .i64 (k + p))
              simp only [Array.getElem?_setIfInBounds]
              repeat (first | rw [if_pos True.intro] | rw [if_pos (by omega)] | rw [if_neg (by omega)])
          · rw [mt_succ, EP.out, EA.out]
            exact at_int.2 ⟨rfl, by show (-9223372036854775808 : Int) ≤ k + p; omega, by show k + p ≤ (9223372036854775807 : Int); omega⟩
        have BF : Hid (But S w (wr.setCell ⟨g, off + i, none⟩ (.int .i64 (k + p)))) := hB.out.trans (bs0.out.up (fun b hb => by
          rcases hb with hb | hb
          · rw [hb]; exact hE.out.own
          · exact (SUB.out b hb).1))
        go_wp2_with fail
        go_roundw
        case rel => exact ⟨i + 1, _, by omega, by go_num, by rw [HCS.out]; congr 1; omega, EF.out, BF.out⟩
        case measure => simp [intOf]; omega
      · have hin : i = n := by omega
        subst hin
        have hck : cntTo l i = m := by rw [← EM.out, ← HCL.out, EN.out]
        rw [hck]
        clear hck
        go_wp2_with fail
        go_ret
        refine ⟨rfl, ?_, hB.out⟩
        have h := hE.out
        rw [← EN.out] at h ⊢
        exact OnL.of_marked h HF.out HN.out

set_option maxRecDepth 100000 in
set_option maxHeartbeats 4000000 in
theorem heldIntS_any (S : Nat → Prop) (l : List Int) (v : Value) (k : Int) (w : World) (h : AtL S w (mkL k l) v) (hS : ∀ b, S b → b < w.heap.size) (h1 : 1 ≤ k) (h2 : k + cntL l ≤ 20000000) :
    Calls Tryz.prog 12 #[v, .int .i64 k] w fun e w' => e = .returned (.int .i64 (k + cntL l)) ∧ Below w.heap.size w w' := by
  obtain ⟨oa, cap, rfl, hn, hc⟩ := h
  have HC : Hid _ := hc
  have HS : Hid (∀ b, S b → b < w.heap.size) := hS
  have HML : Hid ((mkL k l).length = l.length) := mkL_len k l
  have HCL : Hid (cntTo l l.length = cntL l) := rfl
  have HCM : Hid (∀ i, i < l.length → cntTo l (i + 1) ≤ cntL l) := cntTo_le l
  rw [mkL_len] at hn
  unfold maxLen at hn
  rw [mkL_len]
  clear hc hS
  obtain ⟨n, en⟩ : ∃ n, l.length = n := ⟨_, rfl⟩
  obtain ⟨m, em⟩ : ∃ m, cntL l = m := ⟨_, rfl⟩
  rw [en] at hn
  rw [em] at h2
  rw [en, em]
  have EN : Hid (l.length = n) := en
  have EM : Hid (cntL l = m) := em
  clear en em
  go_enter Tryz.func12, Tryz.ntmps12
  go_wp2
  go_loopw [1, 5] (fun q i wr => ∃ i' : Nat, i' ≤ n ∧ i = .int .i64 i' ∧ q = .int .i64 (k + cntTo l i') ∧ Hid (Below w.heap.size w wr)) (fun _ i _ => n - (intOf i).toNat)
  case atStart => exact ⟨0, Nat.zero_le _, rfl, by rw [cntTo_zero]; simp, Below.refl _ _⟩
  case round =>
    obtain ⟨i, hi, rfl, rfl, hbel⟩ := hrel
    have hsz := hbel.out.size
    by_cases hlt : i < n
    · have hil : i < l.length := by have := EN.out; omega
      obtain ⟨b, off, rfl, hbS, cc, hcell, hat⟩ := HC.out i (by rw [HML.out]; exact hil)
      have hb := HS.out b hbS
      rw [mkL_at k l i hil] at hat
      have hcs := cntTo_succ l i hil
      have hle := HCM.out i hil
      obtain ⟨a, ea⟩ : ∃ a, l[i]'hil = a := ⟨_, rfl⟩
      rw [ea] at hcs hat
      rw [show Own.cnt a = 1 from rfl] at hcs
      rw [hcs, EM.out] at hle
      have HCS : Hid _ := hcs
      obtain ⟨p, ep⟩ : ∃ p, cntTo l i = p := ⟨_, rfl⟩
      rw [ep] at hle HCS hat
      rw [ep]
      clear hcs ep ea hil
      rw [width_int] at hcell
      have e0 : w.cell? ⟨b, off + i, none⟩ = some (cc 0) := by simpa using hcell 0 (by omega)
      clear hcell
      obtain ⟨ge0, _⟩ := at_int.1 hat
      clear hat
      have ge0 : cc 0 = .int .i64 (k + p) := ge0
      rw [ge0] at e0
      clear ge0
      have E0 : Hid (w.cell? ⟨b, off + i, none⟩ = some (.int .i64 (k + p))) := e0
      clear e0
      have c0 : wr.cell? ⟨b, off + i, none⟩ = some (.int .i64 (k + p)) := (hbel.out.cell (p := ⟨b, off + i, none⟩) (by show b < _; exact hb)).trans E0.out
      have xx0 : ((k + p : Int) == k + p) = true := by simp
      go_wp2
      go_roundw
      case rel => exact ⟨i + 1, by omega, by go_num, by rw [HCS.out]; congr 1; omega, hbel.out⟩
      case measure => simp [intOf]; omega
    · have hin : i = n := by omega
      subst hin
      have hck : cntTo l i = m := by rw [← EM.out, ← HCL.out, EN.out]
      rw [hck]
      clear hck
      go_wp2
      go_ret
      exact ⟨rfl, hbel.out⟩

set_option maxRecDepth 100000 in
set_option maxHeartbeats 4000000 in
theorem eqInt_any (S S' : Nat → Prop) (va vb : Value) (l : List Int) (w : World) (ha : AtL S w l va) (hb : AtL S' w l vb) (hS : ∀ b, S b → b < w.heap.size) (hS' : ∀ b, S' b → b < w.heap.size) :
    Calls Tryz.prog 8 #[va, vb] w fun e w' => e = .returned (.bool true) ∧ Below w.heap.size w w' := by
  obtain ⟨oa, ca, rfl, hn, hca⟩ := ha
  obtain ⟨ob, cb, rfl, _, hcb⟩ := hb
  obtain ⟨n, en⟩ : ∃ n, l.length = n := ⟨_, rfl⟩
  rw [en] at hn
  rw [en]
  unfold maxLen at hn
  have HA : Hid _ := hca
  have HB : Hid _ := hcb
  clear hca hcb
  go_enter Tryz.func8, Tryz.ntmps8
  go_wp2
  go_loopw [5] (fun i wr => ∃ k : Nat, k ≤ n ∧ i = .int .i64 k ∧ Hid (Below w.heap.size w wr)) (fun i _ => n - (intOf i).toNat)
  case atStart => exact ⟨0, Nat.zero_le _, rfl, Below.refl _ _⟩
  case round =>
    obtain ⟨k, hk, rfl, hbel⟩ := hrel
    have hs := hbel.out.size
    by_cases hlt : k < n
    · obtain ⟨b, off, rfl, hbS, cc, hcell, hat⟩ := HA.out k (by omega)
      obtain ⟨b2, off2, rfl, hbS2, cc2, hcell2, hat2⟩ := HB.out k (by omega)
      have hbb := hS b hbS
      have hbb2 := hS' b2 hbS2
      rw [width_int] at hcell hcell2
      have hcell := hcell 0 (by omega)
      have hcell2 := hcell2 0 (by omega)
      rw [Nat.mul_one, Nat.add_zero] at hcell hcell2
      rw [at_int] at hat hat2
      rw [hat.1] at hcell
      rw [hat2.1] at hcell2
      obtain ⟨x, ex⟩ : ∃ x, l[k]'(by omega) = x := ⟨_, rfl⟩
      rw [ex] at hcell hcell2
      clear hat hat2
      have e0 := fun d os => cell_regrown ((hbel.out.cell (p := ⟨b, off + k, none⟩) (by show b < _; omega)).trans hcell) d os
      have a0 := fun d os => cell_regrown ((hbel.out.cell (p := ⟨b2, off2 + k, none⟩) (by show b2 < _; omega)).trans hcell2) d os
      clear hcell hcell2
      have hxx : (x == x) = true := by simp
      go_wp2
      refine wp_region_quiet_below (by kernel_rfl) (by kernel_rfl) ?_
      repeat (first | go_big_quiet_step (fail) | quiet_step (fail))
      refine wpQuiet_nil ?_
      intro _ hw'
      obtain ⟨⟨dq, osq⟩, hw''⟩ := hw'
      subst hw''
      go_wp2
      go_roundw
      case rel => exact ⟨k + 1, by omega, by go_num, hbel.out.trans ((below_regrown _ dq osq).mono hs)⟩
      case measure => simp [intOf]; omega
    · go_wp2
      go_ret
      exact ⟨rfl, hbel.out⟩


end Go.Proofs.YticojnepejboaabGreat
