import Derived.Test.YtigkkelaadbhcabGreatXrm
import Derived.Test.YtigkkelaadbhcabGreatM1
namespace Go.Proofs.YtigkkelaadbhcabGreat
open Go.RowKit
theorem mkD_DRunSlot (k : Int) (a : DRunSlot) : Own.mkD k a = (mkO (k), mkO (k + 1)) := rfl
theorem cnt_DRunSlot (a : DRunSlot) : Own.cnt a = 1 + (1) := rfl
theorem on_DRunSlot {S : Nat → Prop} {w : World} {a : DRunSlot} {c : Nat → Value} : Own.On S w a c ↔ ∃ A0 B0 : Nat → Prop, (∀ b, A0 b → S b ∧ ¬ B0 b) ∧ (∀ b, B0 b → S b) ∧ (c 0 = .string a.1 ∧ a.1.size ≤ maxLen) ∧ (c 1 = .string a.2 ∧ a.2.size ≤ maxLen) := Iff.rfl
theorem mkD_DRunBatch (k : Int) (a : DRunBatch) : Own.mkD k a = (mkO (k), mkL (k + 1) a.2.1, mkL (k + 1 + cntL a.2.1) a.2.2.1, mkO (k + 1 + cntL a.2.1 + cntL a.2.2.1), k + 1 + cntL a.2.1 + cntL a.2.2.1 + 1, k + 1 + cntL a.2.1 + cntL a.2.2.1 + 1 + 1) := rfl
theorem cnt_DRunBatch (a : DRunBatch) : Own.cnt a = 1 + (cntL a.2.1 + (cntL a.2.2.1 + (1 + (1 + (1))))) := rfl
theorem on_DRunBatch {S : Nat → Prop} {w : World} {a : DRunBatch} {c : Nat → Value} : Own.On S w a c ↔ ∃ A0 B0 : Nat → Prop, (∀ b, A0 b → S b ∧ ¬ B0 b) ∧ (∀ b, B0 b → S b) ∧ (c 0 = .string a.1 ∧ a.1.size ≤ maxLen) ∧ ∃ A1 B1 : Nat → Prop, (∀ b, A1 b → B0 b ∧ ¬ B1 b) ∧ (∀ b, B1 b → B0 b) ∧ OnL A1 w a.2.1 (c 1) ∧ ∃ A2 B2 : Nat → Prop, (∀ b, A2 b → B1 b ∧ ¬ B2 b) ∧ (∀ b, B2 b → B1 b) ∧ OnL A2 w a.2.2.1 (c 2) ∧ ∃ A3 B3 : Nat → Prop, (∀ b, A3 b → B2 b ∧ ¬ B3 b) ∧ (∀ b, B3 b → B2 b) ∧ (c 3 = .string a.2.2.2.1 ∧ a.2.2.2.1.size ≤ maxLen) ∧ ∃ A4 B4 : Nat → Prop, (∀ b, A4 b → B3 b ∧ ¬ B4 b) ∧ (∀ b, B4 b → B3 b) ∧ (c 4 = .int .i64 a.2.2.2.2.1 ∧ -9223372036854775808 ≤ a.2.2.2.2.1 ∧ a.2.2.2.2.1 ≤ 9223372036854775807) ∧ (c 5 = .int .i64 a.2.2.2.2.2 ∧ -9223372036854775808 ≤ a.2.2.2.2.2 ∧ a.2.2.2.2.2 ≤ 9223372036854775807) := Iff.rfl
set_option maxRecDepth 100000 in
set_option maxHeartbeats 4000000 in
theorem markRunSlotS_any (S : Nat → Prop) (l : List DRunSlot) (v : Value) (k : Int) (w : World) (h : OnL S w l v) (hS : ∀ b, S b → b < w.heap.size) (h1 : 1 ≤ k) (h2 : k + cntL l ≤ 20000000) :
    Calls Tryz.prog 56 #[v, .int .i64 k] w fun e w' => e = .returned (.int .i64 (k + cntL l)) ∧ OnL S w' (mkL k l) v ∧ But S w w' := by
  obtain ⟨oa, cap, rfl, hn, h⟩ := h
  rcases h with h | ⟨g, off, Ss, cur, t, rfl, f, hf, h⟩
  · subst h
    go_enter Tryz.func56, Tryz.ntmps56
    go_wp2
    go_loop [1, 5] (fun s i => i = .int .i64 0 ∧ s = .int .i64 k) (fun _ _ => 0)
    case atStart => exact ⟨rfl, rfl⟩
    case round =>
      obtain ⟨rfl, rfl⟩ := hrel
      go_wp2
      go_ret
      exact ⟨by simp [cntL, cntTo], ⟨_, cap, rfl, hn, .inl rfl⟩, But.refl _ _⟩
  · have HE : Hid (Els S w g off Ss cur t l.length (markedTo k l f 0)) := by
      show Els _ _ _ _ _ _ _ _ _
      rw [mt_zero]; exact h
    have HF : Hid (∀ i (h : i < l.length), f i = l[i]) := hf
    have HN : Hid (Fits (some ⟨g, off, none⟩) l.length cap) := hn
    replace hn : l.length ≤ maxLen := hn.1
    have HS : Hid (∀ b, S b → b < w.heap.size) := hS
    have HCL : Hid (cntTo l l.length = cntL l) := rfl
    unfold maxLen at hn
    clear h hf hS
    have HCM : Hid (∀ i, i < l.length → cntTo l (i + 1) ≤ cntL l) := cntTo_le l
    obtain ⟨n, en⟩ : ∃ n, l.length = n := ⟨_, rfl⟩
    obtain ⟨m, em⟩ : ∃ m, cntL l = m := ⟨_, rfl⟩
    rw [en] at hn HE
    rw [em] at h2
    rw [en, em]
    have EN : Hid (l.length = n) := en
    have EM : Hid (cntL l = m) := em
    clear en em
    go_enter Tryz.func56, Tryz.ntmps56
    go_wp2
    go_loopw [1, 5] (fun q i wr => ∃ (i' : Nat) (c : Array Value), i' ≤ n ∧ i = .int .i64 i' ∧ q = .int .i64 (k + cntTo l i') ∧ Hid (Els S wr g off Ss c t n (markedTo k l f i')) ∧ Hid (But S w wr)) (fun _ i _ => n - (intOf i).toNat)
    case atStart => exact ⟨0, cur, Nat.zero_le _, rfl, by rw [cntTo_zero]; simp, HE, But.refl _ _⟩
    case round =>
      clear HE
      obtain ⟨i, c, hi, rfl, rfl, hE, hB⟩ := hrel
      by_cases hlt : i < n
      · obtain ⟨cc, hcell, hon⟩ := hE.out.el i hlt
        rw [mt_at] at hon
        have hrow : Hid (wr.heap[g]? = some (.cells c t (0, 0))) := hE.out.row
        have hgl : g < wr.heap.size := (Array.getElem?_eq_some_iff.1 hrow.out).1
        have HWS : Hid (∀ b, S b → b < wr.heap.size) := fun b hb => Nat.lt_of_lt_of_le (HS.out b hb) hB.out.size
        have SUB : Hid (∀ b, Ss i b → S b ∧ b ≠ g) := hE.out.sub i
        have hcs := cntTo_succ l i (by have := EN.out; omega)
        have hle := HCM.out i (by have := EN.out; omega)
        rw [← HF.out i (by have := EN.out; omega)] at hcs
        obtain ⟨a, ea⟩ : ∃ a, f i = a := ⟨_, rfl⟩
        rw [ea] at hcs hon
        rw [cnt_DRunSlot] at hcs
        rw [hcs, EM.out] at hle
        have HCS : Hid _ := hcs
        clear hcs
        obtain ⟨p, ep⟩ : ∃ p, cntTo l i = p := ⟨_, rfl⟩
        rw [ep] at hle HCS
        rw [ep]
        have EP : Hid (cntTo l i = p) := ep
        have EA : Hid (f i = a) := ea
        clear ep ea
        rw [width_DRunSlot] at hcell
        have e0 : c[off + i * 2]? = some (cc 0) := by simpa using hcell 0 (by omega)
        have e1 : c[off + i * 2 + 1]? = some (cc 1) := by simpa using hcell 1 (by omega)
        clear hcell
        have hsz : off + i * 2 + 1 < c.size := (Array.getElem?_eq_some_iff.1 e1).1
        obtain ⟨A0, B0, p0, q0, ⟨ge0, _⟩, ⟨ge1, _⟩⟩ := on_DRunSlot.1 hon
        clear hon
        rw [ge0] at e0
        rw [ge1] at e1
        clear ge0 ge1
        have bt : Hid (But (fun b => b = g ∨ Ss i b) wr wr) := But.refl _ _
        go_wp2_with fail
        refine (mkTx_any _ _ (by omega) (by omega)).mono ?_
        rintro e u0 ⟨rfl, hb0⟩
        have r0 : Hid (u0.heap[g]? = some (.cells c t (0, 0))) := (hb0.block g (Nat.lt_of_lt_of_le hgl bt.out.size)).trans (hrow.out)
        have bt0 : Hid (But (fun b => b = g ∨ Ss i b) wr u0) := bt.out.trans (But.of_below hb0)
        obtain ⟨cl0, fr0⟩ := cell_row (r0.out) (off + i * 2) (.string a.1) e0
        have rs0 : Hid ((u0.setCell ⟨g, off + i * 2, none⟩ (.string (mkO (k + p)))).heap[g]? = some (.cells (c.setIfInBounds (off + i * 2) (.string (mkO (k + p)))) t (0, 0))) := set_row (r0.out) (off + i * 2) _
        have bs0 : Hid (But (fun b => b = g ∨ Ss i b) wr (u0.setCell ⟨g, off + i * 2, none⟩ (.string (mkO (k + p))))) := bt0.out.set (Or.inl rfl) (off + i * 2) _
        go_wp2_with fail
        refine (mkTx_any _ _ (by omega) (by omega)).mono ?_
        rintro e u1 ⟨rfl, hb1⟩
        have r1 : Hid (u1.heap[g]? = some (.cells (c.setIfInBounds (off + i * 2) (.string (mkO (k + p)))) t (0, 0))) := (hb1.block g (Nat.lt_of_lt_of_le hgl bs0.out.size)).trans (rs0.out)
        have bt1 : Hid (But (fun b => b = g ∨ Ss i b) wr u1) := bs0.out.trans (But.of_below hb1)
        obtain ⟨cl1, fr1⟩ := cell_row (r1.out) (off + i * 2 + 1) (.string a.2) (by simp only [Array.getElem?_setIfInBounds]; rw [if_neg (show ¬ (off + i * 2 = off + i * 2 + 1) by omega)]; exact e1)
        have rs1 : Hid ((u1.setCell ⟨g, off + i * 2 + 1, none⟩ (.string (mkO (k + p + 1)))).heap[g]? = some (.cells ((c.setIfInBounds (off + i * 2) (.string (mkO (k + p)))).setIfInBounds (off + i * 2 + 1) (.string (mkO (k + p + 1)))) t (0, 0))) := set_row (r1.out) (off + i * 2 + 1) _
        have bs1 : Hid (But (fun b => b = g ∨ Ss i b) wr (u1.setCell ⟨g, off + i * 2 + 1, none⟩ (.string (mkO (k + p + 1))))) := bt1.out.set (Or.inl rfl) (off + i * 2 + 1) _
        have EF : Hid (Els S (u1.setCell ⟨g, off + i * 2 + 1, none⟩ (.string (mkO (k + p + 1)))) g off Ss ((c.setIfInBounds (off + i * 2) (.string (mkO (k + p)))).setIfInBounds (off + i * 2 + 1) (.string (mkO (k + p + 1)))) t n (markedTo k l f (i + 1))) := by
          refine hE.out.step i (rs1.out) ?_ ⟨cs [.string (mkO (k + p)), .string (mkO (k + p + 1))], ?_, ?_⟩ (fun q hq => mt_ne k l f i q hq) bs1.out HWS.out
          · intro q j hq hj
            rw [width_DRunSlot] at hj ⊢
            simp only [Array.getElem?_setIfInBounds]
            repeat rw [if_neg (by omega)]
          · intro j hj
            rw [width_DRunSlot] at hj ⊢
            rcases (show j = 0 ∨ j = 1 by omega) with rfl | rfl
            · show (((c.setIfInBounds (off + i * 2) (.string (mkO (k + p)))).setIfInBounds (off + i * 2 + 1) (.string (mkO (k + p + 1)))))[off + i * 2]? = some (.string (mkO (k + p)))
              simp only [Array.getElem?_setIfInBounds, Array.size_setIfInBounds]
              repeat (first | rw [if_pos True.intro] | rw [if_pos (by omega)] | rw [if_neg (by omega)])
            · show (((c.setIfInBounds (off + i * 2) (.string (mkO (k + p)))).setIfInBounds (off + i * 2 + 1) (.string (mkO (k + p + 1)))))[off + i * 2 + 1]? = some (.string (mkO (k + p + 1)))
              simp only [Array.getElem?_setIfInBounds, Array.size_setIfInBounds]
              repeat (first | rw [if_pos True.intro] | rw [if_pos (by omega)] | rw [if_neg (by omega)])
          · rw [mt_succ, EP.out, EA.out]
            rw [mkD_DRunSlot]
            exact on_DRunSlot.2 ⟨A0, B0, p0, q0, ⟨rfl, Nat.le_trans (mkO_size _) (by decide)⟩, ⟨rfl, Nat.le_trans (mkO_size _) (by decide)⟩⟩
        have BF : Hid (But S w (u1.setCell ⟨g, off + i * 2 + 1, none⟩ (.string (mkO (k + p + 1))))) := hB.out.trans (bs1.out.up (fun b hb => by
          rcases hb with hb | hb
          · rw [hb]; exact hE.out.own
          · exact (SUB.out b hb).1))
        go_wp2_with fail
        go_roundw
        case rel => exact ⟨i + 1, _, by omega, by go_num, by rw [HCS.out]; congr 1; omega, EF.out, BF.out⟩
        case measure => simp [intOf]; omega
      · have hin : i = n := by omega
        subst hin
        have hck : cntTo l i = m := by rw [← EM.out, ← HCL.out, EN.out]
        rw [hck]
        clear hck
        go_wp2_with fail
        go_ret
        refine ⟨rfl, ?_, hB.out⟩
        have h := hE.out
        rw [← EN.out] at h ⊢
        exact OnL.of_marked h HF.out HN.out
end Go.Proofs.YtigkkelaadbhcabGreat
