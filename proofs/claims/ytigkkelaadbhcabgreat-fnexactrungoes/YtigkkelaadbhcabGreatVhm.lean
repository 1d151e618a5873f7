import Derived.Test.YtigkkelaadbhcabGreatXrm
import Derived.Test.YtigkkelaadbhcabGreatVrm
import Derived.Test.YtigkkelaadbhcabGreatM1
namespace Go.Proofs.YtigkkelaadbhcabGreat
open Go.RowKit
section
variable {α : Type} [Own α]
end
theorem mkD_DRunDone (k : Int) (a : DRunDone) : Own.mkD k a = (mkO (k), k + 1, k + 1 + 1) := rfl
theorem cnt_DRunDone (a : DRunDone) : Own.cnt a = 1 + (1 + (1)) := rfl
theorem on_DRunDone {S : Nat → Prop} {w : World} {a : DRunDone} {c : Nat → Value} : Own.On S w a c ↔ ∃ A0 B0 : Nat → Prop, (∀ b, A0 b → S b ∧ ¬ B0 b) ∧ (∀ b, B0 b → S b) ∧ (c 0 = .string a.1 ∧ a.1.size ≤ maxLen) ∧ ∃ A1 B1 : Nat → Prop, (∀ b, A1 b → B0 b ∧ ¬ B1 b) ∧ (∀ b, B1 b → B0 b) ∧ (c 1 = .int .i64 a.2.1 ∧ -9223372036854775808 ≤ a.2.1 ∧ a.2.1 ≤ 9223372036854775807) ∧ (c 2 = .int .i64 a.2.2 ∧ -9223372036854775808 ≤ a.2.2 ∧ a.2.2 ≤ 9223372036854775807) := Iff.rfl
theorem mkD_DShareBatch (k : Int) (a : DShareBatch) : Own.mkD k a = (mkO (k), mkL (k + 1) a.2.1, mkL (k + 1 + cntL a.2.1) a.2.2) := rfl
theorem cnt_DShareBatch (a : DShareBatch) : Own.cnt a = 1 + (cntL a.2.1 + (cntL a.2.2)) := rfl
theorem on_DShareBatch {S : Nat → Prop} {w : World} {a : DShareBatch} {c : Nat → Value} : Own.On S w a c ↔ ∃ A0 B0 : Nat → Prop, (∀ b, A0 b → S b ∧ ¬ B0 b) ∧ (∀ b, B0 b → S b) ∧ (c 0 = .string a.1 ∧ a.1.size ≤ maxLen) ∧ ∃ A1 B1 : Nat → Prop, (∀ b, A1 b → B0 b ∧ ¬ B1 b) ∧ (∀ b, B1 b → B0 b) ∧ OnL A1 w a.2.1 (c 1) ∧ OnL B1 w a.2.2 (c 2) := Iff.rfl
theorem mkD_DShareBook (k : Int) (a : DShareBook) : Own.mkD k a = (mkL (k) a.1, mkL (k + cntL a.1) a.2) := rfl
theorem cnt_DShareBook (a : DShareBook) : Own.cnt a = cntL a.1 + (cntL a.2) := rfl
theorem on_DShareBook {S : Nat → Prop} {w : World} {a : DShareBook} {c : Nat → Value} : Own.On S w a c ↔ ∃ A0 B0 : Nat → Prop, (∀ b, A0 b → S b ∧ ¬ B0 b) ∧ (∀ b, B0 b → S b) ∧ OnL A0 w a.1 (c 0) ∧ OnL B0 w a.2 (c 1) := Iff.rfl
set_option maxRecDepth 100000 in
set_option maxHeartbeats 4000000 in
theorem markRunBatchS_any (S : Nat → Prop) (l : List DRunBatch) (v : Value) (k : Int) (w : World) (h : OnL S w l v) (hS : ∀ b, S b → b < w.heap.size) (h1 : 1 ≤ k) (h2 : k + cntL l ≤ 20000000) :
    Calls Tryz.prog 27 #[v, .int .i64 k] w fun e w' => e = .returned (.int .i64 (k + cntL l)) ∧ OnL S w' (mkL k l) v ∧ But S w w' := by
  obtain ⟨oa, cap, rfl, hn, h⟩ := h
  rcases h with h | ⟨g, off, Ss, cur, t, rfl, f, hf, h⟩
  · subst h
    go_enter Tryz.func27, Tryz.ntmps27
    go_wp2
    go_loop [1, 5] (fun s i => i = .int .i64 0 ∧ s = .int .i64 k) (fun _ _ => 0)
    case atStart => exact ⟨rfl, rfl⟩
    case round =>
      obtain ⟨rfl, rfl⟩ := hrel
      go_wp2
      go_ret
      exact ⟨by simp [cntL, cntTo], ⟨_, cap, rfl, hn, .inl rfl⟩, But.refl _ _⟩
  · have HE : Hid (Els S w g off Ss cur t l.length (markedTo k l f 0)) := by
      show Els _ _ _ _ _ _ _ _ _
      rw [mt_zero]; exact h
    have HF : Hid (∀ i (h : i < l.length), f i = l[i]) := hf
    have HN : Hid (Fits (some ⟨g, off, none⟩) l.length cap) := hn
    replace hn : l.length ≤ maxLen := hn.1
    have HS : Hid (∀ b, S b → b < w.heap.size) := hS
    have HCL : Hid (cntTo l l.length = cntL l) := rfl
    unfold maxLen at hn
    clear h hf hS
    have HCM : Hid (∀ i, i < l.length → cntTo l (i + 1) ≤ cntL l) := cntTo_le l
    obtain ⟨n, en⟩ : ∃ n, l.length = n := ⟨_, rfl⟩
    obtain ⟨m, em⟩ : ∃ m, cntL l = m := ⟨_, rfl⟩
    rw [en] at hn HE
    rw [em] at h2
    rw [en, em]
    have EN : Hid (l.length = n) := en
    have EM : Hid (cntL l = m) := em
    clear en em
    go_enter Tryz.func27, Tryz.ntmps27
    go_wp2
    go_loopw [1, 5] (fun q i wr => ∃ (i' : Nat) (c : Array Value), i' ≤ n ∧ i = .int .i64 i' ∧ q = .int .i64 (k + cntTo l i') ∧ Hid (Els S wr g off Ss c t n (markedTo k l f i')) ∧ Hid (But S w wr)) (fun _ i _ => n - (intOf i).toNat)
    case atStart => exact ⟨0, cur, Nat.zero_le _, rfl, by rw [cntTo_zero]; simp, HE, But.refl _ _⟩
    case round =>
      clear HE
      obtain ⟨i, c, hi, rfl, rfl, hE, hB⟩ := hrel
      by_cases hlt : i < n
      · obtain ⟨cc, hcell, hon⟩ := hE.out.el i hlt
        rw [mt_at] at hon
        have hrow : Hid (wr.heap[g]? = some (.cells c t (0, 0))) := hE.out.row
        have hgl : g < wr.heap.size := (Array.getElem?_eq_some_iff.1 hrow.out).1
        have HWS : Hid (∀ b, S b → b < wr.heap.size) := fun b hb => Nat.lt_of_lt_of_le (HS.out b hb) hB.out.size
        have SUB : Hid (∀ b, Ss i b → S b ∧ b ≠ g) := hE.out.sub i
        have hcs := cntTo_succ l i (by have := EN.out; omega)
        have hle := HCM.out i (by have := EN.out; omega)
        rw [← HF.out i (by have := EN.out; omega)] at hcs
        obtain ⟨a, ea⟩ : ∃ a, f i = a := ⟨_, rfl⟩
        rw [ea] at hcs hon
        rw [cnt_DRunBatch] at hcs
        rw [hcs, EM.out] at hle
        have HCS : Hid _ := hcs
        clear hcs
        obtain ⟨p, ep⟩ : ∃ p, cntTo l i = p := ⟨_, rfl⟩
        rw [ep] at hle HCS
        rw [ep]
        have EP : Hid (cntTo l i = p) := ep
        have EA : Hid (f i = a) := ea
        clear ep ea
        rw [width_DRunBatch] at hcell
        have e0 : c[off + i * 6]? = some (cc 0) := by simpa using hcell 0 (by omega)
        have e1 : c[off + i * 6 + 1]? = some (cc 1) := by simpa using hcell 1 (by omega)
        have e2 : c[off + i * 6 + 2]? = some (cc 2) := by simpa using hcell 2 (by omega)
        have e3 : c[off + i * 6 + 3]? = some (cc 3) := by simpa using hcell 3 (by omega)
        have e4 : c[off + i * 6 + 4]? = some (cc 4) := by simpa using hcell 4 (by omega)
        have e5 : c[off + i * 6 + 5]? = some (cc 5) := by simpa using hcell 5 (by omega)
        clear hcell
        have hsz : off + i * 6 + 5 < c.size := (Array.getElem?_eq_some_iff.1 e5).1
        obtain ⟨A0, B0, p0, q0, ⟨ge0, _⟩, A1, B1, p1, q1, H1, A2, B2, p2, q2, H2, A3, B3, p3, q3, ⟨ge3, _⟩, A4, B4, p4, q4, ⟨ge4, _, _⟩, ⟨ge5, _, _⟩⟩ := on_DRunBatch.1 hon
        clear hon
        rw [ge0] at e0
        obtain ⟨so1, sc1, ge1, _⟩ := id H1
        rw [ge1] at e1 H1
        obtain ⟨so2, sc2, ge2, _⟩ := id H2
        rw [ge2] at e2 H2
        rw [ge3] at e3
        rw [ge4] at e4
        rw [ge5] at e5
        clear ge0 ge1 ge2 ge3 ge4 ge5
        have N1 : Hid (∀ b, A1 b → b < wr.heap.size ∧ b ≠ g ∧ Ss i b) := fun b hb => by
          have h0 : Ss i b := (q0 b (p1 b hb).1)
          exact ⟨HWS.out b (SUB.out b h0).1, (SUB.out b h0).2, h0⟩
        have L1 : Hid (OnL A1 wr a.2.1 (.slice so1 a.2.1.length sc1)) := H1
        clear H1
        have N2 : Hid (∀ b, A2 b → b < wr.heap.size ∧ b ≠ g ∧ Ss i b) := fun b hb => by
          have h0 : Ss i b := (q0 b (q1 b (p2 b hb).1))
          exact ⟨HWS.out b (SUB.out b h0).1, (SUB.out b h0).2, h0⟩
        have L2 : Hid (OnL A2 wr a.2.2.1 (.slice so2 a.2.2.1.length sc2)) := H2
        clear H2
        have X1_2 : Hid (∀ b, A2 b → ¬ A1 b) := fun b hb ha => (p1 b ha).2 (p2 b hb).1
        have X2_1 : Hid (∀ b, A1 b → ¬ A2 b) := fun b hb ha => X1_2.out b ha hb
        have bt : Hid (But (fun b => b = g ∨ Ss i b) wr wr) := But.refl _ _
        go_wp2_with fail
        refine (mkTx_any _ _ (by omega) (by omega)).mono ?_
        rintro e u0 ⟨rfl, hb0⟩
        have r0 : Hid (u0.heap[g]? = some (.cells c t (0, 0))) := (hb0.block g (Nat.lt_of_lt_of_le hgl bt.out.size)).trans (hrow.out)
        have L1_0 : Hid (OnL A1 u0 (a.2.1) (.slice so1 a.2.1.length sc1)) := L1.out.same (Same.of_below hb0 (fun b hb => Nat.lt_of_lt_of_le (N1.out b hb).1 bt.out.size))
        have L2_0 : Hid (OnL A2 u0 (a.2.2.1) (.slice so2 a.2.2.1.length sc2)) := L2.out.same (Same.of_below hb0 (fun b hb => Nat.lt_of_lt_of_le (N2.out b hb).1 bt.out.size))
        have bt0 : Hid (But (fun b => b = g ∨ Ss i b) wr u0) := bt.out.trans (But.of_below hb0)
        obtain ⟨cl0, fr0⟩ := cell_row (r0.out) (off + i * 6) (.string a.1) e0
        have rs0 : Hid ((u0.setCell ⟨g, off + i * 6, none⟩ (.string (mkO (k + p)))).heap[g]? = some (.cells (c.setIfInBounds (off + i * 6) (.string (mkO (k + p)))) t (0, 0))) := set_row (r0.out) (off + i * 6) _
        have bs0 : Hid (But (fun b => b = g ∨ Ss i b) wr (u0.setCell ⟨g, off + i * 6, none⟩ (.string (mkO (k + p))))) := bt0.out.set (Or.inl rfl) (off + i * 6) _
        have M1_0 : Hid (OnL A1 (u0.setCell ⟨g, off + i * 6, none⟩ (.string (mkO (k + p)))) (a.2.1) (.slice so1 a.2.1.length sc1)) := L1_0.out.same (Same.of_set _ _ _ (fun h => (N1.out _ h).2.1 rfl))
        have M2_0 : Hid (OnL A2 (u0.setCell ⟨g, off + i * 6, none⟩ (.string (mkO (k + p)))) (a.2.2.1) (.slice so2 a.2.2.1.length sc2)) := L2_0.out.same (Same.of_set _ _ _ (fun h => (N2.out _ h).2.1 rfl))
        have cl1 := (cell_row (rs0.out) (off + i * 6 + 1) (.slice so1 a.2.1.length sc1) (by simp only [Array.getElem?_setIfInBounds]; rw [if_neg (show ¬ (off + i * 6 = off + i * 6 + 1) by omega)]; exact e1)).1
        go_wp2_with fail
        refine (markRecPhaseS_any A1 a.2.1 (.slice so1 a.2.1.length sc1) _ _ M1_0.out (fun b hb => Nat.lt_of_lt_of_le (N1.out b hb).1 bs0.out.size) (by omega) (by omega)).mono ?_
        rintro e u1 ⟨rfl, o1, hb1⟩
        have r1 : Hid (u1.heap[g]? = some (.cells (c.setIfInBounds (off + i * 6) (.string (mkO (k + p)))) t (0, 0))) := (hb1.block g (Nat.lt_of_lt_of_le hgl bs0.out.size) (fun h => (N1.out g h).2.1 rfl)).trans (rs0.out)
        have L1_1 : Hid (OnL A1 u1 (mkL (k + p + 1) a.2.1) (.slice so1 a.2.1.length sc1)) := o1
        have L2_1 : Hid (OnL A2 u1 (a.2.2.1) (.slice so2 a.2.2.1.length sc2)) := M2_0.out.same (hb1.same (fun b hb => ⟨Nat.lt_of_lt_of_le (N2.out b hb).1 bs0.out.size, X1_2.out b hb⟩))
        have bt1 : Hid (But (fun b => b = g ∨ Ss i b) wr u1) := bs0.out.trans (hb1.up (fun b hb => Or.inr (N1.out b hb).2.2))
        clear o1
        have cl2 := (cell_row (r1.out) (off + i * 6 + 2) (.slice so2 a.2.2.1.length sc2) (by simp only [Array.getElem?_setIfInBounds]; rw [if_neg (show ¬ (off + i * 6 = off + i * 6 + 2) by omega)]; exact e2)).1
        go_wp2_with fail
        refine (markRunSlotS_any A2 a.2.2.1 (.slice so2 a.2.2.1.length sc2) _ _ L2_1.out (fun b hb => Nat.lt_of_lt_of_le (N2.out b hb).1 bt1.out.size) (by omega) (by omega)).mono ?_
        rintro e u2 ⟨rfl, o2, hb2⟩
        have r2 : Hid (u2.heap[g]? = some (.cells (c.setIfInBounds (off + i * 6) (.string (mkO (k + p)))) t (0, 0))) := (hb2.block g (Nat.lt_of_lt_of_le hgl bt1.out.size) (fun h => (N2.out g h).2.1 rfl)).trans (r1.out)
        have L1_2 : Hid (OnL A1 u2 (mkL (k + p + 1) a.2.1) (.slice so1 a.2.1.length sc1)) := L1_1.out.same (hb2.same (fun b hb => ⟨Nat.lt_of_lt_of_le (N1.out b hb).1 bt1.out.size, X2_1.out b hb⟩))
        have L2_2 : Hid (OnL A2 u2 (mkL (k + p + 1 + cntL a.2.1) a.2.2.1) (.slice so2 a.2.2.1.length sc2)) := o2
        have bt2 : Hid (But (fun b => b = g ∨ Ss i b) wr u2) := bt1.out.trans (hb2.up (fun b hb => Or.inr (N2.out b hb).2.2))
        clear o2
        go_wp2_with fail
        refine (mkTx_any _ _ (by omega) (by omega)).mono ?_
        rintro e u3 ⟨rfl, hb3⟩
        have r3 : Hid (u3.heap[g]? = some (.cells (c.setIfInBounds (off + i * 6) (.string (mkO (k + p)))) t (0, 0))) := (hb3.block g (Nat.lt_of_lt_of_le hgl bt2.out.size)).trans (r2.out)
        have L1_3 : Hid (OnL A1 u3 (mkL (k + p + 1) a.2.1) (.slice so1 a.2.1.length sc1)) := L1_2.out.same (Same.of_below hb3 (fun b hb => Nat.lt_of_lt_of_le (N1.out b hb).1 bt2.out.size))
        have L2_3 : Hid (OnL A2 u3 (mkL (k + p + 1 + cntL a.2.1) a.2.2.1) (.slice so2 a.2.2.1.length sc2)) := L2_2.out.same (Same.of_below hb3 (fun b hb => Nat.lt_of_lt_of_le (N2.out b hb).1 bt2.out.size))
        have bt3 : Hid (But (fun b => b = g ∨ Ss i b) wr u3) := bt2.out.trans (But.of_below hb3)
        obtain ⟨cl3, fr3⟩ := cell_row (r3.out) (off + i * 6 + 3) (.string a.2.2.2.1) (by simp only [Array.getElem?_setIfInBounds]; rw [if_neg (show ¬ (off + i * 6 = off + i * 6 + 3) by omega)]; exact e3)
        have rs3 : Hid ((u3.setCell ⟨g, off + i * 6 + 3, none⟩ (.string (mkO (k + p + 1 + cntL a.2.1 + cntL a.2.2.1)))).heap[g]? = some (.cells ((c.setIfInBounds (off + i * 6) (.string (mkO (k + p)))).setIfInBounds (off + i * 6 + 3) (.string (mkO (k + p + 1 + cntL a.2.1 + cntL a.2.2.1)))) t (0, 0))) := set_row (r3.out) (off + i * 6 + 3) _
        have bs3 : Hid (But (fun b => b = g ∨ Ss i b) wr (u3.setCell ⟨g, off + i * 6 + 3, none⟩ (.string (mkO (k + p + 1 + cntL a.2.1 + cntL a.2.2.1))))) := bt3.out.set (Or.inl rfl) (off + i * 6 + 3) _
        have M1_3 : Hid (OnL A1 (u3.setCell ⟨g, off + i * 6 + 3, none⟩ (.string (mkO (k + p + 1 + cntL a.2.1 + cntL a.2.2.1)))) (mkL (k + p + 1) a.2.1) (.slice so1 a.2.1.length sc1)) := L1_3.out.same (Same.of_set _ _ _ (fun h => (N1.out _ h).2.1 rfl))
        have M2_3 : Hid (OnL A2 (u3.setCell ⟨g, off + i * 6 + 3, none⟩ (.string (mkO (k + p + 1 + cntL a.2.1 + cntL a.2.2.1)))) (mkL (k + p + 1 + cntL a.2.1) a.2.2.1) (.slice so2 a.2.2.1.length sc2)) := L2_3.out.same (Same.of_set _ _ _ (fun h => (N2.out _ h).2.1 rfl))
        obtain ⟨cl4, fr4⟩ := cell_row (rs3.out) (off + i * 6 + 4) (.int .i64 a.2.2.2.2.1) (by simp only [Array.getElem?_setIfInBounds]; rw [if_neg (show ¬ (off + i * 6 + 3 = off + i * 6 + 4) by omega), if_neg (show ¬ (off + i * 6 = off + i * 6 + 4) by omega)]; exact e4)
        have rs4 : Hid (((u3.setCell ⟨g, off + i * 6 + 3, none⟩ (.string (mkO (k + p + 1 + cntL a.2.1 + cntL a.2.2.1)))).setCell ⟨g, off + i * 6 + 4, none⟩ (.int .i64 (k + p + 1 + cntL a.2.1 + cntL a.2.2.1 + 1))).heap[g]? = some (.cells (((c.setIfInBounds (off + i * 6) (.string (mkO (k + p)))).setIfInBounds (off + i * 6 + 3) (.string (mkO (k + p + 1 + cntL a.2.1 + cntL a.2.2.1)))).setIfInBounds (off + i * 6 + 4) (.int .i64 (k + p + 1 + cntL a.2.1 + cntL a.2.2.1 + 1))) t (0, 0))) := set_row (rs3.out) (off + i * 6 + 4) _
        have bs4 : Hid (But (fun b => b = g ∨ Ss i b) wr ((u3.setCell ⟨g, off + i * 6 + 3, none⟩ (.string (mkO (k + p + 1 + cntL a.2.1 + cntL a.2.2.1)))).setCell ⟨g, off + i * 6 + 4, none⟩ (.int .i64 (k + p + 1 + cntL a.2.1 + cntL a.2.2.1 + 1)))) := bs3.out.set (Or.inl rfl) (off + i * 6 + 4) _
        have M1_4 : Hid (OnL A1 ((u3.setCell ⟨g, off + i * 6 + 3, none⟩ (.string (mkO (k + p + 1 + cntL a.2.1 + cntL a.2.2.1)))).setCell ⟨g, off + i * 6 + 4, none⟩ (.int .i64 (k + p + 1 + cntL a.2.1 + cntL a.2.2.1 + 1))) (mkL (k + p + 1) a.2.1) (.slice so1 a.2.1.length sc1)) := M1_3.out.same (Same.of_set _ _ _ (fun h => (N1.out _ h).2.1 rfl))
        have M2_4 : Hid (OnL A2 ((u3.setCell ⟨g, off + i * 6 + 3, none⟩ (.string (mkO (k + p + 1 + cntL a.2.1 + cntL a.2.2.1)))).setCell ⟨g, off + i * 6 + 4, none⟩ (.int .i64 (k + p + 1 + cntL a.2.1 + cntL a.2.2.1 + 1))) (mkL (k + p + 1 + cntL a.2.1) a.2.2.1) (.slice so2 a.2.2.1.length sc2)) := M2_3.out.same (Same.of_set _ _ _ (fun h => (N2.out _ h).2.1 rfl))
        obtain ⟨cl5, fr5⟩ := cell_row (rs4.out) (off + i * 6 + 5) (.int .i64 a.2.2.2.2.2) (by simp only [Array.getElem?_setIfInBounds]; rw [if_neg (show ¬ (off + i * 6 + 4 = off + i * 6 + 5) by omega), if_neg (show ¬ (off + i * 6 + 3 = off + i * 6 + 5) by omega), if_neg (show ¬ (off + i * 6 = off + i * 6 + 5) by omega)]; exact e5)
        have rs5 : Hid ((((u3.setCell ⟨g, off + i * 6 + 3, none⟩ (.string (mkO (k + p + 1 + cntL a.2.1 + cntL a.2.2.1)))).setCell ⟨g, off + i * 6 + 4, none⟩ (.int .i64 (k + p + 1 + cntL a.2.1 + cntL a.2.2.1 + 1))).setCell ⟨g, off + i * 6 + 5, none⟩ (.int .i64 (k + p + 1 + cntL a.2.1 + cntL a.2.2.1 + 1 + 1))).heap[g]? = some (.cells ((((c.setIfInBounds (off + i * 6) (.string (mkO (k + p)))).setIfInBounds (off + i * 6 + 3) (.string (mkO (k + p + 1 + cntL a.2.1 + cntL a.2.2.1)))).setIfInBounds (off + i * 6 + 4) (.int .i64 (k + p + 1 + cntL a.2.1 + cntL a.2.2.1 + 1))).setIfInBounds (off + i * 6 + 5) (.int .i64 (k + p + 1 + cntL a.2.1 + cntL a.2.2.1 + 1 + 1))) t (0, 0))) := set_row (rs4.out) (off + i * 6 + 5) _
        have bs5 : Hid (But (fun b => b = g ∨ Ss i b) wr (((u3.setCell ⟨g, off + i * 6 + 3, none⟩ (.string (mkO (k + p + 1 + cntL a.2.1 + cntL a.2.2.1)))).setCell ⟨g, off + i * 6 + 4, none⟩ (.int .i64 (k + p + 1 + cntL a.2.1 + cntL a.2.2.1 + 1))).setCell ⟨g, off + i * 6 + 5, none⟩ (.int .i64 (k + p + 1 + cntL a.2.1 + cntL a.2.2.1 + 1 + 1)))) := bs4.out.set (Or.inl rfl) (off + i * 6 + 5) _
        have M1_5 : Hid (OnL A1 (((u3.setCell ⟨g, off + i * 6 + 3, none⟩ (.string (mkO (k + p + 1 + cntL a.2.1 + cntL a.2.2.1)))).setCell ⟨g, off + i * 6 + 4, none⟩ (.int .i64 (k + p + 1 + cntL a.2.1 + cntL a.2.2.1 + 1))).setCell ⟨g, off + i * 6 + 5, none⟩ (.int .i64 (k + p + 1 + cntL a.2.1 + cntL a.2.2.1 + 1 + 1))) (mkL (k + p + 1) a.2.1) (.slice so1 a.2.1.length sc1)) := M1_4.out.same (Same.of_set _ _ _ (fun h => (N1.out _ h).2.1 rfl))
        have M2_5 : Hid (OnL A2 (((u3.setCell ⟨g, off + i * 6 + 3, none⟩ (.string (mkO (k + p + 1 + cntL a.2.1 + cntL a.2.2.1)))).setCell ⟨g, off + i * 6 + 4, none⟩ (.int .i64 (k + p + 1 + cntL a.2.1 + cntL a.2.2.1 + 1))).setCell ⟨g, off + i * 6 + 5, none⟩ (.int .i64 (k + p + 1 + cntL a.2.1 + cntL a.2.2.1 + 1 + 1))) (mkL (k + p + 1 + cntL a.2.1) a.2.2.1) (.slice so2 a.2.2.1.length sc2)) := M2_4.out.same (Same.of_set _ _ _ (fun h => (N2.out _ h).2.1 rfl))
        have EF : Hid (Els S (((u3.setCell ⟨g, off + i * 6 + 3, none⟩ (.string (mkO (k + p + 1 + cntL a.2.1 + cntL a.2.2.1)))).setCell ⟨g, off + i * 6 + 4, none⟩ (.int .i64 (k + p + 1 + cntL a.2.1 + cntL a.2.2.1 + 1))).setCell ⟨g, off + i * 6 + 5, none⟩ (.int .i64 (k + p + 1 + cntL a.2.1 + cntL a.2.2.1 + 1 + 1))) g off Ss ((((c.setIfInBounds (off + i * 6) (.string (mkO (k + p)))).setIfInBounds (off + i * 6 + 3) (.string (mkO (k + p + 1 + cntL a.2.1 + cntL a.2.2.1)))).setIfInBounds (off + i * 6 + 4) (.int .i64 (k + p + 1 + cntL a.2.1 + cntL a.2.2.1 + 1))).setIfInBounds (off + i * 6 + 5) (.int .i64 (k + p + 1 + cntL a.2.1 + cntL a.2.2.1 + 1 + 1))) t n (markedTo k l f (i + 1))) := by
          refine hE.out.step i (rs5.out) ?_ ⟨cs [.string (mkO (k + p)), .slice so1 a.2.1.length sc1, .slice so2 a.2.2.1.length sc2, .string (mkO (k + p + 1 + cntL a.2.1 + cntL a.2.2.1)), .int .i64 (k + p + 1 + cntL a.2.1 + cntL a.2.2.1 + 1), .int .i64 (k + p + 1 + cntL a.2.1 + cntL a.2.2.1 + 1 + 1)], ?_, ?_⟩ (fun q hq => mt_ne k l f i q hq) bs5.out HWS.out
          · intro q j hq hj
            rw [width_DRunBatch] at hj ⊢
            simp only [Array.getElem?_setIfInBounds]
            repeat rw [if_neg (by omega)]
          · intro j hj
            rw [width_DRunBatch] at hj ⊢
            rcases (show j = 0 ∨ j = 1 ∨ j = 2 ∨ j = 3 ∨ j = 4 ∨ j = 5 by omega) with rfl | rfl | rfl | rfl | rfl | rfl
            · show (((((c.setIfInBounds (off + i * 6) (.string (mkO (k + p)))).setIfInBounds (off + i * 6 + 3) (.string (mkO (k + p + 1 + cntL a.2.1 + cntL a.2.2.1)))).setIfInBounds (off + i * 6 + 4) (.int .i64 (k + p + 1 + cntL a.2.1 + cntL a.2.2.1 + 1))).setIfInBounds (off + i * 6 + 5) (.int .i64 (k + p + 1 + cntL a.2.1 + cntL a.2.2.1 + 1 + 1))))[off + i * 6]? = some (.string (mkO (k + p)))
              simp only [Array.getElem?_setIfInBounds, Array.size_setIfInBounds]
              repeat (first | rw [if_pos True.intro] | rw [if_pos (by omega)] | rw [if_neg (by omega)])
            · show (((((c.setIfInBounds (off + i * 6) (.string (mkO (k + p)))).setIfInBounds (off + i * 6 + 3) (.string (mkO (k + p + 1 + cntL a.2.1 + cntL a.2.2.1)))).setIfInBounds (off + i * 6 + 4) (.int .i64 (k + p + 1 + cntL a.2.1 + cntL a.2.2.1 + 1))).setIfInBounds (off + i * 6 + 5) (.int .i64 (k + p + 1 + cntL a.2.1 + cntL a.2.2.1 + 1 + 1))))[off + i * 6 + 1]? = some (.slice so1 a.2.1.length sc1)
              simp only [Array.getElem?_setIfInBounds, Array.size_setIfInBounds]
              repeat (first | rw [if_pos True.intro] | rw [if_pos (by omega)] | rw [if_neg (by omega)])
              exact e1
            · show (((((c.setIfInBounds (off + i * 6) (.string (mkO (k + p)))).setIfInBounds (off + i * 6 + 3) (.string (mkO (k + p + 1 + cntL a.2.1 + cntL a.2.2.1)))).setIfInBounds (off + i * 6 + 4) (.int .i64 (k + p + 1 + cntL a.2.1 + cntL a.2.2.1 + 1))).setIfInBounds (off + i * 6 + 5) (.int .i64 (k + p + 1 + cntL a.2.1 + cntL a.2.2.1 + 1 + 1))))[off + i * 6 + 2]? = some (.slice so2 a.2.2.1.length sc2)
              simp only [Array.getElem?_setIfInBounds, Array.size_setIfInBounds]
              repeat (first | rw [if_pos True.intro] | rw [if_pos (by omega)] | rw [if_neg (by omega)])
              exact e2
            · show (((((c.setIfInBounds (off + i * 6) (.string (mkO (k + p)))).setIfInBounds (off + i * 6 + 3) (.string (mkO (k + p + 1 + cntL a.2.1 + cntL a.2.2.1)))).setIfInBounds (off + i * 6 + 4) (.int .i64 (k + p + 1 + cntL a.2.1 + cntL a.2.2.1 + 1))).setIfInBounds (off + i * 6 + 5) (.int .i64 (k + p + 1 + cntL a.2.1 + cntL a.2.2.1 + 1 + 1))))[off + i * 6 + 3]? = some (.string (mkO (k + p + 1 + cntL a.2.1 + cntL a.2.2.1)))
              simp only [Array.getElem?_setIfInBounds, Array.size_setIfInBounds]
              repeat (first | rw [if_pos True.intro] | rw [if_pos (by omega)] | rw [if_neg (by omega)])
            · show (((((c.setIfInBounds (off + i * 6) (.string (mkO (k + p)))).setIfInBounds (off + i * 6 + 3) (.string (mkO (k + p + 1 + cntL a.2.1 + cntL a.2.2.1)))).setIfInBounds (off + i * 6 + 4) (.int .i64 (k + p + 1 + cntL a.2.1 + cntL a.2.2.1 + 1))).setIfInBounds (off + i * 6 + 5) (.int .i64 (k + p + 1 + cntL a.2.1 + cntL a.2.2.1 + 1 + 1))))[off + i * 6 + 4]? = some (.int .i64 (k + p + 1 + cntL a.2.1 + cntL a.2.2.1 + 1))
              simp only [Array.getElem?_setIfInBounds, Array.size_setIfInBounds]
              repeat (first | rw [if_pos True.intro] | rw [if_pos (by omega)] | rw [if_neg (by omega)])
            · show (((((c.setIfInBounds (off + i * 6) (.string (mkO (k + p)))).setIfInBounds (off + i * 6 + 3) (.string (mkO (k + p + 1 + cntL a.2.1 + cntL a.2.2.1)))).setIfInBounds (off + i * 6 + 4) (.int .i64 (k + p + 1 + cntL a.2.1 + cntL a.2.2.1 + 1))).setIfInBounds (off + i * 6 + 5) (.int .i64 (k + p + 1 + cntL a.2.1 + cntL a.2.2.1 + 1 + 1))))[off + i * 6 + 5]? = some (.int .i64 (k + p + 1 + cntL a.2.1 + cntL a.2.2.1 + 1 + 1))
              simp only [Array.getElem?_setIfInBounds, Array.size_setIfInBounds]
              repeat (first | rw [if_pos True.intro] | rw [if_pos (by omega)] | rw [if_neg (by omega)])
          · rw [mt_succ, EP.out, EA.out]
            rw [mkD_DRunBatch]
            exact on_DRunBatch.2 ⟨A0, B0, p0, q0, ⟨rfl, Nat.le_trans (mkO_size _) (by decide)⟩, A1, B1, p1, q1, M1_5.out, A2, B2, p2, q2, M2_5.out, A3, B3, p3, q3, ⟨rfl, Nat.le_trans (mkO_size _) (by decide)⟩, A4, B4, p4, q4, ⟨rfl, by show (-9223372036854775808 : Int) ≤ k + p + 1 + cntL a.2.1 + cntL a.2.2.1 + 1; omega, by show k + p + 1 + cntL a.2.1 + cntL a.2.2.1 + 1 ≤ (9223372036854775807 : Int); omega⟩, ⟨rfl, by show (-9223372036854775808 : Int) ≤ k + p + 1 + cntL a.2.1 + cntL a.2.2.1 + 1 + 1; omega, by show k + p + 1 + cntL a.2.1 + cntL a.2.2.1 + 1 + 1 ≤ (9223372036854775807 : Int); omega⟩⟩
        have BF : Hid (But S w (((u3.setCell ⟨g, off + i * 6 + 3, none⟩ (.string (mkO (k + p + 1 + cntL a.2.1 + cntL a.2.2.1)))).setCell ⟨g, off + i * 6 + 4, none⟩ (.int .i64 (k + p + 1 + cntL a.2.1 + cntL a.2.2.1 + 1))).setCell ⟨g, off + i * 6 + 5, none⟩ (.int .i64 (k + p + 1 + cntL a.2.1 + cntL a.2.2.1 + 1 + 1)))) := hB.out.trans (bs5.out.up (fun b hb => by
          rcases hb with hb | hb
          · rw [hb]; exact hE.out.own
          · exact (SUB.out b hb).1))
        go_wp2_with fail
        go_roundw
        case rel => exact ⟨i + 1, _, by omega, by go_num, by rw [HCS.out]; congr 1; omega, EF.out, BF.out⟩
        case measure => simp [intOf]; omega
      · have hin : i = n := by omega
        subst hin
        have hck : cntTo l i = m := by rw [← EM.out, ← HCL.out, EN.out]
        rw [hck]
        clear hck
        go_wp2_with fail
        go_ret
        refine ⟨rfl, ?_, hB.out⟩
        have h := hE.out
        rw [← EN.out] at h ⊢
        exact OnL.of_marked h HF.out HN.out
set_option maxRecDepth 100000 in
set_option maxHeartbeats 4000000 in
theorem markRunDoneS_any (S : Nat → Prop) (l : List DRunDone) (v : Value) (k : Int) (w : World) (h : OnL S w l v) (hS : ∀ b, S b → b < w.heap.size) (h1 : 1 ≤ k) (h2 : k + cntL l ≤ 20000000) :
    Calls Tryz.prog 28 #[v, .int .i64 k] w fun e w' => e = .returned (.int .i64 (k + cntL l)) ∧ OnL S w' (mkL k l) v ∧ But S w w' := by
  obtain ⟨oa, cap, rfl, hn, h⟩ := h
  rcases h with h | ⟨g, off, Ss, cur, t, rfl, f, hf, h⟩
  · subst h
    go_enter Tryz.func28, Tryz.ntmps28
    go_wp2
    go_loop [1, 5] (fun s i => i = .int .i64 0 ∧ s = .int .i64 k) (fun _ _ => 0)
    case atStart => exact ⟨rfl, rfl⟩
    case round =>
      obtain ⟨rfl, rfl⟩ := hrel
      go_wp2
      go_ret
      exact ⟨by simp [cntL, cntTo], ⟨_, cap, rfl, hn, .inl rfl⟩, But.refl _ _⟩
  · have HE : Hid (Els S w g off Ss cur t l.length (markedTo k l f 0)) := by
      show Els _ _ _ _ _ _ _ _ _
      rw [mt_zero]; exact h
    have HF : Hid (∀ i (h : i < l.length), f i = l[i]) := hf
    have HN : Hid (Fits (some ⟨g, off, none⟩) l.length cap) := hn
    replace hn : l.length ≤ maxLen := hn.1
    have HS : Hid (∀ b, S b → b < w.heap.size) := hS
    have HCL : Hid (cntTo l l.length = cntL l) := rfl
    unfold maxLen at hn
    clear h hf hS
    have HCM : Hid (∀ i, i < l.length → cntTo l (i + 1) ≤ cntL l) := cntTo_le l
    obtain ⟨n, en⟩ : ∃ n, l.length = n := ⟨_, rfl⟩
    obtain ⟨m, em⟩ : ∃ m, cntL l = m := ⟨_, rfl⟩
    rw [en] at hn HE
    rw [em] at h2
    rw [en, em]
    have EN : Hid (l.length = n) := en
    have EM : Hid (cntL l = m) := em
    clear en em
    go_enter Tryz.func28, Tryz.ntmps28
    go_wp2
    go_loopw [1, 5] (fun q i wr => ∃ (i' : Nat) (c : Array Value), i' ≤ n ∧ i = .int .i64 i' ∧ q = .int .i64 (k + cntTo l i') ∧ Hid (Els S wr g off Ss c t n (markedTo k l f i')) ∧ Hid (But S w wr)) (fun _ i _ => n - (intOf i).toNat)
    case atStart => exact ⟨0, cur, Nat.zero_le _, rfl, by rw [cntTo_zero]; simp, HE, But.refl _ _⟩
    case round =>
      clear HE
      obtain ⟨i, c, hi, rfl, rfl, hE, hB⟩ := hrel
      by_cases hlt : i < n
      · obtain ⟨cc, hcell, hon⟩ := hE.out.el i hlt
        rw [mt_at] at hon
        have hrow : Hid (wr.heap[g]? = some (.cells c t (0, 0))) := hE.out.row
        have hgl : g < wr.heap.size := (Array.getElem?_eq_some_iff.1 hrow.out).1
        have HWS : Hid (∀ b, S b → b < wr.heap.size) := fun b hb => Nat.lt_of_lt_of_le (HS.out b hb) hB.out.size
        have SUB : Hid (∀ b, Ss i b → S b ∧ b ≠ g) := hE.out.sub i
        have hcs := cntTo_succ l i (by have := EN.out; omega)
        have hle := HCM.out i (by have := EN.out; omega)
        rw [← HF.out i (by have := EN.out; omega)] at hcs
        obtain ⟨a, ea⟩ : ∃ a, f i = a := ⟨_, rfl⟩
        rw [ea] at hcs hon
        rw [cnt_DRunDone] at hcs
        rw [hcs, EM.out] at hle
        have HCS : Hid _ := hcs
        clear hcs
        obtain ⟨p, ep⟩ : ∃ p, cntTo l i = p := ⟨_, rfl⟩
        rw [ep] at hle HCS
        rw [ep]
        have EP : Hid (cntTo l i = p) := ep
        have EA : Hid (f i = a) := ea
        clear ep ea
        rw [width_DRunDone] at hcell
        have e0 : c[off + i * 3]? = some (cc 0) := by simpa using hcell 0 (by omega)
        have e1 : c[off + i * 3 + 1]? = some (cc 1) := by simpa using hcell 1 (by omega)
        have e2 : c[off + i * 3 + 2]? = some (cc 2) := by simpa using hcell 2 (by omega)
        clear hcell
        have hsz : off + i * 3 + 2 < c.size := (Array.getElem?_eq_some_iff.1 e2).1
        obtain ⟨A0, B0, p0, q0, ⟨ge0, _⟩, A1, B1, p1, q1, ⟨ge1, _, _⟩, ⟨ge2, _, _⟩⟩ := on_DRunDone.1 hon
        clear hon
        rw [ge0] at e0
        rw [ge1] at e1
        rw [ge2] at e2
        clear ge0 ge1 ge2
        have bt : Hid (But (fun b => b = g ∨ Ss i b) wr wr) := But.refl _ _
        go_wp2_with fail
        refine (mkTx_any _ _ (by omega) (by omega)).mono ?_
        rintro e u0 ⟨rfl, hb0⟩
        have r0 : Hid (u0.heap[g]? = some (.cells c t (0, 0))) := (hb0.block g (Nat.lt_of_lt_of_le hgl bt.out.size)).trans (hrow.out)
        have bt0 : Hid (But (fun b => b = g ∨ Ss i b) wr u0) := bt.out.trans (But.of_below hb0)
        obtain ⟨cl0, fr0⟩ := cell_row (r0.out) (off + i * 3) (.string a.1) e0
        have rs0 : Hid ((u0.setCell ⟨g, off + i * 3, none⟩ (.string (mkO (k + p)))).heap[g]? = some (.cells (c.setIfInBounds (off + i * 3) (.string (mkO (k + p)))) t (0, 0))) := set_row (r0.out) (off + i * 3) _
        have bs0 : Hid (But (fun b => b = g ∨ Ss i b) wr (u0.setCell ⟨g, off + i * 3, none⟩ (.string (mkO (k + p))))) := bt0.out.set (Or.inl rfl) (off + i * 3) _
        obtain ⟨cl1, fr1⟩ := cell_row (rs0.out) (off + i * 3 + 1) (.int .i64 a.2.1) (by simp only [Array.getElem?_setIfInBounds]; rw [if_neg (show ¬ (off + i * 3 = off + i * 3 + 1) by omega)]; exact e1)
        have rs1 : Hid (((u0.setCell ⟨g, off + i * 3, none⟩ (.string (mkO (k + p)))).setCell ⟨g, off + i * 3 + 1, none⟩ (.int .i64 (k + p + 1))).heap[g]? = some (.cells ((c.setIfInBounds (off + i * 3) (.string (mkO (k + p)))).setIfInBounds (off + i * 3 + 1) (.int .i64 (k + p + 1))) t (0, 0))) := set_row (rs0.out) (off + i * 3 + 1) _
        have bs1 : Hid (But (fun b => b = g ∨ Ss i b) wr ((u0.setCell ⟨g, off + i * 3, none⟩ (.string (mkO (k + p)))).setCell ⟨g, off + i * 3 + 1, none⟩ (.int .i64 (k + p + 1)))) := bs0.out.set (Or.inl rfl) (off + i * 3 + 1) _
        obtain ⟨cl2, fr2⟩ := cell_row (rs1.out) (off + i * 3 + 2) (.int .i64 a.2.2) (by simp only [Array.getElem?_setIfInBounds]; rw [if_neg (show ¬ (off + i * 3 + 1 = off + i * 3 + 2) by omega), if_neg (show ¬ (off + i * 3 = off + i * 3 + 2) by omega)]; exact e2)
        have rs2 : Hid ((((u0.setCell ⟨g, off + i * 3, none⟩ (.string (mkO (k + p)))).setCell ⟨g, off + i * 3 + 1, none⟩ (.int .i64 (k + p + 1))).setCell ⟨g, off + i * 3 + 2, none⟩ (.int .i64 (k + p + 1 + 1))).heap[g]? = some (.cells (((c.setIfInBounds (off + i * 3) (.string (mkO (k + p)))).setIfInBounds (off + i * 3 + 1) (.int .i64 (k + p + 1))).setIfInBounds (off + i * 3 + 2) (.int .i64 (k + p + 1 + 1))) t (0, 0))) := set_row (rs1.out) (off + i * 3 + 2) _
        have bs2 : Hid (But (fun b => b = g ∨ Ss i b) wr (((u0.setCell ⟨g, off + i * 3, none⟩ (.string (mkO (k + p)))).setCell ⟨g, off + i * 3 + 1, none⟩ (.int .i64 (k + p + 1))).setCell ⟨g, off + i * 3 + 2, none⟩ (.int .i64 (k + p + 1 + 1)))) := bs1.out.set (Or.inl rfl) (off + i * 3 + 2) _
        have EF : Hid (Els S (((u0.setCell ⟨g, off + i * 3, none⟩ (.string (mkO (k + p)))).setCell ⟨g, off + i * 3 + 1, none⟩ (.int .i64 (k + p + 1))).setCell ⟨g, off + i * 3 + 2, none⟩ (.int .i64 (k + p + 1 + 1))) g off Ss (((c.setIfInBounds (off + i * 3) (.string (mkO (k + p)))).setIfInBounds (off + i * 3 + 1) (.int .i64 (k + p + 1))).setIfInBounds (off + i * 3 + 2) (.int .i64 (k + p + 1 + 1))) t n (markedTo k l f (i + 1))) := by
          refine hE.out.step i (rs2.out) ?_ ⟨cs [.string (mkO (k + p)), .int .i64 (k + p + 1), .int .i64 (k + p + 1 + 1)], ?_, ?_⟩ (fun q hq => mt_ne k l f i q hq) bs2.out HWS.out
          · intro q j hq hj
            rw [width_DRunDone] at hj ⊢
            simp only [Array.getElem?_setIfInBounds]
            repeat rw [if_neg (by omega)]
          · intro j hj
            rw [width_DRunDone] at hj ⊢
            rcases (show j = 0 ∨ j = 1 ∨ j = 2 by omega) with rfl | rfl | rfl
            · show ((((c.setIfInBounds (off + i * 3) (.string (mkO (k + p)))).setIfInBounds (off + i * 3 + 1) (.int .i64 (k + p + 1))).setIfInBounds (off + i * 3 + 2) (.int .i64 (k + p + 1 + 1))))[off + i * 3]? = some (.string (mkO (k + p)))
              simp only [Array.getElem?_setIfInBounds, Array.size_setIfInBounds]
              repeat (first | rw [if_pos True.intro] | rw [if_pos (by omega)] | rw [if_neg (by omega)])
            · show ((((c.setIfInBounds (off + i * 3) (.string (mkO (k + p)))).setIfInBounds (off + i * 3 + 1) (.int .i64 (k + p + 1))).setIfInBounds (off + i * 3 + 2) (.int .i64 (k + p + 1 + 1))))[off + i * 3 + 1]? = some (.int .i64 (k + p + 1))
              simp only [Array.getElem?_setIfInBounds, Array.size_setIfInBounds]
              repeat (first | rw [if_pos True.intro] | rw [if_pos (by omega)] | rw [if_neg (by omega)])
            · show ((((c.setIfInBounds (off + i * 3) (.string (mkO (k + p)))).setIfInBounds (off + i * 3 + 1) (.int .i64 (k + p + 1))).setIfInBounds (off + i * 3 + 2) (.int .i64 (k + p + 1 + 1))))[off + i * 3 + 2]? = some (.int .i64 (k + p + 1 + 1))
              simp only [Array.getElem?_setIfInBounds, Array.size_setIfInBounds]
              repeat (first | rw [if_pos True.intro] | rw [if_pos (by omega)] | rw [if_neg (by omega)])
          · rw [mt_succ, EP.out, EA.out]
            rw [mkD_DRunDone]
            exact on_DRunDone.2 ⟨A0, B0, p0, q0, ⟨rfl, Nat.le_trans (mkO_size _) (by decide)⟩, A1, B1, p1, q1, ⟨rfl, by show (-9223372036854775808 : Int) ≤ k + p + 1; omega, by show k + p + 1 ≤ (9223372036854775807 : Int); omega⟩, ⟨rfl, by show (-9223372036854775808 : Int) ≤ k + p + 1 + 1; omega, by show k + p + 1 + 1 ≤ (9223372036854775807 : Int); omega⟩⟩
        have BF : Hid (But S w (((u0.setCell ⟨g, off + i * 3, none⟩ (.string (mkO (k + p)))).setCell ⟨g, off + i * 3 + 1, none⟩ (.int .i64 (k + p + 1))).setCell ⟨g, off + i * 3 + 2, none⟩ (.int .i64 (k + p + 1 + 1)))) := hB.out.trans (bs2.out.up (fun b hb => by
          rcases hb with hb | hb
          · rw [hb]; exact hE.out.own
          · exact (SUB.out b hb).1))
        go_wp2_with fail
        go_roundw
        case rel => exact ⟨i + 1, _, by omega, by go_num, by rw [HCS.out]; congr 1; omega, EF.out, BF.out⟩
        case measure => simp [intOf]; omega
      · have hin : i = n := by omega
        subst hin
        have hck : cntTo l i = m := by rw [← EM.out, ← HCL.out, EN.out]
        rw [hck]
        clear hck
        go_wp2_with fail
        go_ret
        refine ⟨rfl, ?_, hB.out⟩
        have h := hE.out
        rw [← EN.out] at h ⊢
        exact OnL.of_marked h HF.out HN.out
set_option maxRecDepth 100000 in
set_option maxHeartbeats 4000000 in
theorem markShareBatchS_any (S : Nat → Prop) (l : List DShareBatch) (v : Value) (k : Int) (w : World) (h : OnL S w l v) (hS : ∀ b, S b → b < w.heap.size) (h1 : 1 ≤ k) (h2 : k + cntL l ≤ 20000000) :
    Calls Tryz.prog 54 #[v, .int .i64 k] w fun e w' => e = .returned (.int .i64 (k + cntL l)) ∧ OnL S w' (mkL k l) v ∧ But S w w' := by
  obtain ⟨oa, cap, rfl, hn, h⟩ := h
  rcases h with h | ⟨g, off, Ss, cur, t, rfl, f, hf, h⟩
  · subst h
    go_enter Tryz.func54, Tryz.ntmps54
    go_wp2
    go_loop [1, 5] (fun s i => i = .int .i64 0 ∧ s = .int .i64 k) (fun _ _ => 0)
    case atStart => exact ⟨rfl, rfl⟩
    case round =>
      obtain ⟨rfl, rfl⟩ := hrel
      go_wp2
      go_ret
      exact ⟨by simp [cntL, cntTo], ⟨_, cap, rfl, hn, .inl rfl⟩, But.refl _ _⟩
  · have HE : Hid (Els S w g off Ss cur t l.length (markedTo k l f 0)) := by
      show Els _ _ _ _ _ _ _ _ _
      rw [mt_zero]; exact h
    have HF : Hid (∀ i (h : i < l.length), f i = l[i]) := hf
    have HN : Hid (Fits (some ⟨g, off, none⟩) l.length cap) := hn
    replace hn : l.length ≤ maxLen := hn.1
    have HS : Hid (∀ b, S b → b < w.heap.size) := hS
    have HCL : Hid (cntTo l l.length = cntL l) := rfl
    unfold maxLen at hn
    clear h hf hS
    have HCM : Hid (∀ i, i < l.length → cntTo l (i + 1) ≤ cntL l) := cntTo_le l
    obtain ⟨n, en⟩ : ∃ n, l.length = n := ⟨_, rfl⟩
    obtain ⟨m, em⟩ : ∃ m, cntL l = m := ⟨_, rfl⟩
    rw [en] at hn HE
    rw [em] at h2
    rw [en, em]
    have EN : Hid (l.length = n) := en
    have EM : Hid (cntL l = m) := em
    clear en em
    go_enter Tryz.func54, Tryz.ntmps54
    go_wp2
    go_loopw [1, 5] (fun q i wr => ∃ (i' : Nat) (c : Array Value), i' ≤ n ∧ i = .int .i64 i' ∧ q = .int .i64 (k + cntTo l i') ∧ Hid (Els S wr g off Ss c t n (markedTo k l f i')) ∧ Hid (But S w wr)) (fun _ i _ => n - (intOf i).toNat)
    case atStart => exact ⟨0, cur, Nat.zero_le _, rfl, by rw [cntTo_zero]; simp, HE, But.refl _ _⟩
    case round =>
      clear HE
      obtain ⟨i, c, hi, rfl, rfl, hE, hB⟩ := hrel
      by_cases hlt : i < n
      · obtain ⟨cc, hcell, hon⟩ := hE.out.el i hlt
        rw [mt_at] at hon
        have hrow : Hid (wr.heap[g]? = some (.cells c t (0, 0))) := hE.out.row
        have hgl : g < wr.heap.size := (Array.getElem?_eq_some_iff.1 hrow.out).1
        have HWS : Hid (∀ b, S b → b < wr.heap.size) := fun b hb => Nat.lt_of_lt_of_le (HS.out b hb) hB.out.size
        have SUB : Hid (∀ b, Ss i b → S b ∧ b ≠ g) := hE.out.sub i
        have hcs := cntTo_succ l i (by have := EN.out; omega)
        have hle := HCM.out i (by have := EN.out; omega)
        rw [← HF.out i (by have := EN.out; omega)] at hcs
        obtain ⟨a, ea⟩ : ∃ a, f i = a := ⟨_, rfl⟩
        rw [ea] at hcs hon
        rw [cnt_DShareBatch] at hcs
        rw [hcs, EM.out] at hle
        have HCS : Hid _ := hcs
        clear hcs
        obtain ⟨p, ep⟩ : ∃ p, cntTo l i = p := ⟨_, rfl⟩
        rw [ep] at hle HCS
        rw [ep]
        have EP : Hid (cntTo l i = p) := ep
        have EA : Hid (f i = a) := ea
        clear ep ea
        rw [width_DShareBatch] at hcell
        have e0 : c[off + i * 3]? = some (cc 0) := by simpa using hcell 0 (by omega)
        have e1 : c[off + i * 3 + 1]? = some (cc 1) := by simpa using hcell 1 (by omega)
        have e2 : c[off + i * 3 + 2]? = some (cc 2) := by simpa using hcell 2 (by omega)
        clear hcell
        have hsz : off + i * 3 + 2 < c.size := (Array.getElem?_eq_some_iff.1 e2).1
        obtain ⟨A0, B0, p0, q0, ⟨ge0, _⟩, A1, B1, p1, q1, H1, H2⟩ := on_DShareBatch.1 hon
        clear hon
        rw [ge0] at e0
        obtain ⟨so1, sc1, ge1, _⟩ := id H1
        rw [ge1] at e1 H1
        obtain ⟨so2, sc2, ge2, _⟩ := id H2
        rw [ge2] at e2 H2
        clear ge0 ge1 ge2
        have N1 : Hid (∀ b, A1 b → b < wr.heap.size ∧ b ≠ g ∧ Ss i b) := fun b hb => by
          have h0 : Ss i b := (q0 b (p1 b hb).1)
          exact ⟨HWS.out b (SUB.out b h0).1, (SUB.out b h0).2, h0⟩
        have L1 : Hid (OnL A1 wr a.2.1 (.slice so1 a.2.1.length sc1)) := H1
        clear H1
        have N2 : Hid (∀ b, B1 b → b < wr.heap.size ∧ b ≠ g ∧ Ss i b) := fun b hb => by
          have h0 : Ss i b := (q0 b (q1 b hb))
          exact ⟨HWS.out b (SUB.out b h0).1, (SUB.out b h0).2, h0⟩
        have L2 : Hid (OnL B1 wr a.2.2 (.slice so2 a.2.2.length sc2)) := H2
        clear H2
        have X1_2 : Hid (∀ b, B1 b → ¬ A1 b) := fun b hb ha => (p1 b ha).2 hb
        have X2_1 : Hid (∀ b, A1 b → ¬ B1 b) := fun b hb ha => X1_2.out b ha hb
        have bt : Hid (But (fun b => b = g ∨ Ss i b) wr wr) := But.refl _ _
        go_wp2_with fail
        refine (mkTx_any _ _ (by omega) (by omega)).mono ?_
        rintro e u0 ⟨rfl, hb0⟩
        have r0 : Hid (u0.heap[g]? = some (.cells c t (0, 0))) := (hb0.block g (Nat.lt_of_lt_of_le hgl bt.out.size)).trans (hrow.out)
        have L1_0 : Hid (OnL A1 u0 (a.2.1) (.slice so1 a.2.1.length sc1)) := L1.out.same (Same.of_below hb0 (fun b hb => Nat.lt_of_lt_of_le (N1.out b hb).1 bt.out.size))
        have L2_0 : Hid (OnL B1 u0 (a.2.2) (.slice so2 a.2.2.length sc2)) := L2.out.same (Same.of_below hb0 (fun b hb => Nat.lt_of_lt_of_le (N2.out b hb).1 bt.out.size))
        have bt0 : Hid (But (fun b => b = g ∨ Ss i b) wr u0) := bt.out.trans (But.of_below hb0)
        obtain ⟨cl0, fr0⟩ := cell_row (r0.out) (off + i * 3) (.string a.1) e0
        have rs0 : Hid ((u0.setCell ⟨g, off + i * 3, none⟩ (.string (mkO (k + p)))).heap[g]? = some (.cells (c.setIfInBounds (off + i * 3) (.string (mkO (k + p)))) t (0, 0))) := set_row (r0.out) (off + i * 3) _
        have bs0 : Hid (But (fun b => b = g ∨ Ss i b) wr (u0.setCell ⟨g, off + i * 3, none⟩ (.string (mkO (k + p))))) := bt0.out.set (Or.inl rfl) (off + i * 3) _
        have M1_0 : Hid (OnL A1 (u0.setCell ⟨g, off + i * 3, none⟩ (.string (mkO (k + p)))) (a.2.1) (.slice so1 a.2.1.length sc1)) := L1_0.out.same (Same.of_set _ _ _ (fun h => (N1.out _ h).2.1 rfl))
        have M2_0 : Hid (OnL B1 (u0.setCell ⟨g, off + i * 3, none⟩ (.string (mkO (k + p)))) (a.2.2) (.slice so2 a.2.2.length sc2)) := L2_0.out.same (Same.of_set _ _ _ (fun h => (N2.out _ h).2.1 rfl))
        have cl1 := (cell_row (rs0.out) (off + i * 3 + 1) (.slice so1 a.2.1.length sc1) (by simp only [Array.getElem?_setIfInBounds]; rw [if_neg (show ¬ (off + i * 3 = off + i * 3 + 1) by omega)]; exact e1)).1
        go_wp2_with fail
        refine (markStringS_any A1 a.2.1 (.slice so1 a.2.1.length sc1) _ _ M1_0.out (fun b hb => Nat.lt_of_lt_of_le (N1.out b hb).1 bs0.out.size) (by omega) (by omega)).mono ?_
        rintro e u1 ⟨rfl, o1, hb1⟩
        have r1 : Hid (u1.heap[g]? = some (.cells (c.setIfInBounds (off + i * 3) (.string (mkO (k + p)))) t (0, 0))) := (hb1.block g (Nat.lt_of_lt_of_le hgl bs0.out.size) (fun h => (N1.out g h).2.1 rfl)).trans (rs0.out)
        have L1_1 : Hid (OnL A1 u1 (mkL (k + p + 1) a.2.1) (.slice so1 a.2.1.length sc1)) := o1
        have L2_1 : Hid (OnL B1 u1 (a.2.2) (.slice so2 a.2.2.length sc2)) := M2_0.out.same (hb1.same (fun b hb => ⟨Nat.lt_of_lt_of_le (N2.out b hb).1 bs0.out.size, X1_2.out b hb⟩))
        have bt1 : Hid (But (fun b => b = g ∨ Ss i b) wr u1) := bs0.out.trans (hb1.up (fun b hb => Or.inr (N1.out b hb).2.2))
        clear o1
        have cl2 := (cell_row (r1.out) (off + i * 3 + 2) (.slice so2 a.2.2.length sc2) (by simp only [Array.getElem?_setIfInBounds]; rw [if_neg (show ¬ (off + i * 3 = off + i * 3 + 2) by omega)]; exact e2)).1
        go_wp2_with fail
        refine (markStringS_any B1 a.2.2 (.slice so2 a.2.2.length sc2) _ _ L2_1.out (fun b hb => Nat.lt_of_lt_of_le (N2.out b hb).1 bt1.out.size) (by omega) (by omega)).mono ?_
        rintro e u2 ⟨rfl, o2, hb2⟩
        have r2 : Hid (u2.heap[g]? = some (.cells (c.setIfInBounds (off + i * 3) (.string (mkO (k + p)))) t (0, 0))) := (hb2.block g (Nat.lt_of_lt_of_le hgl bt1.out.size) (fun h => (N2.out g h).2.1 rfl)).trans (r1.out)
        have L1_2 : Hid (OnL A1 u2 (mkL (k + p + 1) a.2.1) (.slice so1 a.2.1.length sc1)) := L1_1.out.same (hb2.same (fun b hb => ⟨Nat.lt_of_lt_of_le (N1.out b hb).1 bt1.out.size, X2_1.out b hb⟩))
        have L2_2 : Hid (OnL B1 u2 (mkL (k + p + 1 + cntL a.2.1) a.2.2) (.slice so2 a.2.2.length sc2)) := o2
        have bt2 : Hid (But (fun b => b = g ∨ Ss i b) wr u2) := bt1.out.trans (hb2.up (fun b hb => Or.inr (N2.out b hb).2.2))
        clear o2
        have EF : Hid (Els S u2 g off Ss (c.setIfInBounds (off + i * 3) (.string (mkO (k + p)))) t n (markedTo k l f (i + 1))) := by
          refine hE.out.step i (r2.out) ?_ ⟨cs [.string (mkO (k + p)), .slice so1 a.2.1.length sc1, .slice so2 a.2.2.length sc2], ?_, ?_⟩ (fun q hq => mt_ne k l f i q hq) bt2.out HWS.out
          · intro q j hq hj
            rw [width_DShareBatch] at hj ⊢
            simp only [Array.getElem?_setIfInBounds]
            repeat rw [if_neg (by omega)]
          · intro j hj
            rw [width_DShareBatch] at hj ⊢
            rcases (show j = 0 ∨ j = 1 ∨ j = 2 by omega) with rfl | rfl | rfl
            · show ((c.setIfInBounds (off + i * 3) (.string (mkO (k + p)))))[off + i * 3]? = some (.string (mkO (k + p)))
              simp only [Array.getElem?_setIfInBounds]
              repeat (first | rw [if_pos True.intro] | rw [if_pos (by omega)] | rw [if_neg (by omega)])
            · show ((c.setIfInBounds (off + i * 3) (.string (mkO (k + p)))))[off + i * 3 + 1]? = some (.slice so1 a.2.1.length sc1)
              simp only [Array.getElem?_setIfInBounds]
              repeat (first | rw [if_pos True.intro] | rw [if_pos (by omega)] | rw [if_neg (by omega)])
              exact e1
            · show ((c.setIfInBounds (off + i * 3) (.string (mkO (k + p)))))[off + i * 3 + 2]? = some (.slice so2 a.2.2.length sc2)
              simp only [Array.getElem?_setIfInBounds]
              repeat (first | rw [if_pos True.intro] | rw [if_pos (by omega)] | rw [if_neg (by omega)])
              exact e2
          · rw [mt_succ, EP.out, EA.out]
            rw [mkD_DShareBatch]
            exact on_DShareBatch.2 ⟨A0, B0, p0, q0, ⟨rfl, Nat.le_trans (mkO_size _) (by decide)⟩, A1, B1, p1, q1, L1_2.out, L2_2.out⟩
        have BF : Hid (But S w u2) := hB.out.trans (bt2.out.up (fun b hb => by
          rcases hb with hb | hb
          · rw [hb]; exact hE.out.own
          · exact (SUB.out b hb).1))
        go_wp2_with fail
        go_roundw
        case rel => exact ⟨i + 1, _, by omega, by go_num, by rw [HCS.out]; congr 1; omega, EF.out, BF.out⟩
        case measure => simp [intOf]; omega
      · have hin : i = n := by omega
        subst hin
        have hck : cntTo l i = m := by rw [← EM.out, ← HCL.out, EN.out]
        rw [hck]
        clear hck
        go_wp2_with fail
        go_ret
        refine ⟨rfl, ?_, hB.out⟩
        have h := hE.out
        rw [← EN.out] at h ⊢
        exact OnL.of_marked h HF.out HN.out
set_option maxRecDepth 100000 in
set_option maxHeartbeats 4000000 in
theorem markShareBook_any (S : Nat → Prop) (a : DShareBook) (c : Nat → Value) (k : Int) (w : World) (h : Own.On S w a c) (hS : ∀ b, S b → b < w.heap.size) (h1 : 1 ≤ k) (h2 : k + Own.cnt a ≤ 20000000) :
    Calls Tryz.prog 26 #[.agg #[c 0, c 1], .int .i64 k] w fun e w' => e = .returned (.int .i64 (k + Own.cnt a)) ∧ Own.On S w' (Own.mkD k a) c ∧ But S w w' := by
  rw [cnt_DShareBook] at h2
  rw [cnt_DShareBook]
  obtain ⟨A0, B0, p0, q0, H0, H1⟩ := on_DShareBook.1 h
  clear h
  obtain ⟨so0, sc0, ge0, _⟩ := id H0
  rw [ge0] at H0
  obtain ⟨so1, sc1, ge1, _⟩ := id H1
  rw [ge1] at H1
  rw [ge0, ge1]
  have GE0 : Hid (c 0 = .slice so0 a.1.length sc0) := ge0
  have GE1 : Hid (c 1 = .slice so1 a.2.length sc1) := ge1
  clear ge0 ge1
  have N0 : Hid (∀ b, A0 b → b < w.heap.size ∧ S b) := fun b hb => by
    have h0 : S b := (p0 b hb).1
    exact ⟨hS b h0, h0⟩
  have N1 : Hid (∀ b, B0 b → b < w.heap.size ∧ S b) := fun b hb => by
    have h0 : S b := (q0 b hb)
    exact ⟨hS b h0, h0⟩
  have X0_1 : Hid (∀ b, B0 b → ¬ A0 b) := fun b hb ha => (p0 b ha).2 hb
  have X1_0 : Hid (∀ b, A0 b → ¬ B0 b) := fun b hb ha => X0_1.out b ha hb
  have NB : Hid (¬ S w.heap.size) := fun h => absurd (hS _ h) (Nat.lt_irrefl _)
  have b0 : Hid (But S w (w.alloc (.cells #[.slice so0 a.1.length sc0, .slice so1 a.2.length sc1] 34))) := But.of_below ((Below.refl _ _).alloc (Nat.le_refl _) _)
  have hbs : w.heap.size < (w.alloc (.cells #[.slice so0 a.1.length sc0, .slice so1 a.2.length sc1] 34)).heap.size := by simp
  have L0 : Hid (OnL A0 (w.alloc (.cells #[.slice so0 a.1.length sc0, .slice so1 a.2.length sc1] 34)) a.1 (.slice so0 a.1.length sc0)) := H0.same (Same.of_alloc _ _ (fun b hb => (N0.out b hb).1))
  clear H0
  have L1 : Hid (OnL B0 (w.alloc (.cells #[.slice so0 a.1.length sc0, .slice so1 a.2.length sc1] 34)) a.2 (.slice so1 a.2.length sc1)) := H1.same (Same.of_alloc _ _ (fun b hb => (N1.out b hb).1))
  clear H1
  clear hS
  go_enter Tryz.func26, Tryz.ntmps26
  go_wp2_with fail
  refine (markStringS_any A0 a.1 (.slice so0 a.1.length sc0) _ _ L0.out (fun b hb => Nat.lt_of_lt_of_le (N0.out b hb).1 b0.out.size) (by omega) (by omega)).mono ?_
  rintro e w1 ⟨rfl, o0, u1⟩
  have L0_0 : Hid (OnL A0 w1 (mkL (k) a.1) (.slice so0 a.1.length sc0)) := o0
  have L1_0 : Hid (OnL B0 w1 (a.2) (.slice so1 a.2.length sc1)) := L1.out.same (u1.same (fun b hb => ⟨Nat.lt_of_lt_of_le (N1.out b hb).1 b0.out.size, X0_1.out b hb⟩))
  clear o0
  have b1 : Hid (But S w w1) := b0.out.trans (u1.up (fun b hb => (N0.out b hb).2))
  have x1_1 : w1.cell? ⟨w.heap.size, 1, none⟩ = some (.slice so1 a.2.length sc1) := (World.cell?_of_block (a := ⟨w.heap.size, 1, none⟩) (u1.block w.heap.size hbs (fun h => NB.out (N0.out _ h).2))).trans (by simp)
  have s1 : w.heap.size < w1.heap.size := by have := u1.size; simp at this; omega
  go_wp2_with fail
  refine (markShareBatchS_any B0 a.2 (.slice so1 a.2.length sc1) _ _ L1_0.out (fun b hb => Nat.lt_of_lt_of_le (N1.out b hb).1 b1.out.size) (by omega) (by omega)).mono ?_
  rintro e w2 ⟨rfl, o1, u2⟩
  have L0_1 : Hid (OnL A0 w2 (mkL (k) a.1) (.slice so0 a.1.length sc0)) := L0_0.out.same (u2.same (fun b hb => ⟨Nat.lt_of_lt_of_le (N0.out b hb).1 b1.out.size, X1_0.out b hb⟩))
  have L1_1 : Hid (OnL B0 w2 (mkL (k + cntL a.1) a.2) (.slice so1 a.2.length sc1)) := o1
  clear o1
  have b2 : Hid (But S w w2) := b1.out.trans (u2.up (fun b hb => (N1.out b hb).2))
  have s2 : w.heap.size < w2.heap.size := by have := u2.size; omega
  have FIN : Hid (Own.On S w2 (Own.mkD k a) c) := by
    show Own.On _ _ _ _
    rw [mkD_DShareBook]
    refine on_DShareBook.2 ⟨A0, B0, p0, q0, ?_, ?_⟩
    · rw [GE0.out]; exact L0_1.out
    · rw [GE1.out]; exact L1_1.out
  have hx : Hid (k + cntL a.1 + cntL a.2 = k + ((cntL a.1 + (cntL a.2) : Nat) : Int)) := by show _ = _; omega
  go_wp2_with fail
  go_ret
  exact ⟨by rw [← hx.out]; rfl, FIN.out, b2.out⟩
end Go.Proofs.YtigkkelaadbhcabGreat
