import Derived.Test.YtigkkelaadbhcabGreatM1
import Derived.Test.YtigkkelaadbhcabGreatVa
namespace Go.Proofs.YtigkkelaadbhcabGreat
open Go.RowKit
set_option maxRecDepth 100000 in
set_option maxHeartbeats 400000 in
theorem mkTx_any (k : Int) (w : World) (h1 : 1 ≤ k) (h2 : k ≤ 20000000) :
    Calls Tryz.prog 29 #[.int .i64 k] w fun e w' => e = .returned (.string (mkO k)) ∧ Below w.heap.size w w' := by
  have hd : decide (k ≤ 0) = false := by simp; omega
  have hcv := conv_one
  go_enter Tryz.func29, Tryz.ntmps29
  go_wp2
  go_loopw [0, 3] (fun i t wr => ∃ (j : Int) (u : ByteArray) (n : Nat), 0 ≤ j ∧ j ≤ 20000000 ∧ Hid (j < 10 ^ n) ∧ i = .int .i64 j ∧ t = .string u ∧ Hid (dgO n j u = dgO 20 k ⟨#[]⟩) ∧ u.size + n ≤ 20 ∧ Below w.heap.size w wr) (fun i _ _ => (intOf i).toNat)
  case atStart => exact ⟨k, _, 20, by omega, by omega, by show k < _; omega, rfl, rfl, rfl, by decide, Below.refl _ _⟩
  case round =>
    obtain ⟨j, u, n, hj1, hj2, hn, rfl, rfl, he, hu, hbel⟩ := hrel
    by_cases hp : 0 < j
    · go_wp2
      go_roundw
      case rel =>
        cases n with
        | zero => exact absurd hn.out (by simp; omega)
        | succ n =>
          refine ⟨j / 10, _, n, by omega, by omega, ?_, rfl, rfl, ?_, ?_, hbel.alloc hbel.size _⟩
          · have h := hn.out
            rw [Int.pow_succ] at h
            show j / 10 < 10 ^ n
            omega
          · show dgO n (j / 10) _ = _
            rw [← he.out, dgO, if_pos (by omega)]
          · have e1 : (⟨#[UInt8.ofNat (48 + j % 10).toNat]⟩ : ByteArray).size = 1 := rfl
            rw [ByteArray.size_append, e1]; omega
      case measure => simp [intOf]; omega
    · go_wp2
      go_ret
      refine ⟨?_, hbel⟩
      rw [mkO, ← he.out, dgO_end _ _ _ (by omega)]
      rfl
section
variable {α : Type} [Own α]
theorem Els.step {S : Nat → Prop} {w U : World} {g off : Nat} {Ss : Nat → Nat → Prop} {cur cur' : Array Value} {t : TypeId} {n : Nat} {f f' : Nat → α} (h : Els S w g off Ss cur t n f) (i : Nat)
    (hrow : U.heap[g]? = some (.cells cur' t (0, 0))) (hoth : ∀ q j, q ≠ i → j < Lay.width α → cur'[off + q * Lay.width α + j]? = cur[off + q * Lay.width α + j]?)
    (hel : ∃ c : Nat → Value, (∀ j, j < Lay.width α → cur'[off + i * Lay.width α + j]? = some (c j)) ∧ Own.On (Ss i) U (f' i) c) (hF : ∀ q, q ≠ i → f' q = f q)
    (hbut : But (fun b => b = g ∨ Ss i b) w U) (hS : ∀ b, S b → b < w.heap.size) : Els S U g off Ss cur' t n f' :=
  ⟨hrow, h.own, h.sub, h.dis, fun q hq => by
    by_cases e : q = i
    · subst e; exact hel
    · obtain ⟨c, h1, h2⟩ := h.el q hq
      refine ⟨c, fun j hj => (hoth q j e hj).trans (h1 j hj), ?_⟩
      rw [hF q e]
      refine Own.on_same h2 (hbut.same (fun b hb => ⟨hS b (h.sub q b hb).1, ?_⟩))
      rintro (e' | e')
      · exact (h.sub q b hb).2 e'
      · exact e (h.dis q i b hb e')⟩
def markedTo (k : Int) (l : List α) (f : Nat → α) (i j : Nat) : α := if j < i then Own.mkD (k + cntTo l j) (f j) else f j
theorem mt_zero (k : Int) (l : List α) (f : Nat → α) : markedTo k l f 0 = f := by funext j; simp [markedTo]
theorem mt_at (k : Int) (l : List α) (f : Nat → α) (i : Nat) : markedTo k l f i i = f i := by simp [markedTo]
theorem mt_succ (k : Int) (l : List α) (f : Nat → α) (i : Nat) : markedTo k l f (i + 1) i = Own.mkD (k + cntTo l i) (f i) := by simp [markedTo]
theorem mt_ne (k : Int) (l : List α) (f : Nat → α) (i q : Nat) (h : q ≠ i) : markedTo k l f (i + 1) q = markedTo k l f i q := by
  unfold markedTo
  by_cases e : q < i
  · rw [if_pos e, if_pos (by omega)]
  · rw [if_neg e, if_neg (by omega)]
theorem OnL.of_marked {S : Nat → Prop} {U : World} {g off cap : Nat} {Ss : Nat → Nat → Prop} {cur : Array Value} {t : TypeId} {k : Int} {l : List α} {f : Nat → α} (h : Els S U g off Ss cur t l.length (markedTo k l f l.length)) (hf : ∀ i (h : i < l.length), f i = l[i]) (hn : Fits (some ⟨g, off, none⟩) l.length cap) :
    OnL S U (mkL k l) (.slice (some ⟨g, off, none⟩) l.length cap) :=
  ⟨_, cap, by rw [mkL_len], by rw [mkL_len]; exact hn, .inr ⟨g, off, Ss, cur, t, rfl, markedTo k l f l.length, fun i hi => by
    have hi' : i < l.length := by rw [mkL_len] at hi; exact hi
    rw [mkL_at k l i hi', markedTo, if_pos hi', hf i hi'], by rw [mkL_len]; exact h⟩⟩
theorem cntTo_le (l : List α) (i : Nat) (h : i < l.length) : cntTo l (i + 1) ≤ cntL l := by
  unfold cntL
  have : ∀ d, i + 1 + d ≤ l.length → cntTo l (i + 1) ≤ cntTo l (i + 1 + d) := by
    intro d
    induction d with
    | zero => intro _; exact Nat.le_refl _
    | succ d ih => intro hd; have := ih (by omega); rw [show i + 1 + (d + 1) = (i + 1 + d) + 1 by omega, cntTo_succ l (i + 1 + d) (by omega)]; omega
  have h2 := this (l.length - (i + 1)) (by omega)
  rwa [show i + 1 + (l.length - (i + 1)) = l.length by omega] at h2
end
theorem mkD_DRecPhase (k : Int) (a : DRecPhase) : Own.mkD k a = (mkO (k), k + 1, mkO (k + 1 + 1), mkO (k + 1 + 1 + 1), k + 1 + 1 + 1 + 1, k + 1 + 1 + 1 + 1 + 1, mkO (k + 1 + 1 + 1 + 1 + 1 + 1), mkO (k + 1 + 1 + 1 + 1 + 1 + 1 + 1)) := rfl
theorem cnt_DRecPhase (a : DRecPhase) : Own.cnt a = 1 + (1 + (1 + (1 + (1 + (1 + (1 + (1))))))) := rfl
theorem on_DRecPhase {S : Nat → Prop} {w : World} {a : DRecPhase} {c : Nat → Value} : Own.On S w a c ↔ ∃ A0 B0 : Nat → Prop, (∀ b, A0 b → S b ∧ ¬ B0 b) ∧ (∀ b, B0 b → S b) ∧ (c 0 = .string a.1 ∧ a.1.size ≤ maxLen) ∧ ∃ A1 B1 : Nat → Prop, (∀ b, A1 b → B0 b ∧ ¬ B1 b) ∧ (∀ b, B1 b → B0 b) ∧ (c 1 = .int .i64 a.2.1 ∧ -9223372036854775808 ≤ a.2.1 ∧ a.2.1 ≤ 9223372036854775807) ∧ ∃ A2 B2 : Nat → Prop, (∀ b, A2 b → B1 b ∧ ¬ B2 b) ∧ (∀ b, B2 b → B1 b) ∧ (c 2 = .string a.2.2.1 ∧ a.2.2.1.size ≤ maxLen) ∧ ∃ A3 B3 : Nat → Prop, (∀ b, A3 b → B2 b ∧ ¬ B3 b) ∧ (∀ b, B3 b → B2 b) ∧ (c 3 = .string a.2.2.2.1 ∧ a.2.2.2.1.size ≤ maxLen) ∧ ∃ A4 B4 : Nat → Prop, (∀ b, A4 b → B3 b ∧ ¬ B4 b) ∧ (∀ b, B4 b → B3 b) ∧ (c 4 = .int .i64 a.2.2.2.2.1 ∧ -9223372036854775808 ≤ a.2.2.2.2.1 ∧ a.2.2.2.2.1 ≤ 9223372036854775807) ∧ ∃ A5 B5 : Nat → Prop, (∀ b, A5 b → B4 b ∧ ¬ B5 b) ∧ (∀ b, B5 b → B4 b) ∧ (c 5 = .int .i64 a.2.2.2.2.2.1 ∧ -9223372036854775808 ≤ a.2.2.2.2.2.1 ∧ a.2.2.2.2.2.1 ≤ 9223372036854775807) ∧ ∃ A6 B6 : Nat → Prop, (∀ b, A6 b → B5 b ∧ ¬ B6 b) ∧ (∀ b, B6 b → B5 b) ∧ (c 6 = .string a.2.2.2.2.2.2.1 ∧ a.2.2.2.2.2.2.1.size ≤ maxLen) ∧ (c 7 = .string a.2.2.2.2.2.2.2 ∧ a.2.2.2.2.2.2.2.size ≤ maxLen) := Iff.rfl
set_option maxRecDepth 100000 in
set_option maxHeartbeats 4000000 in
theorem markRecPhaseS_any (S : Nat → Prop) (l : List DRecPhase) (v : Value) (k : Int) (w : World) (h : OnL S w l v) (hS : ∀ b, S b → b < w.heap.size) (h1 : 1 ≤ k) (h2 : k + cntL l ≤ 20000000) :
    Calls Tryz.prog 55 #[v, .int .i64 k] w fun e w' => e = .returned (.int .i64 (k + cntL l)) ∧ OnL S w' (mkL k l) v ∧ But S w w' := by
  obtain ⟨oa, cap, rfl, hn, h⟩ := h
  rcases h with h | ⟨g, off, Ss, cur, t, rfl, f, hf, h⟩
  · subst h
    go_enter Tryz.func55, Tryz.ntmps55
    go_wp2
    go_loop [1, 5] (fun s i => i = .int .i64 0 ∧ s = .int .i64 k) (fun _ _ => 0)
    case atStart => exact ⟨rfl, rfl⟩
    case round =>
      obtain ⟨rfl, rfl⟩ := hrel
      go_wp2
      go_ret
      exact ⟨by simp [cntL, cntTo], ⟨_, cap, rfl, hn, .inl rfl⟩, But.refl _ _⟩
  · have HE : Hid (Els S w g off Ss cur t l.length (markedTo k l f 0)) := by
      show Els _ _ _ _ _ _ _ _ _
      rw [mt_zero]; exact h
    have HF : Hid (∀ i (h : i < l.length), f i = l[i]) := hf
    have HN : Hid (Fits (some ⟨g, off, none⟩) l.length cap) := hn
    replace hn : l.length ≤ maxLen := hn.1
    have HS : Hid (∀ b, S b → b < w.heap.size) := hS
    have HCL : Hid (cntTo l l.length = cntL l) := rfl
    unfold maxLen at hn
    clear h hf hS
    have HCM : Hid (∀ i, i < l.length → cntTo l (i + 1) ≤ cntL l) := cntTo_le l
    obtain ⟨n, en⟩ : ∃ n, l.length = n := ⟨_, rfl⟩
    obtain ⟨m, em⟩ : ∃ m, cntL l = m := ⟨_, rfl⟩
    rw [en] at hn HE
    rw [em] at h2
    rw [en, em]
    have EN : Hid (l.length = n) := en
    have EM : Hid (cntL l = m) := em
    clear en em
    go_enter Tryz.func55, Tryz.ntmps55
    go_wp2
    go_loopw [1, 5] (fun q i wr => ∃ (i' : Nat) (c : Array Value), i' ≤ n ∧ i = .int .i64 i' ∧ q = .int .i64 (k + cntTo l i') ∧ Hid (Els S wr g off Ss c t n (markedTo k l f i')) ∧ Hid (But S w wr)) (fun _ i _ => n - (intOf i).toNat)
    case atStart => exact ⟨0, cur, Nat.zero_le _, rfl, by rw [cntTo_zero]; simp, HE, But.refl _ _⟩
    case round =>
      clear HE
      obtain ⟨i, c, hi, rfl, rfl, hE, hB⟩ := hrel
      by_cases hlt : i < n
      · obtain ⟨cc, hcell, hon⟩ := hE.out.el i hlt
        rw [mt_at] at hon
        have hrow : Hid (wr.heap[g]? = some (.cells c t (0, 0))) := hE.out.row
        have hgl : g < wr.heap.size := (Array.getElem?_eq_some_iff.1 hrow.out).1
        have HWS : Hid (∀ b, S b → b < wr.heap.size) := fun b hb => Nat.lt_of_lt_of_le (HS.out b hb) hB.out.size
        have SUB : Hid (∀ b, Ss i b → S b ∧ b ≠ g) := hE.out.sub i
        have hcs := cntTo_succ l i (by have := EN.out; omega)
        have hle := HCM.out i (by have := EN.out; omega)
        rw [← HF.out i (by have := EN.out; omega)] at hcs
        obtain ⟨a, ea⟩ : ∃ a, f i = a := ⟨_, rfl⟩
        rw [ea] at hcs hon
        rw [cnt_DRecPhase] at hcs
        rw [hcs, EM.out] at hle
        have HCS : Hid _ := hcs
        clear hcs
        obtain ⟨p, ep⟩ : ∃ p, cntTo l i = p := ⟨_, rfl⟩
        rw [ep] at hle HCS
        rw [ep]
        have EP : Hid (cntTo l i = p) := ep
        have EA : Hid (f i = a) := ea
        clear ep ea
        rw [width_DRecPhase] at hcell
        have e0 : c[off + i * 8]? = some (cc 0) := by simpa using hcell 0 (by omega)
        have e1 : c[off + i * 8 + 1]? = some (cc 1) := by simpa using hcell 1 (by omega)
        have e2 : c[off + i * 8 + 2]? = some (cc 2) := by simpa using hcell 2 (by omega)
        have e3 : c[off + i * 8 + 3]? = some (cc 3) := by simpa using hcell 3 (by omega)
        have e4 : c[off + i * 8 + 4]? = some (cc 4) := by simpa using hcell 4 (by omega)
        have e5 : c[off + i * 8 + 5]? = some (cc 5) := by simpa using hcell 5 (by omega)
        have e6 : c[off + i * 8 + 6]? = some (cc 6) := by simpa using hcell 6 (by omega)
        have e7 : c[off + i * 8 + 7]? = some (cc 7) := by simpa using hcell 7 (by omega)
        clear hcell
        have hsz : off + i * 8 + 7 < c.size := (Array.getElem?_eq_some_iff.1 e7).1
        obtain ⟨A0, B0, p0, q0, ⟨ge0, _⟩, A1, B1, p1, q1, ⟨ge1, _, _⟩, A2, B2, p2, q2, ⟨ge2, _⟩, A3, B3, p3, q3, ⟨ge3, _⟩, A4, B4, p4, q4, ⟨ge4, _, _⟩, A5, B5, p5, q5, ⟨ge5, _, _⟩, A6, B6, p6, q6, ⟨ge6, _⟩, ⟨ge7, _⟩⟩ := on_DRecPhase.1 hon
        clear hon
        rw [ge0] at e0
        rw [ge1] at e1
        rw [ge2] at e2
        rw [ge3] at e3
        rw [ge4] at e4
        rw [ge5] at e5
        rw [ge6] at e6
        rw [ge7] at e7
        clear ge0 ge1 ge2 ge3 ge4 ge5 ge6 ge7
        have bt : Hid (But (fun b => b = g ∨ Ss i b) wr wr) := But.refl _ _
        go_wp2_with fail
        refine (mkTx_any _ _ (by omega) (by omega)).mono ?_
        rintro e u0 ⟨rfl, hb0⟩
        have r0 : Hid (u0.heap[g]? = some (.cells c t (0, 0))) := (hb0.block g (Nat.lt_of_lt_of_le hgl bt.out.size)).trans (hrow.out)
        have bt0 : Hid (But (fun b => b = g ∨ Ss i b) wr u0) := bt.out.trans (But.of_below hb0)
        obtain ⟨cl0, fr0⟩ := cell_row (r0.out) (off + i * 8) (.string a.1) e0
        have rs0 : Hid ((u0.setCell ⟨g, off + i * 8, none⟩ (.string (mkO (k + p)))).heap[g]? = some (.cells (c.setIfInBounds (off + i * 8) (.string (mkO (k + p)))) t (0, 0))) := set_row (r0.out) (off + i * 8) _
        have bs0 : Hid (But (fun b => b = g ∨ Ss i b) wr (u0.setCell ⟨g, off + i * 8, none⟩ (.string (mkO (k + p))))) := bt0.out.set (Or.inl rfl) (off + i * 8) _
        obtain ⟨cl1, fr1⟩ := cell_row (rs0.out) (off + i * 8 + 1) (.int .i64 a.2.1) (by simp only [Array.getElem?_setIfInBounds]; rw [if_neg (show ¬ (off + i * 8 = off + i * 8 + 1) by omega)]; exact e1)
        have rs1 : Hid (((u0.setCell ⟨g, off + i * 8, none⟩ (.string (mkO (k + p)))).setCell ⟨g, off + i * 8 + 1, none⟩ (.int .i64 (k + p + 1))).heap[g]? = some (.cells ((c.setIfInBounds (off + i * 8) (.string (mkO (k + p)))).setIfInBounds (off + i * 8 + 1) (.int .i64 (k + p + 1))) t (0, 0))) := set_row (rs0.out) (off + i * 8 + 1) _
        have bs1 : Hid (But (fun b => b = g ∨ Ss i b) wr ((u0.setCell ⟨g, off + i * 8, none⟩ (.string (mkO (k + p)))).setCell ⟨g, off + i * 8 + 1, none⟩ (.int .i64 (k + p + 1)))) := bs0.out.set (Or.inl rfl) (off + i * 8 + 1) _
        go_wp2_with fail
        refine (mkTx_any _ _ (by omega) (by omega)).mono ?_
        rintro e u1 ⟨rfl, hb1⟩
        have r1 : Hid (u1.heap[g]? = some (.cells ((c.setIfInBounds (off + i * 8) (.string (mkO (k + p)))).setIfInBounds (off + i * 8 + 1) (.int .i64 (k + p + 1))) t (0, 0))) := (hb1.block g (Nat.lt_of_lt_of_le hgl bs1.out.size)).trans (rs1.out)
        have bt1 : Hid (But (fun b => b = g ∨ Ss i b) wr u1) := bs1.out.trans (But.of_below hb1)
        obtain ⟨cl2, fr2⟩ := cell_row (r1.out) (off + i * 8 + 2) (.string a.2.2.1) (by simp only [Array.getElem?_setIfInBounds]; rw [if_neg (show ¬ (off + i * 8 + 1 = off + i * 8 + 2) by omega), if_neg (show ¬ (off + i * 8 = off + i * 8 + 2) by omega)]; exact e2)
        have rs2 : Hid ((u1.setCell ⟨g, off + i * 8 + 2, none⟩ (.string (mkO (k + p + 1 + 1)))).heap[g]? = some (.cells (((c.setIfInBounds (off + i * 8) (.string (mkO (k + p)))).setIfInBounds (off + i * 8 + 1) (.int .i64 (k + p + 1))).setIfInBounds (off + i * 8 + 2) (.string (mkO (k + p + 1 + 1)))) t (0, 0))) := set_row (r1.out) (off + i * 8 + 2) _
        have bs2 : Hid (But (fun b => b = g ∨ Ss i b) wr (u1.setCell ⟨g, off + i * 8 + 2, none⟩ (.string (mkO (k + p + 1 + 1))))) := bt1.out.set (Or.inl rfl) (off + i * 8 + 2) _
        go_wp2_with fail
        refine (mkTx_any _ _ (by omega) (by omega)).mono ?_
        rintro e u2 ⟨rfl, hb2⟩
        have r2 : Hid (u2.heap[g]? = some (.cells (((c.setIfInBounds (off + i * 8) (.string (mkO (k + p)))).setIfInBounds (off + i * 8 + 1) (.int .i64 (k + p + 1))).setIfInBounds (off + i * 8 + 2) (.string (mkO (k + p + 1 + 1)))) t (0, 0))) := (hb2.block g (Nat.lt_of_lt_of_le hgl bs2.out.size)).trans (rs2.out)
        have bt2 : Hid (But (fun b => b = g ∨ Ss i b) wr u2) := bs2.out.trans (But.of_below hb2)
        obtain ⟨cl3, fr3⟩ := cell_row (r2.out) (off + i * 8 + 3) (.string a.2.2.2.1) (by simp only [Array.getElem?_setIfInBounds]; rw [if_neg (show ¬ (off + i * 8 + 2 = off + i * 8 + 3) by omega), if_neg (show ¬ (off + i * 8 + 1 = off + i * 8 + 3) by omega), if_neg (show ¬ (off + i * 8 = off + i * 8 + 3) by omega)]; exact e3)
        have rs3 : Hid ((u2.setCell ⟨g, off + i * 8 + 3, none⟩ (.string (mkO (k + p + 1 + 1 + 1)))).heap[g]? = some (.cells ((((c.setIfInBounds (off + i * 8) (.string (mkO (k + p)))).setIfInBounds (off + i * 8 + 1) (.int .i64 (k + p + 1))).setIfInBounds (off + i * 8 + 2) (.string (mkO (k + p + 1 + 1)))).setIfInBounds (off + i * 8 + 3) (.string (mkO (k + p + 1 + 1 + 1)))) t (0, 0))) := set_row (r2.out) (off + i * 8 + 3) _
        have bs3 : Hid (But (fun b => b = g ∨ Ss i b) wr (u2.setCell ⟨g, off + i * 8 + 3, none⟩ (.string (mkO (k + p + 1 + 1 + 1))))) := bt2.out.set (Or.inl rfl) (off + i * 8 + 3) _
        obtain ⟨cl4, fr4⟩ := cell_row (rs3.out) (off + i * 8 + 4) (.int .i64 a.2.2.2.2.1) (by simp only [Array.getElem?_setIfInBounds]; rw [if_neg (show ¬ (off + i * 8 + 3 = off + i * 8 + 4) by omega), if_neg (show ¬ (off + i * 8 + 2 = off + i * 8 + 4) by omega), if_neg (show ¬ (off + i * 8 + 1 = off + i * 8 + 4) by omega), if_neg (show ¬ (off + i * 8 = off + i * 8 + 4) by omega)]; exact e4)
        have rs4 : Hid (((u2.setCell ⟨g, off + i * 8 + 3, none⟩ (.string (mkO (k + p + 1 + 1 + 1)))).setCell ⟨g, off + i * 8 + 4, none⟩ (.int .i64 (k + p + 1 + 1 + 1 + 1))).heap[g]? = some (.cells (((((c.setIfInBounds (off + i * 8) (.string (mkO (k + p)))).setIfInBounds (off + i * 8 + 1) (.int .i64 (k + p + 1))).setIfInBounds (off + i * 8 + 2) (.string (mkO (k + p + 1 + 1)))).setIfInBounds (off + i * 8 + 3) (.string (mkO (k + p + 1 + 1 + 1)))).setIfInBounds (off + i * 8 + 4) (.int .i64 (k + p + 1 + 1 + 1 + 1))) t (0, 0))) := set_row (rs3.out) (off + i * 8 + 4) _
        have bs4 : Hid (But (fun b => b = g ∨ Ss i b) wr ((u2.setCell ⟨g, off + i * 8 + 3, none⟩ (.string (mkO (k + p + 1 + 1 + 1)))).setCell ⟨g, off + i * 8 + 4, none⟩ (.int .i64 (k + p + 1 + 1 + 1 + 1)))) := bs3.out.set (Or.inl rfl) (off + i * 8 + 4) _
        obtain ⟨cl5, fr5⟩ := cell_row (rs4.out) (off + i * 8 + 5) (.int .i64 a.2.2.2.2.2.1) (by simp only [Array.getElem?_setIfInBounds]; rw [if_neg (show ¬ (off + i * 8 + 4 = off + i * 8 + 5) by omega), if_neg (show ¬ (off + i * 8 + 3 = off + i * 8 + 5) by omega), if_neg (show ¬ (off + i * 8 + 2 = off + i * 8 + 5) by omega), if_neg (show ¬ (off + i * 8 + 1 = off + i * 8 + 5) by omega), if_neg (show ¬ (off + i * 8 = off + i * 8 + 5) by omega)]; exact e5)
        have rs5 : Hid ((((u2.setCell ⟨g, off + i * 8 + 3, none⟩ (.string (mkO (k + p + 1 + 1 + 1)))).setCell ⟨g, off + i * 8 + 4, none⟩ (.int .i64 (k + p + 1 + 1 + 1 + 1))).setCell ⟨g, off + i * 8 + 5, none⟩ (.int .i64 (k + p + 1 + 1 + 1 + 1 + 1))).heap[g]? = some (.cells ((((((c.setIfInBounds (off + i * 8) (.string (mkO (k + p)))).setIfInBounds (off + i * 8 + 1) (.int .i64 (k + p + 1))).setIfInBounds (off + i * 8 + 2) (.string (mkO (k + p + 1 + 1)))).setIfInBounds (off + i * 8 + 3) (.string (mkO (k + p + 1 + 1 + 1)))).setIfInBounds (off + i * 8 + 4) (.int .i64 (k + p + 1 + 1 + 1 + 1))).setIfInBounds (off + i * 8 + 5) (.int .i64 (k + p + 1 + 1 + 1 + 1 + 1))) t (0, 0))) := set_row (rs4.out) (off + i * 8 + 5) _
        have bs5 : Hid (But (fun b => b = g ∨ Ss i b) wr (((u2.setCell ⟨g, off + i * 8 + 3, none⟩ (.string (mkO (k + p + 1 + 1 + 1)))).setCell ⟨g, off + i * 8 + 4, none⟩ (.int .i64 (k + p + 1 + 1 + 1 + 1))).setCell ⟨g, off + i * 8 + 5, none⟩ (.int .i64 (k + p + 1 + 1 + 1 + 1 + 1)))) := bs4.out.set (Or.inl rfl) (off + i * 8 + 5) _
        go_wp2_with fail
        refine (mkTx_any _ _ (by omega) (by omega)).mono ?_
        rintro e u3 ⟨rfl, hb3⟩
        have r3 : Hid (u3.heap[g]? = some (.cells ((((((c.setIfInBounds (off + i * 8) (.string (mkO (k + p)))).setIfInBounds (off + i * 8 + 1) (.int .i64 (k + p + 1))).setIfInBounds (off + i * 8 + 2) (.string (mkO (k + p + 1 + 1)))).setIfInBounds (off + i * 8 + 3) (.string (mkO (k + p + 1 + 1 + 1)))).setIfInBounds (off + i * 8 + 4) (.int .i64 (k + p + 1 + 1 + 1 + 1))).setIfInBounds (off + i * 8 + 5) (.int .i64 (k + p + 1 + 1 + 1 + 1 + 1))) t (0, 0))) := (hb3.block g (Nat.lt_of_lt_of_le hgl bs5.out.size)).trans (rs5.out)
        have bt3 : Hid (But (fun b => b = g ∨ Ss i b) wr u3) := bs5.out.trans (But.of_below hb3)
        obtain ⟨cl6, fr6⟩ := cell_row (r3.out) (off + i * 8 + 6) (.string a.2.2.2.2.2.2.1) (by simp only [Array.getElem?_setIfInBounds]; rw [if_neg (show ¬ (off + i * 8 + 5 = off + i * 8 + 6) by omega), if_neg (show ¬ (off + i * 8 + 4 = off + i * 8 + 6) by omega), if_neg (show ¬ (off + i * 8 + 3 = off + i * 8 + 6) by omega), if_neg (show ¬ (off + i * 8 + 2 = off + i * 8 + 6) by omega), if_neg (show ¬ (off + i * 8 + 1 = off + i * 8 + 6) by omega), if_neg (show ¬ (off + i * 8 = off + i * 8 + 6) by omega)]; exact e6)
        have rs6 : Hid ((u3.setCell ⟨g, off + i * 8 + 6, none⟩ (.string (mkO (k + p + 1 + 1 + 1 + 1 + 1 + 1)))).heap[g]? = some (.cells (((((((c.setIfInBounds (off + i * 8) (.string (mkO (k + p)))).setIfInBounds (off + i * 8 + 1) (.int .i64 (k + p + 1))).setIfInBounds (off + i * 8 + 2) (.string (mkO (k + p + 1 + 1)))).setIfInBounds (off + i * 8 + 3) (.string (mkO (k + p + 1 + 1 + 1)))).setIfInBounds (off + i * 8 + 4) (.int .i64 (k + p + 1 + 1 + 1 + 1))).setIfInBounds (off + i * 8 + 5) (.int .i64 (k + p + 1 + 1 + 1 + 1 + 1))).setIfInBounds (off + i * 8 + 6) (.string (mkO (k + p + 1 + 1 + 1 + 1 + 1 + 1)))) t (0, 0))) := set_row (r3.out) (off + i * 8 + 6) _
        have bs6 : Hid (But (fun b => b = g ∨ Ss i b) wr (u3.setCell ⟨g, off + i * 8 + 6, none⟩ (.string (mkO (k + p + 1 + 1 + 1 + 1 + 1 + 1))))) := bt3.out.set (Or.inl rfl) (off + i * 8 + 6) _
        go_wp2_with fail
        refine (mkTx_any _ _ (by omega) (by omega)).mono ?_
        rintro e u4 ⟨rfl, hb4⟩
        have r4 : Hid (u4.heap[g]? = some (.cells (((((((c.setIfInBounds (off + i * 8) (.string (mkO (k + p)))).setIfInBounds (off + i * 8 + 1) (.int .i64 (k + p + 1))).setIfInBounds (off + i * 8 + 2) (.string (mkO (k + p + 1 + 1)))).setIfInBounds (off + i * 8 + 3) (.string (mkO (k + p + 1 + 1 + 1)))).setIfInBounds (off + i * 8 + 4) (.int .i64 (k + p + 1 + 1 + 1 + 1))).setIfInBounds (off + i * 8 + 5) (.int .i64 (k + p + 1 + 1 + 1 + 1 + 1))).setIfInBounds (off + i * 8 + 6) (.string (mkO (k + p + 1 + 1 + 1 + 1 + 1 + 1)))) t (0, 0))) := (hb4.block g (Nat.lt_of_lt_of_le hgl bs6.out.size)).trans (rs6.out)
        have bt4 : Hid (But (fun b => b = g ∨ Ss i b) wr u4) := bs6.out.trans (But.of_below hb4)
        obtain ⟨cl7, fr7⟩ := cell_row (r4.out) (off + i * 8 + 7) (.string a.2.2.2.2.2.2.2) (by simp only [Array.getElem?_setIfInBounds]; rw [if_neg (show ¬ (off + i * 8 + 6 = off + i * 8 + 7) by omega), if_neg (show ¬ (off + i * 8 + 5 = off + i * 8 + 7) by omega), if_neg (show ¬ (off + i * 8 + 4 = off + i * 8 + 7) by omega), if_neg (show ¬ (off + i * 8 + 3 = off + i * 8 + 7) by omega), if_neg (show ¬ (off + i * 8 + 2 = off + i * 8 + 7) by omega), if_neg (show ¬ (off + i * 8 + 1 = off + i * 8 + 7) by omega), if_neg (show ¬ (off + i * 8 = off + i * 8 + 7) by omega)]; exact e7)
        have rs7 : Hid ((u4.setCell ⟨g, off + i * 8 + 7, none⟩ (.string (mkO (k + p + 1 + 1 + 1 + 1 + 1 + 1 + 1)))).heap[g]? = some (.cells ((((((((c.setIfInBounds (off + i * 8) (.string (mkO (k + p)))).setIfInBounds (off + i * 8 + 1) (.int .i64 (k + p + 1))).setIfInBounds (off + i * 8 + 2) (.string (mkO (k + p + 1 + 1)))).setIfInBounds (off + i * 8 + 3) (.string (mkO (k + p + 1 + 1 + 1)))).setIfInBounds (off + i * 8 + 4) (.int .i64 (k + p + 1 + 1 + 1 + 1))).setIfInBounds (off + i * 8 + 5) (.int .i64 (k + p + 1 + 1 + 1 + 1 + 1))).setIfInBounds (off + i * 8 + 6) (.string (mkO (k + p + 1 + 1 + 1 + 1 + 1 + 1)))).setIfInBounds (off + i * 8 + 7) (.string (mkO (k + p + 1 + 1 + 1 + 1 + 1 + 1 + 1)))) t (0, 0))) := set_row (r4.out) (off + i * 8 + 7) _
        have bs7 : Hid (But (fun b => b = g ∨ Ss i b) wr (u4.setCell ⟨g, off + i * 8 + 7, none⟩ (.string (mkO (k + p + 1 + 1 + 1 + 1 + 1 + 1 + 1))))) := bt4.out.set (Or.inl rfl) (off + i * 8 + 7) _
        have EF : Hid (Els S (u4.setCell ⟨g, off + i * 8 + 7, none⟩ (.string (mkO (k + p + 1 + 1 + 1 + 1 + 1 + 1 + 1)))) g off Ss ((((((((c.setIfInBounds (off + i * 8) (.string (mkO (k + p)))).setIfInBounds (off + i * 8 + 1) (.int .i64 (k + p + 1))).setIfInBounds (off + i * 8 + 2) (.string (mkO (k + p + 1 + 1)))).setIfInBounds (off + i * 8 + 3) (.string (mkO (k + p + 1 + 1 + 1)))).setIfInBounds (off + i * 8 + 4) (.int .i64 (k + p + 1 + 1 + 1 + 1))).setIfInBounds (off + i * 8 + 5) (.int .i64 (k + p + 1 + 1 + 1 + 1 + 1))).setIfInBounds (off + i * 8 + 6) (.string (mkO (k + p + 1 + 1 + 1 + 1 + 1 + 1)))).setIfInBounds (off + i * 8 + 7) (.string (mkO (k + p + 1 + 1 + 1 + 1 + 1 + 1 + 1)))) t n (markedTo k l f (i + 1))) := by
          refine hE.out.step i (rs7.out) ?_ ⟨cs [.string (mkO (k + p)), .int .i64 (k + p + 1), .string (mkO (k + p + 1 + 1)), .string (mkO (k + p + 1 + 1 + 1)), .int .i64 (k + p + 1 + 1 + 1 + 1), .int .i64 (k + p + 1 + 1 + 1 + 1 + 1), .string (mkO (k + p + 1 + 1 + 1 + 1 + 1 + 1)), .string (mkO (k + p + 1 + 1 + 1 + 1 + 1 + 1 + 1))], ?_, ?_⟩ (fun q hq => mt_ne k l f i q hq) bs7.out HWS.out
          · intro q j hq hj
            rw [width_DRecPhase] at hj ⊢
            simp only [Array.getElem?_setIfInBounds]
            repeat rw [if_neg (by omega)]
          · intro j hj
            rw [width_DRecPhase] at hj ⊢
            rcases (show j = 0 ∨ j = 1 ∨ j = 2 ∨ j = 3 ∨ j = 4 ∨ j = 5 ∨ j = 6 ∨ j = 7 by omega) with rfl | rfl | rfl | rfl | rfl | rfl | rfl | rfl
            · show (((((((((c.setIfInBounds (off + i * 8) (.string (mkO (k + p)))).setIfInBounds (off + i * 8 + 1) (.int .i64 (k + p + 1))).setIfInBounds (off + i * 8 + 2) (.string (mkO (k + p + 1 + 1)))).setIfInBounds (off + i * 8 + 3) (.string (mkO (k + p + 1 + 1 + 1)))).setIfInBounds (off + i * 8 + 4) (.int .i64 (k + p + 1 + 1 + 1 + 1))).setIfInBounds (off + i * 8 + 5) (.int .i64 (k + p + 1 + 1 + 1 + 1 + 1))).setIfInBounds (off + i * 8 + 6) (.string (mkO (k + p + 1 + 1 + 1 + 1 + 1 + 1)))).setIfInBounds (off + i * 8 + 7) (.string (mkO (k + p + 1 + 1 + 1 + 1 + 1 + 1 + 1)))))[off + i * 8]? = some (.string (mkO (k + p)))
              simp only [Array.getElem?_setIfInBounds, Array.size_setIfInBounds]
              repeat (first | rw [if_pos True.intro] | rw [if_pos (by omega)] | rw [if_neg (by omega)])
            · show (((((((((c.setIfInBounds (off + i * 8) (.string (mkO (k + p)))).setIfInBounds (off + i * 8 + 1) (.int .i64 (k + p + 1))).setIfInBounds (off + i * 8 + 2) (.string (mkO (k + p + 1 + 1)))).setIfInBounds (off + i * 8 + 3) (.string (mkO (k + p + 1 + 1 + 1)))).setIfInBounds (off + i * 8 + 4) (.int .i64 (k + p + 1 + 1 + 1 + 1))).setIfInBounds (off + i * 8 + 5) (.int .i64 (k + p + 1 + 1 + 1 + 1 + 1))).setIfInBounds (off + i * 8 + 6) (.string (mkO (k + p + 1 + 1 + 1 + 1 + 1 + 1)))).setIfInBounds (off + i * 8 + 7) (.string (mkO (k + p + 1 + 1 + 1 + 1 + 1 + 1 + 1)))))[off + i * 8 + 1]? = some (.int .i64 (k + p + 1))
              simp only [Array.getElem?_setIfInBounds, Array.size_setIfInBounds]
              repeat (first | rw [if_pos True.intro] | rw [if_pos (by omega)] | rw [if_neg (by omega)])
            · show (((((((((c.setIfInBounds (off + i * 8) (.string (mkO (k + p)))).setIfInBounds (off + i * 8 + 1) (.int .i64 (k + p + 1))).setIfInBounds (off + i * 8 + 2) (.string (mkO (k + p + 1 + 1)))).setIfInBounds (off + i * 8 + 3) (.string (mkO (k + p + 1 + 1 + 1)))).setIfInBounds (off + i * 8 + 4) (.int .i64 (k + p + 1 + 1 + 1 + 1))).setIfInBounds (off + i * 8 + 5) (.int .i64 (k + p + 1 + 1 + 1 + 1 + 1))).setIfInBounds (off + i * 8 + 6) (.string (mkO (k + p + 1 + 1 + 1 + 1 + 1 + 1)))).setIfInBounds (off + i * 8 + 7) (.string (mkO (k + p + 1 + 1 + 1 + 1 + 1 + 1 + 1)))))[off + i * 8 + 2]? = some (.string (mkO (k + p + 1 + 1)))
              simp only [Array.getElem?_setIfInBounds, Array.size_setIfInBounds]
              repeat (first | rw [if_pos True.intro] | rw [if_pos (by omega)] | rw [if_neg (by omega)])
            · show (((((((((c.setIfInBounds (off + i * 8) (.string (mkO (k + p)))).setIfInBounds (off + i * 8 + 1) (.int .i64 (k + p + 1))).setIfInBounds (off + i * 8 + 2) (.string (mkO (k + p + 1 + 1)))).setIfInBounds (off + i * 8 + 3) (.string (mkO (k + p + 1 + 1 + 1)))).setIfInBounds (off + i * 8 + 4) (.int .i64 (k + p + 1 + 1 + 1 + 1))).setIfInBounds (off + i * 8 + 5) (.int .i64 (k + p + 1 + 1 + 1 + 1 + 1))).setIfInBounds (off + i * 8 + 6) (.string (mkO (k + p + 1 + 1 + 1 + 1 + 1 + 1)))).setIfInBounds (off + i * 8 + 7) (.string (mkO (k + p + 1 + 1 + 1 + 1 + 1 + 1 + 1)))))[off + i * 8 + 3]? = some (.string (mkO (k + p + 1 + 1 + 1)))
              simp only [Array.getElem?_setIfInBounds, Array.size_setIfInBounds]
              repeat (first | rw [if_pos True.intro] | rw [if_pos (by omega)] | rw [if_neg (by omega)])
            · show (((((((((c.setIfInBounds (off + i * 8) (.string (mkO (k + p)))).setIfInBounds (off + i * 8 + 1) (.int .i64 (k + p + 1))).setIfInBounds (off + i * 8 + 2) (.string (mkO (k + p + 1 + 1)))).setIfInBounds (off + i * 8 + 3) (.string (mkO (k + p + 1 + 1 + 1)))).setIfInBounds (off + i * 8 + 4) (.int .i64 (k + p + 1 + 1 + 1 + 1))).setIfInBounds (off + i * 8 + 5) (.int .i64 (k + p + 1 + 1 + 1 + 1 + 1))).setIfInBounds (off + i * 8 + 6) (.string (mkO (k + p + 1 + 1 + 1 + 1 + 1 + 1)))).setIfInBounds (off + i * 8 + 7) (.string (mkO (k + p + 1 + 1 + 1 + 1 + 1 + 1 + 1)))))[off + i * 8 + 4]? = some (.int .i64 (k + p + 1 + 1 + 1 + 1))
              simp only [Array.getElem?_setIfInBounds, Array.size_setIfInBounds]
              repeat (first | rw [if_pos True.intro] | rw [if_pos (by omega)] | rw [if_neg (by omega)])
            · show (((((((((c.setIfInBounds (off + i * 8) (.string (mkO (k + p)))).setIfInBounds (off + i * 8 + 1) (.int .i64 (k + p + 1))).setIfInBounds (off + i * 8 + 2) (.string (mkO (k + p + 1 + 1)))).setIfInBounds (off + i * 8 + 3) (.string (mkO (k + p + 1 + 1 + 1)))).setIfInBounds (off + i * 8 + 4) (.int .i64 (k + p + 1 + 1 + 1 + 1))).setIfInBounds (off + i * 8 + 5) (.int .i64 (k + p + 1 + 1 + 1 + 1 + 1))).setIfInBounds (off + i * 8 + 6) (.string (mkO (k + p + 1 + 1 + 1 + 1 + 1 + 1)))).setIfInBounds (off + i * 8 + 7) (.string (mkO (k + p + 1 + 1 + 1 + 1 + 1 + 1 + 1)))))[off + i * 8 + 5]? = some (.int .i64 (k + p + 1 + 1 + 1 + 1 + 1))
              simp only [Array.getElem?_setIfInBounds, Array.size_setIfInBounds]
              repeat (first | rw [if_pos True.intro] | rw [if_pos (by omega)] | rw [if_neg (by omega)])
            · show (((((((((c.setIfInBounds (off + i * 8) (.string (mkO (k + p)))).setIfInBounds (off + i * 8 + 1) (.int .i64 (k + p + 1))).setIfInBounds (off + i * 8 + 2) (.string (mkO (k + p + 1 + 1)))).setIfInBounds (off + i * 8 + 3) (.string (mkO (k + p + 1 + 1 + 1)))).setIfInBounds (off + i * 8 + 4) (.int .i64 (k + p + 1 + 1 + 1 + 1))).setIfInBounds (off + i * 8 + 5) (.int .i64 (k + p + 1 + 1 + 1 + 1 + 1))).setIfInBounds (off + i * 8 + 6) (.string (mkO (k + p + 1 + 1 + 1 + 1 + 1 + 1)))).setIfInBounds (off + i * 8 + 7) (.string (mkO (k + p + 1 + 1 + 1 + 1 + 1 + 1 + 1)))))[off + i * 8 + 6]? = some (.string (mkO (k + p + 1 + 1 + 1 + 1 + 1 + 1)))
              simp only [Array.getElem?_setIfInBounds, Array.size_setIfInBounds]
              repeat (first | rw [if_pos True.intro] | rw [if_pos (by omega)] | rw [if_neg (by omega)])
            · show (((((((((c.setIfInBounds (off + i * 8) (.string (mkO (k + p)))).setIfInBounds (off + i * 8 + 1) (.int .i64 (k + p + 1))).setIfInBounds (off + i * 8 + 2) (.string (mkO (k + p + 1 + 1)))).setIfInBounds (off + i * 8 + 3) (.string (mkO (k + p + 1 + 1 + 1)))).setIfInBounds (off + i * 8 + 4) (.int .i64 (k + p + 1 + 1 + 1 + 1))).setIfInBounds (off + i * 8 + 5) (.int .i64 (k + p + 1 + 1 + 1 + 1 + 1))).setIfInBounds (off + i * 8 + 6) (.string (mkO (k + p + 1 + 1 + 1 + 1 + 1 + 1)))).setIfInBounds (off + i * 8 + 7) (.string (mkO (k + p + 1 + 1 + 1 + 1 + 1 + 1 + 1)))))[off + i * 8 + 7]? = some (.string (mkO (k + p + 1 + 1 + 1 + 1 + 1 + 1 + 1)))
              simp only [Array.getElem?_setIfInBounds, Array.size_setIfInBounds]
              repeat (first | rw [if_pos True.intro] | rw [if_pos (by omega)] | rw [if_neg (by omega)])
          · rw [mt_succ, EP.out, EA.out]
            rw [mkD_DRecPhase]
            exact on_DRecPhase.2 ⟨A0, B0, p0, q0, ⟨rfl, Nat.le_trans (mkO_size _) (by decide)⟩, A1, B1, p1, q1, ⟨rfl, by show (-9223372036854775808 : Int) ≤ k + p + 1; omega, by show k + p + 1 ≤ (9223372036854775807 : Int); omega⟩, A2, B2, p2, q2, ⟨rfl, Nat.le_trans (mkO_size _) (by decide)⟩, A3, B3, p3, q3, ⟨rfl, Nat.le_trans (mkO_size _) (by decide)⟩, A4, B4, p4, q4, ⟨rfl, by show (-9223372036854775808 : Int) ≤ k + p + 1 + 1 + 1 + 1; omega, by show k + p + 1 + 1 + 1 + 1 ≤ (9223372036854775807 : Int); omega⟩, A5, B5, p5, q5, ⟨rfl, by show (-9223372036854775808 : Int) ≤ k + p + 1 + 1 + 1 + 1 + 1; omega, by show k + p + 1 + 1 + 1 + 1 + 1 ≤ (9223372036854775807 : Int); omega⟩, A6, B6, p6, q6, ⟨rfl, Nat.le_trans (mkO_size _) (by decide)⟩, ⟨rfl, Nat.le_trans (mkO_size _) (by decide)⟩⟩
        have BF : Hid (But S w (u4.setCell ⟨g, off + i * 8 + 7, none⟩ (.string (mkO (k + p + 1 + 1 + 1 + 1 + 1 + 1 + 1))))) := hB.out.trans (bs7.out.up (fun b hb => by
          rcases hb with hb | hb
          · rw [hb]; exact hE.out.own
          · exact (SUB.out b hb).1))
        go_wp2_with fail
        go_roundw
        case rel => exact ⟨i + 1, _, by omega, by go_num, by rw [HCS.out]; congr 1; omega, EF.out, BF.out⟩
        case measure => simp [intOf]; omega
      · have hin : i = n := by omega
        subst hin
        have hck : cntTo l i = m := by rw [← EM.out, ← HCL.out, EN.out]
        rw [hck]
        clear hck
        go_wp2_with fail
        go_ret
        refine ⟨rfl, ?_, hB.out⟩
        have h := hE.out
        rw [← EN.out] at h ⊢
        exact OnL.of_marked h HF.out HN.out
set_option maxRecDepth 100000 in
set_option maxHeartbeats 4000000 in
theorem markStringS_any (S : Nat → Prop) (l : List ByteArray) (v : Value) (k : Int) (w : World) (h : OnL S w l v) (hS : ∀ b, S b → b < w.heap.size) (h1 : 1 ≤ k) (h2 : k + cntL l ≤ 20000000) :
    Calls Tryz.prog 11 #[v, .int .i64 k] w fun e w' => e = .returned (.int .i64 (k + cntL l)) ∧ OnL S w' (mkL k l) v ∧ But S w w' := by
  obtain ⟨oa, cap, rfl, hn, h⟩ := h
  rcases h with h | ⟨g, off, Ss, cur, t, rfl, f, hf, h⟩
  · subst h
    go_enter Tryz.func11, Tryz.ntmps11
    go_wp2
    go_loop [1, 5] (fun s i => i = .int .i64 0 ∧ s = .int .i64 k) (fun _ _ => 0)
    case atStart => exact ⟨rfl, rfl⟩
    case round =>
      obtain ⟨rfl, rfl⟩ := hrel
      go_wp2
      go_ret
      exact ⟨by simp [cntL, cntTo], ⟨_, cap, rfl, hn, .inl rfl⟩, But.refl _ _⟩
  · have HE : Hid (Els S w g off Ss cur t l.length (markedTo k l f 0)) := by
      show Els _ _ _ _ _ _ _ _ _
      rw [mt_zero]; exact h
    have HF : Hid (∀ i (h : i < l.length), f i = l[i]) := hf
    have HN : Hid (Fits (some ⟨g, off, none⟩) l.length cap) := hn
    replace hn : l.length ≤ maxLen := hn.1
    have HS : Hid (∀ b, S b → b < w.heap.size) := hS
    have HCL : Hid (cntTo l l.length = cntL l) := rfl
    unfold maxLen at hn
    clear h hf hS
    have HCM : Hid (∀ i, i < l.length → cntTo l (i + 1) ≤ cntL l) := cntTo_le l
    obtain ⟨n, en⟩ : ∃ n, l.length = n := ⟨_, rfl⟩
    obtain ⟨m, em⟩ : ∃ m, cntL l = m := ⟨_, rfl⟩
    rw [en] at hn HE
    rw [em] at h2
    rw [en, em]
    have EN : Hid (l.length = n) := en
    have EM : Hid (cntL l = m) := em
    clear en em
    go_enter Tryz.func11, Tryz.ntmps11
    go_wp2
    go_loopw [1, 5] (fun q i wr => ∃ (i' : Nat) (c : Array Value), i' ≤ n ∧ i = .int .i64 i' ∧ q = .int .i64 (k + cntTo l i') ∧ Hid (Els S wr g off Ss c t n (markedTo k l f i')) ∧ Hid (But S w wr)) (fun _ i _ => n - (intOf i).toNat)
    case atStart => exact ⟨0, cur, Nat.zero_le _, rfl, by rw [cntTo_zero]; simp, HE, But.refl _ _⟩
    case round =>
      clear HE
      obtain ⟨i, c, hi, rfl, rfl, hE, hB⟩ := hrel
      by_cases hlt : i < n
      · obtain ⟨cc, hcell, hon⟩ := hE.out.el i hlt
        rw [mt_at] at hon
        have hrow : Hid (wr.heap[g]? = some (.cells c t (0, 0))) := hE.out.row
        have hgl : g < wr.heap.size := (Array.getElem?_eq_some_iff.1 hrow.out).1
        have HWS : Hid (∀ b, S b → b < wr.heap.size) := fun b hb => Nat.lt_of_lt_of_le (HS.out b hb) hB.out.size
        have SUB : Hid (∀ b, Ss i b → S b ∧ b ≠ g) := hE.out.sub i
        have hcs := cntTo_succ l i (by have := EN.out; omega)
        have hle := HCM.out i (by have := EN.out; omega)
        rw [← HF.out i (by have := EN.out; omega)] at hcs
        obtain ⟨a, ea⟩ : ∃ a, f i = a := ⟨_, rfl⟩
        rw [ea] at hcs hon
        rw [show Own.cnt a = 1 from rfl] at hcs
        rw [hcs, EM.out] at hle
        have HCS : Hid _ := hcs
        clear hcs
        obtain ⟨p, ep⟩ : ∃ p, cntTo l i = p := ⟨_, rfl⟩
        rw [ep] at hle HCS
        rw [ep]
        have EP : Hid (cntTo l i = p) := ep
        have EA : Hid (f i = a) := ea
        clear ep ea
        rw [width_str] at hcell
        have e0 : c[off + i]? = some (cc 0) := by simpa using hcell 0 (by omega)
        clear hcell
        have hsz : off + i < c.size := (Array.getElem?_eq_some_iff.1 e0).1
        obtain ⟨ge0, _⟩ := at_str.1 hon
        clear hon
        rw [ge0] at e0
        clear ge0
        have bt : Hid (But (fun b => b = g ∨ Ss i b) wr wr) := But.refl _ _
        go_wp2_with fail
        refine (mkTx_any _ _ (by omega) (by omega)).mono ?_
        rintro e u0 ⟨rfl, hb0⟩
        have r0 : Hid (u0.heap[g]? = some (.cells c t (0, 0))) := (hb0.block g (Nat.lt_of_lt_of_le hgl bt.out.size)).trans (hrow.out)
        have bt0 : Hid (But (fun b => b = g ∨ Ss i b) wr u0) := bt.out.trans (But.of_below hb0)
        obtain ⟨cl0, fr0⟩ := cell_row (r0.out) (off + i) (.string a) e0
        have rs0 : Hid ((u0.setCell ⟨g, off + i, none⟩ (.string (mkO (k + p)))).heap[g]? = some (.cells (c.setIfInBounds (off + i) (.string (mkO (k + p)))) t (0, 0))) := set_row (r0.out) (off + i) _
        have bs0 : Hid (But (fun b => b = g ∨ Ss i b) wr (u0.setCell ⟨g, off + i, none⟩ (.string (mkO (k + p))))) := bt0.out.set (Or.inl rfl) (off + i) _
        have EF : Hid (Els S (u0.setCell ⟨g, off + i, none⟩ (.string (mkO (k + p)))) g off Ss (c.setIfInBounds (off + i) (.string (mkO (k + p)))) t n (markedTo k l f (i + 1))) := by
          refine hE.out.step i (rs0.out) ?_ ⟨cs [.string (mkO (k + p))], ?_, ?_⟩ (fun q hq => mt_ne k l f i q hq) bs0.out HWS.out
          · intro q j hq hj
            rw [width_str] at hj ⊢
            simp only [Array.getElem?_setIfInBounds]
            repeat rw [if_neg (by omega)]
          · intro j hj
            rw [width_str] at hj ⊢
            rcases (show j = 0 by omega) with rfl
            · show ((c.setIfInBounds (off + i) (.string (mkO (k + p)))))[off + i * 1 + 0]? = some (.string (mkO (k + p)))
              simp only [Array.getElem?_setIfInBounds]
              repeat (first | rw [if_pos True.intro] | rw [if_pos (by omega)] | rw [if_neg (by omega)])
          · rw [mt_succ, EP.out, EA.out]
            exact at_str.2 ⟨rfl, Nat.le_trans (mkO_size _) (by decide)⟩
        have BF : Hid (But S w (u0.setCell ⟨g, off + i, none⟩ (.string (mkO (k + p))))) := hB.out.trans (bs0.out.up (fun b hb => by
          rcases hb with hb | hb
          · rw [hb]; exact hE.out.own
          · exact (SUB.out b hb).1))
        go_wp2_with fail
        go_roundw
        case rel => exact ⟨i + 1, _, by omega, by go_num, by rw [HCS.out]; congr 1; omega, EF.out, BF.out⟩
        case measure => simp [intOf]; omega
      · have hin : i = n := by omega
        subst hin
        have hck : cntTo l i = m := by rw [← EM.out, ← HCL.out, EN.out]
        rw [hck]
        clear hck
        go_wp2_with fail
        go_ret
        refine ⟨rfl, ?_, hB.out⟩
        have h := hE.out
        rw [← EN.out] at h ⊢
        exact OnL.of_marked h HF.out HN.out
end Go.Proofs.YtigkkelaadbhcabGreat
