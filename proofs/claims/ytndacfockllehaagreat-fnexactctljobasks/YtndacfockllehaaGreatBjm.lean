/-
  Contracts of the laws' own marking of data that own their blocks.
-/
import Derived.Test.YtndacfockllehaaGreatM16
import Derived.Test.YtndacfockllehaaGreatM15
import Derived.Test.YtndacfockllehaaGreatM11
namespace Go.Proofs.YtndacfockllehaaGreat
open Go.RowKit

set_option maxRecDepth 100000 in
set_option maxHeartbeats 400000 in
theorem mkTx_any (k : Int) (w : World) (h1 : 1 ≤ k) (h2 : k ≤ 100000000) :
    Calls Tryz.prog 42 #[.int .i64 k] w fun e w' => e = .returned (.string (mkO k)) ∧ Below w.heap.size w w' := by
  have hd : decide (k ≤ 0) = false := by simp; omega
  have hcv := conv_one
  go_enter Tryz.func42, Tryz.ntmps42
  go_wp2
  go_loopw [0, 3] (fun i t wr => ∃ (j : Int) (u : ByteArray) (n : Nat), 0 ≤ j ∧ j ≤ 100000000 ∧ Hid (j < 10 ^ n) ∧ i = .int .i64 j ∧ t = .string u ∧ Hid (dgO n j u = dgO 20 k ⟨#[]⟩) ∧ u.size + n ≤ 20 ∧ Below w.heap.size w wr) (fun i _ _ => (intOf i).toNat)
  case atStart => exact ⟨k, _, 20, by omega, by omega, by show k < _; omega, rfl, rfl, rfl, by decide, Below.refl _ _⟩
  case round =>
    obtain ⟨j, u, n, hj1, hj2, hn, rfl, rfl, he, hu, hbel⟩ := hrel
    by_cases hp : 0 < j
    · go_wp2
      go_roundw
      case rel =>
        cases n with
        | zero => exact absurd hn.out (by simp; omega)
        | succ n =>
          refine ⟨j / 10, _, n, by omega, by omega, ?_, rfl, rfl, ?_, ?_, hbel.alloc hbel.size _⟩
          · have h := hn.out
            rw [Int.pow_succ] at h
            show j / 10 < 10 ^ n
            omega
          · show dgO n (j / 10) _ = _
            rw [← he.out, dgO, if_pos (by omega)]
          · have e1 : (⟨#[UInt8.ofNat (48 + j % 10).toNat]⟩ : ByteArray).size = 1 := rfl
            rw [ByteArray.size_append, e1]; omega
      case measure => simp [intOf]; omega
    · go_wp2
      go_ret
      refine ⟨?_, hbel⟩
      rw [mkO, ← he.out, dgO_end _ _ _ (by omega)]
      rfl

section
variable {α : Type} [Own α]
theorem Els.step {S : Nat → Prop} {w U : World} {g off : Nat} {Ss : Nat → Nat → Prop} {cur cur' : Array Value} {t : TypeId} {n : Nat} {f f' : Nat → α} (h : Els S w g off Ss cur t n f) (i : Nat)
    (hrow : U.heap[g]? = some (.cells cur' t (0, 0))) (hoth : ∀ q j, q ≠ i → j < Lay.width α → cur'[off + q * Lay.width α + j]? = cur[off + q * Lay.width α + j]?)
    (hel : ∃ c : Nat → Value, (∀ j, j < Lay.width α → cur'[off + i * Lay.width α + j]? = some (c j)) ∧ Own.On (Ss i) U (f' i) c) (hF : ∀ q, q ≠ i → f' q = f q)
    (hbut : But (fun b => b = g ∨ Ss i b) w U) (hS : ∀ b, S b → b < w.heap.size) : Els S U g off Ss cur' t n f' :=
  ⟨hrow, h.own, h.sub, h.dis, fun q hq => by
    by_cases e : q = i
    · subst e; exact hel
    · obtain ⟨c, h1, h2⟩ := h.el q hq
      refine ⟨c, fun j hj => (hoth q j e hj).trans (h1 j hj), ?_⟩
      rw [hF q e]
      refine Own.on_same h2 (hbut.same (fun b hb => ⟨hS b (h.sub q b hb).1, ?_⟩))
      rintro (e' | e')
      · exact (h.sub q b hb).2 e'
      · exact e (h.dis q i b hb e')⟩
/-- The data of a list, the first i of them marked. -/
def markedTo (k : Int) (l : List α) (f : Nat → α) (i j : Nat) : α := if j < i then Own.mkD (k + cntTo l j) (f j) else f j
theorem mt_zero (k : Int) (l : List α) (f : Nat → α) : markedTo k l f 0 = f := by funext j; simp [markedTo]
theorem mt_at (k : Int) (l : List α) (f : Nat → α) (i : Nat) : markedTo k l f i i = f i := by simp [markedTo]
theorem mt_succ (k : Int) (l : List α) (f : Nat → α) (i : Nat) : markedTo k l f (i + 1) i = Own.mkD (k + cntTo l i) (f i) := by simp [markedTo]
theorem mt_ne (k : Int) (l : List α) (f : Nat → α) (i q : Nat) (h : q ≠ i) : markedTo k l f (i + 1) q = markedTo k l f i q := by
  unfold markedTo
  by_cases e : q < i
  · rw [if_pos e, if_pos (by omega)]
  · rw [if_neg e, if_neg (by omega)]
theorem OnL.of_marked {S : Nat → Prop} {U : World} {g off cap : Nat} {Ss : Nat → Nat → Prop} {cur : Array Value} {t : TypeId} {k : Int} {l : List α} {f : Nat → α} (h : Els S U g off Ss cur t l.length (markedTo k l f l.length)) (hf : ∀ i (h : i < l.length), f i = l[i]) (hn : Fits (some ⟨g, off, none⟩) l.length cap) :
    OnL S U (mkL k l) (.slice (some ⟨g, off, none⟩) l.length cap) :=
  ⟨_, cap, by rw [mkL_len], by rw [mkL_len]; exact hn, .inr ⟨g, off, Ss, cur, t, rfl, markedTo k l f l.length, fun i hi => by
    have hi' : i < l.length := by rw [mkL_len] at hi; exact hi
    rw [mkL_at k l i hi', markedTo, if_pos hi', hf i hi'], by rw [mkL_len]; exact h⟩⟩
theorem cntTo_le (l : List α) (i : Nat) (h : i < l.length) : cntTo l (i + 1) ≤ cntL l := by
  unfold cntL
  have : ∀ d, i + 1 + d ≤ l.length → cntTo l (i + 1) ≤ cntTo l (i + 1 + d) := by
    intro d
    induction d with
    | zero => intro _; exact Nat.le_refl _
    | succ d ih => intro hd; have := ih (by omega); rw [show i + 1 + (d + 1) = (i + 1 + d) + 1 by omega, cntTo_succ l (i + 1 + d) (by omega)]; omega
  have h2 := this (l.length - (i + 1)) (by omega)
  rwa [show i + 1 + (l.length - (i + 1)) = l.length by omega] at h2
end
theorem mkD_DClaimUse (k : Int) (a : DClaimUse) : Own.mkD k a = (mkO (k), k + 1, k + 1 + 1) := rfl
theorem cnt_DClaimUse (a : DClaimUse) : Own.cnt a = 1 + (1 + (1)) := rfl
theorem on_DClaimUse {S : Nat → Prop} {w : World} {a : DClaimUse} {c : Nat → Value} : Own.On S w a c ↔ ∃ A0 B0 : Nat → Prop, (∀ b, A0 b → S b ∧ ¬ B0 b) ∧ (∀ b, B0 b → S b) ∧ (c 0 = .string a.1 ∧ a.1.size ≤ maxLen) ∧ ∃ A1 B1 : Nat → Prop, (∀ b, A1 b → B0 b ∧ ¬ B1 b) ∧ (∀ b, B1 b → B0 b) ∧ (c 1 = .int .i64 a.2.1 ∧ -9223372036854775808 ≤ a.2.1 ∧ a.2.1 ≤ 9223372036854775807) ∧ (c 2 = .int .i64 a.2.2 ∧ -9223372036854775808 ≤ a.2.2 ∧ a.2.2 ≤ 9223372036854775807) := Iff.rfl
theorem mkD_DClaimWant (k : Int) (a : DClaimWant) : Own.mkD k a = (k, k + 1, mkL (k + 1 + 1) a.2.2.1, mkL (k + 1 + 1 + cntL a.2.2.1) a.2.2.2.1, mkL (k + 1 + 1 + cntL a.2.2.1 + cntL a.2.2.2.1) a.2.2.2.2.1, mkL (k + 1 + 1 + cntL a.2.2.1 + cntL a.2.2.2.1 + cntL a.2.2.2.2.1) a.2.2.2.2.2) := rfl
theorem cnt_DClaimWant (a : DClaimWant) : Own.cnt a = 1 + (1 + (cntL a.2.2.1 + (cntL a.2.2.2.1 + (cntL a.2.2.2.2.1 + (cntL a.2.2.2.2.2))))) := rfl
theorem on_DClaimWant {S : Nat → Prop} {w : World} {a : DClaimWant} {c : Nat → Value} : Own.On S w a c ↔ ∃ A0 B0 : Nat → Prop, (∀ b, A0 b → S b ∧ ¬ B0 b) ∧ (∀ b, B0 b → S b) ∧ (c 0 = .int .i64 a.1 ∧ -9223372036854775808 ≤ a.1 ∧ a.1 ≤ 9223372036854775807) ∧ ∃ A1 B1 : Nat → Prop, (∀ b, A1 b → B0 b ∧ ¬ B1 b) ∧ (∀ b, B1 b → B0 b) ∧ (c 1 = .int .i64 a.2.1 ∧ -9223372036854775808 ≤ a.2.1 ∧ a.2.1 ≤ 9223372036854775807) ∧ ∃ A2 B2 : Nat → Prop, (∀ b, A2 b → B1 b ∧ ¬ B2 b) ∧ (∀ b, B2 b → B1 b) ∧ OnL A2 w a.2.2.1 (c 2) ∧ ∃ A3 B3 : Nat → Prop, (∀ b, A3 b → B2 b ∧ ¬ B3 b) ∧ (∀ b, B3 b → B2 b) ∧ OnL A3 w a.2.2.2.1 (c 3) ∧ ∃ A4 B4 : Nat → Prop, (∀ b, A4 b → B3 b ∧ ¬ B4 b) ∧ (∀ b, B4 b → B3 b) ∧ OnL A4 w a.2.2.2.2.1 (c 4) ∧ OnL B4 w a.2.2.2.2.2 (c 5) := Iff.rfl
theorem mkD_DCtlAsk (k : Int) (a : DCtlAsk) : Own.mkD k a = (mkO (k), k + 1, k + 1 + 1, mkL (k + 1 + 1 + 1) a.2.2.2.1, mkL (k + 1 + 1 + 1 + cntL a.2.2.2.1) a.2.2.2.2.1, mkL (k + 1 + 1 + 1 + cntL a.2.2.2.1 + cntL a.2.2.2.2.1) a.2.2.2.2.2.1, mkL (k + 1 + 1 + 1 + cntL a.2.2.2.1 + cntL a.2.2.2.2.1 + cntL a.2.2.2.2.2.1) a.2.2.2.2.2.2) := rfl
theorem cnt_DCtlAsk (a : DCtlAsk) : Own.cnt a = 1 + (1 + (1 + (cntL a.2.2.2.1 + (cntL a.2.2.2.2.1 + (cntL a.2.2.2.2.2.1 + (cntL a.2.2.2.2.2.2)))))) := rfl
theorem on_DCtlAsk {S : Nat → Prop} {w : World} {a : DCtlAsk} {c : Nat → Value} : Own.On S w a c ↔ ∃ A0 B0 : Nat → Prop, (∀ b, A0 b → S b ∧ ¬ B0 b) ∧ (∀ b, B0 b → S b) ∧ (c 0 = .string a.1 ∧ a.1.size ≤ maxLen) ∧ ∃ A1 B1 : Nat → Prop, (∀ b, A1 b → B0 b ∧ ¬ B1 b) ∧ (∀ b, B1 b → B0 b) ∧ (c 1 = .int .i64 a.2.1 ∧ -9223372036854775808 ≤ a.2.1 ∧ a.2.1 ≤ 9223372036854775807) ∧ ∃ A2 B2 : Nat → Prop, (∀ b, A2 b → B1 b ∧ ¬ B2 b) ∧ (∀ b, B2 b → B1 b) ∧ (c 2 = .int .i64 a.2.2.1 ∧ -9223372036854775808 ≤ a.2.2.1 ∧ a.2.2.1 ≤ 9223372036854775807) ∧ ∃ A3 B3 : Nat → Prop, (∀ b, A3 b → B2 b ∧ ¬ B3 b) ∧ (∀ b, B3 b → B2 b) ∧ OnL A3 w a.2.2.2.1 (c 3) ∧ ∃ A4 B4 : Nat → Prop, (∀ b, A4 b → B3 b ∧ ¬ B4 b) ∧ (∀ b, B4 b → B3 b) ∧ OnL A4 w a.2.2.2.2.1 (c 4) ∧ ∃ A5 B5 : Nat → Prop, (∀ b, A5 b → B4 b ∧ ¬ B5 b) ∧ (∀ b, B5 b → B4 b) ∧ OnL A5 w a.2.2.2.2.2.1 (c 5) ∧ OnL B5 w a.2.2.2.2.2.2 (c 6) := Iff.rfl

set_option maxRecDepth 100000 in
set_option maxHeartbeats 4000000 in
theorem markStringS_any (S : Nat → Prop) (l : List ByteArray) (v : Value) (k : Int) (w : World) (h : OnL S w l v) (hS : ∀ b, S b → b < w.heap.size) (h1 : 1 ≤ k) (h2 : k + cntL l ≤ 100000000) :
    Calls Tryz.prog 37 #[v, .int .i64 k] w fun e w' => e = .returned (.int .i64 (k + cntL l)) ∧ OnL S w' (mkL k l) v ∧ But S w w' := by
  obtain ⟨oa, cap, rfl, hn, h⟩ := h
  rcases h with h | ⟨g, off, Ss, cur, t, rfl, f, hf, h⟩
  · subst h
    go_enter Tryz.func37, Tryz.ntmps37
    go_wp2
    go_loop [1, 5] (fun s i => i = .int .i64 0 ∧ s = .int .i64 k) (fun _ _ => 0)
    case atStart => exact ⟨rfl, rfl⟩
    case round =>
      obtain ⟨rfl, rfl⟩ := hrel
      go_wp2
      go_ret
      exact ⟨by simp [cntL, cntTo], ⟨_, cap, rfl, hn, .inl rfl⟩, But.refl _ _⟩
  · have HE : Hid (Els S w g off Ss cur t l.length (markedTo k l f 0)) := by
      show Els _ _ _ _ _ _ _ _ _
      rw [mt_zero]; exact h
    have HF : Hid (∀ i (h : i < l.length), f i = l[i]) := hf
    have HN : Hid (Fits (some ⟨g, off, none⟩) l.length cap) := hn
    replace hn : l.length ≤ maxLen := hn.1
    have HS : Hid (∀ b, S b → b < w.heap.size) := hS
    have HCL : Hid (cntTo l l.length = cntL l) := rfl
    unfold maxLen at hn
    clear h hf hS
    have HCM : Hid (∀ i, i < l.length → cntTo l (i + 1) ≤ cntL l) := cntTo_le l
    obtain ⟨n, en⟩ : ∃ n, l.length = n := ⟨_, rfl⟩
    obtain ⟨m, em⟩ : ∃ m, cntL l = m := ⟨_, rfl⟩
    rw [en] at hn HE
    rw [em] at h2
    rw [en, em]
    have EN : Hid (l.length = n) := en
    have EM : Hid (cntL l = m) := em
    clear en em
    go_enter Tryz.func37, Tryz.ntmps37
    go_wp2
    go_loopw [1, 5] (fun q i wr => ∃ (i' : Nat) (c : Array Value), i' ≤ n ∧ i = .int .i64 i' ∧ q = .int .i64 (k + cntTo l i') ∧ Hid (Els S wr g off Ss c t n (markedTo k l f i')) ∧ Hid (But S w wr)) (fun _ i _ => n - (intOf i).toNat)
    case atStart => exact ⟨0, cur, Nat.zero_le _, rfl, by rw [cntTo_zero]; simp, HE, But.refl _ _⟩
    case round =>
      clear HE
      obtain ⟨i, c, hi, rfl, rfl, hE, hB⟩ := hrel
      by_cases hlt : i < n
      · obtain ⟨cc, hcell, hon⟩ := hE.out.el i hlt
        rw [mt_at] at hon
        have hrow : Hid (wr.heap[g]? = some (.cells c t (0, 0))) := hE.out.row
        have hgl : g < wr.heap.size := (Array.getElem?_eq_some_iff.1 hrow.out).1
        have HWS : Hid (∀ b, S b → b < wr.heap.size) := fun b hb => Nat.lt_of_lt_of_le (HS.out b hb) hB.out.size
        have SUB : Hid (∀ b, Ss i b → S b ∧ b ≠ g) := hE.out.sub i
        have hcs := cntTo_succ l i (by have := EN.out; omega)
        have hle := HCM.out i (by have := EN.out; omega)
        rw [← HF.out i (by have := EN.out; omega)] at hcs
        obtain ⟨a, ea⟩ : ∃ a, f i = a := ⟨_, rfl⟩
        rw [ea] at hcs hon
        rw [show Own.cnt a = 1 from rfl] at hcs
        rw [hcs, EM.out] at hle
        have HCS : Hid _ := hcs
        clear hcs
        obtain ⟨p, ep⟩ : ∃ p, cntTo l i = p := ⟨_, rfl⟩
        rw [ep] at hle HCS
        rw [ep]
        have EP : Hid (cntTo l i = p) := ep
        have EA : Hid (f i = a) := ea
        clear ep ea
        rw [width_str] at hcell
        have e0 : c[off + i]? = some (cc 0) := by simpa using hcell 0 (by omega)
        clear hcell
        have hsz : off + i < c.size := (Array.getElem?_eq_some_iff.1 e0).1
        obtain ⟨ge0, _⟩ := at_str.1 hon
        clear hon
        rw [ge0] at e0
        clear ge0
        have bt : Hid (But (fun b => b = g ∨ Ss i b) wr wr) := But.refl _ _
        go_wp2_with fail
        refine (mkTx_any _ _ (by omega) (by omega)).mono ?_
        rintro e u0 ⟨rfl, hb0⟩
        have r0 : Hid (u0.heap[g]? = some (.cells c t (0, 0))) := (hb0.block g (Nat.lt_of_lt_of_le hgl bt.out.size)).trans (hrow.out)
        have bt0 : Hid (But (fun b => b = g ∨ Ss i b) wr u0) := bt.out.trans (But.of_below hb0)
        obtain ⟨cl0, fr0⟩ := cell_row (r0.out) (off + i) (.string a) e0
        have rs0 : Hid ((u0.setCell ⟨g, off + i, none⟩ (.string (mkO (k + p)))).heap[g]? = some (.cells (c.setIfInBounds (off + i) (.string (mkO (k + p)))) t (0, 0))) := set_row (r0.out) (off + i) _
        have bs0 : Hid (But (fun b => b = g ∨ Ss i b) wr (u0.setCell ⟨g, off + i, none⟩ (.string (mkO (k + p))))) := bt0.out.set (Or.inl rfl) (off + i) _
        have EF : Hid (Els S (u0.setCell ⟨g, off + i, none⟩ (.string (mkO (k + p)))) g off Ss (c.setIfInBounds (off + i) (.string (mkO (k + p)))) t n (markedTo k l f (i + 1))) := by
          refine hE.out.step i (rs0.out) ?_ ⟨cs [.string (mkO (k + p))], ?_, ?_⟩ (fun q hq => mt_ne k l f i q hq) bs0.out HWS.out
          · intro q j hq hj
            rw [width_str] at hj ⊢
            simp only [Array.getElem?_setIfInBounds]
            repeat rw [if_neg (by omega)]
          · intro j hj
            rw [width_str] at hj ⊢
            rcases (show j = 0 by omega) with rfl
            · show ((c.setIfInBounds (off + i) (.string (mkO (k + p)))))[off + i * 1 + 0]? = some (.string (mkO (k + p)))
              simp only [Array.getElem?_setIfInBounds]
              repeat (first | rw [if_pos True.intro] | rw [if_pos (by omega)] | rw [if_neg (by omega)])
          · rw [mt_succ, EP.out, EA.out]
            exact at_str.2 ⟨rfl, Nat.le_trans (mkO_size _) (by decide)⟩
        have BF : Hid (But S w (u0.setCell ⟨g, off + i, none⟩ (.string (mkO (k + p))))) := hB.out.trans (bs0.out.up (fun b hb => by
          rcases hb with hb | hb
          · rw [hb]; exact hE.out.own
          · exact (SUB.out b hb).1))
        go_wp2_with fail
        go_roundw
        case rel => exact ⟨i + 1, _, by omega, by go_num, by rw [HCS.out]; congr 1; omega, EF.out, BF.out⟩
        case measure => simp [intOf]; omega
      · have hin : i = n := by omega
        subst hin
        have hck : cntTo l i = m := by rw [← EM.out, ← HCL.out, EN.out]
        rw [hck]
        clear hck
        go_wp2_with fail
        go_ret
        refine ⟨rfl, ?_, hB.out⟩
        have h := hE.out
        rw [← EN.out] at h ⊢
        exact OnL.of_marked h HF.out HN.out

set_option maxRecDepth 100000 in
set_option maxHeartbeats 4000000 in
theorem markClaimUseS_any (S : Nat → Prop) (l : List DClaimUse) (v : Value) (k : Int) (w : World) (h : OnL S w l v) (hS : ∀ b, S b → b < w.heap.size) (h1 : 1 ≤ k) (h2 : k + cntL l ≤ 100000000) :
    Calls Tryz.prog 43 #[v, .int .i64 k] w fun e w' => e = .returned (.int .i64 (k + cntL l)) ∧ OnL S w' (mkL k l) v ∧ But S w w' := by
  obtain ⟨oa, cap, rfl, hn, h⟩ := h
  rcases h with h | ⟨g, off, Ss, cur, t, rfl, f, hf, h⟩
  · subst h
    go_enter Tryz.func43, Tryz.ntmps43
    go_wp2
    go_loop [1, 5] (fun s i => i = .int .i64 0 ∧ s = .int .i64 k) (fun _ _ => 0)
    case atStart => exact ⟨rfl, rfl⟩
    case round =>
      obtain ⟨rfl, rfl⟩ := hrel
      go_wp2
      go_ret
      exact ⟨by simp [cntL, cntTo], ⟨_, cap, rfl, hn, .inl rfl⟩, But.refl _ _⟩
  · have HE : Hid (Els S w g off Ss cur t l.length (markedTo k l f 0)) := by
      show Els _ _ _ _ _ _ _ _ _
      rw [mt_zero]; exact h
    have HF : Hid (∀ i (h : i < l.length), f i = l[i]) := hf
    have HN : Hid (Fits (some ⟨g, off, none⟩) l.length cap) := hn
    replace hn : l.length ≤ maxLen := hn.1
    have HS : Hid (∀ b, S b → b < w.heap.size) := hS
    have HCL : Hid (cntTo l l.length = cntL l) := rfl
    unfold maxLen at hn
    clear h hf hS
    have HCM : Hid (∀ i, i < l.length → cntTo l (i + 1) ≤ cntL l) := cntTo_le l
    obtain ⟨n, en⟩ : ∃ n, l.length = n := ⟨_, rfl⟩
    obtain ⟨m, em⟩ : ∃ m, cntL l = m := ⟨_, rfl⟩
    rw [en] at hn HE
    rw [em] at h2
    rw [en, em]
    have EN : Hid (l.length = n) := en
    have EM : Hid (cntL l = m) := em
    clear en em
    go_enter Tryz.func43, Tryz.ntmps43
    go_wp2
    go_loopw [1, 5] (fun q i wr => ∃ (i' : Nat) (c : Array Value), i' ≤ n ∧ i = .int .i64 i' ∧ q = .int .i64 (k + cntTo l i') ∧ Hid (Els S wr g off Ss c t n (markedTo k l f i')) ∧ Hid (But S w wr)) (fun _ i _ => n - (intOf i).toNat)
    case atStart => exact ⟨0, cur, Nat.zero_le _, rfl, by rw [cntTo_zero]; simp, HE, But.refl _ _⟩
    case round =>
      clear HE
      obtain ⟨i, c, hi, rfl, rfl, hE, hB⟩ := hrel
      by_cases hlt : i < n
      · obtain ⟨cc, hcell, hon⟩ := hE.out.el i hlt
        rw [mt_at] at hon
        have hrow : Hid (wr.heap[g]? = some (.cells c t (0, 0))) := hE.out.row
        have hgl : g < wr.heap.size := (Array.getElem?_eq_some_iff.1 hrow.out).1
        have HWS : Hid (∀ b, S b → b < wr.heap.size) := fun b hb => Nat.lt_of_lt_of_le (HS.out b hb) hB.out.size
        have SUB : Hid (∀ b, Ss i b → S b ∧ b ≠ g) := hE.out.sub i
        have hcs := cntTo_succ l i (by have := EN.out; omega)
        have hle := HCM.out i (by have := EN.out; omega)
        rw [← HF.out i (by have := EN.out; omega)] at hcs
        obtain ⟨a, ea⟩ : ∃ a, f i = a := ⟨_, rfl⟩
        rw [ea] at hcs hon
        rw [cnt_DClaimUse] at hcs
        rw [hcs, EM.out] at hle
        have HCS : Hid _ := hcs
        clear hcs
        obtain ⟨p, ep⟩ : ∃ p, cntTo l i = p := ⟨_, rfl⟩
        rw [ep] at hle HCS
        rw [ep]
        have EP : Hid (cntTo l i = p) := ep
        have EA : Hid (f i = a) := ea
        clear ep ea
        rw [width_DClaimUse] at hcell
        have e0 : c[off + i * 3]? = some (cc 0) := by simpa using hcell 0 (by omega)
        have e1 : c[off + i * 3 + 1]? = some (cc 1) := by simpa using hcell 1 (by omega)
        have e2 : c[off + i * 3 + 2]? = some (cc 2) := by simpa using hcell 2 (by omega)
        clear hcell
        have hsz : off + i * 3 + 2 < c.size := (Array.getElem?_eq_some_iff.1 e2).1
        obtain ⟨A0, B0, p0, q0, ⟨ge0, _⟩, A1, B1, p1, q1, ⟨ge1, _, _⟩, ⟨ge2, _, _⟩⟩ := on_DClaimUse.1 hon
        clear hon
        rw [ge0] at e0
        rw [ge1] at e1
        rw [ge2] at e2
        clear ge0 ge1 ge2
        have bt : Hid (But (fun b => b = g ∨ Ss i b) wr wr) := But.refl _ _
        go_wp2_with fail
        refine (mkTx_any _ _ (by omega) (by omega)).mono ?_
        rintro e u0 ⟨rfl, hb0⟩
        have r0 : Hid (u0.heap[g]? = some (.cells c t (0, 0))) := (hb0.block g (Nat.lt_of_lt_of_le hgl bt.out.size)).trans (hrow.out)
        have bt0 : Hid (But (fun b => b = g ∨ Ss i b) wr u0) := bt.out.trans (But.of_below hb0)
        obtain ⟨cl0, fr0⟩ := cell_row (r0.out) (off + i * 3) (.string a.1) e0
        have rs0 : Hid ((u0.setCell ⟨g, off + i * 3, none⟩ (.string (mkO (k + p)))).heap[g]? = some (.cells (c.setIfInBounds (off + i * 3) (.string (mkO (k + p)))) t (0, 0))) := set_row (r0.out) (off + i * 3) _
        have bs0 : Hid (But (fun b => b = g ∨ Ss i b) wr (u0.setCell ⟨g, off + i * 3, none⟩ (.string (mkO (k + p))))) := bt0.out.set (Or.inl rfl) (off + i * 3) _
        obtain ⟨cl1, fr1⟩ := cell_row (rs0.out) (off + i * 3 + 1) (.int .i64 a.2.1) (by simp only [Array.getElem?_setIfInBounds]; rw [if_neg (show ¬ (off + i * 3 = off + i * 3 + 1) by omega)]; exact e1)
        have rs1 : Hid (((u0.setCell ⟨g, off + i * 3, none⟩ (.string (mkO (k + p)))).setCell ⟨g, off + i * 3 + 1, none⟩ (.int .i64 (k + p + 1))).heap[g]? = some (.cells ((c.setIfInBounds (off + i * 3) (.string (mkO (k + p)))).setIfInBounds (off + i * 3 + 1) (.int .i64 (k + p + 1))) t (0, 0))) := set_row (rs0.out) (off + i * 3 + 1) _
        have bs1 : Hid (But (fun b => b = g ∨ Ss i b) wr ((u0.setCell ⟨g, off + i * 3, none⟩ (.string (mkO (k + p)))).setCell ⟨g, off + i * 3 + 1, none⟩ (.int .i64 (k + p + 1)))) := bs0.out.set (Or.inl rfl) (off + i * 3 + 1) _
        obtain ⟨cl2, fr2⟩ := cell_row (rs1.out) (off + i * 3 + 2) (.int .i64 a.2.2) (by simp only [Array.getElem?_setIfInBounds]; rw [if_neg (show ¬ (off + i * 3 + 1 = off + i * 3 + 2) by omega), if_neg (show ¬ (off + i * 3 = off + i * 3 + 2) by omega)]; exact e2)
        have rs2 : Hid ((((u0.setCell ⟨g, off + i * 3, none⟩ (.string (mkO (k + p)))).setCell ⟨g, off + i * 3 + 1, none⟩ (.int .i64 (k + p + 1))).setCell ⟨g, off + i * 3 + 2, none⟩ (.int .i64 (k + p + 1 + 1))).heap[g]? = some (.cells (((c.setIfInBounds (off + i * 3) (.string (mkO (k + p)))).setIfInBounds (off + i * 3 + 1) (.int .i64 (k + p + 1))).setIfInBounds (off + i * 3 + 2) (.int .i64 (k + p + 1 + 1))) t (0, 0))) := set_row (rs1.out) (off + i * 3 + 2) _
        have bs2 : Hid (But (fun b => b = g ∨ Ss i b) wr (((u0.setCell ⟨g, off + i * 3, none⟩ (.string (mkO (k + p)))).setCell ⟨g, off + i * 3 + 1, none⟩ (.int .i64 (k + p + 1))).setCell ⟨g, off + i * 3 + 2, none⟩ (.int .i64 (k + p + 1 + 1)))) := bs1.out.set (Or.inl rfl) (off + i * 3 + 2) _
        have EF : Hid (Els S (((u0.setCell ⟨g, off + i * 3, none⟩ (.string (mkO (k + p)))).setCell ⟨g, off + i * 3 + 1, none⟩ (.int .i64 (k + p + 1))).setCell ⟨g, off + i * 3 + 2, none⟩ (.int .i64 (k + p + 1 + 1))) g off Ss (((c.setIfInBounds (off + i * 3) (.string (mkO (k + p)))).setIfInBounds (off + i * 3 + 1) (.int .i64 (k + p + 1))).setIfInBounds (off + i * 3 + 2) (.int .i64 (k + p + 1 + 1))) t n (markedTo k l f (i + 1))) := by
          refine hE.out.step i (rs2.out) ?_ ⟨cs [.string (mkO (k + p)), .int .i64 (k + p + 1), .int .i64 (k + p + 1 + 1)], ?_, ?_⟩ (fun q hq => mt_ne k l f i q hq) bs2.out HWS.out
          · intro q j hq hj
            rw [width_DClaimUse] at hj ⊢
            simp only [Array.getElem?_setIfInBounds]
            repeat rw [if_neg (by omega)]
          · intro j hj
            rw [width_DClaimUse] at hj ⊢
            rcases (show j = 0 ∨ j = 1 ∨ j = 2 by omega) with rfl | rfl | rfl
            · show ((((c.setIfInBounds (off + i * 3) (.string (mkO (k + p)))).setIfInBounds (off + i * 3 + 1) (.int .i64 (k + p + 1))).setIfInBounds (off + i * 3 + 2) (.int .i64 (k + p + 1 + 1))))[off + i * 3]? = some (.string (mkO (k + p)))
              simp only [Array.getElem?_setIfInBounds, Array.size_setIfInBounds]
              repeat (first | rw [if_pos True.intro] | rw [if_pos (by omega)] | rw [if_neg (by omega)])
            · show ((((c.setIfInBounds (off + i * 3) (.string (mkO (k + p)))).setIfInBounds (off + i * 3 + 1) (.int .i64 (k + p + 1))).setIfInBounds (off + i * 3 + 2) (.int .i64 (k + p + 1 + 1))))[off + i * 3 + 1]? = some (.int .i64 (k + p + 1))
              simp only [Array.getElem?_setIfInBounds, Array.size_setIfInBounds]
              repeat (first | rw [if_pos True.intro] | rw [if_pos (by omega)] | rw [if_neg (by omega)])
            · show ((((c.setIfInBounds (off + i * 3) (.string (mkO (k + p)))).setIfInBounds (off + i * 3 + 1) (.int .i64 (k + p + 1))).setIfInBounds (off + i * 3 + 2) (.int .i64 (k + p + 1 + 1))))[off + i * 3 + 2]? = some (.int .i64 (k + p + 1 + 1))
              simp only [Array.getElem?_setIfInBounds, Array.size_setIfInBounds]
              repeat (first | rw [if_pos True.intro] | rw [if_pos (by omega)] | rw [if_neg (by omega)])
          · rw [mt_succ, EP.out, EA.out]
            rw [mkD_DClaimUse]
            exact on_DClaimUse.2 ⟨A0, B0, p0, q0, ⟨rfl, Nat.le_trans (mkO_size _) (by decide)⟩, A1, B1, p1, q1, ⟨rfl, by show (-9223372036854775808 : Int) ≤ k + p + 1; omega, by show k + p + 1 ≤ (9223372036854775807 : Int); omega⟩, ⟨rfl, by show (-9223372036854775808 : Int) ≤ k + p + 1 + 1; omega, by show k + p + 1 + 1 ≤ (9223372036854775807 : Int); omega⟩⟩
        have BF : Hid (But S w (((u0.setCell ⟨g, off + i * 3, none⟩ (.string (mkO (k + p)))).setCell ⟨g, off + i * 3 + 1, none⟩ (.int .i64 (k + p + 1))).setCell ⟨g, off + i * 3 + 2, none⟩ (.int .i64 (k + p + 1 + 1)))) := hB.out.trans (bs2.out.up (fun b hb => by
          rcases hb with hb | hb
          · rw [hb]; exact hE.out.own
          · exact (SUB.out b hb).1))
        go_wp2_with fail
        go_roundw
        case rel => exact ⟨i + 1, _, by omega, by go_num, by rw [HCS.out]; congr 1; omega, EF.out, BF.out⟩
        case measure => simp [intOf]; omega
      · have hin : i = n := by omega
        subst hin
        have hck : cntTo l i = m := by rw [← EM.out, ← HCL.out, EN.out]
        rw [hck]
        clear hck
        go_wp2_with fail
        go_ret
        refine ⟨rfl, ?_, hB.out⟩
        have h := hE.out
        rw [← EN.out] at h ⊢
        exact OnL.of_marked h HF.out HN.out

set_option maxRecDepth 100000 in
set_option maxHeartbeats 4000000 in
theorem markCtlAskS_any (S : Nat → Prop) (l : List DCtlAsk) (v : Value) (k : Int) (w : World) (h : OnL S w l v) (hS : ∀ b, S b → b < w.heap.size) (h1 : 1 ≤ k) (h2 : k + cntL l ≤ 100000000) :
    Calls Tryz.prog 15 #[v, .int .i64 k] w fun e w' => e = .returned (.int .i64 (k + cntL l)) ∧ OnL S w' (mkL k l) v ∧ But S w w' := by
  obtain ⟨oa, cap, rfl, hn, h⟩ := h
  rcases h with h | ⟨g, off, Ss, cur, t, rfl, f, hf, h⟩
  · subst h
    go_enter Tryz.func15, Tryz.ntmps15
    go_wp2
    go_loop [1, 5] (fun s i => i = .int .i64 0 ∧ s = .int .i64 k) (fun _ _ => 0)
    case atStart => exact ⟨rfl, rfl⟩
    case round =>
      obtain ⟨rfl, rfl⟩ := hrel
      go_wp2
      go_ret
      exact ⟨by simp [cntL, cntTo], ⟨_, cap, rfl, hn, .inl rfl⟩, But.refl _ _⟩
  · have HE : Hid (Els S w g off Ss cur t l.length (markedTo k l f 0)) := by
      show Els _ _ _ _ _ _ _ _ _
      rw [mt_zero]; exact h
    have HF : Hid (∀ i (h : i < l.length), f i = l[i]) := hf
    have HN : Hid (Fits (some ⟨g, off, none⟩) l.length cap) := hn
    replace hn : l.length ≤ maxLen := hn.1
    have HS : Hid (∀ b, S b → b < w.heap.size) := hS
    have HCL : Hid (cntTo l l.length = cntL l) := rfl
    unfold maxLen at hn
    clear h hf hS
    have HCM : Hid (∀ i, i < l.length → cntTo l (i + 1) ≤ cntL l) := cntTo_le l
    obtain ⟨n, en⟩ : ∃ n, l.length = n := ⟨_, rfl⟩
    obtain ⟨m, em⟩ : ∃ m, cntL l = m := ⟨_, rfl⟩
    rw [en] at hn HE
    rw [em] at h2
    rw [en, em]
    have EN : Hid (l.length = n) := en
    have EM : Hid (cntL l = m) := em
    clear en em
    go_enter Tryz.func15, Tryz.ntmps15
    go_wp2
    go_loopw [1, 5] (fun q i wr => ∃ (i' : Nat) (c : Array Value), i' ≤ n ∧ i = .int .i64 i' ∧ q = .int .i64 (k + cntTo l i') ∧ Hid (Els S wr g off Ss c t n (markedTo k l f i')) ∧ Hid (But S w wr)) (fun _ i _ => n - (intOf i).toNat)
    case atStart => exact ⟨0, cur, Nat.zero_le _, rfl, by rw [cntTo_zero]; simp, HE, But.refl _ _⟩
    case round =>
      clear HE
      obtain ⟨i, c, hi, rfl, rfl, hE, hB⟩ := hrel
      by_cases hlt : i < n
      · obtain ⟨cc, hcell, hon⟩ := hE.out.el i hlt
        rw [mt_at] at hon
        have hrow : Hid (wr.heap[g]? = some (.cells c t (0, 0))) := hE.out.row
        have hgl : g < wr.heap.size := (Array.getElem?_eq_some_iff.1 hrow.out).1
        have HWS : Hid (∀ b, S b → b < wr.heap.size) := fun b hb => Nat.lt_of_lt_of_le (HS.out b hb) hB.out.size
        have SUB : Hid (∀ b, Ss i b → S b ∧ b ≠ g) := hE.out.sub i
        have hcs := cntTo_succ l i (by have := EN.out; omega)
        have hle := HCM.out i (by have := EN.out; omega)
        rw [← HF.out i (by have := EN.out; omega)] at hcs
        obtain ⟨a, ea⟩ : ∃ a, f i = a := ⟨_, rfl⟩
        rw [ea] at hcs hon
        rw [cnt_DCtlAsk] at hcs
        rw [hcs, EM.out] at hle
        have HCS : Hid _ := hcs
        clear hcs
        obtain ⟨p, ep⟩ : ∃ p, cntTo l i = p := ⟨_, rfl⟩
        rw [ep] at hle HCS
        rw [ep]
        have EP : Hid (cntTo l i = p) := ep
        have EA : Hid (f i = a) := ea
        clear ep ea
        rw [width_DCtlAsk] at hcell
        have e0 : c[off + i * 7]? = some (cc 0) := by simpa using hcell 0 (by omega)
        have e1 : c[off + i * 7 + 1]? = some (cc 1) := by simpa using hcell 1 (by omega)
        have e2 : c[off + i * 7 + 2]? = some (cc 2) := by simpa using hcell 2 (by omega)
        have e3 : c[off + i * 7 + 3]? = some (cc 3) := by simpa using hcell 3 (by omega)
        have e4 : c[off + i * 7 + 4]? = some (cc 4) := by simpa using hcell 4 (by omega)
        have e5 : c[off + i * 7 + 5]? = some (cc 5) := by simpa using hcell 5 (by omega)
        have e6 : c[off + i * 7 + 6]? = some (cc 6) := by simpa using hcell 6 (by omega)
        clear hcell
        have hsz : off + i * 7 + 6 < c.size := (Array.getElem?_eq_some_iff.1 e6).1
        obtain ⟨A0, B0, p0, q0, ⟨ge0, _⟩, A1, B1, p1, q1, ⟨ge1, _, _⟩, A2, B2, p2, q2, ⟨ge2, _, _⟩, A3, B3, p3, q3, H3, A4, B4, p4, q4, H4, A5, B5, p5, q5, H5, H6⟩ := on_DCtlAsk.1 hon
        clear hon
        rw [ge0] at e0
        rw [ge1] at e1
        rw [ge2] at e2
        obtain ⟨so3, sc3, ge3, _⟩ := id H3
        rw [ge3] at e3 H3
        obtain ⟨so4, sc4, ge4, _⟩ := id H4
        rw [ge4] at e4 H4
        obtain ⟨so5, sc5, ge5, _⟩ := id H5
        rw [ge5] at e5 H5
        obtain ⟨so6, sc6, ge6, _⟩ := id H6
        rw [ge6] at e6 H6
        clear ge0 ge1 ge2 ge3 ge4 ge5 ge6
        have N3 : Hid (∀ b, A3 b → b < wr.heap.size ∧ b ≠ g ∧ Ss i b) := fun b hb => by
          have h0 : Ss i b := (q0 b (q1 b (q2 b (p3 b hb).1)))
          exact ⟨HWS.out b (SUB.out b h0).1, (SUB.out b h0).2, h0⟩
        have L3 : Hid (OnL A3 wr a.2.2.2.1 (.slice so3 a.2.2.2.1.length sc3)) := H3
        clear H3
        have N4 : Hid (∀ b, A4 b → b < wr.heap.size ∧ b ≠ g ∧ Ss i b) := fun b hb => by
          have h0 : Ss i b := (q0 b (q1 b (q2 b (q3 b (p4 b hb).1))))
          exact ⟨HWS.out b (SUB.out b h0).1, (SUB.out b h0).2, h0⟩
        have L4 : Hid (OnL A4 wr a.2.2.2.2.1 (.slice so4 a.2.2.2.2.1.length sc4)) := H4
        clear H4
        have N5 : Hid (∀ b, A5 b → b < wr.heap.size ∧ b ≠ g ∧ Ss i b) := fun b hb => by
          have h0 : Ss i b := (q0 b (q1 b (q2 b (q3 b (q4 b (p5 b hb).1)))))
          exact ⟨HWS.out b (SUB.out b h0).1, (SUB.out b h0).2, h0⟩
        have L5 : Hid (OnL A5 wr a.2.2.2.2.2.1 (.slice so5 a.2.2.2.2.2.1.length sc5)) := H5
        clear H5
        have N6 : Hid (∀ b, B5 b → b < wr.heap.size ∧ b ≠ g ∧ Ss i b) := fun b hb => by
          have h0 : Ss i b := (q0 b (q1 b (q2 b (q3 b (q4 b (q5 b hb))))))
          exact ⟨HWS.out b (SUB.out b h0).1, (SUB.out b h0).2, h0⟩
        have L6 : Hid (OnL B5 wr a.2.2.2.2.2.2 (.slice so6 a.2.2.2.2.2.2.length sc6)) := H6
        clear H6
        have X3_4 : Hid (∀ b, A4 b → ¬ A3 b) := fun b hb ha => (p3 b ha).2 (p4 b hb).1
        have X4_3 : Hid (∀ b, A3 b → ¬ A4 b) := fun b hb ha => X3_4.out b ha hb
        have X3_5 : Hid (∀ b, A5 b → ¬ A3 b) := fun b hb ha => (p3 b ha).2 (q4 b (p5 b hb).1)
        have X5_3 : Hid (∀ b, A3 b → ¬ A5 b) := fun b hb ha => X3_5.out b ha hb
        have X3_6 : Hid (∀ b, B5 b → ¬ A3 b) := fun b hb ha => (p3 b ha).2 (q4 b (q5 b hb))
        have X6_3 : Hid (∀ b, A3 b → ¬ B5 b) := fun b hb ha => X3_6.out b ha hb
        have X4_5 : Hid (∀ b, A5 b → ¬ A4 b) := fun b hb ha => (p4 b ha).2 (p5 b hb).1
        have X5_4 : Hid (∀ b, A4 b → ¬ A5 b) := fun b hb ha => X4_5.out b ha hb
        have X4_6 : Hid (∀ b, B5 b → ¬ A4 b) := fun b hb ha => (p4 b ha).2 (q5 b hb)
        have X6_4 : Hid (∀ b, A4 b → ¬ B5 b) := fun b hb ha => X4_6.out b ha hb
        have X5_6 : Hid (∀ b, B5 b → ¬ A5 b) := fun b hb ha => (p5 b ha).2 hb
        have X6_5 : Hid (∀ b, A5 b → ¬ B5 b) := fun b hb ha => X5_6.out b ha hb
        have bt : Hid (But (fun b => b = g ∨ Ss i b) wr wr) := But.refl _ _
        go_wp2_with fail
        refine (mkTx_any _ _ (by omega) (by omega)).mono ?_
        rintro e u0 ⟨rfl, hb0⟩
        have r0 : Hid (u0.heap[g]? = some (.cells c t (0, 0))) := (hb0.block g (Nat.lt_of_lt_of_le hgl bt.out.size)).trans (hrow.out)
        have L3_0 : Hid (OnL A3 u0 (a.2.2.2.1) (.slice so3 a.2.2.2.1.length sc3)) := L3.out.same (Same.of_below hb0 (fun b hb => Nat.lt_of_lt_of_le (N3.out b hb).1 bt.out.size))
        have L4_0 : Hid (OnL A4 u0 (a.2.2.2.2.1) (.slice so4 a.2.2.2.2.1.length sc4)) := L4.out.same (Same.of_below hb0 (fun b hb => Nat.lt_of_lt_of_le (N4.out b hb).1 bt.out.size))
        have L5_0 : Hid (OnL A5 u0 (a.2.2.2.2.2.1) (.slice so5 a.2.2.2.2.2.1.length sc5)) := L5.out.same (Same.of_below hb0 (fun b hb => Nat.lt_of_lt_of_le (N5.out b hb).1 bt.out.size))
        have L6_0 : Hid (OnL B5 u0 (a.2.2.2.2.2.2) (.slice so6 a.2.2.2.2.2.2.length sc6)) := L6.out.same (Same.of_below hb0 (fun b hb => Nat.lt_of_lt_of_le (N6.out b hb).1 bt.out.size))
        have bt0 : Hid (But (fun b => b = g ∨ Ss i b) wr u0) := bt.out.trans (But.of_below hb0)
        obtain ⟨cl0, fr0⟩ := cell_row (r0.out) (off + i * 7) (.string a.1) e0
        have rs0 : Hid ((u0.setCell ⟨g, off + i * 7, none⟩ (.string (mkO (k + p)))).heap[g]? = some (.cells (c.setIfInBounds (off + i * 7) (.string (mkO (k + p)))) t (0, 0))) := set_row (r0.out) (off + i * 7) _
        have bs0 : Hid (But (fun b => b = g ∨ Ss i b) wr (u0.setCell ⟨g, off + i * 7, none⟩ (.string (mkO (k + p))))) := bt0.out.set (Or.inl rfl) (off + i * 7) _
        have M3_0 : Hid (OnL A3 (u0.setCell ⟨g, off + i * 7, none⟩ (.string (mkO (k + p)))) (a.2.2.2.1) (.slice so3 a.2.2.2.1.length sc3)) := L3_0.out.same (Same.of_set _ _ _ (fun h => (N3.out _ h).2.1 rfl))
        have M4_0 : Hid (OnL A4 (u0.setCell ⟨g, off + i * 7, none⟩ (.string (mkO (k + p)))) (a.2.2.2.2.1) (.slice so4 a.2.2.2.2.1.length sc4)) := L4_0.out.same (Same.of_set _ _ _ (fun h => (N4.out _ h).2.1 rfl))
        have M5_0 : Hid (OnL A5 (u0.setCell ⟨g, off + i * 7, none⟩ (.string (mkO (k + p)))) (a.2.2.2.2.2.1) (.slice so5 a.2.2.2.2.2.1.length sc5)) := L5_0.out.same (Same.of_set _ _ _ (fun h => (N5.out _ h).2.1 rfl))
        have M6_0 : Hid (OnL B5 (u0.setCell ⟨g, off + i * 7, none⟩ (.string (mkO (k + p)))) (a.2.2.2.2.2.2) (.slice so6 a.2.2.2.2.2.2.length sc6)) := L6_0.out.same (Same.of_set _ _ _ (fun h => (N6.out _ h).2.1 rfl))
        obtain ⟨cl1, fr1⟩ := cell_row (rs0.out) (off + i * 7 + 1) (.int .i64 a.2.1) (by simp only [Array.getElem?_setIfInBounds]; rw [if_neg (show ¬ (off + i * 7 = off + i * 7 + 1) by omega)]; exact e1)
        have rs1 : Hid (((u0.setCell ⟨g, off + i * 7, none⟩ (.string (mkO (k + p)))).setCell ⟨g, off + i * 7 + 1, none⟩ (.int .i64 (k + p + 1))).heap[g]? = some (.cells ((c.setIfInBounds (off + i * 7) (.string (mkO (k + p)))).setIfInBounds (off + i * 7 + 1) (.int .i64 (k + p + 1))) t (0, 0))) := set_row (rs0.out) (off + i * 7 + 1) _
        have bs1 : Hid (But (fun b => b = g ∨ Ss i b) wr ((u0.setCell ⟨g, off + i * 7, none⟩ (.string (mkO (k + p)))).setCell ⟨g, off + i * 7 + 1, none⟩ (.int .i64 (k + p + 1)))) := bs0.out.set (Or.inl rfl) (off + i * 7 + 1) _
        have M3_1 : Hid (OnL A3 ((u0.setCell ⟨g, off + i * 7, none⟩ (.string (mkO (k + p)))).setCell ⟨g, off + i * 7 + 1, none⟩ (.int .i64 (k + p + 1))) (a.2.2.2.1) (.slice so3 a.2.2.2.1.length sc3)) := M3_0.out.same (Same.of_set _ _ _ (fun h => (N3.out _ h).2.1 rfl))
        have M4_1 : Hid (OnL A4 ((u0.setCell ⟨g, off + i * 7, none⟩ (.string (mkO (k + p)))).setCell ⟨g, off + i * 7 + 1, none⟩ (.int .i64 (k + p + 1))) (a.2.2.2.2.1) (.slice so4 a.2.2.2.2.1.length sc4)) := M4_0.out.same (Same.of_set _ _ _ (fun h => (N4.out _ h).2.1 rfl))
        have M5_1 : Hid (OnL A5 ((u0.setCell ⟨g, off + i * 7, none⟩ (.string (mkO (k + p)))).setCell ⟨g, off + i * 7 + 1, none⟩ (.int .i64 (k + p + 1))) (a.2.2.2.2.2.1) (.slice so5 a.2.2.2.2.2.1.length sc5)) := M5_0.out.same (Same.of_set _ _ _ (fun h => (N5.out _ h).2.1 rfl))
        have M6_1 : Hid (OnL B5 ((u0.setCell ⟨g, off + i * 7, none⟩ (.string (mkO (k + p)))).setCell ⟨g, off + i * 7 + 1, none⟩ (.int .i64 (k + p + 1))) (a.2.2.2.2.2.2) (.slice so6 a.2.2.2.2.2.2.length sc6)) := M6_0.out.same (Same.of_set _ _ _ (fun h => (N6.out _ h).2.1 rfl))
        obtain ⟨cl2, fr2⟩ := cell_row (rs1.out) (off + i * 7 + 2) (.int .i64 a.2.2.1) (by simp only [Array.getElem?_setIfInBounds]; rw [if_neg (show ¬ (off + i * 7 + 1 = off + i * 7 + 2) by omega), if_neg (show ¬ (off + i * 7 = off + i * 7 + 2) by omega)]; exact e2)
        have rs2 : Hid ((((u0.setCell ⟨g, off + i * 7, none⟩ (.string (mkO (k + p)))).setCell ⟨g, off + i * 7 + 1, none⟩ (.int .i64 (k + p + 1))).setCell ⟨g, off + i * 7 + 2, none⟩ (.int .i64 (k + p + 1 + 1))).heap[g]? = some (.cells (((c.setIfInBounds (off + i * 7) (.string (mkO (k + p)))).setIfInBounds (off + i * 7 + 1) (.int .i64 (k + p + 1))).setIfInBounds (off + i * 7 + 2) (.int .i64 (k + p + 1 + 1))) t (0, 0))) := set_row (rs1.out) (off + i * 7 + 2) _
        have bs2 : Hid (But (fun b => b = g ∨ Ss i b) wr (((u0.setCell ⟨g, off + i * 7, none⟩ (.string (mkO (k + p)))).setCell ⟨g, off + i * 7 + 1, none⟩ (.int .i64 (k + p + 1))).setCell ⟨g, off + i * 7 + 2, none⟩ (.int .i64 (k + p + 1 + 1)))) := bs1.out.set (Or.inl rfl) (off + i * 7 + 2) _
        have M3_2 : Hid (OnL A3 (((u0.setCell ⟨g, off + i * 7, none⟩ (.string (mkO (k + p)))).setCell ⟨g, off + i * 7 + 1, none⟩ (.int .i64 (k + p + 1))).setCell ⟨g, off + i * 7 + 2, none⟩ (.int .i64 (k + p + 1 + 1))) (a.2.2.2.1) (.slice so3 a.2.2.2.1.length sc3)) := M3_1.out.same (Same.of_set _ _ _ (fun h => (N3.out _ h).2.1 rfl))
        have M4_2 : Hid (OnL A4 (((u0.setCell ⟨g, off + i * 7, none⟩ (.string (mkO (k + p)))).setCell ⟨g, off + i * 7 + 1, none⟩ (.int .i64 (k + p + 1))).setCell ⟨g, off + i * 7 + 2, none⟩ (.int .i64 (k + p + 1 + 1))) (a.2.2.2.2.1) (.slice so4 a.2.2.2.2.1.length sc4)) := M4_1.out.same (Same.of_set _ _ _ (fun h => (N4.out _ h).2.1 rfl))
        have M5_2 : Hid (OnL A5 (((u0.setCell ⟨g, off + i * 7, none⟩ (.string (mkO (k + p)))).setCell ⟨g, off + i * 7 + 1, none⟩ (.int .i64 (k + p + 1))).setCell ⟨g, off + i * 7 + 2, none⟩ (.int .i64 (k + p + 1 + 1))) (a.2.2.2.2.2.1) (.slice so5 a.2.2.2.2.2.1.length sc5)) := M5_1.out.same (Same.of_set _ _ _ (fun h => (N5.out _ h).2.1 rfl))
        have M6_2 : Hid (OnL B5 (((u0.setCell ⟨g, off + i * 7, none⟩ (.string (mkO (k + p)))).setCell ⟨g, off + i * 7 + 1, none⟩ (.int .i64 (k + p + 1))).setCell ⟨g, off + i * 7 + 2, none⟩ (.int .i64 (k + p + 1 + 1))) (a.2.2.2.2.2.2) (.slice so6 a.2.2.2.2.2.2.length sc6)) := M6_1.out.same (Same.of_set _ _ _ (fun h => (N6.out _ h).2.1 rfl))
        have cl3 := (cell_row (rs2.out) (off + i * 7 + 3) (.slice so3 a.2.2.2.1.length sc3) (by simp only [Array.getElem?_setIfInBounds]; rw [if_neg (show ¬ (off + i * 7 + 2 = off + i * 7 + 3) by omega), if_neg (show ¬ (off + i * 7 + 1 = off + i * 7 + 3) by omega), if_neg (show ¬ (off + i * 7 = off + i * 7 + 3) by omega)]; exact e3)).1
        go_wp2_with fail
        refine (markStringS_any A3 a.2.2.2.1 (.slice so3 a.2.2.2.1.length sc3) _ _ M3_2.out (fun b hb => Nat.lt_of_lt_of_le (N3.out b hb).1 bs2.out.size) (by omega) (by omega)).mono ?_
        rintro e u1 ⟨rfl, o3, hb1⟩
        have r1 : Hid (u1.heap[g]? = some (.cells (((c.setIfInBounds (off + i * 7) (.string (mkO (k + p)))).setIfInBounds (off + i * 7 + 1) (.int .i64 (k + p + 1))).setIfInBounds (off + i * 7 + 2) (.int .i64 (k + p + 1 + 1))) t (0, 0))) := (hb1.block g (Nat.lt_of_lt_of_le hgl bs2.out.size) (fun h => (N3.out g h).2.1 rfl)).trans (rs2.out)
        have L3_1 : Hid (OnL A3 u1 (mkL (k + p + 1 + 1 + 1) a.2.2.2.1) (.slice so3 a.2.2.2.1.length sc3)) := o3
        have L4_1 : Hid (OnL A4 u1 (a.2.2.2.2.1) (.slice so4 a.2.2.2.2.1.length sc4)) := M4_2.out.same (hb1.same (fun b hb => ⟨Nat.lt_of_lt_of_le (N4.out b hb).1 bs2.out.size, X3_4.out b hb⟩))
        have L5_1 : Hid (OnL A5 u1 (a.2.2.2.2.2.1) (.slice so5 a.2.2.2.2.2.1.length sc5)) := M5_2.out.same (hb1.same (fun b hb => ⟨Nat.lt_of_lt_of_le (N5.out b hb).1 bs2.out.size, X3_5.out b hb⟩))
        have L6_1 : Hid (OnL B5 u1 (a.2.2.2.2.2.2) (.slice so6 a.2.2.2.2.2.2.length sc6)) := M6_2.out.same (hb1.same (fun b hb => ⟨Nat.lt_of_lt_of_le (N6.out b hb).1 bs2.out.size, X3_6.out b hb⟩))
        have bt1 : Hid (But (fun b => b = g ∨ Ss i b) wr u1) := bs2.out.trans (hb1.up (fun b hb => Or.inr (N3.out b hb).2.2))
        clear o3
        have cl4 := (cell_row (r1.out) (off + i * 7 + 4) (.slice so4 a.2.2.2.2.1.length sc4) (by simp only [Array.getElem?_setIfInBounds]; rw [if_neg (show ¬ (off + i * 7 + 2 = off + i * 7 + 4) by omega), if_neg (show ¬ (off + i * 7 + 1 = off + i * 7 + 4) by omega), if_neg (show ¬ (off + i * 7 = off + i * 7 + 4) by omega)]; exact e4)).1
        go_wp2_with fail
        refine (markClaimUseS_any A4 a.2.2.2.2.1 (.slice so4 a.2.2.2.2.1.length sc4) _ _ L4_1.out (fun b hb => Nat.lt_of_lt_of_le (N4.out b hb).1 bt1.out.size) (by omega) (by omega)).mono ?_
        rintro e u2 ⟨rfl, o4, hb2⟩
        have r2 : Hid (u2.heap[g]? = some (.cells (((c.setIfInBounds (off + i * 7) (.string (mkO (k + p)))).setIfInBounds (off + i * 7 + 1) (.int .i64 (k + p + 1))).setIfInBounds (off + i * 7 + 2) (.int .i64 (k + p + 1 + 1))) t (0, 0))) := (hb2.block g (Nat.lt_of_lt_of_le hgl bt1.out.size) (fun h => (N4.out g h).2.1 rfl)).trans (r1.out)
        have L3_2 : Hid (OnL A3 u2 (mkL (k + p + 1 + 1 + 1) a.2.2.2.1) (.slice so3 a.2.2.2.1.length sc3)) := L3_1.out.same (hb2.same (fun b hb => ⟨Nat.lt_of_lt_of_le (N3.out b hb).1 bt1.out.size, X4_3.out b hb⟩))
        have L4_2 : Hid (OnL A4 u2 (mkL (k + p + 1 + 1 + 1 + cntL a.2.2.2.1) a.2.2.2.2.1) (.slice so4 a.2.2.2.2.1.length sc4)) := o4
        have L5_2 : Hid (OnL A5 u2 (a.2.2.2.2.2.1) (.slice so5 a.2.2.2.2.2.1.length sc5)) := L5_1.out.same (hb2.same (fun b hb => ⟨Nat.lt_of_lt_of_le (N5.out b hb).1 bt1.out.size, X4_5.out b hb⟩))
        have L6_2 : Hid (OnL B5 u2 (a.2.2.2.2.2.2) (.slice so6 a.2.2.2.2.2.2.length sc6)) := L6_1.out.same (hb2.same (fun b hb => ⟨Nat.lt_of_lt_of_le (N6.out b hb).1 bt1.out.size, X4_6.out b hb⟩))
        have bt2 : Hid (But (fun b => b = g ∨ Ss i b) wr u2) := bt1.out.trans (hb2.up (fun b hb => Or.inr (N4.out b hb).2.2))
        clear o4
        have cl5 := (cell_row (r2.out) (off + i * 7 + 5) (.slice so5 a.2.2.2.2.2.1.length sc5) (by simp only [Array.getElem?_setIfInBounds]; rw [if_neg (show ¬ (off + i * 7 + 2 = off + i * 7 + 5) by omega), if_neg (show ¬ (off + i * 7 + 1 = off + i * 7 + 5) by omega), if_neg (show ¬ (off + i * 7 = off + i * 7 + 5) by omega)]; exact e5)).1
        go_wp2_with fail
        refine (markStringS_any A5 a.2.2.2.2.2.1 (.slice so5 a.2.2.2.2.2.1.length sc5) _ _ L5_2.out (fun b hb => Nat.lt_of_lt_of_le (N5.out b hb).1 bt2.out.size) (by omega) (by omega)).mono ?_
        rintro e u3 ⟨rfl, o5, hb3⟩
        have r3 : Hid (u3.heap[g]? = some (.cells (((c.setIfInBounds (off + i * 7) (.string (mkO (k + p)))).setIfInBounds (off + i * 7 + 1) (.int .i64 (k + p + 1))).setIfInBounds (off + i * 7 + 2) (.int .i64 (k + p + 1 + 1))) t (0, 0))) := (hb3.block g (Nat.lt_of_lt_of_le hgl bt2.out.size) (fun h => (N5.out g h).2.1 rfl)).trans (r2.out)
        have L3_3 : Hid (OnL A3 u3 (mkL (k + p + 1 + 1 + 1) a.2.2.2.1) (.slice so3 a.2.2.2.1.length sc3)) := L3_2.out.same (hb3.same (fun b hb => ⟨Nat.lt_of_lt_of_le (N3.out b hb).1 bt2.out.size, X5_3.out b hb⟩))
        have L4_3 : Hid (OnL A4 u3 (mkL (k + p + 1 + 1 + 1 + cntL a.2.2.2.1) a.2.2.2.2.1) (.slice so4 a.2.2.2.2.1.length sc4)) := L4_2.out.same (hb3.same (fun b hb => ⟨Nat.lt_of_lt_of_le (N4.out b hb).1 bt2.out.size, X5_4.out b hb⟩))
        have L5_3 : Hid (OnL A5 u3 (mkL (k + p + 1 + 1 + 1 + cntL a.2.2.2.1 + cntL a.2.2.2.2.1) a.2.2.2.2.2.1) (.slice so5 a.2.2.2.2.2.1.length sc5)) := o5
        have L6_3 : Hid (OnL B5 u3 (a.2.2.2.2.2.2) (.slice so6 a.2.2.2.2.2.2.length sc6)) := L6_2.out.same (hb3.same (fun b hb => ⟨Nat.lt_of_lt_of_le (N6.out b hb).1 bt2.out.size, X5_6.out b hb⟩))
        have bt3 : Hid (But (fun b => b = g ∨ Ss i b) wr u3) := bt2.out.trans (hb3.up (fun b hb => Or.inr (N5.out b hb).2.2))
        clear o5
        have cl6 := (cell_row (r3.out) (off + i * 7 + 6) (.slice so6 a.2.2.2.2.2.2.length sc6) (by simp only [Array.getElem?_setIfInBounds]; rw [if_neg (show ¬ (off + i * 7 + 2 = off + i * 7 + 6) by omega), if_neg (show ¬ (off + i * 7 + 1 = off + i * 7 + 6) by omega), if_neg (show ¬ (off + i * 7 = off + i * 7 + 6) by omega)]; exact e6)).1
        go_wp2_with fail
        refine (markStringS_any B5 a.2.2.2.2.2.2 (.slice so6 a.2.2.2.2.2.2.length sc6) _ _ L6_3.out (fun b hb => Nat.lt_of_lt_of_le (N6.out b hb).1 bt3.out.size) (by omega) (by omega)).mono ?_
        rintro e u4 ⟨rfl, o6, hb4⟩
        have r4 : Hid (u4.heap[g]? = some (.cells (((c.setIfInBounds (off + i * 7) (.string (mkO (k + p)))).setIfInBounds (off + i * 7 + 1) (.int .i64 (k + p + 1))).setIfInBounds (off + i * 7 + 2) (.int .i64 (k + p + 1 + 1))) t (0, 0))) := (hb4.block g (Nat.lt_of_lt_of_le hgl bt3.out.size) (fun h => (N6.out g h).2.1 rfl)).trans (r3.out)
        have L3_4 : Hid (OnL A3 u4 (mkL (k + p + 1 + 1 + 1) a.2.2.2.1) (.slice so3 a.2.2.2.1.length sc3)) := L3_3.out.same (hb4.same (fun b hb => ⟨Nat.lt_of_lt_of_le (N3.out b hb).1 bt3.out.size, X6_3.out b hb⟩))
        have L4_4 : Hid (OnL A4 u4 (mkL (k + p + 1 + 1 + 1 + cntL a.2.2.2.1) a.2.2.2.2.1) (.slice so4 a.2.2.2.2.1.length sc4)) := L4_3.out.same (hb4.same (fun b hb => ⟨Nat.lt_of_lt_of_le (N4.out b hb).1 bt3.out.size, X6_4.out b hb⟩))
        have L5_4 : Hid (OnL A5 u4 (mkL (k + p + 1 + 1 + 1 + cntL a.2.2.2.1 + cntL a.2.2.2.2.1) a.2.2.2.2.2.1) (.slice so5 a.2.2.2.2.2.1.length sc5)) := L5_3.out.same (hb4.same (fun b hb => ⟨Nat.lt_of_lt_of_le (N5.out b hb).1 bt3.out.size, X6_5.out b hb⟩))
        have L6_4 : Hid (OnL B5 u4 (mkL (k + p + 1 + 1 + 1 + cntL a.2.2.2.1 + cntL a.2.2.2.2.1 + cntL a.2.2.2.2.2.1) a.2.2.2.2.2.2) (.slice so6 a.2.2.2.2.2.2.length sc6)) := o6
        have bt4 : Hid (But (fun b => b = g ∨ Ss i b) wr u4) := bt3.out.trans (hb4.up (fun b hb => Or.inr (N6.out b hb).2.2))
        clear o6
        have EF : Hid (Els S u4 g off Ss (((c.setIfInBounds (off + i * 7) (.string (mkO (k + p)))).setIfInBounds (off + i * 7 + 1) (.int .i64 (k + p + 1))).setIfInBounds (off + i * 7 + 2) (.int .i64 (k + p + 1 + 1))) t n (markedTo k l f (i + 1))) := by
          refine hE.out.step i (r4.out) ?_ ⟨cs [.string (mkO (k + p)), .int .i64 (k + p + 1), .int .i64 (k + p + 1 + 1), .slice so3 a.2.2.2.1.length sc3, .slice so4 a.2.2.2.2.1.length sc4, .slice so5 a.2.2.2.2.2.1.length sc5, .slice so6 a.2.2.2.2.2.2.length sc6], ?_, ?_⟩ (fun q hq => mt_ne k l f i q hq) bt4.out HWS.out
          · intro q j hq hj
            rw [width_DCtlAsk] at hj ⊢
            simp only [Array.getElem?_setIfInBounds]
            repeat rw [if_neg (by omega)]
          · intro j hj
            rw [width_DCtlAsk] at hj ⊢
            rcases (show j = 0 ∨ j = 1 ∨ j = 2 ∨ j = 3 ∨ j = 4 ∨ j = 5 ∨ j = 6 by omega) with rfl | rfl | rfl | rfl | rfl | rfl | rfl
            · show ((((c.setIfInBounds (off + i * 7) (.string (mkO (k + p)))).setIfInBounds (off + i * 7 + 1) (.int .i64 (k + p + 1))).setIfInBounds (off + i * 7 + 2) (.int .i64 (k + p + 1 + 1))))[off + i * 7]? = some (.string (mkO (k + p)))
              simp only [Array.getElem?_setIfInBounds, Array.size_setIfInBounds]
              repeat (first | rw [if_pos True.intro] | rw [if_pos (by omega)] | rw [if_neg (by omega)])
            · show ((((c.setIfInBounds (off + i * 7) (.string (mkO (k + p)))).setIfInBounds (off + i * 7 + 1) (.int .i64 (k + p + 1))).setIfInBounds (off + i * 7 + 2) (.int .i64 (k + p + 1 + 1))))[off + i * 7 + 1]? = some (.int .i64 (k + p + 1))
              simp only [Array.getElem?_setIfInBounds, Array.size_setIfInBounds]
              repeat (first | rw [if_pos True.intro] | rw [if_pos (by omega)] | rw [if_neg (by omega)])
            · show ((((c.setIfInBounds (off + i * 7) (.string (mkO (k + p)))).setIfInBounds (off + i * 7 + 1) (.int .i64 (k + p + 1))).setIfInBounds (off + i * 7 + 2) (.int .i64 (k + p + 1 + 1))))[off + i * 7 + 2]? = some (.int .i64 (k + p + 1 + 1))
              simp only [Array.getElem?_setIfInBounds, Array.size_setIfInBounds]
              repeat (first | rw [if_pos True.intro] | rw [if_pos (by omega)] | rw [if_neg (by omega)])
            · show ((((c.setIfInBounds (off + i * 7) (.string (mkO (k + p)))).setIfInBounds (off + i * 7 + 1) (.int .i64 (k + p + 1))).setIfInBounds (off + i * 7 + 2) (.int .i64 (k + p + 1 + 1))))[off + i * 7 + 3]? = some (.slice so3 a.2.2.2.1.length sc3)
              simp only [Array.getElem?_setIfInBounds, Array.size_setIfInBounds]
              repeat (first | rw [if_pos True.intro] | rw [if_pos (by omega)] | rw [if_neg (by omega)])
              exact e3
            · show ((((c.setIfInBounds (off + i * 7) (.string (mkO (k + p)))).setIfInBounds (off + i * 7 + 1) (.int .i64 (k + p + 1))).setIfInBounds (off + i * 7 + 2) (.int .i64 (k + p + 1 + 1))))[off + i * 7 + 4]? = some (.slice so4 a.2.2.2.2.1.length sc4)
              simp only [Array.getElem?_setIfInBounds, Array.size_setIfInBounds]
              repeat (first | rw [if_pos True.intro] | rw [if_pos (by omega)] | rw [if_neg (by omega)])
              exact e4
            · show ((((c.setIfInBounds (off + i * 7) (.string (mkO (k + p)))).setIfInBounds (off + i * 7 + 1) (.int .i64 (k + p + 1))).setIfInBounds (off + i * 7 + 2) (.int .i64 (k + p + 1 + 1))))[off + i * 7 + 5]? = some (.slice so5 a.2.2.2.2.2.1.length sc5)
              simp only [Array.getElem?_setIfInBounds, Array.size_setIfInBounds]
              repeat (first | rw [if_pos True.intro] | rw [if_pos (by omega)] | rw [if_neg (by omega)])
              exact e5
            · show ((((c.setIfInBounds (off + i * 7) (.string (mkO (k + p)))).setIfInBounds (off + i * 7 + 1) (.int .i64 (k + p + 1))).setIfInBounds (off + i * 7 + 2) (.int .i64 (k + p + 1 + 1))))[off + i * 7 + 6]? = some (.slice so6 a.2.2.2.2.2.2.length sc6)
              simp only [Array.getElem?_setIfInBounds, Array.size_setIfInBounds]
              repeat (first | rw [if_pos True.intro] | rw [if_pos (by omega)] | rw [if_neg (by omega)])
              exact e6
          · rw [mt_succ, EP.out, EA.out]
            rw [mkD_DCtlAsk]
            exact on_DCtlAsk.2 ⟨A0, B0, p0, q0, ⟨rfl, Nat.le_trans (mkO_size _) (by decide)⟩, A1, B1, p1, q1, ⟨rfl, by show (-9223372036854775808 : Int) ≤ k + p + 1; omega, by show k + p + 1 ≤ (9223372036854775807 : Int); omega⟩, A2, B2, p2, q2, ⟨rfl, by show (-9223372036854775808 : Int) ≤ k + p + 1 + 1; omega, by show k + p + 1 + 1 ≤ (9223372036854775807 : Int); omega⟩, A3, B3, p3, q3, L3_4.out, A4, B4, p4, q4, L4_4.out, A5, B5, p5, q5, L5_4.out, L6_4.out⟩
        have BF : Hid (But S w u4) := hB.out.trans (bt4.out.up (fun b hb => by
          rcases hb with hb | hb
          · rw [hb]; exact hE.out.own
          · exact (SUB.out b hb).1))
        go_wp2_with fail
        go_roundw
        case rel => exact ⟨i + 1, _, by omega, by go_num, by rw [HCS.out]; congr 1; omega, EF.out, BF.out⟩
        case measure => simp [intOf]; omega
      · have hin : i = n := by omega
        subst hin
        have hck : cntTo l i = m := by rw [← EM.out, ← HCL.out, EN.out]
        rw [hck]
        clear hck
        go_wp2_with fail
        go_ret
        refine ⟨rfl, ?_, hB.out⟩
        have h := hE.out
        rw [← EN.out] at h ⊢
        exact OnL.of_marked h HF.out HN.out

end Go.Proofs.YtndacfockllehaaGreat
