/-
  Contracts of the laws' own marking of data that own their blocks.
-/
import Derived.Test.YtigkkelaadbhcaaLo
import Derived.Test.YtigkkelaadbhcaaZxa
import Derived.Test.YtigkkelaadbhcaaVa
namespace Go.Proofs.Ytigkkelaadbhcaa
open Go.RowKit

set_option maxRecDepth 100000 in
set_option maxHeartbeats 400000 in
theorem mkTx_any (k : Int) (w : World) (h1 : 1 ≤ k) (h2 : k ≤ 20000000) :
    Calls Try.prog 20 #[.int .i64 k] w fun e w' => e = .returned (.string (mkO k)) ∧ Below w.heap.size w w' := by
  have hd : decide (k ≤ 0) = false := by simp; omega
  have hcv := conv_one
  go_enter Try.func20, Try.ntmps20
  go_wp2
  go_loopw [0, 3] (fun i t wr => ∃ (j : Int) (u : ByteArray) (n : Nat), 0 ≤ j ∧ j ≤ 20000000 ∧ Hid (j < 10 ^ n) ∧ i = .int .i64 j ∧ t = .string u ∧ Hid (dgO n j u = dgO 20 k ⟨#[]⟩) ∧ u.size + n ≤ 20 ∧ Below w.heap.size w wr) (fun i _ _ => (intOf i).toNat)
  case atStart => exact ⟨k, _, 20, by omega, by omega, by show k < _; omega, rfl, rfl, rfl, by decide, Below.refl _ _⟩
  case round =>
    obtain ⟨j, u, n, hj1, hj2, hn, rfl, rfl, he, hu, hbel⟩ := hrel
    by_cases hp : 0 < j
    · go_wp2
      go_roundw
      case rel =>
        cases n with
        | zero => exact absurd hn.out (by simp; omega)
        | succ n =>
          refine ⟨j / 10, _, n, by omega, by omega, ?_, rfl, rfl, ?_, ?_, hbel.alloc hbel.size _⟩
          · have h := hn.out
            rw [Int.pow_succ] at h
            show j / 10 < 10 ^ n
            omega
          · show dgO n (j / 10) _ = _
            rw [← he.out, dgO, if_pos (by omega)]
          · have e1 : (⟨#[UInt8.ofNat (48 + j % 10).toNat]⟩ : ByteArray).size = 1 := rfl
            rw [ByteArray.size_append, e1]; omega
      case measure => simp [intOf]; omega
    · go_wp2
      go_ret
      refine ⟨?_, hbel⟩
      rw [mkO, ← he.out, dgO_end _ _ _ (by omega)]
      rfl
section
variable {α : Type} [Own α]
theorem Els.step {S : Nat → Prop} {w U : World} {g off : Nat} {Ss : Nat → Nat → Prop} {cur cur' : Array Value} {t : TypeId} {n : Nat} {f f' : Nat → α} (h : Els S w g off Ss cur t n f) (i : Nat)
    (hrow : U.heap[g]? = some (.cells cur' t (0, 0))) (hoth : ∀ q j, q ≠ i → j < Lay.width α → cur'[off + q * Lay.width α + j]? = cur[off + q * Lay.width α + j]?)
    (hel : ∃ c : Nat → Value, (∀ j, j < Lay.width α → cur'[off + i * Lay.width α + j]? = some (c j)) ∧ Own.On (Ss i) U (f' i) c) (hF : ∀ q, q ≠ i → f' q = f q)
    (hbut : But (fun b => b = g ∨ Ss i b) w U) (hS : ∀ b, S b → b < w.heap.size) : Els S U g off Ss cur' t n f' :=
  ⟨hrow, h.own, h.sub, h.dis, fun q hq => by
    by_cases e : q = i
    · subst e; exact hel
    · obtain ⟨c, h1, h2⟩ := h.el q hq
      refine ⟨c, fun j hj => (hoth q j e hj).trans (h1 j hj), ?_⟩
      rw [hF q e]
      refine Own.on_same h2 (hbut.same (fun b hb => ⟨hS b (h.sub q b hb).1, ?_⟩))
      rintro (e' | e')
      · exact (h.sub q b hb).2 e'
      · exact e (h.dis q i b hb e')⟩
/-- The data of a list, the first i of them marked. -/
def markedTo (k : Int) (l : List α) (f : Nat → α) (i j : Nat) : α := if j < i then Own.mkD (k + cntTo l j) (f j) else f j
theorem mt_zero (k : Int) (l : List α) (f : Nat → α) : markedTo k l f 0 = f := by funext j; simp [markedTo]
theorem mt_at (k : Int) (l : List α) (f : Nat → α) (i : Nat) : markedTo k l f i i = f i := by simp [markedTo]
theorem mt_succ (k : Int) (l : List α) (f : Nat → α) (i : Nat) : markedTo k l f (i + 1) i = Own.mkD (k + cntTo l i) (f i) := by simp [markedTo]
theorem mt_ne (k : Int) (l : List α) (f : Nat → α) (i q : Nat) (h : q ≠ i) : markedTo k l f (i + 1) q = markedTo k l f i q := by
  unfold markedTo
  by_cases e : q < i
  · rw [if_pos e, if_pos (by omega)]
  · rw [if_neg e, if_neg (by omega)]
theorem OnL.of_marked {S : Nat → Prop} {U : World} {g off cap : Nat} {Ss : Nat → Nat → Prop} {cur : Array Value} {t : TypeId} {k : Int} {l : List α} {f : Nat → α} (h : Els S U g off Ss cur t l.length (markedTo k l f l.length)) (hf : ∀ i (h : i < l.length), f i = l[i]) (hn : Fits (some ⟨g, off, none⟩) l.length cap) :
    OnL S U (mkL k l) (.slice (some ⟨g, off, none⟩) l.length cap) :=
  ⟨_, cap, by rw [mkL_len], by rw [mkL_len]; exact hn, .inr ⟨g, off, Ss, cur, t, rfl, markedTo k l f l.length, fun i hi => by
    have hi' : i < l.length := by rw [mkL_len] at hi; exact hi
    rw [mkL_at k l i hi', markedTo, if_pos hi', hf i hi'], by rw [mkL_len]; exact h⟩⟩
theorem cntTo_le (l : List α) (i : Nat) (h : i < l.length) : cntTo l (i + 1) ≤ cntL l := by
  unfold cntL
  have : ∀ d, i + 1 + d ≤ l.length → cntTo l (i + 1) ≤ cntTo l (i + 1 + d) := by
    intro d
    induction d with
    | zero => intro _; exact Nat.le_refl _
    | succ d ih => intro hd; have := ih (by omega); rw [show i + 1 + (d + 1) = (i + 1 + d) + 1 by omega, cntTo_succ l (i + 1 + d) (by omega)]; omega
  have h2 := this (l.length - (i + 1)) (by omega)
  rwa [show i + 1 + (l.length - (i + 1)) = l.length by omega] at h2
end
theorem mkD_DShareBatch (k : Int) (a : DShareBatch) : Own.mkD k a = (mkO (k), mkL (k + 1) a.2.1, mkL (k + 1 + cntL a.2.1) a.2.2) := rfl
theorem cnt_DShareBatch (a : DShareBatch) : Own.cnt a = 1 + (cntL a.2.1 + (cntL a.2.2)) := rfl
theorem on_DShareBatch {S : Nat → Prop} {w : World} {a : DShareBatch} {c : Nat → Value} : Own.On S w a c ↔ ∃ A0 B0 : Nat → Prop, (∀ b, A0 b → S b ∧ ¬ B0 b) ∧ (∀ b, B0 b → S b) ∧ (c 0 = .string a.1 ∧ a.1.size ≤ maxLen) ∧ ∃ A1 B1 : Nat → Prop, (∀ b, A1 b → B0 b ∧ ¬ B1 b) ∧ (∀ b, B1 b → B0 b) ∧ OnL A1 w a.2.1 (c 1) ∧ OnL B1 w a.2.2 (c 2) := Iff.rfl
theorem mkD_DShareBook (k : Int) (a : DShareBook) : Own.mkD k a = (mkL (k) a.1, mkL (k + cntL a.1) a.2) := rfl
theorem cnt_DShareBook (a : DShareBook) : Own.cnt a = cntL a.1 + (cntL a.2) := rfl
theorem on_DShareBook {S : Nat → Prop} {w : World} {a : DShareBook} {c : Nat → Value} : Own.On S w a c ↔ ∃ A0 B0 : Nat → Prop, (∀ b, A0 b → S b ∧ ¬ B0 b) ∧ (∀ b, B0 b → S b) ∧ OnL A0 w a.1 (c 0) ∧ OnL B0 w a.2 (c 1) := Iff.rfl
set_option maxRecDepth 100000 in
set_option maxHeartbeats 4000000 in
theorem markStringS_any (S : Nat → Prop) (l : List ByteArray) (v : Value) (k : Int) (w : World) (h : OnL S w l v) (hS : ∀ b, S b → b < w.heap.size) (h1 : 1 ≤ k) (h2 : k + cntL l ≤ 20000000) :
    Calls Try.prog 10 #[v, .int .i64 k] w fun e w' => e = .returned (.int .i64 (k + cntL l)) ∧ OnL S w' (mkL k l) v ∧ But S w w' := by
  obtain ⟨oa, cap, rfl, hn, h⟩ := h
  rcases h with h | ⟨g, off, Ss, cur, t, rfl, f, hf, h⟩
  · subst h
    go_enter Try.func10, Try.ntmps10
    go_wp2
    go_loop [1, 5] (fun s i => i = .int .i64 0 ∧ s = .int .i64 k) (fun _ _ => 0)
    case atStart => exact ⟨rfl, rfl⟩
    case round =>
      obtain ⟨rfl, rfl⟩ := hrel
      go_wp2
      go_ret
      exact ⟨by simp [cntL, cntTo], ⟨_, cap, rfl, hn, .inl rfl⟩, But.refl _ _⟩
  · have HE : Hid (Els S w g off Ss cur t l.length (markedTo k l f 0)) := by
      show Els _ _ _ _ _ _ _ _ _
      rw [mt_zero]; exact h
    have HF : Hid (∀ i (h : i < l.length), f i = l[i]) := hf
    have HN : Hid (Fits (some ⟨g, off, none⟩) l.length cap) := hn
    replace hn : l.length ≤ maxLen := hn.1
    have HS : Hid (∀ b, S b → b < w.heap.size) := hS
    have HCL : Hid (cntTo l l.length = cntL l) := rfl
    unfold maxLen at hn
    clear h hf hS
    have HCM : Hid (∀ i, i < l.length → cntTo l (i + 1) ≤ cntL l) := cntTo_le l
    obtain ⟨n, en⟩ : ∃ n, l.length = n := ⟨_, rfl⟩
    obtain ⟨m, em⟩ : ∃ m, cntL l = m := ⟨_, rfl⟩
    rw [en] at hn HE
    rw [em] at h2
    rw [en, em]
    have EN : Hid (l.length = n) := en
    have EM : Hid (cntL l = m) := em
    clear en em
    go_enter Try.func10, Try.ntmps10
    go_wp2
    go_loopw [1, 5] (fun q i wr => ∃ (i' : Nat) (c : Array Value), i' ≤ n ∧ i = .int .i64 i' ∧ q = .int .i64 (k + cntTo l i') ∧ Hid (Els S wr g off Ss c t n (markedTo k l f i')) ∧ Hid (But S w wr)) (fun _ i _ => n - (intOf i).toNat)
    case atStart => exact ⟨0, cur, Nat.zero_le _, rfl, by rw [cntTo_zero]; simp, HE, But.refl _ _⟩
    case round =>
      clear HE
      obtain ⟨i, c, hi, rfl, rfl, hE, hB⟩ := hrel
      by_cases hlt : i < n
      · obtain ⟨cc, hcell, hon⟩ := hE.out.el i hlt
        rw [mt_at] at hon
        have hrow : Hid (wr.heap[g]? = some (.cells c t (0, 0))) := hE.out.row
        have hgl : g < wr.heap.size := (Array.getElem?_eq_some_iff.1 hrow.out).1
        have HWS : Hid (∀ b, S b → b < wr.heap.size) := fun b hb => Nat.lt_of_lt_of_le (HS.out b hb) hB.out.size
        have SUB : Hid (∀ b, Ss i b → S b ∧ b ≠ g) := hE.out.sub i
        have hcs := cntTo_succ l i (by have := EN.out; omega)
        have hle := HCM.out i (by have := EN.out; omega)
        rw [← HF.out i (by have := EN.out; omega)] at hcs
        obtain ⟨a, ea⟩ : ∃ a, f i = a := ⟨_, rfl⟩
        rw [ea] at hcs hon
        rw [show Own.cnt a = 1 from rfl] at hcs
        rw [hcs, EM.out] at hle
        have HCS : Hid _ := hcs
        clear hcs
        obtain ⟨p, ep⟩ : ∃ p, cntTo l i = p := ⟨_, rfl⟩
        rw [ep] at hle HCS
        rw [ep]
        have EP : Hid (cntTo l i = p) := ep
        have EA : Hid (f i = a) := ea
        clear ep ea
        rw [width_str] at hcell
        have e0 : c[off + i]? = some (cc 0) := by simpa using hcell 0 (by omega)
        clear hcell
        have hsz : off + i < c.size := (Array.getElem?_eq_some_iff.1 e0).1
        obtain ⟨ge0, _⟩ := at_str.1 hon
        clear hon
        rw [ge0] at e0
        clear ge0
        have bt : Hid (But (fun b => b = g ∨ Ss i b) wr wr) := But.refl _ _
        go_wp2_with fail
        refine (mkTx_any _ _ (by omega) (by omega)).mono ?_
        rintro e u0 ⟨rfl, hb0⟩
        have r0 : Hid (u0.heap[g]? = some (.cells c t (0, 0))) := (hb0.block g (Nat.lt_of_lt_of_le hgl bt.out.size)).trans (hrow.out)
        have bt0 : Hid (But (fun b => b = g ∨ Ss i b) wr u0) := bt.out.trans (But.of_below hb0)
        obtain ⟨cl0, fr0⟩ := cell_row (r0.out) (off + i) (.string a) e0
        have rs0 : Hid ((u0.setCell ⟨g, off + i, none⟩ (.string (mkO (k + p)))).heap[g]? = some (.cells (c.setIfInBounds (off + i) (.string (mkO (k + p)))) t (0, 0))) := set_row (r0.out) (off + i) _
        have bs0 : Hid (But (fun b => b = g ∨ Ss i b) wr (u0.setCell ⟨g, off + i, none⟩ (.string (mkO (k + p))))) := bt0.out.set (Or.inl rfl) (off + i) _
        have EF : Hid (Els S (u0.setCell ⟨g, off + i, none⟩ (.string (mkO (k + p)))) g off Ss (c.setIfInBounds (off + i) (.string (mkO (k + p)))) t n (markedTo k l f (i + 1))) := by
          refine hE.out.step i (rs0.out) ?_ ⟨cs [.string (mkO (k + p))], ?_, ?_⟩ (fun q hq => mt_ne k l f i q hq) bs0.out HWS.out
          · intro q j hq hj
            rw [width_str] at hj ⊢
            simp only [Array.getElem?_setIfInBounds]
            repeat rw [if_neg (by omega)]
          · intro j hj
            rw [width_str] at hj ⊢
            rcases (show j = 0 by omega) with rfl
            · show ((c.setIfInBounds (off + i) (.string (mkO (k + p)))))[off + i * 1 + 0]? = some (.string (mkO (k + p)))
              simp only [Array.getElem?_setIfInBounds]
              repeat (first | rw [if_pos True.intro] | rw [if_pos (by omega)] | rw [if_neg (by omega)])
          · rw [mt_succ, EP.out, EA.out]
            exact at_str.2 ⟨rfl, Nat.le_trans (mkO_size _) (by decide)⟩
        have BF : Hid (But S w (u0.setCell ⟨g, off + i, none⟩ (.string (mkO (k + p))))) := hB.out.trans (bs0.out.up (fun b hb => by
          rcases hb with hb | hb
          · rw [hb]; exact hE.out.own
          · exact (SUB.out b hb).1))
        go_wp2_with fail
        go_roundw
        case rel => exact ⟨i + 1, _, by omega, by go_num, by rw [HCS.out]; congr 1; omega, EF.out, BF.out⟩
        case measure => simp [intOf]; omega
      · have hin : i = n := by omega
        subst hin
        have hck : cntTo l i = m := by rw [← EM.out, ← HCL.out, EN.out]
        rw [hck]
        clear hck
        go_wp2_with fail
        go_ret
        refine ⟨rfl, ?_, hB.out⟩
        have h := hE.out
        rw [← EN.out] at h ⊢
        exact OnL.of_marked h HF.out HN.out
set_option maxRecDepth 100000 in
set_option maxHeartbeats 4000000 in
theorem markShareBatchS_any (S : Nat → Prop) (l : List DShareBatch) (v : Value) (k : Int) (w : World) (h : OnL S w l v) (hS : ∀ b, S b → b < w.heap.size) (h1 : 1 ≤ k) (h2 : k + cntL l ≤ 20000000) :
    Calls Try.prog 39 #[v, .int .i64 k] w fun e w' => e = .returned (.int .i64 (k + cntL l)) ∧ OnL S w' (mkL k l) v ∧ But S w w' := by
  obtain ⟨oa, cap, rfl, hn, h⟩ := h
  rcases h with h | ⟨g, off, Ss, cur, t, rfl, f, hf, h⟩
  · subst h
    go_enter Try.func39, Try.ntmps39
    go_wp2
    go_loop [1, 5] (fun s i => i = .int .i64 0 ∧ s = .int .i64 k) (fun _ _ => 0)
    case atStart => exact ⟨rfl, rfl⟩
    case round =>
      obtain ⟨rfl, rfl⟩ := hrel
      go_wp2
      go_ret
      exact ⟨by simp [cntL, cntTo], ⟨_, cap, rfl, hn, .inl rfl⟩, But.refl _ _⟩
  · have HE : Hid (Els S w g off Ss cur t l.length (markedTo k l f 0)) := by
      show Els _ _ _ _ _ _ _ _ _
      rw [mt_zero]; exact h
    have HF : Hid (∀ i (h : i < l.length), f i = l[i]) := hf
    have HN : Hid (Fits (some ⟨g, off, none⟩) l.length cap) := hn
    replace hn : l.length ≤ maxLen := hn.1
    have HS : Hid (∀ b, S b → b < w.heap.size) := hS
    have HCL : Hid (cntTo l l.length = cntL l) := rfl
    unfold maxLen at hn
    clear h hf hS
    have HCM : Hid (∀ i, i < l.length → cntTo l (i + 1) ≤ cntL l) := cntTo_le l
    obtain ⟨n, en⟩ : ∃ n, l.length = n := ⟨_, rfl⟩
    obtain ⟨m, em⟩ : ∃ m, cntL l = m := ⟨_, rfl⟩
    rw [en] at hn HE
    rw [em] at h2
    rw [en, em]
    have EN : Hid (l.length = n) := en
    have EM : Hid (cntL l = m) := em
    clear en em
    go_enter Try.func39, Try.ntmps39
    go_wp2
    go_loopw [1, 5] (fun q i wr => ∃ (i' : Nat) (c : Array Value), i' ≤ n ∧ i = .int .i64 i' ∧ q = .int .i64 (k + cntTo l i') ∧ Hid (Els S wr g off Ss c t n (markedTo k l f i')) ∧ Hid (But S w wr)) (fun _ i _ => n - (intOf i).toNat)
    case atStart => exact ⟨0, cur, Nat.zero_le _, rfl, by rw [cntTo_zero]; simp, HE, But.refl _ _⟩
    case round =>
      clear HE
      obtain ⟨i, c, hi, rfl, rfl, hE, hB⟩ := hrel
      by_cases hlt : i < n
      · obtain ⟨cc, hcell, hon⟩ := hE.out.el i hlt
        rw [mt_at] at hon
        have hrow : Hid (wr.heap[g]? = some (.cells c t (0, 0))) := hE.out.row
        have hgl : g < wr.heap.size := (Array.getElem?_eq_some_iff.1 hrow.out).1
        have HWS : Hid (∀ b, S b → b < wr.heap.size) := fun b hb => Nat.lt_of_lt_of_le (HS.out b hb) hB.out.size
        have SUB : Hid (∀ b, Ss i b → S b ∧ b ≠ g) := hE.out.sub i
        have hcs := cntTo_succ l i (by have := EN.out; omega)
        have hle := HCM.out i (by have := EN.out; omega)
        rw [← HF.out i (by have := EN.out; omega)] at hcs
        obtain ⟨a, ea⟩ : ∃ a, f i = a := ⟨_, rfl⟩
        rw [ea] at hcs hon
        rw [cnt_DShareBatch] at hcs
        rw [hcs, EM.out] at hle
        have HCS : Hid _ := hcs
        clear hcs
        obtain ⟨p, ep⟩ : ∃ p, cntTo l i = p := ⟨_, rfl⟩
        rw [ep] at hle HCS
        rw [ep]
        have EP : Hid (cntTo l i = p) := ep
        have EA : Hid (f i = a) := ea
        clear ep ea
        rw [width_DShareBatch] at hcell
        have e0 : c[off + i * 3]? = some (cc 0) := by simpa using hcell 0 (by omega)
        have e1 : c[off + i * 3 + 1]? = some (cc 1) := by simpa using hcell 1 (by omega)
        have e2 : c[off + i * 3 + 2]? = some (cc 2) := by simpa using hcell 2 (by omega)
        clear hcell
        have hsz : off + i * 3 + 2 < c.size := (Array.getElem?_eq_some_iff.1 e2).1
        obtain ⟨A0, B0, p0, q0, ⟨ge0, _⟩, A1, B1, p1, q1, H1, H2⟩ := on_DShareBatch.1 hon
        clear hon
        rw [ge0] at e0
        obtain ⟨so1, sc1, ge1, _⟩ := id H1
        rw [ge1] at e1 H1
        obtain ⟨so2, sc2, ge2, _⟩ := id H2
        rw [ge2] at e2 H2
        clear ge0 ge1 ge2
        have N1 : Hid (∀ b, A1 b → b < wr.heap.size ∧ b ≠ g ∧ Ss i b) := fun b hb => by
          have h0 : Ss i b := (q0 b (p1 b hb).1)
          exact ⟨HWS.out b (SUB.out b h0).1, (SUB.out b h0).2, h0⟩
        have L1 : Hid (OnL A1 wr a.2.1 (.slice so1 a.2.1.length sc1)) := H1
        clear H1
        have N2 : Hid (∀ b, B1 b → b < wr.heap.size ∧ b ≠ g ∧ Ss i b) := fun b hb => by
          have h0 : Ss i b := (q0 b (q1 b hb))
          exact ⟨HWS.out b (SUB.out b h0).1, (SUB.out b h0).2, h0⟩
        have L2 : Hid (OnL B1 wr a.2.2 (.slice so2 a.2.2.length sc2)) := H2
        clear H2
        have X1_2 : Hid (∀ b, B1 b → ¬ A1 b) := fun b hb ha => (p1 b ha).2 hb
        have X2_1 : Hid (∀ b, A1 b → ¬ B1 b) := fun b hb ha => X1_2.out b ha hb
        have bt : Hid (But (fun b => b = g ∨ Ss i b) wr wr) := But.refl _ _
        go_wp2_with fail
        refine (mkTx_any _ _ (by omega) (by omega)).mono ?_
        rintro e u0 ⟨rfl, hb0⟩
        have r0 : Hid (u0.heap[g]? = some (.cells c t (0, 0))) := (hb0.block g (Nat.lt_of_lt_of_le hgl bt.out.size)).trans (hrow.out)
        have L1_0 : Hid (OnL A1 u0 (a.2.1) (.slice so1 a.2.1.length sc1)) := L1.out.same (Same.of_below hb0 (fun b hb => Nat.lt_of_lt_of_le (N1.out b hb).1 bt.out.size))
        have L2_0 : Hid (OnL B1 u0 (a.2.2) (.slice so2 a.2.2.length sc2)) := L2.out.same (Same.of_below hb0 (fun b hb => Nat.lt_of_lt_of_le (N2.out b hb).1 bt.out.size))
        have bt0 : Hid (But (fun b => b = g ∨ Ss i b) wr u0) := bt.out.trans (But.of_below hb0)
        obtain ⟨cl0, fr0⟩ := cell_row (r0.out) (off + i * 3) (.string a.1) e0
        have rs0 : Hid ((u0.setCell ⟨g, off + i * 3, none⟩ (.string (mkO (k + p)))).heap[g]? = some (.cells (c.setIfInBounds (off + i * 3) (.string (mkO (k + p)))) t (0, 0))) := set_row (r0.out) (off + i * 3) _
        have bs0 : Hid (But (fun b => b = g ∨ Ss i b) wr (u0.setCell ⟨g, off + i * 3, none⟩ (.string (mkO (k + p))))) := bt0.out.set (Or.inl rfl) (off + i * 3) _
        have M1_0 : Hid (OnL A1 (u0.setCell ⟨g, off + i * 3, none⟩ (.string (mkO (k + p)))) (a.2.1) (.slice so1 a.2.1.length sc1)) := L1_0.out.same (Same.of_set _ _ _ (fun h => (N1.out _ h).2.1 rfl))
        have M2_0 : Hid (OnL B1 (u0.setCell ⟨g, off + i * 3, none⟩ (.string (mkO (k + p)))) (a.2.2) (.slice so2 a.2.2.length sc2)) := L2_0.out.same (Same.of_set _ _ _ (fun h => (N2.out _ h).2.1 rfl))
        have cl1 := (cell_row (rs0.out) (off + i * 3 + 1) (.slice so1 a.2.1.length sc1) (by simp only [Array.getElem?_setIfInBounds]; rw [if_neg (show ¬ (off + i * 3 = off + i * 3 + 1) by omega)]; exact e1)).1
        go_wp2_with fail
        refine (markStringS_any A1 a.2.1 (.slice so1 a.2.1.length sc1) _ _ M1_0.out (fun b hb => Nat.lt_of_lt_of_le (N1.out b hb).1 bs0.out.size) (by omega) (by omega)).mono ?_
        rintro e u1 ⟨rfl, o1, hb1⟩
        have r1 : Hid (u1.heap[g]? = some (.cells (c.setIfInBounds (off + i * 3) (.string (mkO (k + p)))) t (0, 0))) := (hb1.block g (Nat.lt_of_lt_of_le hgl bs0.out.size) (fun h => (N1.out g h).2.1 rfl)).trans (rs0.out)
        have L1_1 : Hid (OnL A1 u1 (mkL (k + p + 1) a.2.1) (.slice so1 a.2.1.length sc1)) := o1
        have L2_1 : Hid (OnL B1 u1 (a.2.2) (.slice so2 a.2.2.length sc2)) := M2_0.out.same (hb1.same (fun b hb => ⟨Nat.lt_of_lt_of_le (N2.out b hb).1 bs0.out.size, X1_2.out b hb⟩))
        have bt1 : Hid (But (fun b => b = g ∨ Ss i b) wr u1) := bs0.out.trans (hb1.up (fun b hb => Or.inr (N1.out b hb).2.2))
        clear o1
        have cl2 := (cell_row (r1.out) (off + i * 3 + 2) (.slice so2 a.2.2.length sc2) (by simp only [Array.getElem?_setIfInBounds]; rw [if_neg (show ¬ (off + i * 3 = off + i * 3 + 2) by omega)]; exact e2)).1
        go_wp2_with fail
        refine (markStringS_any B1 a.2.2 (.slice so2 a.2.2.length sc2) _ _ L2_1.out (fun b hb => Nat.lt_of_lt_of_le (N2.out b hb).1 bt1.out.size) (by omega) (by omega)).mono ?_
        rintro e u2 ⟨rfl, o2, hb2⟩
        have r2 : Hid (u2.heap[g]? = some (.cells (c.setIfInBounds (off + i * 3) (.string (mkO (k + p)))) t (0, 0))) := (hb2.block g (Nat.lt_of_lt_of_le hgl bt1.out.size) (fun h => (N2.out g h).2.1 rfl)).trans (r1.out)
        have L1_2 : Hid (OnL A1 u2 (mkL (k + p + 1) a.2.1) (.slice so1 a.2.1.length sc1)) := L1_1.out.same (hb2.same (fun b hb => ⟨Nat.lt_of_lt_of_le (N1.out b hb).1 bt1.out.size, X2_1.out b hb⟩))
        have L2_2 : Hid (OnL B1 u2 (mkL (k + p + 1 + cntL a.2.1) a.2.2) (.slice so2 a.2.2.length sc2)) := o2
        have bt2 : Hid (But (fun b => b = g ∨ Ss i b) wr u2) := bt1.out.trans (hb2.up (fun b hb => Or.inr (N2.out b hb).2.2))
        clear o2
        have EF : Hid (Els S u2 g off Ss (c.setIfInBounds (off + i * 3) (.string (mkO (k + p)))) t n (markedTo k l f (i + 1))) := by
          refine hE.out.step i (r2.out) ?_ ⟨cs [.string (mkO (k + p)), .slice so1 a.2.1.length sc1, .slice so2 a.2.2.length sc2], ?_, ?_⟩ (fun q hq => mt_ne k l f i q hq) bt2.out HWS.out
          · intro q j hq hj
            rw [width_DShareBatch] at hj ⊢
            simp only [Array.getElem?_setIfInBounds]
            repeat rw [if_neg (by omega)]
          · intro j hj
            rw [width_DShareBatch] at hj ⊢
            rcases (show j = 0 ∨ j = 1 ∨ j = 2 by omega) with rfl | rfl | rfl
            · show ((c.setIfInBounds (off + i * 3) (.string (mkO (k + p)))))[off + i * 3]? = some (.string (mkO (k + p)))
              simp only [Array.getElem?_setIfInBounds]
              repeat (first | rw [if_pos True.intro] | rw [if_pos (by omega)] | rw [if_neg (by omega)])
            · show ((c.setIfInBounds (off + i * 3) (.string (mkO (k + p)))))[off + i * 3 + 1]? = some (.slice so1 a.2.1.length sc1)
              simp only [Array.getElem?_setIfInBounds]
              repeat (first | rw [if_pos True.intro] | rw [if_pos (by omega)] | rw [if_neg (by omega)])
              exact e1
            · show ((c.setIfInBounds (off + i * 3) (.string (mkO (k + p)))))[off + i * 3 + 2]? = some (.slice so2 a.2.2.length sc2)
              simp only [Array.getElem?_setIfInBounds]
              repeat (first | rw [if_pos True.intro] | rw [if_pos (by omega)] | rw [if_neg (by omega)])
              exact e2
          · rw [mt_succ, EP.out, EA.out]
            rw [mkD_DShareBatch]
            exact on_DShareBatch.2 ⟨A0, B0, p0, q0, ⟨rfl, Nat.le_trans (mkO_size _) (by decide)⟩, A1, B1, p1, q1, L1_2.out, L2_2.out⟩
        have BF : Hid (But S w u2) := hB.out.trans (bt2.out.up (fun b hb => by
          rcases hb with hb | hb
          · rw [hb]; exact hE.out.own
          · exact (SUB.out b hb).1))
        go_wp2_with fail
        go_roundw
        case rel => exact ⟨i + 1, _, by omega, by go_num, by rw [HCS.out]; congr 1; omega, EF.out, BF.out⟩
        case measure => simp [intOf]; omega
      · have hin : i = n := by omega
        subst hin
        have hck : cntTo l i = m := by rw [← EM.out, ← HCL.out, EN.out]
        rw [hck]
        clear hck
        go_wp2_with fail
        go_ret
        refine ⟨rfl, ?_, hB.out⟩
        have h := hE.out
        rw [← EN.out] at h ⊢
        exact OnL.of_marked h HF.out HN.out
set_option maxRecDepth 100000 in
set_option maxHeartbeats 4000000 in
theorem markShareBook_any (S : Nat → Prop) (a : DShareBook) (c : Nat → Value) (k : Int) (w : World) (h : Own.On S w a c) (hS : ∀ b, S b → b < w.heap.size) (h1 : 1 ≤ k) (h2 : k + Own.cnt a ≤ 20000000) :
    Calls Try.prog 21 #[.agg #[c 0, c 1], .int .i64 k] w fun e w' => e = .returned (.int .i64 (k + Own.cnt a)) ∧ Own.On S w' (Own.mkD k a) c ∧ But S w w' := by
  rw [cnt_DShareBook] at h2
  rw [cnt_DShareBook]
  obtain ⟨A0, B0, p0, q0, H0, H1⟩ := on_DShareBook.1 h
  clear h
  obtain ⟨so0, sc0, ge0, _⟩ := id H0
  rw [ge0] at H0
  obtain ⟨so1, sc1, ge1, _⟩ := id H1
  rw [ge1] at H1
  rw [ge0, ge1]
  have GE0 : Hid (c 0 = .slice so0 a.1.length sc0) := ge0
  have GE1 : Hid (c 1 = .slice so1 a.2.length sc1) := ge1
  clear ge0 ge1
  have N0 : Hid (∀ b, A0 b → b < w.heap.size ∧ S b) := fun b hb => by
    have h0 : S b := (p0 b hb).1
    exact ⟨hS b h0, h0⟩
  have N1 : Hid (∀ b, B0 b → b < w.heap.size ∧ S b) := fun b hb => by
    have h0 : S b := (q0 b hb)
    exact ⟨hS b h0, h0⟩
  have X0_1 : Hid (∀ b, B0 b → ¬ A0 b) := fun b hb ha => (p0 b ha).2 hb
  have X1_0 : Hid (∀ b, A0 b → ¬ B0 b) := fun b hb ha => X0_1.out b ha hb
  have NB : Hid (¬ S w.heap.size) := fun h => absurd (hS _ h) (Nat.lt_irrefl _)
  have b0 : Hid (But S w (w.alloc (.cells #[.slice so0 a.1.length sc0, .slice so1 a.2.length sc1] 26))) := But.of_below ((Below.refl _ _).alloc (Nat.le_refl _) _)
  have hbs : w.heap.size < (w.alloc (.cells #[.slice so0 a.1.length sc0, .slice so1 a.2.length sc1] 26)).heap.size := by simp
  have L0 : Hid (OnL A0 (w.alloc (.cells #[.slice so0 a.1.length sc0, .slice so1 a.2.length sc1] 26)) a.1 (.slice so0 a.1.length sc0)) := H0.same (Same.of_alloc _ _ (fun b hb => (N0.out b hb).1))
  clear H0
  have L1 : Hid (OnL B0 (w.alloc (.cells #[.slice so0 a.1.length sc0, .slice so1 a.2.length sc1] 26)) a.2 (.slice so1 a.2.length sc1)) := H1.same (Same.of_alloc _ _ (fun b hb => (N1.out b hb).1))
  clear H1
  clear hS
  go_enter Try.func21, Try.ntmps21
  go_wp2_with fail
  refine (markStringS_any A0 a.1 (.slice so0 a.1.length sc0) _ _ L0.out (fun b hb => Nat.lt_of_lt_of_le (N0.out b hb).1 b0.out.size) (by omega) (by omega)).mono ?_
  rintro e w1 ⟨rfl, o0, u1⟩
  have L0_0 : Hid (OnL A0 w1 (mkL (k) a.1) (.slice so0 a.1.length sc0)) := o0
  have L1_0 : Hid (OnL B0 w1 (a.2) (.slice so1 a.2.length sc1)) := L1.out.same (u1.same (fun b hb => ⟨Nat.lt_of_lt_of_le (N1.out b hb).1 b0.out.size, X0_1.out b hb⟩))
  clear o0
  have b1 : Hid (But S w w1) := b0.out.trans (u1.up (fun b hb => (N0.out b hb).2))
  have x1_1 : w1.cell? ⟨w.heap.size, 1, none⟩ = some (.slice so1 a.2.length sc1) := (World.cell?_of_block (a := ⟨w.heap.size, 1, none⟩) (u1.block w.heap.size hbs (fun h => NB.out (N0.out _ h).2))).trans (by simp)
  have s1 : w.heap.size < w1.heap.size := by have := u1.size; simp at this; omega
  go_wp2_with fail
  refine (markShareBatchS_any B0 a.2 (.slice so1 a.2.length sc1) _ _ L1_0.out (fun b hb => Nat.lt_of_lt_of_le (N1.out b hb).1 b1.out.size) (by omega) (by omega)).mono ?_
  rintro e w2 ⟨rfl, o1, u2⟩
  have L0_1 : Hid (OnL A0 w2 (mkL (k) a.1) (.slice so0 a.1.length sc0)) := L0_0.out.same (u2.same (fun b hb => ⟨Nat.lt_of_lt_of_le (N0.out b hb).1 b1.out.size, X1_0.out b hb⟩))
  have L1_1 : Hid (OnL B0 w2 (mkL (k + cntL a.1) a.2) (.slice so1 a.2.length sc1)) := o1
  clear o1
  have b2 : Hid (But S w w2) := b1.out.trans (u2.up (fun b hb => (N1.out b hb).2))
  have s2 : w.heap.size < w2.heap.size := by have := u2.size; omega
  have FIN : Hid (Own.On S w2 (Own.mkD k a) c) := by
    show Own.On _ _ _ _
    rw [mkD_DShareBook]
    refine on_DShareBook.2 ⟨A0, B0, p0, q0, ?_, ?_⟩
    · rw [GE0.out]; exact L0_1.out
    · rw [GE1.out]; exact L1_1.out
  have hx : Hid (k + cntL a.1 + cntL a.2 = k + ((cntL a.1 + (cntL a.2) : Nat) : Int)) := by show _ = _; omega
  go_wp2_with fail
  go_ret
  exact ⟨by rw [← hx.out]; rfl, FIN.out, b2.out⟩
end Go.Proofs.Ytigkkelaadbhcaa
