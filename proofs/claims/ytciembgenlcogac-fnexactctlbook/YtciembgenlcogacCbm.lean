/-
  Contracts of the laws' own marking of data that own their blocks.
-/
import Derived.Test.YtciembgenlcogacLo
import Derived.Test.YtciembgenlcogacBmg
import Derived.Test.YtciembgenlcogacVa
namespace Go.Proofs.Ytciembgenlcogac
open Go.RowKit

set_option maxRecDepth 100000 in
set_option maxHeartbeats 400000 in
theorem mkTx_any (k : Int) (w : World) (h1 : 1 ≤ k) (h2 : k ≤ 20000000) :
    Calls Try.prog 66 #[.int .i64 k] w fun e w' => e = .returned (.string (mkO k)) ∧ Below w.heap.size w w' := by
  have hd : decide (k ≤ 0) = false := by simp; omega
  have hcv := conv_one
  go_enter Try.func66, Try.ntmps66
  go_wp2
  go_loopw [0, 3] (fun i t wr => ∃ (j : Int) (u : ByteArray) (n : Nat), 0 ≤ j ∧ j ≤ 20000000 ∧ Hid (j < 10 ^ n) ∧ i = .int .i64 j ∧ t = .string u ∧ Hid (dgO n j u = dgO 20 k ⟨#[]⟩) ∧ u.size + n ≤ 20 ∧ Below w.heap.size w wr) (fun i _ _ => (intOf i).toNat)
  case atStart => exact ⟨k, _, 20, by omega, by omega, by show k < _; omega, rfl, rfl, rfl, by decide, Below.refl _ _⟩
  case round =>
    obtain ⟨j, u, n, hj1, hj2, hn, rfl, rfl, he, hu, hbel⟩ := hrel
    by_cases hp : 0 < j
    · go_wp2
      go_roundw
      case rel =>
        cases n with
        | zero => exact absurd hn.out (by simp; omega)
        | succ n =>
          refine ⟨j / 10, _, n, by omega, by omega, ?_, rfl, rfl, ?_, ?_, hbel.alloc hbel.size _⟩
          · have h := hn.out
            rw [Int.pow_succ] at h
            show j / 10 < 10 ^ n
            omega
          · show dgO n (j / 10) _ = _
            rw [← he.out, dgO, if_pos (by omega)]
          · have e1 : (⟨#[UInt8.ofNat (48 + j % 10).toNat]⟩ : ByteArray).size = 1 := rfl
            rw [ByteArray.size_append, e1]; omega
      case measure => simp [intOf]; omega
    · go_wp2
      go_ret
      refine ⟨?_, hbel⟩
      rw [mkO, ← he.out, dgO_end _ _ _ (by omega)]
      rfl

instance : Own Bool where
  On := fun S w a c => Lay.At S w a c
  cnt := fun _ => 1
  mkD := fun k _ => decide (k % 3 = 0)
  on_at := fun h => h
  on_same := fun h e => Lay.same h e
  on_up := fun h e => Lay.up h e
  on_ext := fun h e => Lay.ext h e
abbrev DClaimBookL := List DClaimFoe × List DClaimSpot × List ByteArray × List DClaimPart

section
variable {α : Type} [Own α]
theorem Els.step {S : Nat → Prop} {w U : World} {g off : Nat} {Ss : Nat → Nat → Prop} {cur cur' : Array Value} {t : TypeId} {n : Nat} {f f' : Nat → α} (h : Els S w g off Ss cur t n f) (i : Nat)
    (hrow : U.heap[g]? = some (.cells cur' t (0, 0))) (hoth : ∀ q j, q ≠ i → j < Lay.width α → cur'[off + q * Lay.width α + j]? = cur[off + q * Lay.width α + j]?)
    (hel : ∃ c : Nat → Value, (∀ j, j < Lay.width α → cur'[off + i * Lay.width α + j]? = some (c j)) ∧ Own.On (Ss i) U (f' i) c) (hF : ∀ q, q ≠ i → f' q = f q)
    (hbut : But (fun b => b = g ∨ Ss i b) w U) (hS : ∀ b, S b → b < w.heap.size) : Els S U g off Ss cur' t n f' :=
  ⟨hrow, h.own, h.sub, h.dis, fun q hq => by
    by_cases e : q = i
    · subst e; exact hel
    · obtain ⟨c, h1, h2⟩ := h.el q hq
      refine ⟨c, fun j hj => (hoth q j e hj).trans (h1 j hj), ?_⟩
      rw [hF q e]
      refine Own.on_same h2 (hbut.same (fun b hb => ⟨hS b (h.sub q b hb).1, ?_⟩))
      rintro (e' | e')
      · exact (h.sub q b hb).2 e'
      · exact e (h.dis q i b hb e')⟩
/-- The data of a list, the first i of them marked. -/
def markedTo (k : Int) (l : List α) (f : Nat → α) (i j : Nat) : α := if j < i then Own.mkD (k + cntTo l j) (f j) else f j
theorem mt_zero (k : Int) (l : List α) (f : Nat → α) : markedTo k l f 0 = f := by funext j; simp [markedTo]
theorem mt_at (k : Int) (l : List α) (f : Nat → α) (i : Nat) : markedTo k l f i i = f i := by simp [markedTo]
theorem mt_succ (k : Int) (l : List α) (f : Nat → α) (i : Nat) : markedTo k l f (i + 1) i = Own.mkD (k + cntTo l i) (f i) := by simp [markedTo]
theorem mt_ne (k : Int) (l : List α) (f : Nat → α) (i q : Nat) (h : q ≠ i) : markedTo k l f (i + 1) q = markedTo k l f i q := by
  unfold markedTo
  by_cases e : q < i
  · rw [if_pos e, if_pos (by omega)]
  · rw [if_neg e, if_neg (by omega)]
theorem OnL.of_marked {S : Nat → Prop} {U : World} {g off cap : Nat} {Ss : Nat → Nat → Prop} {cur : Array Value} {t : TypeId} {k : Int} {l : List α} {f : Nat → α} (h : Els S U g off Ss cur t l.length (markedTo k l f l.length)) (hf : ∀ i (h : i < l.length), f i = l[i]) (hn : Fits (some ⟨g, off, none⟩) l.length cap) :
    OnL S U (mkL k l) (.slice (some ⟨g, off, none⟩) l.length cap) :=
  ⟨_, cap, by rw [mkL_len], by rw [mkL_len]; exact hn, .inr ⟨g, off, Ss, cur, t, rfl, markedTo k l f l.length, fun i hi => by
    have hi' : i < l.length := by rw [mkL_len] at hi; exact hi
    rw [mkL_at k l i hi', markedTo, if_pos hi', hf i hi'], by rw [mkL_len]; exact h⟩⟩
theorem cntTo_le (l : List α) (i : Nat) (h : i < l.length) : cntTo l (i + 1) ≤ cntL l := by
  unfold cntL
  have : ∀ d, i + 1 + d ≤ l.length → cntTo l (i + 1) ≤ cntTo l (i + 1 + d) := by
    intro d
    induction d with
    | zero => intro _; exact Nat.le_refl _
    | succ d ih => intro hd; have := ih (by omega); rw [show i + 1 + (d + 1) = (i + 1 + d) + 1 by omega, cntTo_succ l (i + 1 + d) (by omega)]; omega
  have h2 := this (l.length - (i + 1)) (by omega)
  rwa [show i + 1 + (l.length - (i + 1)) = l.length by omega] at h2
end
theorem mkD_DClaimFoe (k : Int) (a : DClaimFoe) : Own.mkD k a = (mkO (k), mkO (k + 1)) := rfl
theorem cnt_DClaimFoe (a : DClaimFoe) : Own.cnt a = 1 + (1) := rfl
theorem on_DClaimFoe {S : Nat → Prop} {w : World} {a : DClaimFoe} {c : Nat → Value} : Own.On S w a c ↔ ∃ A0 B0 : Nat → Prop, (∀ b, A0 b → S b ∧ ¬ B0 b) ∧ (∀ b, B0 b → S b) ∧ (c 0 = .string a.1 ∧ a.1.size ≤ maxLen) ∧ (c 1 = .string a.2 ∧ a.2.size ≤ maxLen) := Iff.rfl
theorem mkD_DClaimSpot (k : Int) (a : DClaimSpot) : Own.mkD k a = (mkO (k), k + 1, k + 1 + 1, k + 1 + 1 + 1, mkL (k + 1 + 1 + 1 + 1) a.2.2.2.2) := rfl
theorem cnt_DClaimSpot (a : DClaimSpot) : Own.cnt a = 1 + (1 + (1 + (1 + (cntL a.2.2.2.2)))) := rfl
theorem on_DClaimSpot {S : Nat → Prop} {w : World} {a : DClaimSpot} {c : Nat → Value} : Own.On S w a c ↔ ∃ A0 B0 : Nat → Prop, (∀ b, A0 b → S b ∧ ¬ B0 b) ∧ (∀ b, B0 b → S b) ∧ (c 0 = .string a.1 ∧ a.1.size ≤ maxLen) ∧ ∃ A1 B1 : Nat → Prop, (∀ b, A1 b → B0 b ∧ ¬ B1 b) ∧ (∀ b, B1 b → B0 b) ∧ (c 1 = .int .i64 a.2.1 ∧ -9223372036854775808 ≤ a.2.1 ∧ a.2.1 ≤ 9223372036854775807) ∧ ∃ A2 B2 : Nat → Prop, (∀ b, A2 b → B1 b ∧ ¬ B2 b) ∧ (∀ b, B2 b → B1 b) ∧ (c 2 = .int .i64 a.2.2.1 ∧ -9223372036854775808 ≤ a.2.2.1 ∧ a.2.2.1 ≤ 9223372036854775807) ∧ ∃ A3 B3 : Nat → Prop, (∀ b, A3 b → B2 b ∧ ¬ B3 b) ∧ (∀ b, B3 b → B2 b) ∧ (c 3 = .int .i64 a.2.2.2.1 ∧ -9223372036854775808 ≤ a.2.2.2.1 ∧ a.2.2.2.1 ≤ 9223372036854775807) ∧ OnL B3 w a.2.2.2.2 (c 4) := Iff.rfl
theorem mkD_DClaimUse (k : Int) (a : DClaimUse) : Own.mkD k a = (mkO (k), k + 1, k + 1 + 1) := rfl
theorem cnt_DClaimUse (a : DClaimUse) : Own.cnt a = 1 + (1 + (1)) := rfl
theorem on_DClaimUse {S : Nat → Prop} {w : World} {a : DClaimUse} {c : Nat → Value} : Own.On S w a c ↔ ∃ A0 B0 : Nat → Prop, (∀ b, A0 b → S b ∧ ¬ B0 b) ∧ (∀ b, B0 b → S b) ∧ (c 0 = .string a.1 ∧ a.1.size ≤ maxLen) ∧ ∃ A1 B1 : Nat → Prop, (∀ b, A1 b → B0 b ∧ ¬ B1 b) ∧ (∀ b, B1 b → B0 b) ∧ (c 1 = .int .i64 a.2.1 ∧ -9223372036854775808 ≤ a.2.1 ∧ a.2.1 ≤ 9223372036854775807) ∧ (c 2 = .int .i64 a.2.2 ∧ -9223372036854775808 ≤ a.2.2 ∧ a.2.2 ≤ 9223372036854775807) := Iff.rfl
theorem mkD_DClaimWant (k : Int) (a : DClaimWant) : Own.mkD k a = (k, k + 1, mkL (k + 1 + 1) a.2.2.1, mkL (k + 1 + 1 + cntL a.2.2.1) a.2.2.2.1, mkL (k + 1 + 1 + cntL a.2.2.1 + cntL a.2.2.2.1) a.2.2.2.2.1, mkL (k + 1 + 1 + cntL a.2.2.1 + cntL a.2.2.2.1 + cntL a.2.2.2.2.1) a.2.2.2.2.2) := rfl
theorem cnt_DClaimWant (a : DClaimWant) : Own.cnt a = 1 + (1 + (cntL a.2.2.1 + (cntL a.2.2.2.1 + (cntL a.2.2.2.2.1 + (cntL a.2.2.2.2.2))))) := rfl
theorem on_DClaimWant {S : Nat → Prop} {w : World} {a : DClaimWant} {c : Nat → Value} : Own.On S w a c ↔ ∃ A0 B0 : Nat → Prop, (∀ b, A0 b → S b ∧ ¬ B0 b) ∧ (∀ b, B0 b → S b) ∧ (c 0 = .int .i64 a.1 ∧ -9223372036854775808 ≤ a.1 ∧ a.1 ≤ 9223372036854775807) ∧ ∃ A1 B1 : Nat → Prop, (∀ b, A1 b → B0 b ∧ ¬ B1 b) ∧ (∀ b, B1 b → B0 b) ∧ (c 1 = .int .i64 a.2.1 ∧ -9223372036854775808 ≤ a.2.1 ∧ a.2.1 ≤ 9223372036854775807) ∧ ∃ A2 B2 : Nat → Prop, (∀ b, A2 b → B1 b ∧ ¬ B2 b) ∧ (∀ b, B2 b → B1 b) ∧ OnL A2 w a.2.2.1 (c 2) ∧ ∃ A3 B3 : Nat → Prop, (∀ b, A3 b → B2 b ∧ ¬ B3 b) ∧ (∀ b, B3 b → B2 b) ∧ OnL A3 w a.2.2.2.1 (c 3) ∧ ∃ A4 B4 : Nat → Prop, (∀ b, A4 b → B3 b ∧ ¬ B4 b) ∧ (∀ b, B4 b → B3 b) ∧ OnL A4 w a.2.2.2.2.1 (c 4) ∧ OnL B4 w a.2.2.2.2.2 (c 5) := Iff.rfl
theorem mkD_DClaimPart (k : Int) (a : DClaimPart) : Own.mkD k a = (k, k + 1, mkL (k + 1 + 1) a.2.2.1, mkL (k + 1 + 1 + cntL a.2.2.1) a.2.2.2.1, mkL (k + 1 + 1 + cntL a.2.2.1 + cntL a.2.2.2.1) a.2.2.2.2.1, mkL (k + 1 + 1 + cntL a.2.2.1 + cntL a.2.2.2.1 + cntL a.2.2.2.2.1) a.2.2.2.2.2.1, decide ((k + 1 + 1 + cntL a.2.2.1 + cntL a.2.2.2.1 + cntL a.2.2.2.2.1 + cntL a.2.2.2.2.2.1) % 3 = 0)) := rfl
theorem cnt_DClaimPart (a : DClaimPart) : Own.cnt a = 1 + (1 + (cntL a.2.2.1 + (cntL a.2.2.2.1 + (cntL a.2.2.2.2.1 + (cntL a.2.2.2.2.2.1 + (1)))))) := rfl
theorem on_DClaimPart {S : Nat → Prop} {w : World} {a : DClaimPart} {c : Nat → Value} : Own.On S w a c ↔ ∃ A0 B0 : Nat → Prop, (∀ b, A0 b → S b ∧ ¬ B0 b) ∧ (∀ b, B0 b → S b) ∧ (c 0 = .int .i64 a.1 ∧ -9223372036854775808 ≤ a.1 ∧ a.1 ≤ 9223372036854775807) ∧ ∃ A1 B1 : Nat → Prop, (∀ b, A1 b → B0 b ∧ ¬ B1 b) ∧ (∀ b, B1 b → B0 b) ∧ (c 1 = .int .i64 a.2.1 ∧ -9223372036854775808 ≤ a.2.1 ∧ a.2.1 ≤ 9223372036854775807) ∧ ∃ A2 B2 : Nat → Prop, (∀ b, A2 b → B1 b ∧ ¬ B2 b) ∧ (∀ b, B2 b → B1 b) ∧ OnL A2 w a.2.2.1 (c 2) ∧ ∃ A3 B3 : Nat → Prop, (∀ b, A3 b → B2 b ∧ ¬ B3 b) ∧ (∀ b, B3 b → B2 b) ∧ OnL A3 w a.2.2.2.1 (c 3) ∧ ∃ A4 B4 : Nat → Prop, (∀ b, A4 b → B3 b ∧ ¬ B4 b) ∧ (∀ b, B4 b → B3 b) ∧ OnL A4 w a.2.2.2.2.1 (c 4) ∧ ∃ A5 B5 : Nat → Prop, (∀ b, A5 b → B4 b ∧ ¬ B5 b) ∧ (∀ b, B5 b → B4 b) ∧ OnL A5 w a.2.2.2.2.2.1 (c 5) ∧ c 6 = .bool a.2.2.2.2.2.2 := Iff.rfl
theorem mkD_DClaimBook (k : Int) (a : DClaimBook) : Own.mkD k a = (mkL (k) a.1, mkL (k + cntL a.1) a.2.1, mkL (k + cntL a.1 + cntL a.2.1) a.2.2.1, mkL (k + cntL a.1 + cntL a.2.1 + cntL a.2.2.1) a.2.2.2.1, k + cntL a.1 + cntL a.2.1 + cntL a.2.2.1 + cntL a.2.2.2.1) := rfl
theorem cnt_DClaimBook (a : DClaimBook) : Own.cnt a = cntL a.1 + (cntL a.2.1 + (cntL a.2.2.1 + (cntL a.2.2.2.1 + (1)))) := rfl
theorem on_DClaimBook {S : Nat → Prop} {w : World} {a : DClaimBook} {c : Nat → Value} : Own.On S w a c ↔ ∃ A0 B0 : Nat → Prop, (∀ b, A0 b → S b ∧ ¬ B0 b) ∧ (∀ b, B0 b → S b) ∧ OnL A0 w a.1 (c 0) ∧ ∃ A1 B1 : Nat → Prop, (∀ b, A1 b → B0 b ∧ ¬ B1 b) ∧ (∀ b, B1 b → B0 b) ∧ OnL A1 w a.2.1 (c 1) ∧ ∃ A2 B2 : Nat → Prop, (∀ b, A2 b → B1 b ∧ ¬ B2 b) ∧ (∀ b, B2 b → B1 b) ∧ OnL A2 w a.2.2.1 (c 2) ∧ ∃ A3 B3 : Nat → Prop, (∀ b, A3 b → B2 b ∧ ¬ B3 b) ∧ (∀ b, B3 b → B2 b) ∧ OnL A3 w a.2.2.2.1 (c 3) ∧ (c 4 = .int .i64 a.2.2.2.2 ∧ -9223372036854775808 ≤ a.2.2.2.2 ∧ a.2.2.2.2 ≤ 9223372036854775807) := Iff.rfl
theorem mkD_DClaimBookL (k : Int) (a : DClaimBookL) : Own.mkD k a = (mkL (k) a.1, mkL (k + cntL a.1) a.2.1, mkL (k + cntL a.1 + cntL a.2.1) a.2.2.1, mkL (k + cntL a.1 + cntL a.2.1 + cntL a.2.2.1) a.2.2.2) := rfl
theorem cnt_DClaimBookL (a : DClaimBookL) : Own.cnt a = cntL a.1 + (cntL a.2.1 + (cntL a.2.2.1 + (cntL a.2.2.2))) := rfl
theorem on_DClaimBookL {S : Nat → Prop} {w : World} {a : DClaimBookL} {c : Nat → Value} : Own.On S w a c ↔ ∃ A0 B0 : Nat → Prop, (∀ b, A0 b → S b ∧ ¬ B0 b) ∧ (∀ b, B0 b → S b) ∧ OnL A0 w a.1 (c 0) ∧ ∃ A1 B1 : Nat → Prop, (∀ b, A1 b → B0 b ∧ ¬ B1 b) ∧ (∀ b, B1 b → B0 b) ∧ OnL A1 w a.2.1 (c 1) ∧ ∃ A2 B2 : Nat → Prop, (∀ b, A2 b → B1 b ∧ ¬ B2 b) ∧ (∀ b, B2 b → B1 b) ∧ OnL A2 w a.2.2.1 (c 2) ∧ OnL B2 w a.2.2.2 (c 3) := Iff.rfl

set_option maxRecDepth 100000 in
set_option maxHeartbeats 4000000 in
theorem markStringS_any (S : Nat → Prop) (l : List ByteArray) (v : Value) (k : Int) (w : World) (h : OnL S w l v) (hS : ∀ b, S b → b < w.heap.size) (h1 : 1 ≤ k) (h2 : k + cntL l ≤ 20000000) :
    Calls Try.prog 33 #[v, .int .i64 k] w fun e w' => e = .returned (.int .i64 (k + cntL l)) ∧ OnL S w' (mkL k l) v ∧ But S w w' := by
  obtain ⟨oa, cap, rfl, hn, h⟩ := h
  rcases h with h | ⟨g, off, Ss, cur, t, rfl, f, hf, h⟩
  · subst h
    go_enter Try.func33, Try.ntmps33
    go_wp2
    go_loop [1, 5] (fun s i => i = .int .i64 0 ∧ s = .int .i64 k) (fun _ _ => 0)
    case atStart => exact ⟨rfl, rfl⟩
    case round =>
      obtain ⟨rfl, rfl⟩ := hrel
      go_wp2
      go_ret
      exact ⟨by simp [cntL, cntTo], ⟨_, cap, rfl, hn, .inl rfl⟩, But.refl _ _⟩
  · have HE : Hid (Els S w g off Ss cur t l.length (markedTo k l f 0)) := by
      show Els _ _ _ _ _ _ _ _ _
      rw [mt_zero]; exact h
    have HF : Hid (∀ i (h : i < l.length), f i = l[i]) := hf
    have HN : Hid (Fits (some ⟨g, off, none⟩) l.length cap) := hn
    replace hn : l.length ≤ maxLen := hn.1
    have HS : Hid (∀ b, S b → b < w.heap.size) := hS
    have HCL : Hid (cntTo l l.length = cntL l) := rfl
    unfold maxLen at hn
    clear h hf hS
    have HCM : Hid (∀ i, i < l.length → cntTo l (i + 1) ≤ cntL l) := cntTo_le l
    obtain ⟨n, en⟩ : ∃ n, l.length = n := ⟨_, rfl⟩
    obtain ⟨m, em⟩ : ∃ m, cntL l = m := ⟨_, rfl⟩
    rw [en] at hn HE
    rw [em] at h2
    rw [en, em]
    have EN : Hid (l.length = n) := en
    have EM : Hid (cntL l = m) := em
    clear en em
    go_enter Try.func33, Try.ntmps33
    go_wp2
    go_loopw [1, 5] (fun q i wr => ∃ (i' : Nat) (c : Array Value), i' ≤ n ∧ i = .int .i64 i' ∧ q = .int .i64 (k + cntTo l i') ∧ Hid (Els S wr g off Ss c t n (markedTo k l f i')) ∧ Hid (But S w wr)) (fun _ i _ => n - (intOf i).toNat)
    case atStart => exact ⟨0, cur, Nat.zero_le _, rfl, by rw [cntTo_zero]; simp, HE, But.refl _ _⟩
    case round =>
      clear HE
      obtain ⟨i, c, hi, rfl, rfl, hE, hB⟩ := hrel
      by_cases hlt : i < n
      · obtain ⟨cc, hcell, hon⟩ := hE.out.el i hlt
        rw [mt_at] at hon
        have hrow : Hid (wr.heap[g]? = some (.cells c t (0, 0))) := hE.out.row
        have hgl : g < wr.heap.size := (Array.getElem?_eq_some_iff.1 hrow.out).1
        have HWS : Hid (∀ b, S b → b < wr.heap.size) := fun b hb => Nat.lt_of_lt_of_le (HS.out b hb) hB.out.size
        have SUB : Hid (∀ b, Ss i b → S b ∧ b ≠ g) := hE.out.sub i
        have hcs := cntTo_succ l i (by have := EN.out; omega)
        have hle := HCM.out i (by have := EN.out; omega)
        rw [← HF.out i (by have := EN.out; omega)] at hcs
        obtain ⟨a, ea⟩ : ∃ a, f i = a := ⟨_, rfl⟩
        rw [ea] at hcs hon
        rw [show Own.cnt a = 1 from rfl] at hcs
        rw [hcs, EM.out] at hle
        have HCS : Hid _ := hcs
        clear hcs
        obtain ⟨p, ep⟩ : ∃ p, cntTo l i = p := ⟨_, rfl⟩
        rw [ep] at hle HCS
        rw [ep]
        have EP : Hid (cntTo l i = p) := ep
        have EA : Hid (f i = a) := ea
        clear ep ea
        rw [width_str] at hcell
        have e0 : c[off + i]? = some (cc 0) := by simpa using hcell 0 (by omega)
        clear hcell
        have hsz : off + i < c.size := (Array.getElem?_eq_some_iff.1 e0).1
        obtain ⟨ge0, _⟩ := at_str.1 hon
        clear hon
        rw [ge0] at e0
        clear ge0
        have bt : Hid (But (fun b => b = g ∨ Ss i b) wr wr) := But.refl _ _
        go_wp2_with fail
        refine (mkTx_any _ _ (by omega) (by omega)).mono ?_
        rintro e u0 ⟨rfl, hb0⟩
        have r0 : Hid (u0.heap[g]? = some (.cells c t (0, 0))) := (hb0.block g (Nat.lt_of_lt_of_le hgl bt.out.size)).trans (hrow.out)
        have bt0 : Hid (But (fun b => b = g ∨ Ss i b) wr u0) := bt.out.trans (But.of_below hb0)
        obtain ⟨cl0, fr0⟩ := cell_row (r0.out) (off + i) (.string a) e0
        have rs0 : Hid ((u0.setCell ⟨g, off + i, none⟩ (.string (mkO (k + p)))).heap[g]? = some (.cells (c.setIfInBounds (off + i) (.string (mkO (k + p)))) t (0, 0))) := set_row (r0.out) (off + i) _
        have bs0 : Hid (But (fun b => b = g ∨ Ss i b) wr (u0.setCell ⟨g, off + i, none⟩ (.string (mkO (k + p))))) := bt0.out.set (Or.inl rfl) (off + i) _
        have EF : Hid (Els S (u0.setCell ⟨g, off + i, none⟩ (.string (mkO (k + p)))) g off Ss (c.setIfInBounds (off + i) (.string (mkO (k + p)))) t n (markedTo k l f (i + 1))) := by
          refine hE.out.step i (rs0.out) ?_ ⟨cs [.string (mkO (k + p))], ?_, ?_⟩ (fun q hq => mt_ne k l f i q hq) bs0.out HWS.out
          · intro q j hq hj
            rw [width_str] at hj ⊢
            simp only [Array.getElem?_setIfInBounds]
            repeat rw [if_neg (by omega)]
          · intro j hj
            rw [width_str] at hj ⊢
            rcases (show j = 0 by omega) with rfl
            · show ((c.setIfInBounds (off + i) (.string (mkO (k + p)))))[off + i * 1 + 0]? = some (.string (mkO (k + p)))
              simp only [Array.getElem?_setIfInBounds]
              repeat (first | rw [if_pos True.intro] | rw [if_pos (by omega)] | rw [if_neg (by omega)])
          · rw [mt_succ, EP.out, EA.out]
            exact at_str.2 ⟨rfl, Nat.le_trans (mkO_size _) (by decide)⟩
        have BF : Hid (But S w (u0.setCell ⟨g, off + i, none⟩ (.string (mkO (k + p))))) := hB.out.trans (bs0.out.up (fun b hb => by
          rcases hb with hb | hb
          · rw [hb]; exact hE.out.own
          · exact (SUB.out b hb).1))
        go_wp2_with fail
        go_roundw
        case rel => exact ⟨i + 1, _, by omega, by go_num, by rw [HCS.out]; congr 1; omega, EF.out, BF.out⟩
        case measure => simp [intOf]; omega
      · have hin : i = n := by omega
        subst hin
        have hck : cntTo l i = m := by rw [← EM.out, ← HCL.out, EN.out]
        rw [hck]
        clear hck
        go_wp2_with fail
        go_ret
        refine ⟨rfl, ?_, hB.out⟩
        have h := hE.out
        rw [← EN.out] at h ⊢
        exact OnL.of_marked h HF.out HN.out

set_option maxRecDepth 100000 in
set_option maxHeartbeats 4000000 in
theorem markClaimUseS_any (S : Nat → Prop) (l : List DClaimUse) (v : Value) (k : Int) (w : World) (h : OnL S w l v) (hS : ∀ b, S b → b < w.heap.size) (h1 : 1 ≤ k) (h2 : k + cntL l ≤ 20000000) :
    Calls Try.prog 67 #[v, .int .i64 k] w fun e w' => e = .returned (.int .i64 (k + cntL l)) ∧ OnL S w' (mkL k l) v ∧ But S w w' := by
  obtain ⟨oa, cap, rfl, hn, h⟩ := h
  rcases h with h | ⟨g, off, Ss, cur, t, rfl, f, hf, h⟩
  · subst h
    go_enter Try.func67, Try.ntmps67
    go_wp2
    go_loop [1, 5] (fun s i => i = .int .i64 0 ∧ s = .int .i64 k) (fun _ _ => 0)
    case atStart => exact ⟨rfl, rfl⟩
    case round =>
      obtain ⟨rfl, rfl⟩ := hrel
      go_wp2
      go_ret
      exact ⟨by simp [cntL, cntTo], ⟨_, cap, rfl, hn, .inl rfl⟩, But.refl _ _⟩
  · have HE : Hid (Els S w g off Ss cur t l.length (markedTo k l f 0)) := by
      show Els _ _ _ _ _ _ _ _ _
      rw [mt_zero]; exact h
    have HF : Hid (∀ i (h : i < l.length), f i = l[i]) := hf
    have HN : Hid (Fits (some ⟨g, off, none⟩) l.length cap) := hn
    replace hn : l.length ≤ maxLen := hn.1
    have HS : Hid (∀ b, S b → b < w.heap.size) := hS
    have HCL : Hid (cntTo l l.length = cntL l) := rfl
    unfold maxLen at hn
    clear h hf hS
    have HCM : Hid (∀ i, i < l.length → cntTo l (i + 1) ≤ cntL l) := cntTo_le l
    obtain ⟨n, en⟩ : ∃ n, l.length = n := ⟨_, rfl⟩
    obtain ⟨m, em⟩ : ∃ m, cntL l = m := ⟨_, rfl⟩
    rw [en] at hn HE
    rw [em] at h2
    rw [en, em]
    have EN : Hid (l.length = n) := en
    have EM : Hid (cntL l = m) := em
    clear en em
    go_enter Try.func67, Try.ntmps67
    go_wp2
    go_loopw [1, 5] (fun q i wr => ∃ (i' : Nat) (c : Array Value), i' ≤ n ∧ i = .int .i64 i' ∧ q = .int .i64 (k + cntTo l i') ∧ Hid (Els S wr g off Ss c t n (markedTo k l f i')) ∧ Hid (But S w wr)) (fun _ i _ => n - (intOf i).toNat)
    case atStart => exact ⟨0, cur, Nat.zero_le _, rfl, by rw [cntTo_zero]; simp, HE, But.refl _ _⟩
    case round =>
      clear HE
      obtain ⟨i, c, hi, rfl, rfl, hE, hB⟩ := hrel
      by_cases hlt : i < n
      · obtain ⟨cc, hcell, hon⟩ := hE.out.el i hlt
        rw [mt_at] at hon
        have hrow : Hid (wr.heap[g]? = some (.cells c t (0, 0))) := hE.out.row
        have hgl : g < wr.heap.size := (Array.getElem?_eq_some_iff.1 hrow.out).1
        have HWS : Hid (∀ b, S b → b < wr.heap.size) := fun b hb => Nat.lt_of_lt_of_le (HS.out b hb) hB.out.size
        have SUB : Hid (∀ b, Ss i b → S b ∧ b ≠ g) := hE.out.sub i
        have hcs := cntTo_succ l i (by have := EN.out; omega)
        have hle := HCM.out i (by have := EN.out; omega)
        rw [← HF.out i (by have := EN.out; omega)] at hcs
        obtain ⟨a, ea⟩ : ∃ a, f i = a := ⟨_, rfl⟩
        rw [ea] at hcs hon
        rw [cnt_DClaimUse] at hcs
        rw [hcs, EM.out] at hle
        have HCS : Hid _ := hcs
        clear hcs
        obtain ⟨p, ep⟩ : ∃ p, cntTo l i = p := ⟨_, rfl⟩
        rw [ep] at hle HCS
        rw [ep]
        have EP : Hid (cntTo l i = p) := ep
        have EA : Hid (f i = a) := ea
        clear ep ea
        rw [width_DClaimUse] at hcell
        have e0 : c[off + i * 3]? = some (cc 0) := by simpa using hcell 0 (by omega)
        have e1 : c[off + i * 3 + 1]? = some (cc 1) := by simpa using hcell 1 (by omega)
        have e2 : c[off + i * 3 + 2]? = some (cc 2) := by simpa using hcell 2 (by omega)
        clear hcell
        have hsz : off + i * 3 + 2 < c.size := (Array.getElem?_eq_some_iff.1 e2).1
        obtain ⟨A0, B0, p0, q0, ⟨ge0, _⟩, A1, B1, p1, q1, ⟨ge1, _, _⟩, ⟨ge2, _, _⟩⟩ := on_DClaimUse.1 hon
        clear hon
        rw [ge0] at e0
        rw [ge1] at e1
        rw [ge2] at e2
        clear ge0 ge1 ge2
        have bt : Hid (But (fun b => b = g ∨ Ss i b) wr wr) := But.refl _ _
        go_wp2_with fail
        refine (mkTx_any _ _ (by omega) (by omega)).mono ?_
        rintro e u0 ⟨rfl, hb0⟩
        have r0 : Hid (u0.heap[g]? = some (.cells c t (0, 0))) := (hb0.block g (Nat.lt_of_lt_of_le hgl bt.out.size)).trans (hrow.out)
        have bt0 : Hid (But (fun b => b = g ∨ Ss i b) wr u0) := bt.out.trans (But.of_below hb0)
        obtain ⟨cl0, fr0⟩ := cell_row (r0.out) (off + i * 3) (.string a.1) e0
        have rs0 : Hid ((u0.setCell ⟨g, off + i * 3, none⟩ (.string (mkO (k + p)))).heap[g]? = some (.cells (c.setIfInBounds (off + i * 3) (.string (mkO (k + p)))) t (0, 0))) := set_row (r0.out) (off + i * 3) _
        have bs0 : Hid (But (fun b => b = g ∨ Ss i b) wr (u0.setCell ⟨g, off + i * 3, none⟩ (.string (mkO (k + p))))) := bt0.out.set (Or.inl rfl) (off + i * 3) _
        obtain ⟨cl1, fr1⟩ := cell_row (rs0.out) (off + i * 3 + 1) (.int .i64 a.2.1) (by simp only [Array.getElem?_setIfInBounds]; rw [if_neg (show ¬ (off + i * 3 = off + i * 3 + 1) by omega)]; exact e1)
        have rs1 : Hid (((u0.setCell ⟨g, off + i * 3, none⟩ (.string (mkO (k + p)))).setCell ⟨g, off + i * 3 + 1, none⟩ (.int .i64 (k + p + 1))).heap[g]? = some (.cells ((c.setIfInBounds (off + i * 3) (.string (mkO (k + p)))).setIfInBounds (off + i * 3 + 1) (.int .i64 (k + p + 1))) t (0, 0))) := set_row (rs0.out) (off + i * 3 + 1) _
        have bs1 : Hid (But (fun b => b = g ∨ Ss i b) wr ((u0.setCell ⟨g, off + i * 3, none⟩ (.string (mkO (k + p)))).setCell ⟨g, off + i * 3 + 1, none⟩ (.int .i64 (k + p + 1)))) := bs0.out.set (Or.inl rfl) (off + i * 3 + 1) _
        obtain ⟨cl2, fr2⟩ := cell_row (rs1.out) (off + i * 3 + 2) (.int .i64 a.2.2) (by simp only [Array.getElem?_setIfInBounds]; rw [if_neg (show ¬ (off + i * 3 + 1 = off + i * 3 + 2) by omega), if_neg (show ¬ (off + i * 3 = off + i * 3 + 2) by omega)]; exact e2)
        have rs2 : Hid ((((u0.setCell ⟨g, off + i * 3, none⟩ (.string (mkO (k + p)))).setCell ⟨g, off + i * 3 + 1, none⟩ (.int .i64 (k + p + 1))).setCell ⟨g, off + i * 3 + 2, none⟩ (.int .i64 (k + p + 1 + 1))).heap[g]? = some (.cells (((c.setIfInBounds (off + i * 3) (.string (mkO (k + p)))).setIfInBounds (off + i * 3 + 1) (.int .i64 (k + p + 1))).setIfInBounds (off + i * 3 + 2) (.int .i64 (k + p + 1 + 1))) t (0, 0))) := set_row (rs1.out) (off + i * 3 + 2) _
        have bs2 : Hid (But (fun b => b = g ∨ Ss i b) wr (((u0.setCell ⟨g, off + i * 3, none⟩ (.string (mkO (k + p)))).setCell ⟨g, off + i * 3 + 1, none⟩ (.int .i64 (k + p + 1))).setCell ⟨g, off + i * 3 + 2, none⟩ (.int .i64 (k + p + 1 + 1)))) := bs1.out.set (Or.inl rfl) (off + i * 3 + 2) _
        have EF : Hid (Els S (((u0.setCell ⟨g, off + i * 3, none⟩ (.string (mkO (k + p)))).setCell ⟨g, off + i * 3 + 1, none⟩ (.int .i64 (k + p + 1))).setCell ⟨g, off + i * 3 + 2, none⟩ (.int .i64 (k + p + 1 + 1))) g off Ss (((c.setIfInBounds (off + i * 3) (.string (mkO (k + p)))).setIfInBounds (off + i * 3 + 1) (.int .i64 (k + p + 1))).setIfInBounds (off + i * 3 + 2) (.int .i64 (k + p + 1 + 1))) t n (markedTo k l f (i + 1))) := by
          refine hE.out.step i (rs2.out) ?_ ⟨cs [.string (mkO (k + p)), .int .i64 (k + p + 1), .int .i64 (k + p + 1 + 1)], ?_, ?_⟩ (fun q hq => mt_ne k l f i q hq) bs2.out HWS.out
          · intro q j hq hj
            rw [width_DClaimUse] at hj ⊢
            simp only [Array.getElem?_setIfInBounds]
            repeat rw [if_neg (by omega)]
          · intro j hj
            rw [width_DClaimUse] at hj ⊢
            rcases (show j = 0 ∨ j = 1 ∨ j = 2 by omega) with rfl | rfl | rfl
            · show ((((c.setIfInBounds (off + i * 3) (.string (mkO (k + p)))).setIfInBounds (off + i * 3 + 1) (.int .i64 (k + p + 1))).setIfInBounds (off + i * 3 + 2) (.int .i64 (k + p + 1 + 1))))[off + i * 3]? = some (.string (mkO (k + p)))
              simp only [Array.getElem?_setIfInBounds, Array.size_setIfInBounds]
              repeat (first | rw [if_pos True.intro] | rw [if_pos (by omega)] | rw [if_neg (by omega)])
            · show ((((c.setIfInBounds (off + i * 3) (.string (mkO (k + p)))).setIfInBounds (off + i * 3 + 1) (.int .i64 (k + p + 1))).setIfInBounds (off + i * 3 + 2) (.int .i64 (k + p + 1 + 1))))[off + i * 3 + 1]? = some (.int .i64 (k + p + 1))
              simp only [Array.getElem?_setIfInBounds, Array.size_setIfInBounds]
              repeat (first | rw [if_pos True.intro] | rw [if_pos (by omega)] | rw [if_neg (by omega)])
            · show ((((c.setIfInBounds (off + i * 3) (.string (mkO (k + p)))).setIfInBounds (off + i * 3 + 1) (.int .i64 (k + p + 1))).setIfInBounds (off + i * 3 + 2) (.int .i64 (k + p + 1 + 1))))[off + i * 3 + 2]? = some (.int .i64 (k + p + 1 + 1))
              simp only [Array.getElem?_setIfInBounds, Array.size_setIfInBounds]
              repeat (first | rw [if_pos True.intro] | rw [if_pos (by omega)] | rw [if_neg (by omega)])
          · rw [mt_succ, EP.out, EA.out]
            rw [mkD_DClaimUse]
            exact on_DClaimUse.2 ⟨A0, B0, p0, q0, ⟨rfl, Nat.le_trans (mkO_size _) (by decide)⟩, A1, B1, p1, q1, ⟨rfl, by show (-9223372036854775808 : Int) ≤ k + p + 1; omega, by show k + p + 1 ≤ (9223372036854775807 : Int); omega⟩, ⟨rfl, by show (-9223372036854775808 : Int) ≤ k + p + 1 + 1; omega, by show k + p + 1 + 1 ≤ (9223372036854775807 : Int); omega⟩⟩
        have BF : Hid (But S w (((u0.setCell ⟨g, off + i * 3, none⟩ (.string (mkO (k + p)))).setCell ⟨g, off + i * 3 + 1, none⟩ (.int .i64 (k + p + 1))).setCell ⟨g, off + i * 3 + 2, none⟩ (.int .i64 (k + p + 1 + 1)))) := hB.out.trans (bs2.out.up (fun b hb => by
          rcases hb with hb | hb
          · rw [hb]; exact hE.out.own
          · exact (SUB.out b hb).1))
        go_wp2_with fail
        go_roundw
        case rel => exact ⟨i + 1, _, by omega, by go_num, by rw [HCS.out]; congr 1; omega, EF.out, BF.out⟩
        case measure => simp [intOf]; omega
      · have hin : i = n := by omega
        subst hin
        have hck : cntTo l i = m := by rw [← EM.out, ← HCL.out, EN.out]
        rw [hck]
        clear hck
        go_wp2_with fail
        go_ret
        refine ⟨rfl, ?_, hB.out⟩
        have h := hE.out
        rw [← EN.out] at h ⊢
        exact OnL.of_marked h HF.out HN.out

set_option maxRecDepth 100000 in
set_option maxHeartbeats 4000000 in
theorem markClaimFoeS_any (S : Nat → Prop) (l : List DClaimFoe) (v : Value) (k : Int) (w : World) (h : OnL S w l v) (hS : ∀ b, S b → b < w.heap.size) (h1 : 1 ≤ k) (h2 : k + cntL l ≤ 20000000) :
    Calls Try.prog 37 #[v, .int .i64 k] w fun e w' => e = .returned (.int .i64 (k + cntL l)) ∧ OnL S w' (mkL k l) v ∧ But S w w' := by
  obtain ⟨oa, cap, rfl, hn, h⟩ := h
  rcases h with h | ⟨g, off, Ss, cur, t, rfl, f, hf, h⟩
  · subst h
    go_enter Try.func37, Try.ntmps37
    go_wp2
    go_loop [1, 5] (fun s i => i = .int .i64 0 ∧ s = .int .i64 k) (fun _ _ => 0)
    case atStart => exact ⟨rfl, rfl⟩
    case round =>
      obtain ⟨rfl, rfl⟩ := hrel
      go_wp2
      go_ret
      exact ⟨by simp [cntL, cntTo], ⟨_, cap, rfl, hn, .inl rfl⟩, But.refl _ _⟩
  · have HE : Hid (Els S w g off Ss cur t l.length (markedTo k l f 0)) := by
      show Els _ _ _ _ _ _ _ _ _
      rw [mt_zero]; exact h
    have HF : Hid (∀ i (h : i < l.length), f i = l[i]) := hf
    have HN : Hid (Fits (some ⟨g, off, none⟩) l.length cap) := hn
    replace hn : l.length ≤ maxLen := hn.1
    have HS : Hid (∀ b, S b → b < w.heap.size) := hS
    have HCL : Hid (cntTo l l.length = cntL l) := rfl
    unfold maxLen at hn
    clear h hf hS
    have HCM : Hid (∀ i, i < l.length → cntTo l (i + 1) ≤ cntL l) := cntTo_le l
    obtain ⟨n, en⟩ : ∃ n, l.length = n := ⟨_, rfl⟩
    obtain ⟨m, em⟩ : ∃ m, cntL l = m := ⟨_, rfl⟩
    rw [en] at hn HE
    rw [em] at h2
    rw [en, em]
    have EN : Hid (l.length = n) := en
    have EM : Hid (cntL l = m) := em
    clear en em
    go_enter Try.func37, Try.ntmps37
    go_wp2
    go_loopw [1, 5] (fun q i wr => ∃ (i' : Nat) (c : Array Value), i' ≤ n ∧ i = .int .i64 i' ∧ q = .int .i64 (k + cntTo l i') ∧ Hid (Els S wr g off Ss c t n (markedTo k l f i')) ∧ Hid (But S w wr)) (fun _ i _ => n - (intOf i).toNat)
    case atStart => exact ⟨0, cur, Nat.zero_le _, rfl, by rw [cntTo_zero]; simp, HE, But.refl _ _⟩
    case round =>
      clear HE
      obtain ⟨i, c, hi, rfl, rfl, hE, hB⟩ := hrel
      by_cases hlt : i < n
      · obtain ⟨cc, hcell, hon⟩ := hE.out.el i hlt
        rw [mt_at] at hon
        have hrow : Hid (wr.heap[g]? = some (.cells c t (0, 0))) := hE.out.row
        have hgl : g < wr.heap.size := (Array.getElem?_eq_some_iff.1 hrow.out).1
        have HWS : Hid (∀ b, S b → b < wr.heap.size) := fun b hb => Nat.lt_of_lt_of_le (HS.out b hb) hB.out.size
        have SUB : Hid (∀ b, Ss i b → S b ∧ b ≠ g) := hE.out.sub i
        have hcs := cntTo_succ l i (by have := EN.out; omega)
        have hle := HCM.out i (by have := EN.out; omega)
        rw [← HF.out i (by have := EN.out; omega)] at hcs
        obtain ⟨a, ea⟩ : ∃ a, f i = a := ⟨_, rfl⟩
        rw [ea] at hcs hon
        rw [cnt_DClaimFoe] at hcs
        rw [hcs, EM.out] at hle
        have HCS : Hid _ := hcs
        clear hcs
        obtain ⟨p, ep⟩ : ∃ p, cntTo l i = p := ⟨_, rfl⟩
        rw [ep] at hle HCS
        rw [ep]
        have EP : Hid (cntTo l i = p) := ep
        have EA : Hid (f i = a) := ea
        clear ep ea
        rw [width_DClaimFoe] at hcell
        have e0 : c[off + i * 2]? = some (cc 0) := by simpa using hcell 0 (by omega)
        have e1 : c[off + i * 2 + 1]? = some (cc 1) := by simpa using hcell 1 (by omega)
        clear hcell
        have hsz : off + i * 2 + 1 < c.size := (Array.getElem?_eq_some_iff.1 e1).1
        obtain ⟨A0, B0, p0, q0, ⟨ge0, _⟩, ⟨ge1, _⟩⟩ := on_DClaimFoe.1 hon
        clear hon
        rw [ge0] at e0
        rw [ge1] at e1
        clear ge0 ge1
        have bt : Hid (But (fun b => b = g ∨ Ss i b) wr wr) := But.refl _ _
        go_wp2_with fail
        refine (mkTx_any _ _ (by omega) (by omega)).mono ?_
        rintro e u0 ⟨rfl, hb0⟩
        have r0 : Hid (u0.heap[g]? = some (.cells c t (0, 0))) := (hb0.block g (Nat.lt_of_lt_of_le hgl bt.out.size)).trans (hrow.out)
        have bt0 : Hid (But (fun b => b = g ∨ Ss i b) wr u0) := bt.out.trans (But.of_below hb0)
        obtain ⟨cl0, fr0⟩ := cell_row (r0.out) (off + i * 2) (.string a.1) e0
        have rs0 : Hid ((u0.setCell ⟨g, off + i * 2, none⟩ (.string (mkO (k + p)))).heap[g]? = some (.cells (c.setIfInBounds (off + i * 2) (.string (mkO (k + p)))) t (0, 0))) := set_row (r0.out) (off + i * 2) _
        have bs0 : Hid (But (fun b => b = g ∨ Ss i b) wr (u0.setCell ⟨g, off + i * 2, none⟩ (.string (mkO (k + p))))) := bt0.out.set (Or.inl rfl) (off + i * 2) _
        go_wp2_with fail
        refine (mkTx_any _ _ (by omega) (by omega)).mono ?_
        rintro e u1 ⟨rfl, hb1⟩
        have r1 : Hid (u1.heap[g]? = some (.cells (c.setIfInBounds (off + i * 2) (.string (mkO (k + p)))) t (0, 0))) := (hb1.block g (Nat.lt_of_lt_of_le hgl bs0.out.size)).trans (rs0.out)
        have bt1 : Hid (But (fun b => b = g ∨ Ss i b) wr u1) := bs0.out.trans (But.of_below hb1)
        obtain ⟨cl1, fr1⟩ := cell_row (r1.out) (off + i * 2 + 1) (.string a.2) (by simp only [Array.getElem?_setIfInBounds]; rw [if_neg (show ¬ (off + i * 2 = off + i * 2 + 1) by omega)]; exact e1)
        have rs1 : Hid ((u1.setCell ⟨g, off + i * 2 + 1, none⟩ (.string (mkO (k + p + 1)))).heap[g]? = some (.cells ((c.setIfInBounds (off + i * 2) (.string (mkO (k + p)))).setIfInBounds (off + i * 2 + 1) (.string (mkO (k + p + 1)))) t (0, 0))) := set_row (r1.out) (off + i * 2 + 1) _
        have bs1 : Hid (But (fun b => b = g ∨ Ss i b) wr (u1.setCell ⟨g, off + i * 2 + 1, none⟩ (.string (mkO (k + p + 1))))) := bt1.out.set (Or.inl rfl) (off + i * 2 + 1) _
        have EF : Hid (Els S (u1.setCell ⟨g, off + i * 2 + 1, none⟩ (.string (mkO (k + p + 1)))) g off Ss ((c.setIfInBounds (off + i * 2) (.string (mkO (k + p)))).setIfInBounds (off + i * 2 + 1) (.string (mkO (k + p + 1)))) t n (markedTo k l f (i + 1))) := by
          refine hE.out.step i (rs1.out) ?_ ⟨cs [.string (mkO (k + p)), .string (mkO (k + p + 1))], ?_, ?_⟩ (fun q hq => mt_ne k l f i q hq) bs1.out HWS.out
          · intro q j hq hj
            rw [width_DClaimFoe] at hj ⊢
            simp only [Array.getElem?_setIfInBounds]
            repeat rw [if_neg (by omega)]
          · intro j hj
            rw [width_DClaimFoe] at hj ⊢
            rcases (show j = 0 ∨ j = 1 by omega) with rfl | rfl
            · show (((c.setIfInBounds (off + i * 2) (.string (mkO (k + p)))).setIfInBounds (off + i * 2 + 1) (.string (mkO (k + p + 1)))))[off + i * 2]? = some (.string (mkO (k + p)))
              simp only [Array.getElem?_setIfInBounds, Array.size_setIfInBounds]
              repeat (first | rw [if_pos True.intro] | rw [if_pos (by omega)] | rw [if_neg (by omega)])
            · show (((c.setIfInBounds (off + i * 2) (.string (mkO (k + p)))).setIfInBounds (off + i * 2 + 1) (.string (mkO (k + p + 1)))))[off + i * 2 + 1]? = some (.string (mkO (k + p + 1)))
              simp only [Array.getElem?_setIfInBounds, Array.size_setIfInBounds]
              repeat (first | rw [if_pos True.intro] | rw [if_pos (by omega)] | rw [if_neg (by omega)])
          · rw [mt_succ, EP.out, EA.out]
            rw [mkD_DClaimFoe]
            exact on_DClaimFoe.2 ⟨A0, B0, p0, q0, ⟨rfl, Nat.le_trans (mkO_size _) (by decide)⟩, ⟨rfl, Nat.le_trans (mkO_size _) (by decide)⟩⟩
        have BF : Hid (But S w (u1.setCell ⟨g, off + i * 2 + 1, none⟩ (.string (mkO (k + p + 1))))) := hB.out.trans (bs1.out.up (fun b hb => by
          rcases hb with hb | hb
          · rw [hb]; exact hE.out.own
          · exact (SUB.out b hb).1))
        go_wp2_with fail
        go_roundw
        case rel => exact ⟨i + 1, _, by omega, by go_num, by rw [HCS.out]; congr 1; omega, EF.out, BF.out⟩
        case measure => simp [intOf]; omega
      · have hin : i = n := by omega
        subst hin
        have hck : cntTo l i = m := by rw [← EM.out, ← HCL.out, EN.out]
        rw [hck]
        clear hck
        go_wp2_with fail
        go_ret
        refine ⟨rfl, ?_, hB.out⟩
        have h := hE.out
        rw [← EN.out] at h ⊢
        exact OnL.of_marked h HF.out HN.out

set_option maxRecDepth 100000 in
set_option maxHeartbeats 4000000 in
theorem markClaimSpotS_any (S : Nat → Prop) (l : List DClaimSpot) (v : Value) (k : Int) (w : World) (h : OnL S w l v) (hS : ∀ b, S b → b < w.heap.size) (h1 : 1 ≤ k) (h2 : k + cntL l ≤ 20000000) :
    Calls Try.prog 38 #[v, .int .i64 k] w fun e w' => e = .returned (.int .i64 (k + cntL l)) ∧ OnL S w' (mkL k l) v ∧ But S w w' := by
  obtain ⟨oa, cap, rfl, hn, h⟩ := h
  rcases h with h | ⟨g, off, Ss, cur, t, rfl, f, hf, h⟩
  · subst h
    go_enter Try.func38, Try.ntmps38
    go_wp2
    go_loop [1, 5] (fun s i => i = .int .i64 0 ∧ s = .int .i64 k) (fun _ _ => 0)
    case atStart => exact ⟨rfl, rfl⟩
    case round =>
      obtain ⟨rfl, rfl⟩ := hrel
      go_wp2
      go_ret
      exact ⟨by simp [cntL, cntTo], ⟨_, cap, rfl, hn, .inl rfl⟩, But.refl _ _⟩
  · have HE : Hid (Els S w g off Ss cur t l.length (markedTo k l f 0)) := by
      show Els _ _ _ _ _ _ _ _ _
      rw [mt_zero]; exact h
    have HF : Hid (∀ i (h : i < l.length), f i = l[i]) := hf
    have HN : Hid (Fits (some ⟨g, off, none⟩) l.length cap) := hn
    replace hn : l.length ≤ maxLen := hn.1
    have HS : Hid (∀ b, S b → b < w.heap.size) := hS
    have HCL : Hid (cntTo l l.length = cntL l) := rfl
    unfold maxLen at hn
    clear h hf hS
    have HCM : Hid (∀ i, i < l.length → cntTo l (i + 1) ≤ cntL l) := cntTo_le l
    obtain ⟨n, en⟩ : ∃ n, l.length = n := ⟨_, rfl⟩
    obtain ⟨m, em⟩ : ∃ m, cntL l = m := ⟨_, rfl⟩
    rw [en] at hn HE
    rw [em] at h2
    rw [en, em]
    have EN : Hid (l.length = n) := en
    have EM : Hid (cntL l = m) := em
    clear en em
    go_enter Try.func38, Try.ntmps38
    go_wp2
    go_loopw [1, 5] (fun q i wr => ∃ (i' : Nat) (c : Array Value), i' ≤ n ∧ i = .int .i64 i' ∧ q = .int .i64 (k + cntTo l i') ∧ Hid (Els S wr g off Ss c t n (markedTo k l f i')) ∧ Hid (But S w wr)) (fun _ i _ => n - (intOf i).toNat)
    case atStart => exact ⟨0, cur, Nat.zero_le _, rfl, by rw [cntTo_zero]; simp, HE, But.refl _ _⟩
    case round =>
      clear HE
      obtain ⟨i, c, hi, rfl, rfl, hE, hB⟩ := hrel
      by_cases hlt : i < n
      · obtain ⟨cc, hcell, hon⟩ := hE.out.el i hlt
        rw [mt_at] at hon
        have hrow : Hid (wr.heap[g]? = some (.cells c t (0, 0))) := hE.out.row
        have hgl : g < wr.heap.size := (Array.getElem?_eq_some_iff.1 hrow.out).1
        have HWS : Hid (∀ b, S b → b < wr.heap.size) := fun b hb => Nat.lt_of_lt_of_le (HS.out b hb) hB.out.size
        have SUB : Hid (∀ b, Ss i b → S b ∧ b ≠ g) := hE.out.sub i
        have hcs := cntTo_succ l i (by have := EN.out; omega)
        have hle := HCM.out i (by have := EN.out; omega)
        rw [← HF.out i (by have := EN.out; omega)] at hcs
        obtain ⟨a, ea⟩ : ∃ a, f i = a := ⟨_, rfl⟩
        rw [ea] at hcs hon
        rw [cnt_DClaimSpot] at hcs
        rw [hcs, EM.out] at hle
        have HCS : Hid _ := hcs
        clear hcs
        obtain ⟨p, ep⟩ : ∃ p, cntTo l i = p := ⟨_, rfl⟩
        rw [ep] at hle HCS
        rw [ep]
        have EP : Hid (cntTo l i = p) := ep
        have EA : Hid (f i = a) := ea
        clear ep ea
        rw [width_DClaimSpot] at hcell
        have e0 : c[off + i * 5]? = some (cc 0) := by simpa using hcell 0 (by omega)
        have e1 : c[off + i * 5 + 1]? = some (cc 1) := by simpa using hcell 1 (by omega)
        have e2 : c[off + i * 5 + 2]? = some (cc 2) := by simpa using hcell 2 (by omega)
        have e3 : c[off + i * 5 + 3]? = some (cc 3) := by simpa using hcell 3 (by omega)
        have e4 : c[off + i * 5 + 4]? = some (cc 4) := by simpa using hcell 4 (by omega)
        clear hcell
        have hsz : off + i * 5 + 4 < c.size := (Array.getElem?_eq_some_iff.1 e4).1
        obtain ⟨A0, B0, p0, q0, ⟨ge0, _⟩, A1, B1, p1, q1, ⟨ge1, _, _⟩, A2, B2, p2, q2, ⟨ge2, _, _⟩, A3, B3, p3, q3, ⟨ge3, _, _⟩, H4⟩ := on_DClaimSpot.1 hon
        clear hon
        rw [ge0] at e0
        rw [ge1] at e1
        rw [ge2] at e2
        rw [ge3] at e3
        obtain ⟨so4, sc4, ge4, _⟩ := id H4
        rw [ge4] at e4 H4
        clear ge0 ge1 ge2 ge3 ge4
        have N4 : Hid (∀ b, B3 b → b < wr.heap.size ∧ b ≠ g ∧ Ss i b) := fun b hb => by
          have h0 : Ss i b := (q0 b (q1 b (q2 b (q3 b hb))))
          exact ⟨HWS.out b (SUB.out b h0).1, (SUB.out b h0).2, h0⟩
        have L4 : Hid (OnL B3 wr a.2.2.2.2 (.slice so4 a.2.2.2.2.length sc4)) := H4
        clear H4
        have bt : Hid (But (fun b => b = g ∨ Ss i b) wr wr) := But.refl _ _
        go_wp2_with fail
        refine (mkTx_any _ _ (by omega) (by omega)).mono ?_
        rintro e u0 ⟨rfl, hb0⟩
        have r0 : Hid (u0.heap[g]? = some (.cells c t (0, 0))) := (hb0.block g (Nat.lt_of_lt_of_le hgl bt.out.size)).trans (hrow.out)
        have L4_0 : Hid (OnL B3 u0 (a.2.2.2.2) (.slice so4 a.2.2.2.2.length sc4)) := L4.out.same (Same.of_below hb0 (fun b hb => Nat.lt_of_lt_of_le (N4.out b hb).1 bt.out.size))
        have bt0 : Hid (But (fun b => b = g ∨ Ss i b) wr u0) := bt.out.trans (But.of_below hb0)
        obtain ⟨cl0, fr0⟩ := cell_row (r0.out) (off + i * 5) (.string a.1) e0
        have rs0 : Hid ((u0.setCell ⟨g, off + i * 5, none⟩ (.string (mkO (k + p)))).heap[g]? = some (.cells (c.setIfInBounds (off + i * 5) (.string (mkO (k + p)))) t (0, 0))) := set_row (r0.out) (off + i * 5) _
        have bs0 : Hid (But (fun b => b = g ∨ Ss i b) wr (u0.setCell ⟨g, off + i * 5, none⟩ (.string (mkO (k + p))))) := bt0.out.set (Or.inl rfl) (off + i * 5) _
        have M4_0 : Hid (OnL B3 (u0.setCell ⟨g, off + i * 5, none⟩ (.string (mkO (k + p)))) (a.2.2.2.2) (.slice so4 a.2.2.2.2.length sc4)) := L4_0.out.same (Same.of_set _ _ _ (fun h => (N4.out _ h).2.1 rfl))
        obtain ⟨cl1, fr1⟩ := cell_row (rs0.out) (off + i * 5 + 1) (.int .i64 a.2.1) (by simp only [Array.getElem?_setIfInBounds]; rw [if_neg (show ¬ (off + i * 5 = off + i * 5 + 1) by omega)]; exact e1)
        have rs1 : Hid (((u0.setCell ⟨g, off + i * 5, none⟩ (.string (mkO (k + p)))).setCell ⟨g, off + i * 5 + 1, none⟩ (.int .i64 (k + p + 1))).heap[g]? = some (.cells ((c.setIfInBounds (off + i * 5) (.string (mkO (k + p)))).setIfInBounds (off + i * 5 + 1) (.int .i64 (k + p + 1))) t (0, 0))) := set_row (rs0.out) (off + i * 5 + 1) _
        have bs1 : Hid (But (fun b => b = g ∨ Ss i b) wr ((u0.setCell ⟨g, off + i * 5, none⟩ (.string (mkO (k + p)))).setCell ⟨g, off + i * 5 + 1, none⟩ (.int .i64 (k + p + 1)))) := bs0.out.set (Or.inl rfl) (off + i * 5 + 1) _
        have M4_1 : Hid (OnL B3 ((u0.setCell ⟨g, off + i * 5, none⟩ (.string (mkO (k + p)))).setCell ⟨g, off + i * 5 + 1, none⟩ (.int .i64 (k + p + 1))) (a.2.2.2.2) (.slice so4 a.2.2.2.2.length sc4)) := M4_0.out.same (Same.of_set _ _ _ (fun h => (N4.out _ h).2.1 rfl))
        obtain ⟨cl2, fr2⟩ := cell_row (rs1.out) (off + i * 5 + 2) (.int .i64 a.2.2.1) (by simp only [Array.getElem?_setIfInBounds]; rw [if_neg (show ¬ (off + i * 5 + 1 = off + i * 5 + 2) by omega), if_neg (show ¬ (off + i * 5 = off + i * 5 + 2) by omega)]; exact e2)
        have rs2 : Hid ((((u0.setCell ⟨g, off + i * 5, none⟩ (.string (mkO (k + p)))).setCell ⟨g, off + i * 5 + 1, none⟩ (.int .i64 (k + p + 1))).setCell ⟨g, off + i * 5 + 2, none⟩ (.int .i64 (k + p + 1 + 1))).heap[g]? = some (.cells (((c.setIfInBounds (off + i * 5) (.string (mkO (k + p)))).setIfInBounds (off + i * 5 + 1) (.int .i64 (k + p + 1))).setIfInBounds (off + i * 5 + 2) (.int .i64 (k + p + 1 + 1))) t (0, 0))) := set_row (rs1.out) (off + i * 5 + 2) _
        have bs2 : Hid (But (fun b => b = g ∨ Ss i b) wr (((u0.setCell ⟨g, off + i * 5, none⟩ (.string (mkO (k + p)))).setCell ⟨g, off + i * 5 + 1, none⟩ (.int .i64 (k + p + 1))).setCell ⟨g, off + i * 5 + 2, none⟩ (.int .i64 (k + p + 1 + 1)))) := bs1.out.set (Or.inl rfl) (off + i * 5 + 2) _
        have M4_2 : Hid (OnL B3 (((u0.setCell ⟨g, off + i * 5, none⟩ (.string (mkO (k + p)))).setCell ⟨g, off + i * 5 + 1, none⟩ (.int .i64 (k + p + 1))).setCell ⟨g, off + i * 5 + 2, none⟩ (.int .i64 (k + p + 1 + 1))) (a.2.2.2.2) (.slice so4 a.2.2.2.2.length sc4)) := M4_1.out.same (Same.of_set _ _ _ (fun h => (N4.out _ h).2.1 rfl))
        obtain ⟨cl3, fr3⟩ := cell_row (rs2.out) (off + i * 5 + 3) (.int .i64 a.2.2.2.1) (by simp only [Array.getElem?_setIfInBounds]; rw [if_neg (show ¬ (off + i * 5 + 2 = off + i * 5 + 3) by omega), if_neg (show ¬ (off + i * 5 + 1 = off + i * 5 + 3) by omega), if_neg (show ¬ (off + i * 5 = off + i * 5 + 3) by omega)]; exact e3)
        have rs3 : Hid (((((u0.setCell ⟨g, off + i * 5, none⟩ (.string (mkO (k + p)))).setCell ⟨g, off + i * 5 + 1, none⟩ (.int .i64 (k + p + 1))).setCell ⟨g, off + i * 5 + 2, none⟩ (.int .i64 (k + p + 1 + 1))).setCell ⟨g, off + i * 5 + 3, none⟩ (.int .i64 (k + p + 1 + 1 + 1))).heap[g]? = some (.cells ((((c.setIfInBounds (off + i * 5) (.string (mkO (k + p)))).setIfInBounds (off + i * 5 + 1) (.int .i64 (k + p + 1))).setIfInBounds (off + i * 5 + 2) (.int .i64 (k + p + 1 + 1))).setIfInBounds (off + i * 5 + 3) (.int .i64 (k + p + 1 + 1 + 1))) t (0, 0))) := set_row (rs2.out) (off + i * 5 + 3) _
        have bs3 : Hid (But (fun b => b = g ∨ Ss i b) wr ((((u0.setCell ⟨g, off + i * 5, none⟩ (.string (mkO (k + p)))).setCell ⟨g, off + i * 5 + 1, none⟩ (.int .i64 (k + p + 1))).setCell ⟨g, off + i * 5 + 2, none⟩ (.int .i64 (k + p + 1 + 1))).setCell ⟨g, off + i * 5 + 3, none⟩ (.int .i64 (k + p + 1 + 1 + 1)))) := bs2.out.set (Or.inl rfl) (off + i * 5 + 3) _
        have M4_3 : Hid (OnL B3 ((((u0.setCell ⟨g, off + i * 5, none⟩ (.string (mkO (k + p)))).setCell ⟨g, off + i * 5 + 1, none⟩ (.int .i64 (k + p + 1))).setCell ⟨g, off + i * 5 + 2, none⟩ (.int .i64 (k + p + 1 + 1))).setCell ⟨g, off + i * 5 + 3, none⟩ (.int .i64 (k + p + 1 + 1 + 1))) (a.2.2.2.2) (.slice so4 a.2.2.2.2.length sc4)) := M4_2.out.same (Same.of_set _ _ _ (fun h => (N4.out _ h).2.1 rfl))
        have cl4 := (cell_row (rs3.out) (off + i * 5 + 4) (.slice so4 a.2.2.2.2.length sc4) (by simp only [Array.getElem?_setIfInBounds]; rw [if_neg (show ¬ (off + i * 5 + 3 = off + i * 5 + 4) by omega), if_neg (show ¬ (off + i * 5 + 2 = off + i * 5 + 4) by omega), if_neg (show ¬ (off + i * 5 + 1 = off + i * 5 + 4) by omega), if_neg (show ¬ (off + i * 5 = off + i * 5 + 4) by omega)]; exact e4)).1
        go_wp2_with fail
        refine (markStringS_any B3 a.2.2.2.2 (.slice so4 a.2.2.2.2.length sc4) _ _ M4_3.out (fun b hb => Nat.lt_of_lt_of_le (N4.out b hb).1 bs3.out.size) (by omega) (by omega)).mono ?_
        rintro e u1 ⟨rfl, o4, hb1⟩
        have r1 : Hid (u1.heap[g]? = some (.cells ((((c.setIfInBounds (off + i * 5) (.string (mkO (k + p)))).setIfInBounds (off + i * 5 + 1) (.int .i64 (k + p + 1))).setIfInBounds (off + i * 5 + 2) (.int .i64 (k + p + 1 + 1))).setIfInBounds (off + i * 5 + 3) (.int .i64 (k + p + 1 + 1 + 1))) t (0, 0))) := (hb1.block g (Nat.lt_of_lt_of_le hgl bs3.out.size) (fun h => (N4.out g h).2.1 rfl)).trans (rs3.out)
        have L4_1 : Hid (OnL B3 u1 (mkL (k + p + 1 + 1 + 1 + 1) a.2.2.2.2) (.slice so4 a.2.2.2.2.length sc4)) := o4
        have bt1 : Hid (But (fun b => b = g ∨ Ss i b) wr u1) := bs3.out.trans (hb1.up (fun b hb => Or.inr (N4.out b hb).2.2))
        clear o4
        have EF : Hid (Els S u1 g off Ss ((((c.setIfInBounds (off + i * 5) (.string (mkO (k + p)))).setIfInBounds (off + i * 5 + 1) (.int .i64 (k + p + 1))).setIfInBounds (off + i * 5 + 2) (.int .i64 (k + p + 1 + 1))).setIfInBounds (off + i * 5 + 3) (.int .i64 (k + p + 1 + 1 + 1))) t n (markedTo k l f (i + 1))) := by
          refine hE.out.step i (r1.out) ?_ ⟨cs [.string (mkO (k + p)), .int .i64 (k + p + 1), .int .i64 (k + p + 1 + 1), .int .i64 (k + p + 1 + 1 + 1), .slice so4 a.2.2.2.2.length sc4], ?_, ?_⟩ (fun q hq => mt_ne k l f i q hq) bt1.out HWS.out
          · intro q j hq hj
            rw [width_DClaimSpot] at hj ⊢
            simp only [Array.getElem?_setIfInBounds]
            repeat rw [if_neg (by omega)]
          · intro j hj
            rw [width_DClaimSpot] at hj ⊢
            rcases (show j = 0 ∨ j = 1 ∨ j = 2 ∨ j = 3 ∨ j = 4 by omega) with rfl | rfl | rfl | rfl | rfl
            · show (((((c.setIfInBounds (off + i * 5) (.string (mkO (k + p)))).setIfInBounds (off + i * 5 + 1) (.int .i64 (k + p + 1))).setIfInBounds (off + i * 5 + 2) (.int .i64 (k + p + 1 + 1))).setIfInBounds (off + i * 5 + 3) (.int .i64 (k + p + 1 + 1 + 1))))[off + i * 5]? = some (.string (mkO (k + p)))
              simp only [Array.getElem?_setIfInBounds, Array.size_setIfInBounds]
              repeat (first | rw [if_pos True.intro] | rw [if_pos (by omega)] | rw [if_neg (by omega)])
            · show (((((c.setIfInBounds (off + i * 5) (.string (mkO (k + p)))).setIfInBounds (off + i * 5 + 1) (.int .i64 (k + p + 1))).setIfInBounds (off + i * 5 + 2) (.int .i64 (k + p + 1 + 1))).setIfInBounds (off + i * 5 + 3) (.int .i64 (k + p + 1 + 1 + 1))))[off + i * 5 + 1]? = some (.int .i64 (k + p + 1))
              simp only [Array.getElem?_setIfInBounds, Array.size_setIfInBounds]
              repeat (first | rw [if_pos True.intro] | rw [if_pos (by omega)] | rw [if_neg (by omega)])
            · show (((((c.setIfInBounds (off + i * 5) (.string (mkO (k + p)))).setIfInBounds (off + i * 5 + 1) (.int .i64 (k + p + 1))).setIfInBounds (off + i * 5 + 2) (.int .i64 (k + p + 1 + 1))).setIfInBounds (off + i * 5 + 3) (.int .i64 (k + p + 1 + 1 + 1))))[off + i * 5 + 2]? = some (.int .i64 (k + p + 1 + 1))
              simp only [Array.getElem?_setIfInBounds, Array.size_setIfInBounds]
              repeat (first | rw [if_pos True.intro] | rw [if_pos (by omega)] | rw [if_neg (by omega)])
            · show (((((c.setIfInBounds (off + i * 5) (.string (mkO (k + p)))).setIfInBounds (off + i * 5 + 1) (.int .i64 (k + p + 1))).setIfInBounds (off + i * 5 + 2) (.int .i64 (k + p + 1 + 1))).setIfInBounds (off + i * 5 + 3) (.int .i64 (k + p + 1 + 1 + 1))))[off + i * 5 + 3]? = some (.int .i64 (k + p + 1 + 1 + 1))
              simp only [Array.getElem?_setIfInBounds, Array.size_setIfInBounds]
              repeat (first | rw [if_pos True.intro] | rw [if_pos (by omega)] | rw [if_neg (by omega)])
            · show (((((c.setIfInBounds (off + i * 5) (.string (mkO (k + p)))).setIfInBounds (off + i * 5 + 1) (.int .i64 (k + p + 1))).setIfInBounds (off + i * 5 + 2) (.int .i64 (k + p + 1 + 1))).setIfInBounds (off + i * 5 + 3) (.int .i64 (k + p + 1 + 1 + 1))))[off + i * 5 + 4]? = some (.slice so4 a.2.2.2.2.length sc4)
              simp only [Array.getElem?_setIfInBounds, Array.size_setIfInBounds]
              repeat (first | rw [if_pos True.intro] | rw [if_pos (by omega)] | rw [if_neg (by omega)])
              exact e4
          · rw [mt_succ, EP.out, EA.out]
            rw [mkD_DClaimSpot]
            exact on_DClaimSpot.2 ⟨A0, B0, p0, q0, ⟨rfl, Nat.le_trans (mkO_size _) (by decide)⟩, A1, B1, p1, q1, ⟨rfl, by show (-9223372036854775808 : Int) ≤ k + p + 1; omega, by show k + p + 1 ≤ (9223372036854775807 : Int); omega⟩, A2, B2, p2, q2, ⟨rfl, by show (-9223372036854775808 : Int) ≤ k + p + 1 + 1; omega, by show k + p + 1 + 1 ≤ (9223372036854775807 : Int); omega⟩, A3, B3, p3, q3, ⟨rfl, by show (-9223372036854775808 : Int) ≤ k + p + 1 + 1 + 1; omega, by show k + p + 1 + 1 + 1 ≤ (9223372036854775807 : Int); omega⟩, L4_1.out⟩
        have BF : Hid (But S w u1) := hB.out.trans (bt1.out.up (fun b hb => by
          rcases hb with hb | hb
          · rw [hb]; exact hE.out.own
          · exact (SUB.out b hb).1))
        go_wp2_with fail
        go_roundw
        case rel => exact ⟨i + 1, _, by omega, by go_num, by rw [HCS.out]; congr 1; omega, EF.out, BF.out⟩
        case measure => simp [intOf]; omega
      · have hin : i = n := by omega
        subst hin
        have hck : cntTo l i = m := by rw [← EM.out, ← HCL.out, EN.out]
        rw [hck]
        clear hck
        go_wp2_with fail
        go_ret
        refine ⟨rfl, ?_, hB.out⟩
        have h := hE.out
        rw [← EN.out] at h ⊢
        exact OnL.of_marked h HF.out HN.out

set_option maxRecDepth 100000 in
set_option maxHeartbeats 4000000 in
theorem markClaimPartS_any (S : Nat → Prop) (l : List DClaimPart) (v : Value) (k : Int) (w : World) (h : OnL S w l v) (hS : ∀ b, S b → b < w.heap.size) (h1 : 1 ≤ k) (h2 : k + cntL l ≤ 20000000) :
    Calls Try.prog 39 #[v, .int .i64 k] w fun e w' => e = .returned (.int .i64 (k + cntL l)) ∧ OnL S w' (mkL k l) v ∧ But S w w' := by
  obtain ⟨oa, cap, rfl, hn, h⟩ := h
  rcases h with h | ⟨g, off, Ss, cur, t, rfl, f, hf, h⟩
  · subst h
    go_enter Try.func39, Try.ntmps39
    go_wp2
    go_loop [1, 5] (fun s i => i = .int .i64 0 ∧ s = .int .i64 k) (fun _ _ => 0)
    case atStart => exact ⟨rfl, rfl⟩
    case round =>
      obtain ⟨rfl, rfl⟩ := hrel
      go_wp2
      go_ret
      exact ⟨by simp [cntL, cntTo], ⟨_, cap, rfl, hn, .inl rfl⟩, But.refl _ _⟩
  · have HE : Hid (Els S w g off Ss cur t l.length (markedTo k l f 0)) := by
      show Els _ _ _ _ _ _ _ _ _
      rw [mt_zero]; exact h
    have HF : Hid (∀ i (h : i < l.length), f i = l[i]) := hf
    have HN : Hid (Fits (some ⟨g, off, none⟩) l.length cap) := hn
    replace hn : l.length ≤ maxLen := hn.1
    have HS : Hid (∀ b, S b → b < w.heap.size) := hS
    have HCL : Hid (cntTo l l.length = cntL l) := rfl
    unfold maxLen at hn
    clear h hf hS
    have HCM : Hid (∀ i, i < l.length → cntTo l (i + 1) ≤ cntL l) := cntTo_le l
    obtain ⟨n, en⟩ : ∃ n, l.length = n := ⟨_, rfl⟩
    obtain ⟨m, em⟩ : ∃ m, cntL l = m := ⟨_, rfl⟩
    rw [en] at hn HE
    rw [em] at h2
    rw [en, em]
    have EN : Hid (l.length = n) := en
    have EM : Hid (cntL l = m) := em
    clear en em
    go_enter Try.func39, Try.ntmps39
    go_wp2
    go_loopw [1, 5] (fun q i wr => ∃ (i' : Nat) (c : Array Value), i' ≤ n ∧ i = .int .i64 i' ∧ q = .int .i64 (k + cntTo l i') ∧ Hid (Els S wr g off Ss c t n (markedTo k l f i')) ∧ Hid (But S w wr)) (fun _ i _ => n - (intOf i).toNat)
    case atStart => exact ⟨0, cur, Nat.zero_le _, rfl, by rw [cntTo_zero]; simp, HE, But.refl _ _⟩
    case round =>
      clear HE
      obtain ⟨i, c, hi, rfl, rfl, hE, hB⟩ := hrel
      by_cases hlt : i < n
      · obtain ⟨cc, hcell, hon⟩ := hE.out.el i hlt
        rw [mt_at] at hon
        have hrow : Hid (wr.heap[g]? = some (.cells c t (0, 0))) := hE.out.row
        have hgl : g < wr.heap.size := (Array.getElem?_eq_some_iff.1 hrow.out).1
        have HWS : Hid (∀ b, S b → b < wr.heap.size) := fun b hb => Nat.lt_of_lt_of_le (HS.out b hb) hB.out.size
        have SUB : Hid (∀ b, Ss i b → S b ∧ b ≠ g) := hE.out.sub i
        have hcs := cntTo_succ l i (by have := EN.out; omega)
        have hle := HCM.out i (by have := EN.out; omega)
        rw [← HF.out i (by have := EN.out; omega)] at hcs
        obtain ⟨a, ea⟩ : ∃ a, f i = a := ⟨_, rfl⟩
        rw [ea] at hcs hon
        rw [cnt_DClaimPart] at hcs
        rw [hcs, EM.out] at hle
        have HCS : Hid _ := hcs
        clear hcs
        obtain ⟨p, ep⟩ : ∃ p, cntTo l i = p := ⟨_, rfl⟩
        rw [ep] at hle HCS
        rw [ep]
        have EP : Hid (cntTo l i = p) := ep
        have EA : Hid (f i = a) := ea
        clear ep ea
        rw [width_DClaimPart] at hcell
        have e0 : c[off + i * 7]? = some (cc 0) := by simpa using hcell 0 (by omega)
        have e1 : c[off + i * 7 + 1]? = some (cc 1) := by simpa using hcell 1 (by omega)
        have e2 : c[off + i * 7 + 2]? = some (cc 2) := by simpa using hcell 2 (by omega)
        have e3 : c[off + i * 7 + 3]? = some (cc 3) := by simpa using hcell 3 (by omega)
        have e4 : c[off + i * 7 + 4]? = some (cc 4) := by simpa using hcell 4 (by omega)
        have e5 : c[off + i * 7 + 5]? = some (cc 5) := by simpa using hcell 5 (by omega)
        have e6 : c[off + i * 7 + 6]? = some (cc 6) := by simpa using hcell 6 (by omega)
        clear hcell
        have hsz : off + i * 7 + 6 < c.size := (Array.getElem?_eq_some_iff.1 e6).1
        obtain ⟨A0, B0, p0, q0, ⟨ge0, _, _⟩, A1, B1, p1, q1, ⟨ge1, _, _⟩, A2, B2, p2, q2, H2, A3, B3, p3, q3, H3, A4, B4, p4, q4, H4, A5, B5, p5, q5, H5, ge6⟩ := on_DClaimPart.1 hon
        clear hon
        rw [ge0] at e0
        rw [ge1] at e1
        obtain ⟨so2, sc2, ge2, _⟩ := id H2
        rw [ge2] at e2 H2
        obtain ⟨so3, sc3, ge3, _⟩ := id H3
        rw [ge3] at e3 H3
        obtain ⟨so4, sc4, ge4, _⟩ := id H4
        rw [ge4] at e4 H4
        obtain ⟨so5, sc5, ge5, _⟩ := id H5
        rw [ge5] at e5 H5
        rw [ge6] at e6
        clear ge0 ge1 ge2 ge3 ge4 ge5 ge6
        have N2 : Hid (∀ b, A2 b → b < wr.heap.size ∧ b ≠ g ∧ Ss i b) := fun b hb => by
          have h0 : Ss i b := (q0 b (q1 b (p2 b hb).1))
          exact ⟨HWS.out b (SUB.out b h0).1, (SUB.out b h0).2, h0⟩
        have L2 : Hid (OnL A2 wr a.2.2.1 (.slice so2 a.2.2.1.length sc2)) := H2
        clear H2
        have N3 : Hid (∀ b, A3 b → b < wr.heap.size ∧ b ≠ g ∧ Ss i b) := fun b hb => by
          have h0 : Ss i b := (q0 b (q1 b (q2 b (p3 b hb).1)))
          exact ⟨HWS.out b (SUB.out b h0).1, (SUB.out b h0).2, h0⟩
        have L3 : Hid (OnL A3 wr a.2.2.2.1 (.slice so3 a.2.2.2.1.length sc3)) := H3
        clear H3
        have N4 : Hid (∀ b, A4 b → b < wr.heap.size ∧ b ≠ g ∧ Ss i b) := fun b hb => by
          have h0 : Ss i b := (q0 b (q1 b (q2 b (q3 b (p4 b hb).1))))
          exact ⟨HWS.out b (SUB.out b h0).1, (SUB.out b h0).2, h0⟩
        have L4 : Hid (OnL A4 wr a.2.2.2.2.1 (.slice so4 a.2.2.2.2.1.length sc4)) := H4
        clear H4
        have N5 : Hid (∀ b, A5 b → b < wr.heap.size ∧ b ≠ g ∧ Ss i b) := fun b hb => by
          have h0 : Ss i b := (q0 b (q1 b (q2 b (q3 b (q4 b (p5 b hb).1)))))
          exact ⟨HWS.out b (SUB.out b h0).1, (SUB.out b h0).2, h0⟩
        have L5 : Hid (OnL A5 wr a.2.2.2.2.2.1 (.slice so5 a.2.2.2.2.2.1.length sc5)) := H5
        clear H5
        have X2_3 : Hid (∀ b, A3 b → ¬ A2 b) := fun b hb ha => (p2 b ha).2 (p3 b hb).1
        have X3_2 : Hid (∀ b, A2 b → ¬ A3 b) := fun b hb ha => X2_3.out b ha hb
        have X2_4 : Hid (∀ b, A4 b → ¬ A2 b) := fun b hb ha => (p2 b ha).2 (q3 b (p4 b hb).1)
        have X4_2 : Hid (∀ b, A2 b → ¬ A4 b) := fun b hb ha => X2_4.out b ha hb
        have X2_5 : Hid (∀ b, A5 b → ¬ A2 b) := fun b hb ha => (p2 b ha).2 (q3 b (q4 b (p5 b hb).1))
        have X5_2 : Hid (∀ b, A2 b → ¬ A5 b) := fun b hb ha => X2_5.out b ha hb
        have X3_4 : Hid (∀ b, A4 b → ¬ A3 b) := fun b hb ha => (p3 b ha).2 (p4 b hb).1
        have X4_3 : Hid (∀ b, A3 b → ¬ A4 b) := fun b hb ha => X3_4.out b ha hb
        have X3_5 : Hid (∀ b, A5 b → ¬ A3 b) := fun b hb ha => (p3 b ha).2 (q4 b (p5 b hb).1)
        have X5_3 : Hid (∀ b, A3 b → ¬ A5 b) := fun b hb ha => X3_5.out b ha hb
        have X4_5 : Hid (∀ b, A5 b → ¬ A4 b) := fun b hb ha => (p4 b ha).2 (p5 b hb).1
        have X5_4 : Hid (∀ b, A4 b → ¬ A5 b) := fun b hb ha => X4_5.out b ha hb
        have bt : Hid (But (fun b => b = g ∨ Ss i b) wr wr) := But.refl _ _
        obtain ⟨cl0, fr0⟩ := cell_row (hrow.out) (off + i * 7) (.int .i64 a.1) e0
        have rs0 : Hid ((wr.setCell ⟨g, off + i * 7, none⟩ (.int .i64 (k + p))).heap[g]? = some (.cells (c.setIfInBounds (off + i * 7) (.int .i64 (k + p))) t (0, 0))) := set_row (hrow.out) (off + i * 7) _
        have bs0 : Hid (But (fun b => b = g ∨ Ss i b) wr (wr.setCell ⟨g, off + i * 7, none⟩ (.int .i64 (k + p)))) := bt.out.set (Or.inl rfl) (off + i * 7) _
        have M2_0 : Hid (OnL A2 (wr.setCell ⟨g, off + i * 7, none⟩ (.int .i64 (k + p))) (a.2.2.1) (.slice so2 a.2.2.1.length sc2)) := L2.out.same (Same.of_set _ _ _ (fun h => (N2.out _ h).2.1 rfl))
        have M3_0 : Hid (OnL A3 (wr.setCell ⟨g, off + i * 7, none⟩ (.int .i64 (k + p))) (a.2.2.2.1) (.slice so3 a.2.2.2.1.length sc3)) := L3.out.same (Same.of_set _ _ _ (fun h => (N3.out _ h).2.1 rfl))
        have M4_0 : Hid (OnL A4 (wr.setCell ⟨g, off + i * 7, none⟩ (.int .i64 (k + p))) (a.2.2.2.2.1) (.slice so4 a.2.2.2.2.1.length sc4)) := L4.out.same (Same.of_set _ _ _ (fun h => (N4.out _ h).2.1 rfl))
        have M5_0 : Hid (OnL A5 (wr.setCell ⟨g, off + i * 7, none⟩ (.int .i64 (k + p))) (a.2.2.2.2.2.1) (.slice so5 a.2.2.2.2.2.1.length sc5)) := L5.out.same (Same.of_set _ _ _ (fun h => (N5.out _ h).2.1 rfl))
        obtain ⟨cl1, fr1⟩ := cell_row (rs0.out) (off + i * 7 + 1) (.int .i64 a.2.1) (by simp only [Array.getElem?_setIfInBounds]; rw [if_neg (show ¬ (off + i * 7 = off + i * 7 + 1) by omega)]; exact e1)
        have rs1 : Hid (((wr.setCell ⟨g, off + i * 7, none⟩ (.int .i64 (k + p))).setCell ⟨g, off + i * 7 + 1, none⟩ (.int .i64 (k + p + 1))).heap[g]? = some (.cells ((c.setIfInBounds (off + i * 7) (.int .i64 (k + p))).setIfInBounds (off + i * 7 + 1) (.int .i64 (k + p + 1))) t (0, 0))) := set_row (rs0.out) (off + i * 7 + 1) _
        have bs1 : Hid (But (fun b => b = g ∨ Ss i b) wr ((wr.setCell ⟨g, off + i * 7, none⟩ (.int .i64 (k + p))).setCell ⟨g, off + i * 7 + 1, none⟩ (.int .i64 (k + p + 1)))) := bs0.out.set (Or.inl rfl) (off + i * 7 + 1) _
        have M2_1 : Hid (OnL A2 ((wr.setCell ⟨g, off + i * 7, none⟩ (.int .i64 (k + p))).setCell ⟨g, off + i * 7 + 1, none⟩ (.int .i64 (k + p + 1))) (a.2.2.1) (.slice so2 a.2.2.1.length sc2)) := M2_0.out.same (Same.of_set _ _ _ (fun h => (N2.out _ h).2.1 rfl))
        have M3_1 : Hid (OnL A3 ((wr.setCell ⟨g, off + i * 7, none⟩ (.int .i64 (k + p))).setCell ⟨g, off + i * 7 + 1, none⟩ (.int .i64 (k + p + 1))) (a.2.2.2.1) (.slice so3 a.2.2.2.1.length sc3)) := M3_0.out.same (Same.of_set _ _ _ (fun h => (N3.out _ h).2.1 rfl))
        have M4_1 : Hid (OnL A4 ((wr.setCell ⟨g, off + i * 7, none⟩ (.int .i64 (k + p))).setCell ⟨g, off + i * 7 + 1, none⟩ (.int .i64 (k + p + 1))) (a.2.2.2.2.1) (.slice so4 a.2.2.2.2.1.length sc4)) := M4_0.out.same (Same.of_set _ _ _ (fun h => (N4.out _ h).2.1 rfl))
        have M5_1 : Hid (OnL A5 ((wr.setCell ⟨g, off + i * 7, none⟩ (.int .i64 (k + p))).setCell ⟨g, off + i * 7 + 1, none⟩ (.int .i64 (k + p + 1))) (a.2.2.2.2.2.1) (.slice so5 a.2.2.2.2.2.1.length sc5)) := M5_0.out.same (Same.of_set _ _ _ (fun h => (N5.out _ h).2.1 rfl))
        have cl2 := (cell_row (rs1.out) (off + i * 7 + 2) (.slice so2 a.2.2.1.length sc2) (by simp only [Array.getElem?_setIfInBounds]; rw [if_neg (show ¬ (off + i * 7 + 1 = off + i * 7 + 2) by omega), if_neg (show ¬ (off + i * 7 = off + i * 7 + 2) by omega)]; exact e2)).1
        go_wp2_with fail
        refine (markStringS_any A2 a.2.2.1 (.slice so2 a.2.2.1.length sc2) _ _ M2_1.out (fun b hb => Nat.lt_of_lt_of_le (N2.out b hb).1 bs1.out.size) (by omega) (by omega)).mono ?_
        rintro e u0 ⟨rfl, o2, hb0⟩
        have r0 : Hid (u0.heap[g]? = some (.cells ((c.setIfInBounds (off + i * 7) (.int .i64 (k + p))).setIfInBounds (off + i * 7 + 1) (.int .i64 (k + p + 1))) t (0, 0))) := (hb0.block g (Nat.lt_of_lt_of_le hgl bs1.out.size) (fun h => (N2.out g h).2.1 rfl)).trans (rs1.out)
        have L2_0 : Hid (OnL A2 u0 (mkL (k + p + 1 + 1) a.2.2.1) (.slice so2 a.2.2.1.length sc2)) := o2
        have L3_0 : Hid (OnL A3 u0 (a.2.2.2.1) (.slice so3 a.2.2.2.1.length sc3)) := M3_1.out.same (hb0.same (fun b hb => ⟨Nat.lt_of_lt_of_le (N3.out b hb).1 bs1.out.size, X2_3.out b hb⟩))
        have L4_0 : Hid (OnL A4 u0 (a.2.2.2.2.1) (.slice so4 a.2.2.2.2.1.length sc4)) := M4_1.out.same (hb0.same (fun b hb => ⟨Nat.lt_of_lt_of_le (N4.out b hb).1 bs1.out.size, X2_4.out b hb⟩))
        have L5_0 : Hid (OnL A5 u0 (a.2.2.2.2.2.1) (.slice so5 a.2.2.2.2.2.1.length sc5)) := M5_1.out.same (hb0.same (fun b hb => ⟨Nat.lt_of_lt_of_le (N5.out b hb).1 bs1.out.size, X2_5.out b hb⟩))
        have bt0 : Hid (But (fun b => b = g ∨ Ss i b) wr u0) := bs1.out.trans (hb0.up (fun b hb => Or.inr (N2.out b hb).2.2))
        clear o2
        have cl3 := (cell_row (r0.out) (off + i * 7 + 3) (.slice so3 a.2.2.2.1.length sc3) (by simp only [Array.getElem?_setIfInBounds]; rw [if_neg (show ¬ (off + i * 7 + 1 = off + i * 7 + 3) by omega), if_neg (show ¬ (off + i * 7 = off + i * 7 + 3) by omega)]; exact e3)).1
        go_wp2_with fail
        refine (markClaimUseS_any A3 a.2.2.2.1 (.slice so3 a.2.2.2.1.length sc3) _ _ L3_0.out (fun b hb => Nat.lt_of_lt_of_le (N3.out b hb).1 bt0.out.size) (by omega) (by omega)).mono ?_
        rintro e u1 ⟨rfl, o3, hb1⟩
        have r1 : Hid (u1.heap[g]? = some (.cells ((c.setIfInBounds (off + i * 7) (.int .i64 (k + p))).setIfInBounds (off + i * 7 + 1) (.int .i64 (k + p + 1))) t (0, 0))) := (hb1.block g (Nat.lt_of_lt_of_le hgl bt0.out.size) (fun h => (N3.out g h).2.1 rfl)).trans (r0.out)
        have L2_1 : Hid (OnL A2 u1 (mkL (k + p + 1 + 1) a.2.2.1) (.slice so2 a.2.2.1.length sc2)) := L2_0.out.same (hb1.same (fun b hb => ⟨Nat.lt_of_lt_of_le (N2.out b hb).1 bt0.out.size, X3_2.out b hb⟩))
        have L3_1 : Hid (OnL A3 u1 (mkL (k + p + 1 + 1 + cntL a.2.2.1) a.2.2.2.1) (.slice so3 a.2.2.2.1.length sc3)) := o3
        have L4_1 : Hid (OnL A4 u1 (a.2.2.2.2.1) (.slice so4 a.2.2.2.2.1.length sc4)) := L4_0.out.same (hb1.same (fun b hb => ⟨Nat.lt_of_lt_of_le (N4.out b hb).1 bt0.out.size, X3_4.out b hb⟩))
        have L5_1 : Hid (OnL A5 u1 (a.2.2.2.2.2.1) (.slice so5 a.2.2.2.2.2.1.length sc5)) := L5_0.out.same (hb1.same (fun b hb => ⟨Nat.lt_of_lt_of_le (N5.out b hb).1 bt0.out.size, X3_5.out b hb⟩))
        have bt1 : Hid (But (fun b => b = g ∨ Ss i b) wr u1) := bt0.out.trans (hb1.up (fun b hb => Or.inr (N3.out b hb).2.2))
        clear o3
        have cl4 := (cell_row (r1.out) (off + i * 7 + 4) (.slice so4 a.2.2.2.2.1.length sc4) (by simp only [Array.getElem?_setIfInBounds]; rw [if_neg (show ¬ (off + i * 7 + 1 = off + i * 7 + 4) by omega), if_neg (show ¬ (off + i * 7 = off + i * 7 + 4) by omega)]; exact e4)).1
        go_wp2_with fail
        refine (markStringS_any A4 a.2.2.2.2.1 (.slice so4 a.2.2.2.2.1.length sc4) _ _ L4_1.out (fun b hb => Nat.lt_of_lt_of_le (N4.out b hb).1 bt1.out.size) (by omega) (by omega)).mono ?_
        rintro e u2 ⟨rfl, o4, hb2⟩
        have r2 : Hid (u2.heap[g]? = some (.cells ((c.setIfInBounds (off + i * 7) (.int .i64 (k + p))).setIfInBounds (off + i * 7 + 1) (.int .i64 (k + p + 1))) t (0, 0))) := (hb2.block g (Nat.lt_of_lt_of_le hgl bt1.out.size) (fun h => (N4.out g h).2.1 rfl)).trans (r1.out)
        have L2_2 : Hid (OnL A2 u2 (mkL (k + p + 1 + 1) a.2.2.1) (.slice so2 a.2.2.1.length sc2)) := L2_1.out.same (hb2.same (fun b hb => ⟨Nat.lt_of_lt_of_le (N2.out b hb).1 bt1.out.size, X4_2.out b hb⟩))
        have L3_2 : Hid (OnL A3 u2 (mkL (k + p + 1 + 1 + cntL a.2.2.1) a.2.2.2.1) (.slice so3 a.2.2.2.1.length sc3)) := L3_1.out.same (hb2.same (fun b hb => ⟨Nat.lt_of_lt_of_le (N3.out b hb).1 bt1.out.size, X4_3.out b hb⟩))
        have L4_2 : Hid (OnL A4 u2 (mkL (k + p + 1 + 1 + cntL a.2.2.1 + cntL a.2.2.2.1) a.2.2.2.2.1) (.slice so4 a.2.2.2.2.1.length sc4)) := o4
        have L5_2 : Hid (OnL A5 u2 (a.2.2.2.2.2.1) (.slice so5 a.2.2.2.2.2.1.length sc5)) := L5_1.out.same (hb2.same (fun b hb => ⟨Nat.lt_of_lt_of_le (N5.out b hb).1 bt1.out.size, X4_5.out b hb⟩))
        have bt2 : Hid (But (fun b => b = g ∨ Ss i b) wr u2) := bt1.out.trans (hb2.up (fun b hb => Or.inr (N4.out b hb).2.2))
        clear o4
        have cl5 := (cell_row (r2.out) (off + i * 7 + 5) (.slice so5 a.2.2.2.2.2.1.length sc5) (by simp only [Array.getElem?_setIfInBounds]; rw [if_neg (show ¬ (off + i * 7 + 1 = off + i * 7 + 5) by omega), if_neg (show ¬ (off + i * 7 = off + i * 7 + 5) by omega)]; exact e5)).1
        go_wp2_with fail
        refine (markStringS_any A5 a.2.2.2.2.2.1 (.slice so5 a.2.2.2.2.2.1.length sc5) _ _ L5_2.out (fun b hb => Nat.lt_of_lt_of_le (N5.out b hb).1 bt2.out.size) (by omega) (by omega)).mono ?_
        rintro e u3 ⟨rfl, o5, hb3⟩
        have r3 : Hid (u3.heap[g]? = some (.cells ((c.setIfInBounds (off + i * 7) (.int .i64 (k + p))).setIfInBounds (off + i * 7 + 1) (.int .i64 (k + p + 1))) t (0, 0))) := (hb3.block g (Nat.lt_of_lt_of_le hgl bt2.out.size) (fun h => (N5.out g h).2.1 rfl)).trans (r2.out)
        have L2_3 : Hid (OnL A2 u3 (mkL (k + p + 1 + 1) a.2.2.1) (.slice so2 a.2.2.1.length sc2)) := L2_2.out.same (hb3.same (fun b hb => ⟨Nat.lt_of_lt_of_le (N2.out b hb).1 bt2.out.size, X5_2.out b hb⟩))
        have L3_3 : Hid (OnL A3 u3 (mkL (k + p + 1 + 1 + cntL a.2.2.1) a.2.2.2.1) (.slice so3 a.2.2.2.1.length sc3)) := L3_2.out.same (hb3.same (fun b hb => ⟨Nat.lt_of_lt_of_le (N3.out b hb).1 bt2.out.size, X5_3.out b hb⟩))
        have L4_3 : Hid (OnL A4 u3 (mkL (k + p + 1 + 1 + cntL a.2.2.1 + cntL a.2.2.2.1) a.2.2.2.2.1) (.slice so4 a.2.2.2.2.1.length sc4)) := L4_2.out.same (hb3.same (fun b hb => ⟨Nat.lt_of_lt_of_le (N4.out b hb).1 bt2.out.size, X5_4.out b hb⟩))
        have L5_3 : Hid (OnL A5 u3 (mkL (k + p + 1 + 1 + cntL a.2.2.1 + cntL a.2.2.2.1 + cntL a.2.2.2.2.1) a.2.2.2.2.2.1) (.slice so5 a.2.2.2.2.2.1.length sc5)) := o5
        have bt3 : Hid (But (fun b => b = g ∨ Ss i b) wr u3) := bt2.out.trans (hb3.up (fun b hb => Or.inr (N5.out b hb).2.2))
        clear o5
        obtain ⟨cl6, fr6⟩ := cell_row (r3.out) (off + i * 7 + 6) (.bool a.2.2.2.2.2.2) (by simp only [Array.getElem?_setIfInBounds]; rw [if_neg (show ¬ (off + i * 7 + 1 = off + i * 7 + 6) by omega), if_neg (show ¬ (off + i * 7 = off + i * 7 + 6) by omega)]; exact e6)
        have rs6 : Hid ((u3.setCell ⟨g, off + i * 7 + 6, none⟩ (.bool (decide ((k + p + 1 + 1 + cntL a.2.2.1 + cntL a.2.2.2.1 + cntL a.2.2.2.2.1 + cntL a.2.2.2.2.2.1) % 3 = 0)))).heap[g]? = some (.cells (((c.setIfInBounds (off + i * 7) (.int .i64 (k + p))).setIfInBounds (off + i * 7 + 1) (.int .i64 (k + p + 1))).setIfInBounds (off + i * 7 + 6) (.bool (decide ((k + p + 1 + 1 + cntL a.2.2.1 + cntL a.2.2.2.1 + cntL a.2.2.2.2.1 + cntL a.2.2.2.2.2.1) % 3 = 0)))) t (0, 0))) := set_row (r3.out) (off + i * 7 + 6) _
        have bs6 : Hid (But (fun b => b = g ∨ Ss i b) wr (u3.setCell ⟨g, off + i * 7 + 6, none⟩ (.bool (decide ((k + p + 1 + 1 + cntL a.2.2.1 + cntL a.2.2.2.1 + cntL a.2.2.2.2.1 + cntL a.2.2.2.2.2.1) % 3 = 0))))) := bt3.out.set (Or.inl rfl) (off + i * 7 + 6) _
        have M2_6 : Hid (OnL A2 (u3.setCell ⟨g, off + i * 7 + 6, none⟩ (.bool (decide ((k + p + 1 + 1 + cntL a.2.2.1 + cntL a.2.2.2.1 + cntL a.2.2.2.2.1 + cntL a.2.2.2.2.2.1) % 3 = 0)))) (mkL (k + p + 1 + 1) a.2.2.1) (.slice so2 a.2.2.1.length sc2)) := L2_3.out.same (Same.of_set _ _ _ (fun h => (N2.out _ h).2.1 rfl))
        have M3_6 : Hid (OnL A3 (u3.setCell ⟨g, off + i * 7 + 6, none⟩ (.bool (decide ((k + p + 1 + 1 + cntL a.2.2.1 + cntL a.2.2.2.1 + cntL a.2.2.2.2.1 + cntL a.2.2.2.2.2.1) % 3 = 0)))) (mkL (k + p + 1 + 1 + cntL a.2.2.1) a.2.2.2.1) (.slice so3 a.2.2.2.1.length sc3)) := L3_3.out.same (Same.of_set _ _ _ (fun h => (N3.out _ h).2.1 rfl))
        have M4_6 : Hid (OnL A4 (u3.setCell ⟨g, off + i * 7 + 6, none⟩ (.bool (decide ((k + p + 1 + 1 + cntL a.2.2.1 + cntL a.2.2.2.1 + cntL a.2.2.2.2.1 + cntL a.2.2.2.2.2.1) % 3 = 0)))) (mkL (k + p + 1 + 1 + cntL a.2.2.1 + cntL a.2.2.2.1) a.2.2.2.2.1) (.slice so4 a.2.2.2.2.1.length sc4)) := L4_3.out.same (Same.of_set _ _ _ (fun h => (N4.out _ h).2.1 rfl))
        have M5_6 : Hid (OnL A5 (u3.setCell ⟨g, off + i * 7 + 6, none⟩ (.bool (decide ((k + p + 1 + 1 + cntL a.2.2.1 + cntL a.2.2.2.1 + cntL a.2.2.2.2.1 + cntL a.2.2.2.2.2.1) % 3 = 0)))) (mkL (k + p + 1 + 1 + cntL a.2.2.1 + cntL a.2.2.2.1 + cntL a.2.2.2.2.1) a.2.2.2.2.2.1) (.slice so5 a.2.2.2.2.2.1.length sc5)) := L5_3.out.same (Same.of_set _ _ _ (fun h => (N5.out _ h).2.1 rfl))
        have EF : Hid (Els S (u3.setCell ⟨g, off + i * 7 + 6, none⟩ (.bool (decide ((k + p + 1 + 1 + cntL a.2.2.1 + cntL a.2.2.2.1 + cntL a.2.2.2.2.1 + cntL a.2.2.2.2.2.1) % 3 = 0)))) g off Ss (((c.setIfInBounds (off + i * 7) (.int .i64 (k + p))).setIfInBounds (off + i * 7 + 1) (.int .i64 (k + p + 1))).setIfInBounds (off + i * 7 + 6) (.bool (decide ((k + p + 1 + 1 + cntL a.2.2.1 + cntL a.2.2.2.1 + cntL a.2.2.2.2.1 + cntL a.2.2.2.2.2.1) % 3 = 0)))) t n (markedTo k l f (i + 1))) := by
          refine hE.out.step i (rs6.out) ?_ ⟨cs [.int .i64 (k + p), .int .i64 (k + p + 1), .slice so2 a.2.2.1.length sc2, .slice so3 a.2.2.2.1.length sc3, .slice so4 a.2.2.2.2.1.length sc4, .slice so5 a.2.2.2.2.2.1.length sc5, .bool (decide ((k + p + 1 + 1 + cntL a.2.2.1 + cntL a.2.2.2.1 + cntL a.2.2.2.2.1 + cntL a.2.2.2.2.2.1) % 3 = 0))], ?_, ?_⟩ (fun q hq => mt_ne k l f i q hq) bs6.out HWS.out
          · intro q j hq hj
            rw [width_DClaimPart] at hj ⊢
            simp only [Array.getElem?_setIfInBounds]
            repeat rw [if_neg (by omega)]
          · intro j hj
            rw [width_DClaimPart] at hj ⊢
            rcases (show j = 0 ∨ j = 1 ∨ j = 2 ∨ j = 3 ∨ j = 4 ∨ j = 5 ∨ j = 6 by omega) with rfl | rfl | rfl | rfl | rfl | rfl | rfl
            · show ((((c.setIfInBounds (off + i * 7) (.int .i64 (k + p))).setIfInBounds (off + i * 7 + 1) (.int .i64 (k + p + 1))).setIfInBounds (off + i * 7 + 6) (.bool (decide ((k + p + 1 + 1 + cntL a.2.2.1 + cntL a.2.2.2.1 + cntL a.2.2.2.2.1 + cntL a.2.2.2.2.2.1) % 3 = 0)))))[off + i * 7]? = some (.int .i64 (k + p))
              simp only [Array.getElem?_setIfInBounds, Array.size_setIfInBounds]
              repeat (first | rw [if_pos True.intro] | rw [if_pos (by omega)] | rw [if_neg (by omega)])
            · show ((((c.setIfInBounds (off + i * 7) (.int .i64 (k + p))).setIfInBounds (off + i * 7 + 1) (.int .i64 (k + p + 1))).setIfInBounds (off + i * 7 + 6) (.bool (decide ((k + p + 1 + 1 + cntL a.2.2.1 + cntL a.2.2.2.1 + cntL a.2.2.2.2.1 + cntL a.2.2.2.2.2.1) % 3 = 0)))))[off + i * 7 + 1]? = some (.int .i64 (k + p + 1))
              simp only [Array.getElem?_setIfInBounds, Array.size_setIfInBounds]
              repeat (first | rw [if_pos True.intro] | rw [if_pos (by omega)] | rw [if_neg (by omega)])
            · show ((((c.setIfInBounds (off + i * 7) (.int .i64 (k + p))).setIfInBounds (off + i * 7 + 1) (.int .i64 (k + p + 1))).setIfInBounds (off + i * 7 + 6) (.bool (decide ((k + p + 1 + 1 + cntL a.2.2.1 + cntL a.2.2.2.1 + cntL a.2.2.2.2.1 + cntL a.2.2.2.2.2.1) % 3 = 0)))))[off + i * 7 + 2]? = some (.slice so2 a.2.2.1.length sc2)
              simp only [Array.getElem?_setIfInBounds, Array.size_setIfInBounds]
              repeat (first | rw [if_pos True.intro] | rw [if_pos (by omega)] | rw [if_neg (by omega)])
              exact e2
            · show ((((c.setIfInBounds (off + i * 7) (.int .i64 (k + p))).setIfInBounds (off + i * 7 + 1) (.int .i64 (k + p + 1))).setIfInBounds (off + i * 7 + 6) (.bool (decide ((k + p + 1 + 1 + cntL a.2.2.1 + cntL a.2.2.2.1 + cntL a.2.2.2.2.1 + cntL a.2.2.2.2.2.1) % 3 = 0)))))[off + i * 7 + 3]? = some (.slice so3 a.2.2.2.1.length sc3)
              simp only [Array.getElem?_setIfInBounds, Array.size_setIfInBounds]
              repeat (first | rw [if_pos True.intro] | rw [if_pos (by omega)] | rw [if_neg (by omega)])
              exact e3
            · show ((((c.setIfInBounds (off + i * 7) (.int .i64 (k + p))).setIfInBounds (off + i * 7 + 1) (.int .i64 (k + p + 1))).setIfInBounds (off + i * 7 + 6) (.bool (decide ((k + p + 1 + 1 + cntL a.2.2.1 + cntL a.2.2.2.1 + cntL a.2.2.2.2.1 + cntL a.2.2.2.2.2.1) % 3 = 0)))))[off + i * 7 + 4]? = some (.slice so4 a.2.2.2.2.1.length sc4)
              simp only [Array.getElem?_setIfInBounds, Array.size_setIfInBounds]
              repeat (first | rw [if_pos True.intro] | rw [if_pos (by omega)] | rw [if_neg (by omega)])
              exact e4
            · show ((((c.setIfInBounds (off + i * 7) (.int .i64 (k + p))).setIfInBounds (off + i * 7 + 1) (.int .i64 (k + p + 1))).setIfInBounds (off + i * 7 + 6) (.bool (decide ((k + p + 1 + 1 + cntL a.2.2.1 + cntL a.2.2.2.1 + cntL a.2.2.2.2.1 + cntL a.2.2.2.2.2.1) % 3 = 0)))))[off + i * 7 + 5]? = some (.slice so5 a.2.2.2.2.2.1.length sc5)
              simp only [Array.getElem?_setIfInBounds, Array.size_setIfInBounds]
              repeat (first | rw [if_pos True.intro] | rw [if_pos (by omega)] | rw [if_neg (by omega)])
              exact e5
            · show ((((c.setIfInBounds (off + i * 7) (.int .i64 (k + p))).setIfInBounds (off + i * 7 + 1) (.int .i64 (k + p + 1))).setIfInBounds (off + i * 7 + 6) (.bool (decide ((k + p + 1 + 1 + cntL a.2.2.1 + cntL a.2.2.2.1 + cntL a.2.2.2.2.1 + cntL a.2.2.2.2.2.1) % 3 = 0)))))[off + i * 7 + 6]? = some (.bool (decide ((k + p + 1 + 1 + cntL a.2.2.1 + cntL a.2.2.2.1 + cntL a.2.2.2.2.1 + cntL a.2.2.2.2.2.1) % 3 = 0)))
              simp only [Array.getElem?_setIfInBounds, Array.size_setIfInBounds]
              repeat (first | rw [if_pos True.intro] | rw [if_pos (by omega)] | rw [if_neg (by omega)])
          · rw [mt_succ, EP.out, EA.out]
            rw [mkD_DClaimPart]
            exact on_DClaimPart.2 ⟨A0, B0, p0, q0, ⟨rfl, by show (-9223372036854775808 : Int) ≤ k + p; omega, by show k + p ≤ (9223372036854775807 : Int); omega⟩, A1, B1, p1, q1, ⟨rfl, by show (-9223372036854775808 : Int) ≤ k + p + 1; omega, by show k + p + 1 ≤ (9223372036854775807 : Int); omega⟩, A2, B2, p2, q2, M2_6.out, A3, B3, p3, q3, M3_6.out, A4, B4, p4, q4, M4_6.out, A5, B5, p5, q5, M5_6.out, rfl⟩
        have BF : Hid (But S w (u3.setCell ⟨g, off + i * 7 + 6, none⟩ (.bool (decide ((k + p + 1 + 1 + cntL a.2.2.1 + cntL a.2.2.2.1 + cntL a.2.2.2.2.1 + cntL a.2.2.2.2.2.1) % 3 = 0))))) := hB.out.trans (bs6.out.up (fun b hb => by
          rcases hb with hb | hb
          · rw [hb]; exact hE.out.own
          · exact (SUB.out b hb).1))
        go_wp2_with fail
        go_roundw
        case rel => exact ⟨i + 1, _, by omega, by go_num, by rw [HCS.out]; congr 1; omega, EF.out, BF.out⟩
        case measure => simp [intOf]; omega
      · have hin : i = n := by omega
        subst hin
        have hck : cntTo l i = m := by rw [← EM.out, ← HCL.out, EN.out]
        rw [hck]
        clear hck
        go_wp2_with fail
        go_ret
        refine ⟨rfl, ?_, hB.out⟩
        have h := hE.out
        rw [← EN.out] at h ⊢
        exact OnL.of_marked h HF.out HN.out

set_option maxRecDepth 100000 in
set_option maxHeartbeats 4000000 in
theorem markClaimBook_any (S : Nat → Prop) (a : DClaimBookL) (c : Nat → Value) (sn k : Int) (w : World) (h : Own.On S w a c) (hS : ∀ b, S b → b < w.heap.size) (h1 : 1 ≤ k) (h2 : k + Own.cnt a ≤ 20000000) :
    Calls Try.prog 11 #[.agg #[c 0, c 1, c 2, c 3, .int .i64 sn], .int .i64 k] w fun e w' => e = .returned (.int .i64 (k + Own.cnt a)) ∧ Own.On S w' (Own.mkD k a) c ∧ But S w w' := by
  rw [cnt_DClaimBookL] at h2
  rw [cnt_DClaimBookL]
  obtain ⟨A0, B0, p0, q0, H0, A1, B1, p1, q1, H1, A2, B2, p2, q2, H2, H3⟩ := on_DClaimBookL.1 h
  clear h
  obtain ⟨so0, sc0, ge0, _⟩ := id H0
  rw [ge0] at H0
  obtain ⟨so1, sc1, ge1, _⟩ := id H1
  rw [ge1] at H1
  obtain ⟨so2, sc2, ge2, _⟩ := id H2
  rw [ge2] at H2
  obtain ⟨so3, sc3, ge3, _⟩ := id H3
  rw [ge3] at H3
  rw [ge0, ge1, ge2, ge3]
  have GE0 : Hid (c 0 = .slice so0 a.1.length sc0) := ge0
  have GE1 : Hid (c 1 = .slice so1 a.2.1.length sc1) := ge1
  have GE2 : Hid (c 2 = .slice so2 a.2.2.1.length sc2) := ge2
  have GE3 : Hid (c 3 = .slice so3 a.2.2.2.length sc3) := ge3
  clear ge0 ge1 ge2 ge3
  have N0 : Hid (∀ b, A0 b → b < w.heap.size ∧ S b) := fun b hb => by
    have h0 : S b := (p0 b hb).1
    exact ⟨hS b h0, h0⟩
  have N1 : Hid (∀ b, A1 b → b < w.heap.size ∧ S b) := fun b hb => by
    have h0 : S b := (q0 b (p1 b hb).1)
    exact ⟨hS b h0, h0⟩
  have N2 : Hid (∀ b, A2 b → b < w.heap.size ∧ S b) := fun b hb => by
    have h0 : S b := (q0 b (q1 b (p2 b hb).1))
    exact ⟨hS b h0, h0⟩
  have N3 : Hid (∀ b, B2 b → b < w.heap.size ∧ S b) := fun b hb => by
    have h0 : S b := (q0 b (q1 b (q2 b hb)))
    exact ⟨hS b h0, h0⟩
  have X0_1 : Hid (∀ b, A1 b → ¬ A0 b) := fun b hb ha => (p0 b ha).2 (p1 b hb).1
  have X1_0 : Hid (∀ b, A0 b → ¬ A1 b) := fun b hb ha => X0_1.out b ha hb
  have X0_2 : Hid (∀ b, A2 b → ¬ A0 b) := fun b hb ha => (p0 b ha).2 (q1 b (p2 b hb).1)
  have X2_0 : Hid (∀ b, A0 b → ¬ A2 b) := fun b hb ha => X0_2.out b ha hb
  have X0_3 : Hid (∀ b, B2 b → ¬ A0 b) := fun b hb ha => (p0 b ha).2 (q1 b (q2 b hb))
  have X3_0 : Hid (∀ b, A0 b → ¬ B2 b) := fun b hb ha => X0_3.out b ha hb
  have X1_2 : Hid (∀ b, A2 b → ¬ A1 b) := fun b hb ha => (p1 b ha).2 (p2 b hb).1
  have X2_1 : Hid (∀ b, A1 b → ¬ A2 b) := fun b hb ha => X1_2.out b ha hb
  have X1_3 : Hid (∀ b, B2 b → ¬ A1 b) := fun b hb ha => (p1 b ha).2 (q2 b hb)
  have X3_1 : Hid (∀ b, A1 b → ¬ B2 b) := fun b hb ha => X1_3.out b ha hb
  have X2_3 : Hid (∀ b, B2 b → ¬ A2 b) := fun b hb ha => (p2 b ha).2 hb
  have X3_2 : Hid (∀ b, A2 b → ¬ B2 b) := fun b hb ha => X2_3.out b ha hb
  have NB : Hid (¬ S w.heap.size) := fun h => absurd (hS _ h) (Nat.lt_irrefl _)
  have b0 : Hid (But S w (w.alloc (.cells #[.slice so0 a.1.length sc0, .slice so1 a.2.1.length sc1, .slice so2 a.2.2.1.length sc2, .slice so3 a.2.2.2.length sc3, .int .i64 sn] 33))) := But.of_below ((Below.refl _ _).alloc (Nat.le_refl _) _)
  have hbs : w.heap.size < (w.alloc (.cells #[.slice so0 a.1.length sc0, .slice so1 a.2.1.length sc1, .slice so2 a.2.2.1.length sc2, .slice so3 a.2.2.2.length sc3, .int .i64 sn] 33)).heap.size := by simp
  have L0 : Hid (OnL A0 (w.alloc (.cells #[.slice so0 a.1.length sc0, .slice so1 a.2.1.length sc1, .slice so2 a.2.2.1.length sc2, .slice so3 a.2.2.2.length sc3, .int .i64 sn] 33)) a.1 (.slice so0 a.1.length sc0)) := H0.same (Same.of_alloc _ _ (fun b hb => (N0.out b hb).1))
  clear H0
  have L1 : Hid (OnL A1 (w.alloc (.cells #[.slice so0 a.1.length sc0, .slice so1 a.2.1.length sc1, .slice so2 a.2.2.1.length sc2, .slice so3 a.2.2.2.length sc3, .int .i64 sn] 33)) a.2.1 (.slice so1 a.2.1.length sc1)) := H1.same (Same.of_alloc _ _ (fun b hb => (N1.out b hb).1))
  clear H1
  have L2 : Hid (OnL A2 (w.alloc (.cells #[.slice so0 a.1.length sc0, .slice so1 a.2.1.length sc1, .slice so2 a.2.2.1.length sc2, .slice so3 a.2.2.2.length sc3, .int .i64 sn] 33)) a.2.2.1 (.slice so2 a.2.2.1.length sc2)) := H2.same (Same.of_alloc _ _ (fun b hb => (N2.out b hb).1))
  clear H2
  have L3 : Hid (OnL B2 (w.alloc (.cells #[.slice so0 a.1.length sc0, .slice so1 a.2.1.length sc1, .slice so2 a.2.2.1.length sc2, .slice so3 a.2.2.2.length sc3, .int .i64 sn] 33)) a.2.2.2 (.slice so3 a.2.2.2.length sc3)) := H3.same (Same.of_alloc _ _ (fun b hb => (N3.out b hb).1))
  clear H3
  clear hS
  go_enter Try.func11, Try.ntmps11
  go_wp2_with fail
  refine (markClaimFoeS_any A0 a.1 (.slice so0 a.1.length sc0) _ _ L0.out (fun b hb => Nat.lt_of_lt_of_le (N0.out b hb).1 b0.out.size) (by omega) (by omega)).mono ?_
  rintro e w1 ⟨rfl, o0, u1⟩
  have L0_0 : Hid (OnL A0 w1 (mkL (k) a.1) (.slice so0 a.1.length sc0)) := o0
  have L1_0 : Hid (OnL A1 w1 (a.2.1) (.slice so1 a.2.1.length sc1)) := L1.out.same (u1.same (fun b hb => ⟨Nat.lt_of_lt_of_le (N1.out b hb).1 b0.out.size, X0_1.out b hb⟩))
  have L2_0 : Hid (OnL A2 w1 (a.2.2.1) (.slice so2 a.2.2.1.length sc2)) := L2.out.same (u1.same (fun b hb => ⟨Nat.lt_of_lt_of_le (N2.out b hb).1 b0.out.size, X0_2.out b hb⟩))
  have L3_0 : Hid (OnL B2 w1 (a.2.2.2) (.slice so3 a.2.2.2.length sc3)) := L3.out.same (u1.same (fun b hb => ⟨Nat.lt_of_lt_of_le (N3.out b hb).1 b0.out.size, X0_3.out b hb⟩))
  clear o0
  have b1 : Hid (But S w w1) := b0.out.trans (u1.up (fun b hb => (N0.out b hb).2))
  have x1_1 : w1.cell? ⟨w.heap.size, 1, none⟩ = some (.slice so1 a.2.1.length sc1) := (World.cell?_of_block (a := ⟨w.heap.size, 1, none⟩) (u1.block w.heap.size hbs (fun h => NB.out (N0.out _ h).2))).trans (by simp)
  have x1_2 : w1.cell? ⟨w.heap.size, 2, none⟩ = some (.slice so2 a.2.2.1.length sc2) := (World.cell?_of_block (a := ⟨w.heap.size, 2, none⟩) (u1.block w.heap.size hbs (fun h => NB.out (N0.out _ h).2))).trans (by simp)
  have x1_3 : w1.cell? ⟨w.heap.size, 3, none⟩ = some (.slice so3 a.2.2.2.length sc3) := (World.cell?_of_block (a := ⟨w.heap.size, 3, none⟩) (u1.block w.heap.size hbs (fun h => NB.out (N0.out _ h).2))).trans (by simp)
  have s1 : w.heap.size < w1.heap.size := by have := u1.size; simp at this; omega
  go_wp2_with fail
  refine (markClaimSpotS_any A1 a.2.1 (.slice so1 a.2.1.length sc1) _ _ L1_0.out (fun b hb => Nat.lt_of_lt_of_le (N1.out b hb).1 b1.out.size) (by omega) (by omega)).mono ?_
  rintro e w2 ⟨rfl, o1, u2⟩
  have L0_1 : Hid (OnL A0 w2 (mkL (k) a.1) (.slice so0 a.1.length sc0)) := L0_0.out.same (u2.same (fun b hb => ⟨Nat.lt_of_lt_of_le (N0.out b hb).1 b1.out.size, X1_0.out b hb⟩))
  have L1_1 : Hid (OnL A1 w2 (mkL (k + cntL a.1) a.2.1) (.slice so1 a.2.1.length sc1)) := o1
  have L2_1 : Hid (OnL A2 w2 (a.2.2.1) (.slice so2 a.2.2.1.length sc2)) := L2_0.out.same (u2.same (fun b hb => ⟨Nat.lt_of_lt_of_le (N2.out b hb).1 b1.out.size, X1_2.out b hb⟩))
  have L3_1 : Hid (OnL B2 w2 (a.2.2.2) (.slice so3 a.2.2.2.length sc3)) := L3_0.out.same (u2.same (fun b hb => ⟨Nat.lt_of_lt_of_le (N3.out b hb).1 b1.out.size, X1_3.out b hb⟩))
  clear o1
  have b2 : Hid (But S w w2) := b1.out.trans (u2.up (fun b hb => (N1.out b hb).2))
  have x2_2 : w2.cell? ⟨w.heap.size, 2, none⟩ = some (.slice so2 a.2.2.1.length sc2) := (World.cell?_of_block (a := ⟨w.heap.size, 2, none⟩) (u2.block w.heap.size s1 (fun h => NB.out (N1.out _ h).2))).trans x1_2
  have x2_3 : w2.cell? ⟨w.heap.size, 3, none⟩ = some (.slice so3 a.2.2.2.length sc3) := (World.cell?_of_block (a := ⟨w.heap.size, 3, none⟩) (u2.block w.heap.size s1 (fun h => NB.out (N1.out _ h).2))).trans x1_3
  have s2 : w.heap.size < w2.heap.size := by have := u2.size; omega
  go_wp2_with fail
  refine (markStringS_any A2 a.2.2.1 (.slice so2 a.2.2.1.length sc2) _ _ L2_1.out (fun b hb => Nat.lt_of_lt_of_le (N2.out b hb).1 b2.out.size) (by omega) (by omega)).mono ?_
  rintro e w3 ⟨rfl, o2, u3⟩
  have L0_2 : Hid (OnL A0 w3 (mkL (k) a.1) (.slice so0 a.1.length sc0)) := L0_1.out.same (u3.same (fun b hb => ⟨Nat.lt_of_lt_of_le (N0.out b hb).1 b2.out.size, X2_0.out b hb⟩))
  have L1_2 : Hid (OnL A1 w3 (mkL (k + cntL a.1) a.2.1) (.slice so1 a.2.1.length sc1)) := L1_1.out.same (u3.same (fun b hb => ⟨Nat.lt_of_lt_of_le (N1.out b hb).1 b2.out.size, X2_1.out b hb⟩))
  have L2_2 : Hid (OnL A2 w3 (mkL (k + cntL a.1 + cntL a.2.1) a.2.2.1) (.slice so2 a.2.2.1.length sc2)) := o2
  have L3_2 : Hid (OnL B2 w3 (a.2.2.2) (.slice so3 a.2.2.2.length sc3)) := L3_1.out.same (u3.same (fun b hb => ⟨Nat.lt_of_lt_of_le (N3.out b hb).1 b2.out.size, X2_3.out b hb⟩))
  clear o2
  have b3 : Hid (But S w w3) := b2.out.trans (u3.up (fun b hb => (N2.out b hb).2))
  have x3_3 : w3.cell? ⟨w.heap.size, 3, none⟩ = some (.slice so3 a.2.2.2.length sc3) := (World.cell?_of_block (a := ⟨w.heap.size, 3, none⟩) (u3.block w.heap.size s2 (fun h => NB.out (N2.out _ h).2))).trans x2_3
  have s3 : w.heap.size < w3.heap.size := by have := u3.size; omega
  go_wp2_with fail
  refine (markClaimPartS_any B2 a.2.2.2 (.slice so3 a.2.2.2.length sc3) _ _ L3_2.out (fun b hb => Nat.lt_of_lt_of_le (N3.out b hb).1 b3.out.size) (by omega) (by omega)).mono ?_
  rintro e w4 ⟨rfl, o3, u4⟩
  have L0_3 : Hid (OnL A0 w4 (mkL (k) a.1) (.slice so0 a.1.length sc0)) := L0_2.out.same (u4.same (fun b hb => ⟨Nat.lt_of_lt_of_le (N0.out b hb).1 b3.out.size, X3_0.out b hb⟩))
  have L1_3 : Hid (OnL A1 w4 (mkL (k + cntL a.1) a.2.1) (.slice so1 a.2.1.length sc1)) := L1_2.out.same (u4.same (fun b hb => ⟨Nat.lt_of_lt_of_le (N1.out b hb).1 b3.out.size, X3_1.out b hb⟩))
  have L2_3 : Hid (OnL A2 w4 (mkL (k + cntL a.1 + cntL a.2.1) a.2.2.1) (.slice so2 a.2.2.1.length sc2)) := L2_2.out.same (u4.same (fun b hb => ⟨Nat.lt_of_lt_of_le (N2.out b hb).1 b3.out.size, X3_2.out b hb⟩))
  have L3_3 : Hid (OnL B2 w4 (mkL (k + cntL a.1 + cntL a.2.1 + cntL a.2.2.1) a.2.2.2) (.slice so3 a.2.2.2.length sc3)) := o3
  clear o3
  have b4 : Hid (But S w w4) := b3.out.trans (u4.up (fun b hb => (N3.out b hb).2))
  have s4 : w.heap.size < w4.heap.size := by have := u4.size; omega
  have FIN : Hid (Own.On S w4 (Own.mkD k a) c) := by
    show Own.On _ _ _ _
    rw [mkD_DClaimBookL]
    refine on_DClaimBookL.2 ⟨A0, B0, p0, q0, ?_, A1, B1, p1, q1, ?_, A2, B2, p2, q2, ?_, ?_⟩
    · rw [GE0.out]; exact L0_3.out
    · rw [GE1.out]; exact L1_3.out
    · rw [GE2.out]; exact L2_3.out
    · rw [GE3.out]; exact L3_3.out
  have hx : Hid (k + cntL a.1 + cntL a.2.1 + cntL a.2.2.1 + cntL a.2.2.2 = k + ((cntL a.1 + (cntL a.2.1 + (cntL a.2.2.1 + (cntL a.2.2.2))) : Nat) : Int)) := by show _ = _; omega
  go_wp2_with fail
  go_ret
  exact ⟨by rw [← hx.out]; rfl, FIN.out, b4.out⟩

end Go.Proofs.Ytciembgenlcogac
