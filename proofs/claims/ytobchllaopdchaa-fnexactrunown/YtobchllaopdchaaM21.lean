/-
  Several texts in one.
-/
import Derived.Test.YtobchllaopdchaaM20
import Derived.Stop.Asserts
import Derived.RangeFuncNested
import Derived.RangeFuncBound
import Derived.RangeFuncLeaves
import Derived.RangeFuncBox
namespace Go.Proofs.Ytobchllaopdchaa
open Go.RowKit
def paV (si : Int) : Value := if si = -1 then .iface 109 (.agg #[]) else .iface 111 (.agg #[.int .i64 si])
theorem pa_w : paV (-1) = .iface 109 (.agg #[]) := rfl
theorem pa_g {si : Int} (h : ¬ si = -1) : paV si = .iface 111 (.agg #[.int .i64 si]) := if_neg h
set_option maxRecDepth 100000 in
set_option maxHeartbeats 4000000 in
theorem pace_any (nm at_ : ByteArray) (si st : Int) (o1 o2 : Option Addr) (n1 k1 n2 k2 : Nat) (w : World) :
    Calls Try.prog 45 #[.agg #[.string nm, .slice o1 n1 k1, .slice o2 n2 k2, .string at_, .int .i64 si, .int .i64 st]] w fun e w' => e = .returned (paV si) ∧ Below w.heap.size w w' := by
  by_cases h : si = -1
  · subst h
    rw [pa_w]
    go_enter Try.func45, Try.ntmps45
    go_wp2
    go_ret
    exact ⟨rfl, (Below.refl _ _).alloc (Nat.le_refl _) _⟩
  · have hb : (si == -1) = false := by simpa using h
    rw [pa_g h]
    go_enter Try.func45, Try.ntmps45
    go_wp2
    go_ret
    exact ⟨rfl, (Below.refl _ _).alloc (Nat.le_refl _) _⟩
set_option maxRecDepth 100000 in
set_option maxHeartbeats 4000000 in
theorem fitsW_any (wi : Int) (w : World) : Calls Try.prog 110 #[.agg #[], .int .i64 wi] w fun e w' => e = .returned (.bool true) ∧ Below w.heap.size w w' := by
  go_enter Try.func110, Try.ntmps110
  go_wp2
  go_ret
  exact ⟨rfl, (Below.refl _ _).alloc (Nat.le_refl _) _⟩
set_option maxRecDepth 100000 in
set_option maxHeartbeats 4000000 in
theorem fitsG_any (si wi : Int) (w : World) : Calls Try.prog 111 #[.agg #[.int .i64 si], .int .i64 wi] w fun e w' => e = .returned (.bool (decide (0 ≤ si) && decide (si < wi))) ∧ Below w.heap.size w w' := by
  by_cases h : 0 ≤ si
  · go_enter Try.func111, Try.ntmps111
    go_wp2
    go_ret
    exact ⟨by simp [h], (Below.refl _ _).alloc (Nat.le_refl _) _⟩
  · go_enter Try.func111, Try.ntmps111
    go_wp2
    go_ret
    exact ⟨by simp; omega, (Below.refl _ _).alloc (Nat.le_refl _) _⟩
set_option maxRecDepth 100000 in
set_option maxHeartbeats 4000000 in
theorem isSlot_any (a t x : ByteArray) (w : World) (hz : t.size ≤ maxLen) : Calls Try.prog 56 #[.agg #[.string a, .string t], .string x] w fun e w' => e = .returned (.bool (eqB a x && nameB t)) ∧ Below w.heap.size w w' := by
  have HZ : Hid (t.size ≤ maxLen) := hz
  clear hz
  cases c : (a.toList == x.toList)
  · have e : (eqB a x && nameB t) = false := by simp [eqB, c]
    rw [e]
    go_enter Try.func56, Try.ntmps56
    go_wp2
    go_ret
    exact ⟨rfl, (Below.refl _ _).alloc (Nat.le_refl _) _⟩
  · have e : (eqB a x && nameB t) = nameB t := by simp [eqB, c]
    rw [e]
    go_enter Try.func56, Try.ntmps56
    go_wp2_with fail
    refine (nameI_any t _ HZ.out).mono ?_; rintro e w1 ⟨rfl, hb⟩
    have HB : Hid _ := hb
    clear hb
    go_wp2_with fail
    go_ret
    exact ⟨rfl, ((Below.refl _ _).alloc (Nat.le_refl _) _).trans (HB.out.mono (by simp))⟩
noncomputable def eqPB (L : List ByteArray) (sl : List DRunSlot) : Bool := @decide (EqP L sl) (Classical.propDecidable _)
theorem eqp_yes {L : List ByteArray} {sl : List DRunSlot} (h : EqP L sl) : eqPB L sl = true := by unfold eqPB; exact @decide_eq_true _ (Classical.propDecidable _) h
theorem eqp_no {L : List ByteArray} {sl : List DRunSlot} (h : ¬ EqP L sl) : eqPB L sl = false := by unfold eqPB; exact @decide_eq_false _ (Classical.propDecidable _) h
theorem eqp_iff {L : List ByteArray} {sl : List DRunSlot} : eqPB L sl = true ↔ EqP L sl := by unfold eqPB; exact @decide_eq_true_iff _ (Classical.propDecidable _)
set_option maxRecDepth 100000 in
set_option maxHeartbeats 8000000 in
theorem eqf_any (S S' : Nat → Prop) (sl : List DRunSlot) (L : List ByteArray) (v vL : Value) (w : World) (h : AtL S w sl v) (hL : AtL S' w L vL) (hS : ∀ b, S b → b < w.heap.size) (hS' : ∀ b, S' b → b < w.heap.size) :
    Calls Try.prog 57 #[v, vL, .func (.func 56) #[] #[]] w fun e w' => e = .returned (.bool (eqPB L sl)) ∧ Below w.heap.size w w' := by
  obtain ⟨oa, cap, rfl, hn, hc⟩ := h
  obtain ⟨ob, capb, rfl, hnb, hcb⟩ := hL
  obtain ⟨n, en⟩ : ∃ n, sl.length = n := ⟨_, rfl⟩
  obtain ⟨m, em⟩ : ∃ m, L.length = m := ⟨_, rfl⟩
  rw [en] at hn
  rw [em] at hnb
  have hmx := hn.1
  have hmb := hnb.1
  unfold maxLen at hmx hmb
  have NAM : Hid (∀ i (hi : i < sl.length), ∃ b off, oa = some ⟨b, off, none⟩ ∧ b < w.heap.size ∧ w.cell? ⟨b, off + i * 2, none⟩ = some (.string sl[i].1) ∧ w.cell? ⟨b, off + i * 2 + 1, none⟩ = some (.string sl[i].2) ∧ sl[i].2.size ≤ maxLen) := fun i hi => by
    obtain ⟨b, off, eo, hbS, cc, hcell, hat⟩ := hc i hi
    rw [width_DRunSlot] at hcell
    rw [at_DRunSlot] at hat
    exact ⟨b, off, eo, hS b hbS, (hcell 0 (by omega) : w.cell? ⟨b, off + i * 2, none⟩ = some (cc 0)).trans (by rw [hat.1.1]), (hcell 1 (by omega)).trans (by rw [hat.2.1]), hat.2.2⟩
  have LAT : Hid (∀ i (hi : i < L.length), ∃ b off, ob = some ⟨b, off, none⟩ ∧ b < w.heap.size ∧ w.cell? ⟨b, off + i, none⟩ = some (.string (nthB L i))) := fun i hi => by
    obtain ⟨b, off, eo, hbS, cc, hcell, hat⟩ := hcb i hi
    have e0 := hcell 0 (by decide)
    rw [hat.1] at e0
    exact ⟨b, off, eo, hS' b hbS, by simpa [width_str, nth_is hi] using e0⟩
  have EN : Hid (sl.length ≤ n ∧ n ≤ sl.length) := ⟨by omega, by omega⟩
  have EM : Hid (L.length ≤ m ∧ m ≤ L.length) := ⟨by omega, by omega⟩
  rw [en, em]
  clear hn hnb hc hcb en em
  go_enter Try.func57, Try.ntmps57
  by_cases hlen : n = m
  case neg =>
    go_wp2_with fail
    go_ret
    rw [eqp_no (fun h => hlen (by have := h.1; have := EN.out; have := EM.out; omega))]
    exact ⟨rfl, Below.refl _ _⟩
  subst hlen
  go_wp2_with fail
  go_loopw [17] (fun i wr => ∃ k : Nat, k ≤ n ∧ i = .int .i64 k ∧ Hid (∀ j (hj : j < sl.length), j < k → eqB sl[j].1 (nthB L j) = true ∧ nameB sl[j].2 = true) ∧ Hid (Below w.heap.size w wr)) (fun i _ => n - (intOf i).toNat)
  case atStart => exact ⟨0, Nat.zero_le _, rfl, fun _ _ h => by omega, Below.refl _ _⟩
  case round =>
    obtain ⟨k, hk, rfl, hall, hbel⟩ := hrel
    have hs := hbel.out.size
    by_cases hlt : k < n
    case neg =>
      go_wp2_with fail
      go_ret
      rw [eqp_yes ⟨by have := EN.out; have := EM.out; omega, fun i hi => hall.out i hi (by have := EN.out; omega)⟩]
      exact ⟨rfl, hbel.out⟩
    have hks : k < sl.length := by have := EN.out; omega
    obtain ⟨b, off, rfl, hb, c0, c1, z1⟩ := NAM.out k hks
    obtain ⟨g, of2, rfl, hg, cg⟩ := LAT.out k (by have := EM.out; omega)
    obtain ⟨x, ex⟩ : ∃ x, sl[k].1 = x := ⟨_, rfl⟩
    obtain ⟨t, et⟩ : ∃ t, sl[k].2 = t := ⟨_, rfl⟩
    rw [ex] at c0
    rw [et] at c1 z1
    obtain ⟨y, ey⟩ : ∃ y, nthB L k = y := ⟨_, rfl⟩
    rw [ey] at cg
    have HZ : Hid (t.size ≤ maxLen) := z1
    obtain ⟨X, hX⟩ : ∃ X, X = wr.alloc (.cells #[.string x, .string t] 75) := ⟨_, rfl⟩
    have EX : Hid (X = wr.alloc (.cells #[.string x, .string t] 75)) := hX
    have BX : Hid (Below w.heap.size w X) := by rw [hX]; exact hbel.out.alloc hs _
    have r0 : X.cell? ⟨wr.heap.size, 0, none⟩ = some (.string x) := by rw [hX]; exact box_at _ _ (Below.refl _ _) 0 _ rfl
    have r1 : X.cell? ⟨wr.heap.size, 1, none⟩ = some (.string t) := by rw [hX]; exact box_at _ _ (Below.refl _ _) 1 _ rfl
    have e0 := (hbel.out.cell (p := ⟨b, off + k * 2, none⟩) hb).trans c0
    have e1 := (hbel.out.cell (p := ⟨b, off + k * 2 + 1, none⟩) hb).trans c1
    have eg := (BX.out.cell (p := ⟨g, of2 + k, none⟩) hg).trans cg
    have EQ : Hid (∀ R, (eqB x y && nameB t) = R → (eqB sl[k].1 (nthB L k) && nameB sl[k].2) = R) := fun R h => by rw [ex, et, ey]; exact h
    clear c0 c1 cg z1 hX ex et ey
    go_upto_region 6 with fail
    rw [← EX.out]
    cases c : (eqB x y && nameB t)
    · have HP : Hid (¬ EqP L sl) := fun h => by
        have h1 := h.2 k hks
        have := EQ.out _ c
        rw [h1.1, h1.2] at this
        cases this
      go_wp2_with fail
      refine (isSlot_any x t y _ HZ.out).mono ?_; rintro e u ⟨rfl, hb1⟩
      rw [c]
      have HB : Hid (Below w.heap.size w u) := BX.out.trans (hb1.mono BX.out.size)
      clear hb1
      go_wp2_with fail
      go_ret
      rw [eqp_no HP.out]
      exact ⟨rfl, HB.out⟩
    · have HP : Hid (eqB sl[k].1 (nthB L k) = true ∧ nameB sl[k].2 = true) := by
        have := EQ.out _ c
        rw [Bool.and_eq_true] at this
        exact this
      go_wp2_with fail
      refine (isSlot_any x t y _ HZ.out).mono ?_; rintro e u ⟨rfl, hb1⟩
      rw [c]
      have HB : Hid (Below w.heap.size w u) := BX.out.trans (hb1.mono BX.out.size)
      clear hb1
      go_wp2_with fail
      go_roundw
      case rel => exact ⟨k + 1, by omega, by go_num, fun j hj hjk => by
        by_cases e : j = k
        · subst e; exact HP.out
        · exact hall.out j hj (by omega), HB.out⟩
      case measure => simp [intOf]; omega
end Go.Proofs.Ytobchllaopdchaa

namespace Go.Proofs.Ytobchllaopdchaa
open Go.RowKit
structure KpO (own : World → Nat → Prop) (n₀ : Nat) (W W' : World) : Prop where
  size : W.heap.size ≤ W'.heap.size
  old : ∀ k, own W' k → own W k ∨ W.heap.size ≤ k
  low : ∀ k, k < n₀ → W'.heap[k]? = W.heap[k]?
  blk : ∀ (k : Nat) (c : Array Value) (t : TypeId) (z : Nat × Nat), W.heap[k]? = some (.cells c t z) → ¬ own W k → W'.heap[k]? = some (.cells c t z)
theorem KpO.refl (own : World → Nat → Prop) (n₀ : Nat) (W : World) : KpO own n₀ W W := ⟨Nat.le_refl _, fun _ h => .inl h, fun _ _ => rfl, fun _ _ _ _ h _ => h⟩
theorem KpO.trans {own : World → Nat → Prop} {n₀ : Nat} {A B C : World} (h : KpO own n₀ A B) (k : KpO own n₀ B C) : KpO own n₀ A C := by
  refine ⟨Nat.le_trans h.size k.size, fun i hi => ?_, fun i hi => (k.low i hi).trans (h.low i hi), fun i c t z hc ho => k.blk i c t z (h.blk i c t z hc ho) (fun hB => ?_)⟩
  · rcases k.old i hi with h1 | h1
    · exact h.old i h1
    · exact .inr (Nat.le_trans h.size h1)
  · rcases h.old i hB with h1 | h1
    · exact ho h1
    · exact absurd (Array.getElem?_eq_some_iff.1 hc).1 (by omega)
def OwnSt (own : World → Nat → Prop) (W : World) : Prop :=
  (∀ k, own W k → k < W.heap.size) ∧ ∀ W' row, W.grownBy W' row → (∀ r, row = some r → ∃ o : Obj, W.heap[r]? = some o ∧ o.isCells = false) → ∀ k, own W' k → own W k
theorem OwnSt.kp {own : World → Nat → Prop} {n₀ : Nat} {W W' : World} {row : Option Nat} (h : OwnSt own W) (hn : n₀ ≤ W.heap.size) (hg : W.grownBy W' row) (hr : ∀ r, row = some r → n₀ ≤ r ∧ ∃ o : Obj, W.heap[r]? = some o ∧ o.isCells = false) : KpO own n₀ W W' := by
  refine ⟨hg.size, fun k hk => .inl (h.2 W' row hg (fun r e => (hr r e).2) k hk), fun k hk => hg.block k (by omega) (fun e => by have := (hr k e.symm).1; omega), fun k c t z hc _ => (hg.block k (Array.getElem?_eq_some_iff.1 hc).1 (fun e => ?_)).trans hc⟩
  obtain ⟨o, ho, hn⟩ := (hr k e.symm).2
  rw [hc] at ho
  cases ho; cases hn
theorem keeps_put {w W : World} {l : Nat} (h : KeepsOthers w W) (hl : w.heap.size ≤ l) (o' : Obj) : KeepsOthers w (W.putObj l o') :=
  ⟨by have := h.size; simpa using this, fun k o hk ho => (World.putObj_heap_other (by have := (Array.getElem?_eq_some_iff.1 hk).1; omega)).trans (h.same k o hk ho)⟩
theorem from_put {W : World} {l B : Nat} (hl : l < B) (o' : Obj) : KeepsFrom B W (W.putObj l o') :=
  ⟨by simp, fun k o hk h0 _ => (World.putObj_heap_other (by omega)).trans h0⟩
theorem from_trans {A B C : World} {b : Nat} (h : KeepsFrom b A B) (k : KeepsFrom b B C) : KeepsFrom b A C :=
  ⟨Nat.le_trans h.size k.size, fun i o hi h0 ho => k.same i o hi (h.same i o hi h0 ho) ho⟩
def postO {α : Type} (own : World → Nat → Prop) (n₀ : Nat) (I : List α → World → Prop) (xs : List α) (W : World) : Exit → Act → World → Prop
  | .normal, _, W' => KeepsOthers W W' ∧ KpO own n₀ W W' ∧ I xs W'
  | _, _, _ => False
variable {F : Fence} {n : Nat} {P : Program}
end Go.Proofs.Ytobchllaopdchaa

namespace Go.Proofs.Ytobchllaopdchaa
open Go.RowKit
theorem below_grown0 {A C : World} (h : Below A.heap.size A C) : A.grownBy C none := ⟨h.os, h.tape, h.output, h.size, fun k hk _ => h.block k hk⟩
theorem keeps_below {A C : World} (h : Below A.heap.size A C) : KeepsOthers A C := ⟨h.size, fun k _ hk _ => (h.block k (Array.getElem?_eq_some_iff.1 hk).1).trans hk⟩
variable {F : Fence} {n : Nat} {P : Program}
end Go.Proofs.Ytobchllaopdchaa
