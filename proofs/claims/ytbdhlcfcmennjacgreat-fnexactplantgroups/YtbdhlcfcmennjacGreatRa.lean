/-
  The valves at a place, as the program tells them: a function value that hands them on one by one, each with the place behind it.
-/
import Derived.Test.YtbdhlcfcmennjacGreatRz
import Derived.RangeFuncNested
import Derived.RangeFuncBound
import Derived.RangeFuncCalls
import Derived.RangeFuncLeaves
import Derived.RangeFuncBox
import Derived.Shelf.Abstract
import Derived.Shelf.RegionOpen
import Derived.OwnWalkIn
import Derived.TacticsInMore
import Derived.LoopNIn
import Derived.LoopIn
import Derived.Maps.AppendAt
namespace Go.Proofs.YtbdhlcfcmennjacGreat
open Go.RowKit Go.Shelf

attribute [local go_sem] Oper.semAt_some


set_option maxRecDepth 100000 in
set_option maxHeartbeats 1000000 in
theorem behind_any (n a b s x : ByteArray) (w : World) :
    Calls Tryz.prog 100 #[.agg #[.string n, .string a, .string b, .string s], .string x] w fun e w' => e = .returned (.tuple #[.string (behS (n, a, b, s) x), .bool (endB (n, a, b, s) x)]) ∧ w' = w.alloc (.cells #[.string n, .string a, .string b, .string s] 86) := by
  cases h1 : (x.toList == a.toList)
  · cases h2 : (x.toList == b.toList)
    · have e1 : behS (n, a, b, s) x = ⟨#[]⟩ := by simp only [behS, eqB, h1, h2, cond_false]
      have e2 : endB (n, a, b, s) x = false := by simp only [endB, eqB, h1, h2, Bool.or_false]
      rw [e1, e2]
      go_enter Tryz.func100, Tryz.ntmps100
      go_wp2
      go_ret2
      exact ⟨rfl, rfl⟩
    · have e1 : behS (n, a, b, s) x = a := by simp only [behS, eqB, h1, h2, cond_false, cond_true]
      have e2 : endB (n, a, b, s) x = true := by simp only [endB, eqB, h1, h2, Bool.or_true]
      rw [e1, e2]
      go_enter Tryz.func100, Tryz.ntmps100
      go_wp2
      go_ret2
      exact ⟨rfl, rfl⟩
  · have e1 : behS (n, a, b, s) x = b := by simp only [behS, eqB, h1, cond_true]
    have e2 : endB (n, a, b, s) x = true := by simp only [endB, eqB, h1, Bool.true_or]
    rw [e1, e2]
    go_enter Tryz.func100, Tryz.ntmps100
    go_wp2
    go_ret2
    exact ⟨rfl, rfl⟩

set_option maxRecDepth 100000 in
set_option maxHeartbeats 1000000 in
/-- The function value: it has the plant and the place in boxes. -/
theorem valvesAt_any (v0 v1 v2 v3 : Value) (x : ByteArray) (w : World) :
    Calls Tryz.prog 90 #[.agg #[v0, v1, v2, v3], .string x] w fun e w' => e = .returned (.func (.func 106) #[] #[.pointer (some ⟨w.heap.size, 0, none⟩), .pointer (some ⟨w.heap.size + 1, 0, none⟩)]) ∧
      w' = (w.alloc (.cells #[v0, v1, v2, v3] 36)).alloc (.cells #[.string x] 9) := by
  go_enter Tryz.func90, Tryz.ntmps90
  go_wp2
  go_ret
  exact ⟨by simp, rfl⟩

/-- Two texts that are handed on: neither is long. -/
abbrev Two := { s : ByteArray × ByteArray // s.1.size ≤ 8 ∧ s.2.size ≤ 8 }
def two (a b : ByteArray) : Two := if h : a.size ≤ 8 ∧ b.size ≤ 8 then ⟨(a, b), h⟩ else ⟨(⟨#[]⟩, ⟨#[]⟩), by decide⟩
theorem two_of {a b : ByteArray} (ha : a.size ≤ 8) (hb : b.size ≤ 8) : (two a b).1 = (a, b) := by
  unfold two; rw [dif_pos ⟨ha, hb⟩]

/-- The valves that end at a place, of the first k: each one's name, and the place behind it. -/
def vAt (f : Nat → ByteArray × ByteArray × ByteArray × ByteArray) (x : ByteArray) (k : Nat) : List Two := ((List.range k).filter fun i => endB (f i) x).map fun i => two (f i).1 (behS (f i) x)
theorem vAt_yes {f : Nat → ByteArray × ByteArray × ByteArray × ByteArray} {x : ByteArray} {k : Nat} (h : endB (f k) x = true) : vAt f x (k + 1) = vAt f x k ++ [two (f k).1 (behS (f k) x)] := by
  simp [vAt, List.range_succ, List.filter_append, h]
theorem vAt_no {f : Nat → ByteArray × ByteArray × ByteArray × ByteArray} {x : ByteArray} {k : Nat} (h : endB (f k) x = false) : vAt f x (k + 1) = vAt f x k := by
  simp [vAt, List.range_succ, List.filter_append, h]
theorem vAt_len (f : Nat → ByteArray × ByteArray × ByteArray × ByteArray) (x : ByteArray) (k : Nat) : (vAt f x k).length ≤ k := by
  have := List.length_filter_le (fun i => endB (f i) x) (List.range k)
  simp only [vAt, List.length_map]
  simpa using this
theorem vAt_pre (f : Nat → ByteArray × ByteArray × ByteArray × ByteArray) (x : ByteArray) {k n : Nat} (h : k ≤ n) : vAt f x k <+: vAt f x n := by
  induction n with
  | zero => have : k = 0 := by omega
            subst this; exact List.prefix_refl _
  | succ n ih =>
    by_cases e : k = n + 1
    · subst e; exact List.prefix_refl _
    · refine (ih (by omega)).trans ?_
      cases hb : endB (f n) x
      · rw [vAt_no hb]; exact List.prefix_refl _
      · rw [vAt_yes hb]; exact List.prefix_append _ _

/-- What a round must keep: all below n₀, and one box. -/
structure KpV (n₀ b : Nat) (W W' : World) : Prop where
  size : W.heap.size ≤ W'.heap.size
  blk : ∀ k, k < n₀ ∨ k = b → W'.heap[k]? = W.heap[k]?
theorem KpV.refl (n₀ b : Nat) (W : World) : KpV n₀ b W W := ⟨Nat.le_refl _, fun _ _ => rfl⟩
theorem KpV.trans {n₀ b : Nat} {A B C : World} (h : KpV n₀ b A B) (k : KpV n₀ b B C) : KpV n₀ b A C := ⟨Nat.le_trans h.size k.size, fun i hi => (k.blk i hi).trans (h.blk i hi)⟩
theorem KpV.alloc {n₀ b : Nat} {A W : World} (h : KpV n₀ b A W) (hn : n₀ ≤ A.heap.size) (hb : b < A.heap.size) (o : Obj) : KpV n₀ b A (W.alloc o) := by
  have := h.size
  exact ⟨by simp; omega, fun k hk => (Below.heap_alloc W o k (by rcases hk with hk | rfl <;> omega)).trans (h.blk k hk)⟩
theorem KpV.put {n₀ b : Nat} {w : World} (hn : n₀ ≤ w.heap.size) (hb : b < w.heap.size) (W : World) (l : Nat) (o o' : Obj) (hl : w.heap.size ≤ l) (_ : W.heap[l]? = some o) (_ : o.isCells = false) (_ : o.isWalk = false) : KpV n₀ b W (W.putObj l o') :=
  ⟨by simp, fun k hk => World.putObj_heap_other (by rcases hk with hk | rfl <;> omega)⟩

set_option maxRecDepth 100000 in
set_option maxHeartbeats 4000000 in
/-- The closure itself, whatever the body that it hands the valves to, if this keeps what lies below n₀ and the place's box. -/
theorem vals_in (n l b1 b2 n₀ : Nat) (hn : 2 ≤ n) (v3 : Value) (nv : Nat) (f : Nat → ByteArray × ByteArray × ByteArray × ByteArray) (x : ByteArray) (J Jx : List Two → World → Prop) (W : World) (hJ : AbidesFrom W.heap.size J)
    (hY : ∀ pre (y : Two) W1, J pre W1 → pre.length < nv → YieldAt Fence.wide (n - 1) Tryz.prog l #[.string y.1.1, .string y.1.2] W1 fun e W' =>
      (e = .returned (.bool true) ∧ J (pre ++ [y]) W' ∧ KpV n₀ b2 W1 W') ∨ (e = .returned (.bool false) ∧ Jx (pre ++ [y]) W'))
    (hb1 : W.cell? ⟨b1, 3, none⟩ = some v3) (hb2 : W.cell? ⟨b2, 0, none⟩ = some (.string x)) (h : Lst n₀ W v3 nv 4 (cV f)) (h8 : ∀ i, i < nv → (f i).1.size ≤ 8 ∧ (f i).2.1.size ≤ 8 ∧ (f i).2.2.1.size ≤ 8)
    (hs2 : b2 < W.heap.size) (hn₀ : n₀ ≤ W.heap.size) (h0 : J [] W) :
    CallsIn Fence.wide n Tryz.prog 106 #[.func (.yield l) #[] #[], .pointer (some ⟨b1, 0, none⟩), .pointer (some ⟨b2, 0, none⟩)] W fun e W' => (∃ v, e = .returned v) ∧
      ((∃ ys, ys = vAt f x nv ∧ J ys W') ∨ (∃ pre, pre <+: vAt f x nv ∧ Jx pre W')) := by
  obtain ⟨oa, cap, rfl, hm, hc⟩ := h
  unfold maxLen at hm
  have HC : Hid _ := hc
  have H8 : Hid _ := h8
  have HY : Hid _ := hY
  have HJ : Hid _ := hJ
  clear hc h8 hY hJ
  refine callsIn_of_wp Tryz.func106 rfl trivial ?_ rfl
  simp only [Tryz.ntmps106, List.size_toArray, List.length_cons, List.length_nil, Nat.reduceAdd, Nat.reduceSub, Array.replicate_succ, Array.replicate_zero, List.push_toArray, List.append_toArray, List.nil_append, List.cons_append]
  gi_wp2
  gi_loopw [11] (fun i wr => ∃ k : Nat, k ≤ nv ∧ i = .int .i64 k ∧ Hid (J (vAt f x k) wr) ∧ Hid (KpV n₀ b2 W wr))
    (fun i _ => nv - (intOf i).toNat)
  case atStart => exact ⟨0, Nat.zero_le _, rfl, h0, KpV.refl _ _ _⟩
  case round =>
    obtain ⟨k, hk, rfl, hJs, hkp⟩ := hrel
    by_cases hlt : k < nv
    · obtain ⟨b, off, rfl, hbB, hcell⟩ := HC.out k hlt
      have hsz := hkp.out.size
      have rd : ∀ j, j < 4 → wr.cell? ⟨b, off + k * 4 + j, none⟩ = some (cV f k j) := fun j hj => (World.cell?_of_block (w := W) (a := ⟨b, off + k * 4 + j, none⟩) (hkp.out.blk b (Or.inl hbB))).trans (hcell j hj)
      have e0 : wr.cell? ⟨b, off + k * 4, none⟩ = some (.string (f k).1) := by simpa [cV] using rd 0 (by omega)
      have e1 : wr.cell? ⟨b, off + k * 4 + 1, none⟩ = some (.string (f k).2.1) := by simpa [cV] using rd 1 (by omega)
      have e2 : wr.cell? ⟨b, off + k * 4 + 2, none⟩ = some (.string (f k).2.2.1) := by simpa [cV] using rd 2 (by omega)
      have e3 : wr.cell? ⟨b, off + k * 4 + 3, none⟩ = some (.string (f k).2.2.2) := by simpa [cV] using rd 3 (by omega)
      clear rd hcell
      have ep : wr.cell? ⟨b2, 0, none⟩ = some (.string x) := (World.cell?_of_block (w := W) (a := ⟨b2, 0, none⟩) (hkp.out.blk b2 (Or.inr rfl))).trans hb2
      have ep' := cell_past ep (by omega) (.cells #[.string (f k).1, .string (f k).2.1, .string (f k).2.2.1, .string (f k).2.2.2] 86)
      have hK2 : Hid (KpV n₀ b2 wr ((wr.alloc (.cells #[.string (f k).1, .string (f k).2.1, .string (f k).2.2.1, .string (f k).2.2.2] 86)).alloc (.cells #[.string (f k).1, .string (f k).2.1, .string (f k).2.2.1, .string (f k).2.2.2] 86))) :=
        ((KpV.refl n₀ b2 wr).alloc (by omega) (by omega) _).alloc (by omega) (by omega) _
      have hJ2 : Hid (J (vAt f x k) ((wr.alloc (.cells #[.string (f k).1, .string (f k).2.1, .string (f k).2.2.1, .string (f k).2.2.2] 86)).alloc (.cells #[.string (f k).1, .string (f k).2.1, .string (f k).2.2.1, .string (f k).2.2.2] 86))) :=
        HJ.out _ _ _ none (HJ.out _ _ _ none hJs.out (World.grownBy_alloc _ _ none) (fun r e => by cases e)) (World.grownBy_alloc _ _ none) (fun r e => by cases e)
      have n0 := cell_past (new_cell wr #[.string (f k).1, .string (f k).2.1, .string (f k).2.2.1, .string (f k).2.2.2] 86 0 _ rfl) (by simp) (.cells #[.string (f k).1, .string (f k).2.1, .string (f k).2.2.1, .string (f k).2.2.2] 86)
      simp only [List.getElem_toArray, List.getElem_cons_zero] at n0
      have hbe := behind_any (f k).1 (f k).2.1 (f k).2.2.1 (f k).2.2.2 x
      have HL : Hid (endB (f k) x = false → vAt f x (k + 1) = vAt f x k) := vAt_no
      cases hE : endB ((f k).1, (f k).2.1, (f k).2.2.1, (f k).2.2.2) x
      · rw [hE] at hbe
        have HB : Hid _ := hbe
        clear hbe
        gi_wp2_with (refine ⟨trivial, (fun _ => by omega), ?_⟩; gi_at_call 100; refine (callsIn_wide.2 (HB.out _)).mono ?_; rintro e w' ⟨rfl, rfl⟩)
        refine ⟨fun _ h => (by cases h), ?_⟩
        gi_wp2
        go_roundw
        case rel => exact ⟨k + 1, by omega, by go_num, by show J _ _; rw [HL.out hE]; exact hJ2.out, hkp.out.trans hK2.out⟩
        case measure => simp [intOf]; omega
      · rw [hE] at hbe
        have HB : Hid _ := hbe
        clear hbe
        have hz := H8.out k hlt
        have hbs : (behS (f k) x).size ≤ 8 := by
          unfold behS
          cases eqB x (f k).2.1 <;> cases eqB x (f k).2.2.1 <;> simp only [cond_true, cond_false] <;> first | omega | exact (by decide : (0 : Nat) ≤ 8)
        obtain ⟨fn, tmps, assign, body, hy, hR⟩ := HY.out _ (two (f k).1 (behS (f k) x)) _ hJ2.out (by have := vAt_len f x k; omega)
        rw [two_of hz.1 hbs] at hy
        dsimp only at hy
        gi_wp2_with (refine ⟨trivial, (fun _ => by omega), ?_⟩; gi_at_call 100; refine (callsIn_wide.2 (HB.out _)).mono ?_; rintro e w' ⟨rfl, rfl⟩)
        refine ⟨(fun _ => by omega), hR.mono ?_⟩
        rintro e W3 (⟨rfl, hJ3, hk3⟩ | ⟨rfl, hJx3⟩)
        · gi_wp2
          go_roundw
          case rel => exact ⟨k + 1, by omega, by go_num, by show J _ _; rw [vAt_yes hE]; exact hJ3, hkp.out.trans (hK2.out.trans hk3)⟩
          case measure => simp [intOf]; omega
        · gi_wp2
          refine bodyPost_ret (results_none rfl _ _ _) rfl ?_
          exact ⟨⟨_, rfl⟩, .inr ⟨_, by rw [← vAt_yes hE]; exact vAt_pre f x (by omega), hJx3⟩⟩
    · obtain rfl : k = nv := by omega
      gi_wp2
      go_end0
      exact ⟨⟨_, rfl⟩, .inl ⟨_, rfl, hJs.out⟩⟩

end Go.Proofs.YtbdhlcfcmennjacGreat
