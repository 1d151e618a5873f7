/-
  Several texts in one.
-/
import Derived.Test.YtkongeofapbblaaM25
import Derived.Test.YtkongeofapbblaaM2
import Derived.Test.YtkongeofapbblaaM11
import Derived.RangeFuncCalls
import Derived.Shelf.Abstract
import Derived.Shelf.RegionOpen
import Derived.OwnWalkIn
import Derived.TacticsInMore
import Derived.LoopNIn
import Derived.LoopIn
import Derived.Sort.CutIn
import Derived.Test.YtkongeofapbblaaM0
import Derived.Test.YtkongeofapbblaaHq
import Derived.Lib.Bytealg
import Derived.Lib.Strings
import Derived.Deep.RegionWith
import Derived.Test.YtkongeofapbblaaChecked
import Derived.WalkKit
import Derived.WalkSpells
import Derived.WalkLawsBesides
import Derived.BigQuiet
import Derived.Lib.UnsafeStr
import Derived.Lib.BufferWrite
import Derived.Laws.MakeOwn
import Derived.Laws.Externs
import Derived.Test.YtkongeofapbblaaHi
import Derived.Test.YtkongeofapbblaaM13
/-
  A recipe's phases from the last one back, as the library's iterator hands them on; rounds that write one block alone.
-/
namespace Go.Proofs.Ytkongeofapbblaa
open Go.RowKit Go.Shelf

attribute [local go_sem] Oper.semAt_some

/-- The places from the last one back, the first so many of them. -/
def bk (n m : Nat) : List Nat := (List.range m).map fun j => n - 1 - j
theorem bk_len (n m : Nat) : (bk n m).length = m := by simp [bk]
theorem bk_succ (n m : Nat) : bk n (m + 1) = bk n m ++ [n - 1 - m] := by simp [bk, List.range_succ]
/-- A phase as a value. -/
def phC (p : DRecPhase) : Value := .agg #[.string p.1, .int .i64 p.2.1, .string p.2.2.1, .string p.2.2.2.1, .int .i64 p.2.2.2.2.1, .int .i64 p.2.2.2.2.2.1, .string p.2.2.2.2.2.2.1, .string p.2.2.2.2.2.2.2]
/-- The phase at a place. -/
def phN (r : List DRecPhase) (i : Nat) : DRecPhase := (r[i]?).getD default
theorem phN_at {r : List DRecPhase} {i : Nat} (h : i < r.length) : phN r i = r[i] := by simp [phN, h]
def phV2 (r : List DRecPhase) (i : Nat) : Array Value := #[.int .i64 (i : Int), phC (phN r i)]

theorem but_keeps {g : Nat} {V W : World} {c : Array Value} {t : TypeId} {z : Nat × Nat} (h : But (fun k => k = g) V W) (hg : V.heap[g]? = some (.cells c t z)) : KeepsOthers V W :=
  ⟨h.size, fun k o hk ho => (h.block k (Array.getElem?_eq_some_iff.1 hk).1 (fun e => by subst e; rw [hg] at hk; cases hk; cases ho)).trans hk⟩
theorem but_kpo {g n₀ : Nat} {V W : World} (h : But (fun k => k = g) V W) (hn : n₀ ≤ g) (hV : n₀ ≤ V.heap.size) : KpO (fun _ k => k = g) n₀ V W :=
  ⟨h.size, fun _ h => .inl h, fun k hk => h.block k (by omega) (by omega), fun k c t z hc ho => (h.block k (Array.getElem?_eq_some_iff.1 hc).1 ho).trans hc⟩
theorem but_grown {g : Nat} {U A C : World} {row : Option Nat} (h : But (fun k => k = g) U A) (hg : A.grownBy C row) (hr : ∀ r, row = some r → U.heap.size ≤ r) : But (fun k => k = g) U C :=
  ⟨hg.os.trans h.os, hg.tape.trans h.tape, hg.output.trans h.output, Nat.le_trans h.size hg.size, fun b hb hn => (hg.block b (Nat.lt_of_lt_of_le hb h.size) (fun e => by have := hr b e.symm; omega)).trans (h.block b hb hn)⟩
theorem alloc_at {W : World} (o : Obj) {k : Nat} (h : W.heap.size = k) : (W.alloc o).heap[k]? = some o := by subst h; exact heap_alloc_new W o
theorem alloc_up {W : World} (o : Obj) {k : Nat} {x : Obj} (h : W.heap[k]? = some x) : (W.alloc o).heap[k]? = some x := (Below.heap_alloc W o k (Array.getElem?_eq_some_iff.1 h).1).trans h
theorem ret3 {w : World} {g : Nat} {x0 x1 x2 : Value} {t : TypeId} (h : w.heap[g]? = some (.cells #[x0, x1, x2] t (0, 0))) (a b c : Value) :
    (((w.setCell ⟨g, 0, none⟩ a).setCell ⟨g, 1, none⟩ b).setCell ⟨g, 2, none⟩ c).heap[g]? = some (.cells #[a, b, c] t (0, 0)) ∧ (∀ q, q ≠ g → (((w.setCell ⟨g, 0, none⟩ a).setCell ⟨g, 1, none⟩ b).setCell ⟨g, 2, none⟩ c).heap[q]? = w.heap[q]?) ∧ (((w.setCell ⟨g, 0, none⟩ a).setCell ⟨g, 1, none⟩ b).setCell ⟨g, 2, none⟩ c).heap.size = w.heap.size ∧ Below g w (((w.setCell ⟨g, 0, none⟩ a).setCell ⟨g, 1, none⟩ b).setCell ⟨g, 2, none⟩ c) := by
  refine ⟨?_, ?_, by simp, ?_⟩
  · have := set_row (set_row (set_row h 0 a) 1 b) 2 c
    simpa using this
  · intro q hq
    exact ((Below.heap_setCell _ ⟨g, 2, none⟩ c q hq).trans ((Below.heap_setCell _ ⟨g, 1, none⟩ b q hq).trans (Below.heap_setCell _ ⟨g, 0, none⟩ a q hq)))
  · exact ((((Below.refl _ _).setCell (p := ⟨g, 0, none⟩) (Nat.le_refl _) a).setCell (p := ⟨g, 1, none⟩) (Nat.le_refl _) b).setCell (p := ⟨g, 2, none⟩) (Nat.le_refl _) c)
theorem st_one {g : Nat} {W : World} (h : g < W.heap.size) : OwnSt (fun _ k => k = g) W := ⟨fun k hk => by subst hk; exact h, fun _ _ _ _ _ hk => hk⟩

set_option maxRecDepth 100000 in
set_option maxHeartbeats 1000000 in
theorem back_any (oa : Option Addr) (n cap : Nat) (w : World) :
    Calls Try.prog 61 #[.slice oa n cap] w fun e w' => e = .returned (.func (.func 77) #[] #[.pointer (some ⟨w.heap.size, 0, none⟩)]) ∧ w' = w.alloc (.cells #[.slice oa n cap] 23) := by
  have hmf : ∀ (fn : Fn) (first cap : Array Value) (w : World), (Instr.makeFunc fn first cap).run Try.prog w = .ok (.func fn first cap) w := fun _ _ _ _ => rfl
  go_enter Try.func61, Try.ntmps61
  go_wp2
  go_ret
  exact ⟨by simp, rfl⟩

set_option maxRecDepth 100000 in
set_option maxHeartbeats 4000000 in
theorem back_fit (m b1 n₀ : Nat) (hm : 2 ≤ m) (S : Nat → Prop) (oa : Option Addr) (cap n : Nat) (r : List DRecPhase) (own : World → Nat → Prop) (w : World)
    (hb1 : w.heap[b1]? = some (.cells #[.slice oa n cap] 23 (0, 0))) (h : AtL S w r (.slice oa n cap)) (hS : ∀ b, S b → b < n₀) (hn₀ : n₀ ≤ w.heap.size) (hl : r.length = n) (h12 : n ≤ 1000) :
    SeqFitP Fence.wide m Try.prog 77 #[.pointer (some ⟨b1, 0, none⟩)] (phV2 r) own n₀ (fun k => k < n₀ ∨ k = b1) (fun _ pre x _ => x = n - 1 - pre.length) (fun ys => ys = bk n n) n w := by
  intro l J W hW hJ hst hno hY h0
  have hc1 := (hW.block b1 (Array.getElem?_eq_some_iff.1 hb1).1).trans hb1
  obtain ⟨oa', cap', hv, _, hc⟩ := h.same (Same.of_below hW (fun b hb => Nat.lt_of_lt_of_le (hS b hb) hn₀))
  rw [hl] at hv
  cases hv
  have HC : Hid _ := hc
  have HY : Hid _ := hY
  have HJ : Hid (OwnFrom W.heap.size J) := hJ
  have HST : Hid (∀ pre W1, J pre W1 → OwnSt own W1) := hst
  have HNO : Hid _ := hno
  have HS : Hid _ := hS
  have HC1 : Hid (W.heap[b1]? = some (.cells #[.slice oa n cap] 23 (0, 0))) := hc1
  have H0 : Hid (J [] W) := h0
  have hn₀' : n₀ ≤ W.heap.size := Nat.le_trans hn₀ hW.size
  have HL : Hid (r.length = n) := hl
  obtain ⟨x1, _⟩ := cell_row hc1 0 (.slice oa n cap) rfl
  clear hY hJ hst hno h hb1 hc hc1 h0 hW hS hl
  refine callsIn_of_wp Try.func77 rfl trivial ?_ rfl
  simp only [Try.ntmps77, List.size_toArray, List.length_cons, List.length_nil, Nat.reduceAdd, Nat.reduceSub, Array.replicate_succ, Array.replicate_zero, List.push_toArray, List.append_toArray, List.nil_append, List.cons_append]
  gi_wp2
  gi_loopw [3] (fun i wr => ∃ k : Nat, k ≤ n ∧ i = .int .i64 ((k : Int) - 1) ∧ Hid (J (bk n (n - k)) wr) ∧ Hid (KpO own n₀ W wr))
    (fun i _ => (intOf i + 1).toNat)
  case atStart => exact ⟨n, Nat.le_refl _, by go_num, by rw [Nat.sub_self]; exact H0, KpO.refl _ _ _⟩
  case round =>
    obtain ⟨k, hk, rfl, hJs, hkp⟩ := hrel
    clear x1
    have kb1 := hkp.out.blk b1 _ _ _ HC1.out (HNO.out b1 (.inr rfl))
    obtain ⟨x1, _⟩ := cell_row kb1 0 (.slice oa n cap) rfl
    clear kb1
    cases k with
    | succ i =>
      have ei : (((i + 1 : Nat) : Int) - 1) = (i : Int) := by omega
      rw [ei]
      obtain ⟨b, off, rfl, hbS, cc, hcell, hat⟩ := HC.out i (by have := HL.out; omega)
      have hbn := HS.out b hbS
      rw [width_DRecPhase] at hcell
      rw [at_DRecPhase] at hat
      obtain ⟨f, ef⟩ : ∃ f, r[i]'(by have := HL.out; omega) = f := ⟨_, rfl⟩
      have EN : Hid (phN r i = f) := by show _ = _; rw [phN_at (by have := HL.out; omega), ef]
      rw [ef] at hat
      obtain ⟨nm, kd, a, b', n', wi, th, el⟩ := f
      obtain ⟨⟨q0, z0⟩, ⟨q1, _, _⟩, ⟨q2, z2⟩, ⟨q3, z3⟩, ⟨q4, _, _⟩, ⟨q5, _, _⟩, ⟨q6, z6⟩, ⟨q7, z7⟩⟩ := hat
      simp only at q0 q1 q2 q3 q4 q5 q6 q7
      have rd : ∀ j, j < 8 → wr.cell? ⟨b, off + i * 8 + j, none⟩ = some (cc j) := fun j hj => (World.cell?_of_block (w := W) (a := ⟨b, off + i * 8 + j, none⟩) (hkp.out.low b hbn)).trans (hcell j hj)
      have e0 : wr.cell? ⟨b, off + i * 8, none⟩ = some (cc 0) := rd 0 (by omega)
      have e1 : wr.cell? ⟨b, off + i * 8 + 1, none⟩ = some (cc 1) := rd 1 (by omega)
      have e2 : wr.cell? ⟨b, off + i * 8 + 2, none⟩ = some (cc 2) := rd 2 (by omega)
      have e3 : wr.cell? ⟨b, off + i * 8 + 3, none⟩ = some (cc 3) := rd 3 (by omega)
      have e4 : wr.cell? ⟨b, off + i * 8 + 4, none⟩ = some (cc 4) := rd 4 (by omega)
      have e5 : wr.cell? ⟨b, off + i * 8 + 5, none⟩ = some (cc 5) := rd 5 (by omega)
      have e6 : wr.cell? ⟨b, off + i * 8 + 6, none⟩ = some (cc 6) := rd 6 (by omega)
      have e7 : wr.cell? ⟨b, off + i * 8 + 7, none⟩ = some (cc 7) := rd 7 (by omega)
      clear rd hcell z0 z2 z3 z6 z7 hbS hbn ef
      rw [q0] at e0
      rw [q1] at e1
      rw [q2] at e2
      rw [q3] at e3
      rw [q4] at e4
      rw [q5] at e5
      rw [q6] at e6
      rw [q7] at e7
      clear q0 q1 q2 q3 q4 q5 q6 q7
      have hY := HY.out (bk n (n - (i + 1))) i wr wr hJs.out hJs.out (by rw [bk_len]; omega) (by rw [bk_len]; omega)
      unfold phV2 at hY
      rw [EN.out] at hY
      simp only [phC] at hY
      obtain ⟨fn, tmps, assign, body, hy, hR⟩ := hY
      have d1 : decide ((0 : Int) ≤ (i : Int)) = true := by simp
      gi_wp2
      refine ⟨(fun _ => by omega), hR.mono ?_⟩
      rintro e W3 ⟨rfl, hJ3, hk3, _⟩
      gi_wp2
      go_roundw
      case rel => exact ⟨i, by omega, by go_num, by
        show J _ _
        rw [show n - i = n - (i + 1) + 1 by omega, bk_succ, show n - 1 - (n - (i + 1)) = i by omega]; exact hJ3, hkp.out.trans hk3⟩
      case measure => simp [intOf]
    | zero =>
      gi_wp2
      go_end0
      exact ⟨⟨_, rfl⟩, _, rfl, hJs.out⟩

end Go.Proofs.Ytkongeofapbblaa

/-
  How the program compares texts.
-/
namespace Go.Proofs.Ytkongeofapbblaa
open Go.RowKit

/-- How two texts are compared: below 0, 0, or above. -/
def cmpB (a b : ByteArray) : Int := Lib.compareBytes a.data.toList b.data.toList

theorem cmp_list : ∀ a b : List UInt8, (Lib.compareBytes a b < 0 ↔ Op.bytesLess a b = true) ∧ (Lib.compareBytes a b = 0 ↔ a = b)
  | [], [] => by simp [Lib.compareBytes, Op.bytesLess]
  | [], _ :: _ => by simp [Lib.compareBytes, Op.bytesLess]
  | _ :: _, [] => by simp [Lib.compareBytes, Op.bytesLess]
  | x :: a, y :: b => by
    obtain ⟨h1, h2⟩ := cmp_list a b
    unfold Lib.compareBytes Op.bytesLess
    by_cases hxy : x = y
    · subst hxy
      have hlt : ¬ x < x := UInt8.lt_irrefl x
      simp [hlt, h1, h2]
    · by_cases hlt : x < y
      · simp [hlt, hxy]
      · have hgt : y < x := UInt8.lt_of_le_of_ne (UInt8.not_lt.1 hlt) (Ne.symm hxy)
        simp [hlt, hgt, hxy]

theorem cmpB_lt (a b : ByteArray) : cmpB a b < 0 ↔ ltB a b = true := by
  rw [cmpB, ltB, ByteArray.toList_eq, ByteArray.toList_eq]; exact (cmp_list _ _).1

theorem cmpB_eq (a b : ByteArray) : cmpB a b = 0 ↔ eqB a b = true := by
  rw [cmpB, eqB, ByteArray.toList_eq, ByteArray.toList_eq, beq_iff_eq]; exact (cmp_list _ _).2

theorem cmpB_ge (a b : ByteArray) : decide (0 ≤ cmpB a b) = !ltB a b := by
  rw [Bool.eq_iff_iff]
  have := cmpB_lt a b
  cases h : ltB a b <;> simp [h] at this ⊢ <;> omega

set_option maxRecDepth 100000 in
set_option maxHeartbeats 1000000 in
theorem cmpS0_any (a b : ByteArray) (w : World) : Calls Try.prog 80 #[.string a, .string b] w fun e w' => e = .returned (.int .i64 (cmpB a b)) ∧ w' = w := by
  go_enter Try.func80, Try.ntmps80
  go_wp2
  rw [run_callFunc_extern Try.func86 (by kernel_rfl) (by kernel_rfl) (by kernel_rfl) (e := Extern.BytealgCompare.compare) (by kernel_rfl), Lib.run_compareString]
  simp only [Result.andThen]
  rw [Oper.upon_value]
  go_wp2
  go_ret
  exact ⟨rfl, rfl⟩

set_option maxRecDepth 100000 in
set_option maxHeartbeats 1000000 in
theorem cmpS_any (a b : ByteArray) (w : World) : Calls Try.prog 67 #[.string a, .string b] w fun e w' => e = .returned (.int .i64 (cmpB a b)) ∧ w' = w := by
  go_enter Try.func67, Try.ntmps67
  go_wp2_with (go_at_call 80; refine (cmpS0_any _ _ _).mono ?_; rintro e w1 ⟨rfl, rfl⟩)
  go_ret
  exact ⟨rfl, rfl⟩

theorem eqB_comm (a b : ByteArray) : eqB a b = eqB b a := by
  simp only [eqB]; rw [Bool.eq_iff_iff, beq_iff_eq, beq_iff_eq]; exact eq_comm

end Go.Proofs.Ytkongeofapbblaa

/-
  A contract of the library's fresh copy of a text.
-/
namespace Go.Proofs.Ytkongeofapbblaa
open Go.RowKit

theorem under172 : Try.prog.underlying 126 = some (.pointer 5) := by kernel_rfl
theorem under135' : Try.prog.underlying 22 = some (.slice 5) := by kernel_rfl
theorem info5c : (Try.prog.info? 5).map (fun i => (i.zero, i.size, i.bytes)) = some (some (.int .u8 0), 1, 1) := by kernel_rfl

set_option maxHeartbeats 4000000 in
set_option maxRecDepth 100000 in
theorem clone_any (s : ByteArray) (w : World) (hlim : s.size ≤ 1048576) :
    Calls Try.prog 64 #[.string s] w fun e w' => e = .returned (.string s) ∧ Below w.heap.size w w' := by
  by_cases h0 : s.size = 0
  · have hs : s = ⟨#[]⟩ := by
      apply ByteArray.ext
      exact Array.eq_empty_of_size_eq_zero h0
    subst hs
    go_enter Try.func64, Try.ntmps64
    go_wp2
    go_ret
    exact ⟨rfl, Below.refl _ _⟩
  · obtain ⟨i0, hi, hz0, hz1, hz2⟩ := info_parts info5c
    have hinfo : (Try.prog.info? 5).map (·.size) = some 1 := by rw [hi]; simp [hz1]
    have hco : Try.prog.cellsOf 5 = 1 := by simp [Program.cellsOf, hi, hz1]
    obtain ⟨M, hM⟩ : ∃ M, M = madeCells (Value.int .u8 0).cells (((s.size : Nat) : Int).toNat * i0.size) := ⟨_, rfl⟩
    have hMs : M.size = s.size := by rw [hM, size_madeCells, hz1]; simp
    have hmk : ∀ W : World, (Instr.makeSlice 22 (.int .i64 (s.size : Int)) (.int .i64 (s.size : Int))).run Try.prog W = .ok (.slice (some ⟨W.heap.size, 0, none⟩) s.size s.size) (W.alloc (.cells M 5)) := fun W => by
      have h := run_make (P := Try.prog) W 22 5 i0 (.int .u8 0) under135' hi hz0 .i64 .i64 (s.size : Int) (s.size : Int) (by omega) (by omega) (by rw [hz2]; omega) (by omega)
      rw [← hM] at h
      simpa using h
    clear hM
    have hcp := Lib.run_copy_row_string (P := Try.prog) (w.alloc (.cells M 5)) 22 9 3 5 w.heap.size 0 s.size s.size s M 5 under135' hinfo (heap_alloc_new w _) (Nat.le_refl _) (by omega)
    obtain ⟨Y, hY⟩ : ∃ Y, Y = (M.toList.take 0 ++ Lib.byteCells s.data.toList ++ M.toList.drop (0 + s.size)).toArray := ⟨_, rfl⟩
    rw [← hY] at hcp
    have hYl : Y.toList = Lib.byteCells s.data.toList := by
      rw [hY, List.toList_toArray, List.take_zero, List.nil_append, List.drop_of_length_le (by rw [Array.length_toList]; omega), List.append_nil]
    have hYs : Y.size = s.size := by rw [← Array.length_toList, hYl, Lib.byteCells_length, ← Lib.size_eq]
    have hgY : ((w.alloc (.cells M 5)).setRow w.heap.size Y).heap[w.heap.size]? = some (.cells Y 5 (0, 0)) := setRow_heap _ _ M _ 5 (0, 0) (heap_alloc_new w _)
    have hne : s.data.toList ≠ [] := fun e => h0 (by rw [Lib.size_eq, e]; rfl)
    have hUS := Lib.run_unsafeString_row (P := Try.prog) ((w.alloc (.cells M 5)).setRow w.heap.size Y) 126 3 9 5 under172 hco w.heap.size Y.size (by unfold World.shape?; rw [hgY]) s.data.toList hne (by rw [← Lib.size_eq]; omega) (by rw [← Lib.size_eq]; omega)
      (fun j x hx => Lib.cells_of_row hgY Y.size j _ (by rw [List.take_of_length_le (by rw [Array.length_toList]; exact Nat.le_refl _), hYl]; simp [Lib.byteCells, hx]))
    rw [← Lib.size_eq] at hUS
    clear hY
    go_enter Try.func64, Try.ntmps64
    go_wp2
    go_ret
    have hb1 : Below w.heap.size w (w.alloc (.cells M 5)) := (Below.refl _ w).alloc (Nat.le_refl _) _
    have hb2 : Below w.heap.size (w.alloc (.cells M 5)) ((w.alloc (.cells M 5)).setRow w.heap.size Y) := ⟨rfl, rfl, rfl, by simp, fun k hk => setRow_other _ _ _ _ (by omega)⟩
    exact ⟨rfl, Lib.below_freeze (hb1.trans hb2) (p := ⟨w.heap.size, 0, none⟩) (Nat.le_refl _) _⟩

set_option maxRecDepth 100000 in
set_option maxHeartbeats 1000000 in
theorem clones_any (s : ByteArray) (w : World) (hlim : s.size ≤ 1048576) :
    Calls Try.prog 40 #[.string s] w fun e w' => e = .returned (.string s) ∧ Below w.heap.size w w' := by
  go_enter Try.func40, Try.ntmps40
  go_wp2_with (go_at_call 64; refine (clone_any _ _ hlim).mono ?_; rintro e w1 ⟨rfl, hb⟩)
  go_ret
  exact ⟨rfl, hb⟩

end Go.Proofs.Ytkongeofapbblaa

/-
  A law for a call among operations whose order is open. No program is named here.
-/
namespace Go.Proofs.Ytkongeofapbblaa
open Go.RowKit Go.Sort

/-- A call that alone may come up now, and hands back one value. -/
theorem call1 {P : Program} {md : Region.Mode} {ops : Array Oper} {C : World → Prop} {n f : Nat} {L : Array Bool → Act → World → Prop} {listed : Array Bool} {i dc : Nat} {oc : Oper} {a : Act} {w : World} {fn : FuncId} {args : Array Value}
    (hc : ops[i]? = some oc ∧ oc.guard = none ∧ oc.dst = some dc ∧ i < n) (r0 : Region.ready md ops listed = [i])
    (run : (execOp a.eval oc).run P w = .ok (.enter fn args) w) (con : Calls P fn args w fun e w' => ∃ v, e = .returned v ∧ C w' ∧ anyC P md ops C n L f (listed.setIfInBounds i true) (a.put (some dc) v) w') :
    anyC P md ops C n L (f + 1) listed a w := by
  obtain ⟨hc1, hc2, hc3, hc4⟩ := hc
  refine anyC_call i r0 hc4 ⟨oc, hc1, hc2, fn, args, run, con.mono fun e w' ⟨v, he, hC, hk⟩ => ⟨v, he, hC, ?_⟩⟩
  rw [hc3]; exact hk

end Go.Proofs.Ytkongeofapbblaa

/-
  Rows of texts of the call's own, and copies of them.
-/
namespace Go.Proofs.Ytkongeofapbblaa
open Go.RowKit

set_option maxRecDepth 100000 in
set_option maxHeartbeats 4000000 in
theorem freshT_any (S : Nat → Prop) (v : Value) (l : List ByteArray) (w : World) (h : AtL S w l v) (hS : ∀ b, S b → b < w.heap.size) (hl : l.length ≤ 1048576) (hs : ∀ x ∈ l, x.size ≤ 1048576) :
    Calls Try.prog 65 #[v] w fun e w' => ∃ r, e = .returned r ∧ Row w' w.heap.size 9 1 eS r l ∧ Below w.heap.size w w' := by
  obtain ⟨oa, cap, rfl, hn, hc⟩ := h
  have HC : Hid (∀ i (h : i < l.length), ∃ b off, oa = some ⟨b, off, none⟩ ∧ S b ∧ w.cell? ⟨b, off + i, none⟩ = some (.string l[i])) := fun i hi => by
    obtain ⟨b, off, h1, h2, c, h3, h4⟩ := hc i hi
    have e0 := h3 0 (by decide)
    rw [h4.1] at e0
    exact ⟨b, off, h1, h2, by simpa [width_str] using e0⟩
  have HS : Hid (∀ x ∈ l, x.size ≤ 1048576) := hs
  clear hc hn hs
  obtain ⟨n, en⟩ : ∃ n, l.length = n := ⟨_, rfl⟩
  rw [en] at hl
  rw [en]
  have EN : Hid (l.length = n) := en
  clear en
  go_enter Try.func65, Try.ntmps65
  go_wp2
  go_loopw [3, 8] (fun r i wr => ∃ k : Nat, k ≤ n ∧ i = .int .i64 k ∧ Hid (Row wr w.heap.size 9 1 eS r (l.take k)) ∧ Hid (Below w.heap.size w wr)) (fun _ i _ => n - (intOf i).toNat)
  case atStart => exact ⟨0, Nat.zero_le _, rfl, by simpa [Hid] using Row.nil w w.heap.size 9 1 eS, Below.refl _ _⟩
  case round =>
    obtain ⟨k, hk, rfl, hrow, hbel⟩ := hrel
    have hsz := hbel.out.size
    by_cases hlt : k < n
    · obtain ⟨b, off, rfl, hbS, c0⟩ := HC.out k (by have := EN.out; omega)
      have e0 := (hbel.out.cell (p := ⟨b, off + k, none⟩) (hS b hbS)).trans c0
      clear c0
      have hx := HS.out _ (List.getElem_mem (show k < l.length by have := EN.out; omega))
      have htk : Hid (l.take (k + 1) = l.take k ++ [l[k]'(by have := EN.out; omega)]) := by
        show _ = _
        rw [List.take_add_one, List.getElem?_eq_getElem (show k < l.length by have := EN.out; omega)]; rfl
      obtain ⟨x, ex⟩ : ∃ x, l[k]'(by have := EN.out; omega) = x := ⟨_, rfl⟩
      rw [ex] at e0 hx htk
      clear ex
      have hlk : (l.take k).length = k := by rw [List.length_take]; have := EN.out; omega
      go_wp2_with fail
      refine (clones_any x _ hx).mono ?_
      rintro e w1 ⟨rfl, hb1⟩
      have hs1 := hb1.size
      have hrow1 : Hid (Row w1 w.heap.size 9 1 eS _ (l.take k)) := Row.below hrow.out hb1
      have hsr : Hid (Src (w1.alloc (.cells #[.string x] 9)) (.slice (some ⟨w1.heap.size, 0, none⟩) 1 1) 1 1 (enc 1 eS [x])) := ⟨rfl, .inr ⟨_, _, rfl, by exact cell_one_new _ _ _⟩⟩
      go_wp2_with (first
        | (at_builtin; refine wpList_app elS rfl _ _ rfl rfl rfl (hrow1.out.alloc _) hsr.out (flatS.enc_one _) (by unfold maxLen; omega) (by omega) (by simp; omega) ?_; intro v' w3 hown hg hbk))
      go_roundw
      case rel =>
        refine ⟨k + 1, by omega, by go_num, ?_, (((hbel.out.trans (hb1.mono hsz)).alloc (by omega) _).grown hg (by simp; omega) (fun p hp => (World.ownsRow.lt hrow1.out p hp).1))⟩
        show Row _ _ _ _ _ _ _
        rw [htk.out]
        show World.ownsRow _ _ _ _ _ _ _
        rw [List.length_append, enc_append]
        exact hown
      case measure => simp [intOf]; omega
    · obtain rfl : n = k := by omega
      have htk : Hid (l.take n = l) := by show _ = _; rw [List.take_of_length_le (by have := EN.out; omega)]
      go_wp2
      go_ret
      refine ⟨_, rfl, ?_, hbel.out⟩
      have := hrow.out
      rw [htk.out] at this
      exact this

end Go.Proofs.Ytkongeofapbblaa
