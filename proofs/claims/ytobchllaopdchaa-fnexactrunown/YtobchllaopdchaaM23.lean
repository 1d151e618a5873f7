/-
  Several texts in one.
-/
import Derived.Test.YtobchllaopdchaaOnp
import Derived.Test.YtobchllaopdchaaM4
import Derived.Test.YtobchllaopdchaaLo
import Derived.RangeFuncCalls
import Derived.Shelf.Abstract
import Derived.Shelf.RegionOpen
import Derived.OwnWalkIn
import Derived.TacticsInMore
import Derived.LoopNIn
import Derived.LoopIn
import Derived.Sort.CutIn
import Derived.Test.YtobchllaopdchaaM2
namespace Go.Proofs.Ytobchllaopdchaa
open Go.RowKit Go.Shelf
attribute [local go_sem] Oper.semAt_some
def bk (n m : Nat) : List Nat := (List.range m).map fun j => n - 1 - j
theorem bk_len (n m : Nat) : (bk n m).length = m := by simp [bk]
theorem bk_succ (n m : Nat) : bk n (m + 1) = bk n m ++ [n - 1 - m] := by simp [bk, List.range_succ]
def phC (p : DRecPhase) : Value := .agg #[.string p.1, .int .i64 p.2.1, .string p.2.2.1, .string p.2.2.2.1, .int .i64 p.2.2.2.2.1, .int .i64 p.2.2.2.2.2.1, .string p.2.2.2.2.2.2.1, .string p.2.2.2.2.2.2.2]
def phN (r : List DRecPhase) (i : Nat) : DRecPhase := (r[i]?).getD default
theorem phN_at {r : List DRecPhase} {i : Nat} (h : i < r.length) : phN r i = r[i] := by simp [phN, h]
def phV2 (r : List DRecPhase) (i : Nat) : Array Value := #[.int .i64 (i : Int), phC (phN r i)]
theorem but_keeps {g : Nat} {V W : World} {c : Array Value} {t : TypeId} {z : Nat × Nat} (h : But (fun k => k = g) V W) (hg : V.heap[g]? = some (.cells c t z)) : KeepsOthers V W :=
  ⟨h.size, fun k o hk ho => (h.block k (Array.getElem?_eq_some_iff.1 hk).1 (fun e => by subst e; rw [hg] at hk; cases hk; cases ho)).trans hk⟩
theorem but_kpo {g n₀ : Nat} {V W : World} (h : But (fun k => k = g) V W) (hn : n₀ ≤ g) (hV : n₀ ≤ V.heap.size) : KpO (fun _ k => k = g) n₀ V W :=
  ⟨h.size, fun _ h => .inl h, fun k hk => h.block k (by omega) (by omega), fun k c t z hc ho => (h.block k (Array.getElem?_eq_some_iff.1 hc).1 ho).trans hc⟩
theorem but_grown {g : Nat} {U A C : World} {row : Option Nat} (h : But (fun k => k = g) U A) (hg : A.grownBy C row) (hr : ∀ r, row = some r → U.heap.size ≤ r) : But (fun k => k = g) U C :=
  ⟨hg.os.trans h.os, hg.tape.trans h.tape, hg.output.trans h.output, Nat.le_trans h.size hg.size, fun b hb hn => (hg.block b (Nat.lt_of_lt_of_le hb h.size) (fun e => by have := hr b e.symm; omega)).trans (h.block b hb hn)⟩
theorem alloc_at {W : World} (o : Obj) {k : Nat} (h : W.heap.size = k) : (W.alloc o).heap[k]? = some o := by subst h; exact heap_alloc_new W o
theorem alloc_up {W : World} (o : Obj) {k : Nat} {x : Obj} (h : W.heap[k]? = some x) : (W.alloc o).heap[k]? = some x := (Below.heap_alloc W o k (Array.getElem?_eq_some_iff.1 h).1).trans h
theorem ret3 {w : World} {g : Nat} {x0 x1 x2 : Value} {t : TypeId} (h : w.heap[g]? = some (.cells #[x0, x1, x2] t (0, 0))) (a b c : Value) :
    (((w.setCell ⟨g, 0, none⟩ a).setCell ⟨g, 1, none⟩ b).setCell ⟨g, 2, none⟩ c).heap[g]? = some (.cells #[a, b, c] t (0, 0)) ∧ (∀ q, q ≠ g → (((w.setCell ⟨g, 0, none⟩ a).setCell ⟨g, 1, none⟩ b).setCell ⟨g, 2, none⟩ c).heap[q]? = w.heap[q]?) ∧ (((w.setCell ⟨g, 0, none⟩ a).setCell ⟨g, 1, none⟩ b).setCell ⟨g, 2, none⟩ c).heap.size = w.heap.size ∧ Below g w (((w.setCell ⟨g, 0, none⟩ a).setCell ⟨g, 1, none⟩ b).setCell ⟨g, 2, none⟩ c) := by
  refine ⟨?_, ?_, by simp, ?_⟩
  · have := set_row (set_row (set_row h 0 a) 1 b) 2 c
    simpa using this
  · intro q hq
    exact ((Below.heap_setCell _ ⟨g, 2, none⟩ c q hq).trans ((Below.heap_setCell _ ⟨g, 1, none⟩ b q hq).trans (Below.heap_setCell _ ⟨g, 0, none⟩ a q hq)))
  · exact ((((Below.refl _ _).setCell (p := ⟨g, 0, none⟩) (Nat.le_refl _) a).setCell (p := ⟨g, 1, none⟩) (Nat.le_refl _) b).setCell (p := ⟨g, 2, none⟩) (Nat.le_refl _) c)
theorem st_one {g : Nat} {W : World} (h : g < W.heap.size) : OwnSt (fun _ k => k = g) W := ⟨fun k hk => by subst hk; exact h, fun _ _ _ _ _ hk => hk⟩
set_option maxRecDepth 100000 in
set_option maxHeartbeats 1000000 in
theorem back_any (oa : Option Addr) (n cap : Nat) (w : World) :
    Calls Try.prog 79 #[.slice oa n cap] w fun e w' => e = .returned (.func (.func 83) #[] #[.pointer (some ⟨w.heap.size, 0, none⟩)]) ∧ w' = w.alloc (.cells #[.slice oa n cap] 29) := by
  have hmf : ∀ (fn : Fn) (first cap : Array Value) (w : World), (Instr.makeFunc fn first cap).run Try.prog w = .ok (.func fn first cap) w := fun _ _ _ _ => rfl
  go_enter Try.func79, Try.ntmps79
  go_wp2
  go_ret
  exact ⟨by simp, rfl⟩
set_option maxRecDepth 100000 in
set_option maxHeartbeats 4000000 in
theorem back_fit (m b1 n₀ : Nat) (hm : 2 ≤ m) (S : Nat → Prop) (oa : Option Addr) (cap n : Nat) (r : List DRecPhase) (own : World → Nat → Prop) (w : World)
    (hb1 : w.heap[b1]? = some (.cells #[.slice oa n cap] 29 (0, 0))) (h : AtL S w r (.slice oa n cap)) (hS : ∀ b, S b → b < n₀) (hn₀ : n₀ ≤ w.heap.size) (hl : r.length = n) (h12 : n ≤ 1000) :
    SeqFitP Fence.wide m Try.prog 83 #[.pointer (some ⟨b1, 0, none⟩)] (phV2 r) own n₀ (fun k => k < n₀ ∨ k = b1) (fun _ pre x _ => x = n - 1 - pre.length) (fun ys => ys = bk n n) n w := by
  intro l J W hW hJ hst hno hY h0
  have hc1 := (hW.block b1 (Array.getElem?_eq_some_iff.1 hb1).1).trans hb1
  obtain ⟨oa', cap', hv, _, hc⟩ := h.same (Same.of_below hW (fun b hb => Nat.lt_of_lt_of_le (hS b hb) hn₀))
  rw [hl] at hv
  cases hv
  have HC : Hid _ := hc
  have HY : Hid _ := hY
  have HJ : Hid (OwnFrom W.heap.size J) := hJ
  have HST : Hid (∀ pre W1, J pre W1 → OwnSt own W1) := hst
  have HNO : Hid _ := hno
  have HS : Hid _ := hS
  have HC1 : Hid (W.heap[b1]? = some (.cells #[.slice oa n cap] 29 (0, 0))) := hc1
  have H0 : Hid (J [] W) := h0
  have hn₀' : n₀ ≤ W.heap.size := Nat.le_trans hn₀ hW.size
  have HL : Hid (r.length = n) := hl
  obtain ⟨x1, _⟩ := cell_row hc1 0 (.slice oa n cap) rfl
  clear hY hJ hst hno h hb1 hc hc1 h0 hW hS hl
  refine callsIn_of_wp Try.func83 rfl trivial ?_ rfl
  simp only [Try.ntmps83, List.size_toArray, List.length_cons, List.length_nil, Nat.reduceAdd, Nat.reduceSub, Array.replicate_succ, Array.replicate_zero, List.push_toArray, List.append_toArray, List.nil_append, List.cons_append]
  gi_wp2
  gi_loopw [3] (fun i wr => ∃ k : Nat, k ≤ n ∧ i = .int .i64 ((k : Int) - 1) ∧ Hid (J (bk n (n - k)) wr) ∧ Hid (KpO own n₀ W wr))
    (fun i _ => (intOf i + 1).toNat)
  case atStart => exact ⟨n, Nat.le_refl _, by go_num, by rw [Nat.sub_self]; exact H0, KpO.refl _ _ _⟩
  case round =>
    obtain ⟨k, hk, rfl, hJs, hkp⟩ := hrel
    clear x1
    have kb1 := hkp.out.blk b1 _ _ _ HC1.out (HNO.out b1 (.inr rfl))
    obtain ⟨x1, _⟩ := cell_row kb1 0 (.slice oa n cap) rfl
    clear kb1
    cases k with
    | succ i =>
      have ei : (((i + 1 : Nat) : Int) - 1) = (i : Int) := by omega
      rw [ei]
      obtain ⟨b, off, rfl, hbS, cc, hcell, hat⟩ := HC.out i (by have := HL.out; omega)
      have hbn := HS.out b hbS
      rw [width_DRecPhase] at hcell
      rw [at_DRecPhase] at hat
      obtain ⟨f, ef⟩ : ∃ f, r[i]'(by have := HL.out; omega) = f := ⟨_, rfl⟩
      have EN : Hid (phN r i = f) := by show _ = _; rw [phN_at (by have := HL.out; omega), ef]
      rw [ef] at hat
      obtain ⟨nm, kd, a, b', n', wi, th, el⟩ := f
      obtain ⟨⟨q0, z0⟩, ⟨q1, _, _⟩, ⟨q2, z2⟩, ⟨q3, z3⟩, ⟨q4, _, _⟩, ⟨q5, _, _⟩, ⟨q6, z6⟩, ⟨q7, z7⟩⟩ := hat
      simp only at q0 q1 q2 q3 q4 q5 q6 q7
      have rd : ∀ j, j < 8 → wr.cell? ⟨b, off + i * 8 + j, none⟩ = some (cc j) := fun j hj => (World.cell?_of_block (w := W) (a := ⟨b, off + i * 8 + j, none⟩) (hkp.out.low b hbn)).trans (hcell j hj)
      have e0 : wr.cell? ⟨b, off + i * 8, none⟩ = some (cc 0) := rd 0 (by omega)
      have e1 : wr.cell? ⟨b, off + i * 8 + 1, none⟩ = some (cc 1) := rd 1 (by omega)
      have e2 : wr.cell? ⟨b, off + i * 8 + 2, none⟩ = some (cc 2) := rd 2 (by omega)
      have e3 : wr.cell? ⟨b, off + i * 8 + 3, none⟩ = some (cc 3) := rd 3 (by omega)
      have e4 : wr.cell? ⟨b, off + i * 8 + 4, none⟩ = some (cc 4) := rd 4 (by omega)
      have e5 : wr.cell? ⟨b, off + i * 8 + 5, none⟩ = some (cc 5) := rd 5 (by omega)
      have e6 : wr.cell? ⟨b, off + i * 8 + 6, none⟩ = some (cc 6) := rd 6 (by omega)
      have e7 : wr.cell? ⟨b, off + i * 8 + 7, none⟩ = some (cc 7) := rd 7 (by omega)
      clear rd hcell z0 z2 z3 z6 z7 hbS hbn ef
      rw [q0] at e0
      rw [q1] at e1
      rw [q2] at e2
      rw [q3] at e3
      rw [q4] at e4
      rw [q5] at e5
      rw [q6] at e6
      rw [q7] at e7
      clear q0 q1 q2 q3 q4 q5 q6 q7
      have hY := HY.out (bk n (n - (i + 1))) i wr wr hJs.out hJs.out (by rw [bk_len]; omega) (by rw [bk_len]; omega)
      unfold phV2 at hY
      rw [EN.out] at hY
      simp only [phC] at hY
      obtain ⟨fn, tmps, assign, body, hy, hR⟩ := hY
      have d1 : decide ((0 : Int) ≤ (i : Int)) = true := by simp
      gi_wp2
      refine ⟨(fun _ => by omega), hR.mono ?_⟩
      rintro e W3 ⟨rfl, hJ3, hk3, _⟩
      gi_wp2
      go_roundw
      case rel => exact ⟨i, by omega, by go_num, by
        show J _ _
        rw [show n - i = n - (i + 1) + 1 by omega, bk_succ, show n - 1 - (n - (i + 1)) = i by omega]; exact hJ3, hkp.out.trans hk3⟩
      case measure => simp [intOf]
    | zero =>
      gi_wp2
      go_end0
      exact ⟨⟨_, rfl⟩, _, rfl, hJs.out⟩
end Go.Proofs.Ytobchllaopdchaa

namespace Go.Proofs.Ytobchllaopdchaa
open Go.RowKit
set_option maxRecDepth 100000 in
set_option maxHeartbeats 4000000 in
theorem endP_any (s : ByteArray) (w : World) : Calls Try.prog 67 #[.string s] w fun e w' => e = .returned (.int .i64 (endI s)) ∧ w' = w := by
  unfold endI
  cases h1 : isT s [103, 111, 111, 100]
  · cases h2 : isT s [115, 97, 118, 101, 100]
    · cases h3 : isT s [115, 99, 114, 97, 112, 112, 101, 100]
      · unfold isT at h1 h2 h3
        go_enter Try.func67, Try.ntmps67
        go_wp2
        go_ret
        exact ⟨rfl, rfl⟩
      · unfold isT at h1 h2 h3
        go_enter Try.func67, Try.ntmps67
        go_wp2
        go_ret
        exact ⟨rfl, rfl⟩
    · unfold isT at h1 h2
      go_enter Try.func67, Try.ntmps67
      go_wp2
      go_ret
      exact ⟨rfl, rfl⟩
  · unfold isT at h1
    go_enter Try.func67, Try.ntmps67
    go_wp2
    go_ret
    exact ⟨rfl, rfl⟩
end Go.Proofs.Ytobchllaopdchaa
