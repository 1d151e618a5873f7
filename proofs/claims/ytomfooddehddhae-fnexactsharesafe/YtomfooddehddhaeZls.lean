/-
  The law FnExactShareSafe, walked: whatever the book, the call returns true, and nothing that was there before has turned.
-/
import Derived.Test.YtomfooddehddhaeZmj
import Derived.Test.YtomfooddehddhaeZxe
import Derived.Deep.RegionWith
namespace Go.Proofs.Ytomfooddehddhae
open Go.RowKit

theorem bookL_cs {S : Nat → Prop} {w : World} {T : List ByteArray} {Bs : List DShareBatch} {v0 v1 : Value} (h0 : AtL S w T v0) (h1 : AtL S w Bs v1) : Lay.At S w ((T, Bs) : DShareBook) (cs [v0, v1]) := at_DShareBook.2 ⟨h0, h1⟩

set_option maxRecDepth 100000 in
set_option maxHeartbeats 8000000 in
theorem laws_any (PI : ∀ (S : Nat → Prop) (T : List ByteArray) (Bs : List DShareBatch) (o0 oa : Option Addr) (n0 k0 nb kb : Nat) (w : World), AtL S w T (.slice o0 n0 k0) → AtL S w Bs (.slice oa nb kb) → (∀ b, S b → b < w.heap.size) → Lay.tot (α := DShareBook) (T, Bs) ≤ 1048576 → Calls Try.prog 7 #[.agg #[.slice o0 n0 k0, .slice oa nb kb]] w fun e w' => e = .returned (.bool ((ordS (T, Bs)).2)) ∧ Below w.heap.size w w') (S : Nat → Prop) (T : List ByteArray) (Bs : List DShareBatch) (c : Nat → Value) (w : World) (h : Lay.At S w ((T, Bs) : DShareBook) c) (hS : ∀ b, S b → b < w.heap.size) :
    Calls Try.prog 3 #[.agg #[c 0, c 1]] w fun e w' => e = .returned (.bool true) ∧ Below w.heap.size w w' := by
  have H : Hid (∀ w', Below w.heap.size w w' → Lay.At S w' ((T, Bs) : DShareBook) c) := fun w' hb => Lay.same h (Same.of_below hb hS)
  clear h
  obtain ⟨w0, hw0⟩ : ∃ w0, w0 = w.alloc (.cells #[c 0, c 1] 25) := ⟨_, rfl⟩
  have EW : Hid (w0 = w.alloc (.cells #[c 0, c 1] 25)) := hw0
  have k0 : Hid (Below (w.heap.size + 1) (w.alloc (.cells #[c 0, c 1] 25)) w0) := by rw [hw0]; exact Below.refl _ _
  clear hw0
  have a0 := box_at _ _ k0.out 0 (c 0) rfl
  have a1 := box_at _ _ k0.out 1 (c 1) rfl
  have s0 : w.heap.size + 1 ≤ w0.heap.size := by have := k0.out.size; simpa using this
  obtain ⟨R, hR⟩ : ∃ R : Bool, R = (ordS (T, Bs)).2 := ⟨_, rfl⟩
  have HR : Hid (R = (ordS (T, Bs)).2) := hR
  clear hR
  go_enter Try.func3, Try.ntmps3
  go_upto_region 1 with fail
  rw [← EW.out]
  go_wp2_with fail
  refine (szShareBook_any S (T, Bs) c 1048576 _ (H.out _ (below_end k0.out)) (fun b hb => by have := hS b hb; omega) (by omega) (by omega)).mono ?_
  rintro e w1 ⟨y, rfl, hy, hb1⟩
  clear a0 a1
  have k1 : Hid (Below (w.heap.size + 1) (w.alloc (.cells #[c 0, c 1] 25)) w1) := below_of k0.out hb1
  have HY : Hid _ := hy
  clear hy hb1
  by_cases hneg : y < 0
  · go_wp2_with fail
    go_ret
    exact ⟨rfl, below_end k1.out⟩
  have HM : Hid (Lay.tot (α := DShareBook) (T, Bs) ≤ 1048576) := by have := HY.out; show _ ≤ _; omega
  have a0 := box_at _ _ k1.out 0 (c 0) rfl
  have a1 := box_at _ _ k1.out 1 (c 1) rfl
  have s1 : w.heap.size + 1 ≤ w1.heap.size := by have := k1.out.size; simpa using this
  go_wp2_with fail
  refine (toShareBook_any S (T, Bs) c _ (H.out _ (below_end k1.out)) (fun b hb => by have := hS b hb; omega) HM.out).mono ?_
  rintro e w2 ⟨g2, rfl, G, hb⟩
  clear a0 a1
  have k2 : Hid (Below (w.heap.size + 1) (w.alloc (.cells #[c 0, c 1] 25)) w2) := below_of k1.out hb
  have s2 : w.heap.size + 1 ≤ w2.heap.size := by have := k2.out.size; simpa using this
  have G' := Lay.up (S' := fun b => b < w2.heap.size) G (fun b hb => hb.2)
  rw [at_DShareBook] at G'
  obtain ⟨l0, l1⟩ := G'
  clear G
  obtain ⟨n02, en⟩ : ∃ n, T.length = n := ⟨_, rfl⟩
  obtain ⟨o02, x02, e, _⟩ := id l0
  simp only at l0 e
  rw [en] at e
  rw [e] at l0
  rw [e]
  have L02 : Hid (AtL (fun b => b < w2.heap.size) w2 T (.slice o02 n02 x02)) := l0
  clear l0 e en
  obtain ⟨n12, en⟩ : ∃ n, Bs.length = n := ⟨_, rfl⟩
  obtain ⟨o12, x12, e, _⟩ := id l1
  simp only at l1 e
  rw [en] at e
  rw [e] at l1
  rw [e]
  have L12 : Hid (AtL (fun b => b < w2.heap.size) w2 Bs (.slice o12 n12 x12)) := l1
  clear l1 e en
  clear hb
  go_wp2_with fail
  refine (safeZ_any (fun b => b < w2.heap.size) T Bs _ _ _ _ _ _ w2 L02.out L12.out (fun b hb => hb)).mono ?_; rintro e w3 ⟨rfl, hb⟩
  rw [← HR.out]
  have k3 : Hid (Below (w.heap.size + 1) (w.alloc (.cells #[c 0, c 1] 25)) w3) := below_of k2.out hb
  clear hb L02 L12
  have a0 := box_at _ _ k3.out 0 (c 0) rfl
  have a1 := box_at _ _ k3.out 1 (c 1) rfl
  have s3 : w.heap.size + 1 ≤ w3.heap.size := by have := k3.out.size; simpa using this
  go_wp2_with fail
  refine (toShareBook_any S (T, Bs) c _ (H.out _ (below_end k3.out)) (fun b hb => by have := hS b hb; omega) HM.out).mono ?_
  rintro e w4 ⟨g4, rfl, G, hb⟩
  clear a0 a1
  have k4 : Hid (Below (w.heap.size + 1) (w.alloc (.cells #[c 0, c 1] 25)) w4) := below_of k3.out hb
  have s4 : w.heap.size + 1 ≤ w4.heap.size := by have := k4.out.size; simpa using this
  have G' := Lay.up (S' := fun b => b < w4.heap.size) G (fun b hb => hb.2)
  rw [at_DShareBook] at G'
  obtain ⟨l0, l1⟩ := G'
  clear G
  obtain ⟨n04, en⟩ : ∃ n, T.length = n := ⟨_, rfl⟩
  obtain ⟨o04, x04, e, _⟩ := id l0
  simp only at l0 e
  rw [en] at e
  rw [e] at l0
  rw [e]
  have L04 : Hid (AtL (fun b => b < w4.heap.size) w4 T (.slice o04 n04 x04)) := l0
  clear l0 e en
  obtain ⟨n14, en⟩ : ∃ n, Bs.length = n := ⟨_, rfl⟩
  obtain ⟨o14, x14, e, _⟩ := id l1
  simp only at l1 e
  rw [en] at e
  rw [e] at l1
  rw [e]
  have L14 : Hid (AtL (fun b => b < w4.heap.size) w4 Bs (.slice o14 n14 x14)) := l1
  clear l1 e en
  clear hb
  have sA : Same (fun b => b < w4.heap.size) w4 (w4.alloc (.cells #[.slice o04 n04 x04, .slice o14 n14 x14] 30)) := Same.of_alloc w4 _ (fun b hb => hb)
  go_wp2_with fail
  refine (PI (fun b => b < w4.heap.size) T Bs _ _ _ _ _ _ _ (L04.out.same sA) (L14.out.same sA) (fun b hb => by simp; omega) HM.out).mono ?_
  rintro e w5 ⟨rfl, hb5⟩
  rw [← HR.out]
  have b45 : Hid (Below w4.heap.size w4 w5) := ((Below.refl _ _).alloc (Nat.le_refl _) _).trans (hb5.mono (by simp))
  have k5 : Hid (Below (w.heap.size + 1) (w.alloc (.cells #[c 0, c 1] 25)) w5) := below_of k4.out b45.out
  have a0 := box_at _ _ k5.out 0 (c 0) rfl
  have a1 := box_at _ _ k5.out 1 (c 1) rfl
  have s5 : w.heap.size + 1 ≤ w5.heap.size := by have := k5.out.size; simpa using this
  have d0 := (hb5.cell (p := ⟨w4.heap.size, 0, none⟩) (by simp)).trans ((cell_row (heap_alloc_new w4 (.cells #[.slice o04 n04 x04, .slice o14 n14 x14] 30)) 0 (.slice o04 n04 x04) rfl).1)
  have d1 := (hb5.cell (p := ⟨w4.heap.size, 1, none⟩) (by simp)).trans ((cell_row (heap_alloc_new w4 (.cells #[.slice o04 n04 x04, .slice o14 n14 x14] 30)) 1 (.slice o14 n14 x14) rfl).1)
  have r5 : w4.heap.size + 1 ≤ w5.heap.size := by have := hb5.size; simpa using this
  clear hb5
  cases R
  all_goals
    go_wp2_with fail
    go_region_with (first
      | (go_at_call 6; refine (toShareBook_any S (T, Bs) c _ (by exact H.out _ (below_end k5.out).drew) (fun b hb => by show b < w5.heap.size; have := hS b hb; omega) HM.out).mono ?_; rintro e w6 ⟨r, rfl, G6, hb6⟩; have HG6 : Hid (Lay.At (fun b => w5.heap.size ≤ b ∧ b < w6.heap.size) w6 (T, Bs) r) := G6; clear G6; have s6 : w5.heap.size ≤ w6.heap.size := hb6.size; have g0 := (hb6.cell (p := ⟨w4.heap.size, 0, none⟩) (by show w4.heap.size < w5.heap.size; omega)).trans d0; have g1 := (hb6.cell (p := ⟨w4.heap.size, 1, none⟩) (by show w4.heap.size < w5.heap.size; omega)).trans d1)
      | (go_at_call 8; refine (eqShareBook_any (fun b => b < w4.heap.size) (fun b => w5.heap.size ≤ b ∧ b < w6.heap.size) (T, Bs) (cs [.slice o04 n04 x04, .slice o14 n14 x14]) r _ (Lay.same (bookL_cs L04.out L14.out) (Same.of_below (b45.out.drew.trans (hb6.mono (by show w4.heap.size ≤ w5.heap.size; omega))) (fun b hb => hb))) HG6.out (fun b hb => by omega) (fun b hb => hb.2)).mono ?_; rintro e w7 ⟨rfl, hb7⟩))
    all_goals
      go_wp2_with fail
      go_ret
      exact ⟨rfl, (below_end k5.out).drew.trans ((hb6.mono (by show w.heap.size ≤ w5.heap.size; omega)).trans (hb7.mono (by omega)))⟩

end Go.Proofs.Ytomfooddehddhae
