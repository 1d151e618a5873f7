/-
  The law FnExactStuffMeets, walked: whatever the book and the texts, the call returns true, and nothing that was there before has turned.
-/
import Derived.Test.YtejlcokhdgebiabGreatIm
import Derived.Test.YtejlcokhdgebiabGreatLe
import Derived.Test.YtejlcokhdgebiabGreatMu
import Derived.Deep.RegionWith
namespace Go.Proofs.YtejlcokhdgebiabGreat
open Go.RowKit

theorem book_cs {S : Nat → Prop} {w : World} {a : DStuffBook} {v0 v1 v2 v3 : Value} (h0 : AtL S w a.1 v0) (h1 : AtL S w a.2.1 v1) (h2 : AtL S w a.2.2.1 v2) (h3 : AtL S w a.2.2.2 v3) : Lay.At S w a (cs [v0, v1, v2, v3]) := at_DStuffBook.2 ⟨h0, h1, h2, h3⟩

set_option maxRecDepth 100000 in
set_option maxHeartbeats 4000000 in
theorem law_any (S : Nat → Prop) (a : DStuffBook) (c : Nat → Value) (tx ty : ByteArray) (w : World) (h : Lay.At S w a c) (hS : ∀ b, S b → b < w.heap.size) (htx : tx.size ≤ maxLen) (hty : ty.size ≤ maxLen) :
    Calls Tryz.prog 3 #[.agg #[c 0, c 1, c 2, c 3], .string tx, .string ty] w fun e w' => e = .returned (.bool true) ∧ Below w.heap.size w w' := by
  have H : Hid (∀ w', Below w.heap.size w w' → Lay.At S w' a c) := fun w' hb => Lay.same h (Same.of_below hb hS)
  clear h
  have k0 : Hid (Below (w.heap.size + 1) (w.alloc (.cells #[c 0, c 1, c 2, c 3] 27)) (w.alloc (.cells #[c 0, c 1, c 2, c 3] 27))) := Below.refl _ _
  have Htx : Hid (tx.size ≤ maxLen) := htx
  unfold maxLen at htx
  have Hty : Hid (ty.size ≤ maxLen) := hty
  unfold maxLen at hty
  by_cases gtx : 1048576 < tx.size
  · go_enter Tryz.func3, Tryz.ntmps3
    go_wp2_with fail
    go_ret
    exact ⟨rfl, below_end k0.out⟩
  by_cases gty : 1048576 < ty.size
  · go_enter Tryz.func3, Tryz.ntmps3
    go_wp2_with fail
    go_ret
    exact ⟨rfl, below_end k0.out⟩
  go_enter Tryz.func3, Tryz.ntmps3
  go_wp2_with fail
  refine (szStuffBook_any S a c 1048576 _ (H.out _ (below_end k0.out)) (fun b hb => by have := hS b hb; simp; omega) (by omega) (by omega)).mono ?_
  rintro e w1 ⟨y, rfl, hy, hb1⟩
  have k1 : Hid (Below (w.heap.size + 1) (w.alloc (.cells #[c 0, c 1, c 2, c 3] 27)) w1) := below_of k0.out hb1
  have HY : Hid _ := hy
  clear hy
  by_cases hneg : y < 0
  · go_wp2_with fail
    go_ret
    exact ⟨rfl, below_end k1.out⟩
  · have a0 := box_at _ _ k1.out 0 (c 0) rfl
    have a1 := box_at _ _ k1.out 1 (c 1) rfl
    have a2 := box_at _ _ k1.out 2 (c 2) rfl
    have a3 := box_at _ _ k1.out 3 (c 3) rfl
    have s1 : w.heap.size + 1 ≤ w1.heap.size := by have := k1.out.size; simpa using this
    have HM : Hid (Lay.tot a ≤ 1048576) := by have := HY.out; show _ ≤ _; omega
    go_wp2_with fail
    refine (toStuffBook_any S a c _ (H.out _ (below_end k1.out)) (fun b hb => by have := hS b hb; omega) HM.out).mono ?_
    rintro e w2 ⟨g, rfl, G, hb2⟩
    have k2 : Hid (Below (w.heap.size + 1) (w.alloc (.cells #[c 0, c 1, c 2, c 3] 27)) w2) := below_of k1.out hb2
    have HG : Hid (Lay.At (fun b => w1.heap.size ≤ b ∧ b < w2.heap.size) w2 a g) := G
    clear G
    go_wp2_with fail
    refine (meetsS_any (fun b => w1.heap.size ≤ b ∧ b < w2.heap.size) a g tx ty _ HG.out (fun b hb => hb.2)).mono ?_
    rintro e w3 ⟨rfl, hb3⟩
    have k3 : Hid (Below (w.heap.size + 1) (w.alloc (.cells #[c 0, c 1, c 2, c 3] 27)) w3) := below_of k2.out hb3
    have c0 := box_at _ _ k3.out 0 (c 0) rfl
    have c1 := box_at _ _ k3.out 1 (c 1) rfl
    have c2 := box_at _ _ k3.out 2 (c 2) rfl
    have c3 := box_at _ _ k3.out 3 (c 3) rfl
    have s3 : w.heap.size + 1 ≤ w3.heap.size := by have := k3.out.size; simpa using this
    go_wp2_with fail
    refine (toStuffBook_any S a c _ (H.out _ (below_end k3.out)) (fun b hb => by have := hS b hb; omega) HM.out).mono ?_
    rintro e w4 ⟨g4, rfl, G4, hb4⟩
    have k4 : Hid (Below (w.heap.size + 1) (w.alloc (.cells #[c 0, c 1, c 2, c 3] 27)) w4) := below_of k3.out hb4
    have s4 : w.heap.size + 1 ≤ w4.heap.size := by have := k4.out.size; simpa using this
    have G4' := Lay.up (S' := fun b => b < w4.heap.size) G4 (fun b hb => hb.2)
    rw [at_DStuffBook] at G4'
    obtain ⟨l0, l1, l2, l3⟩ := G4'
    clear G4
    obtain ⟨n0, en0⟩ : ∃ n, a.1.length = n := ⟨_, rfl⟩
    obtain ⟨o0, x0, e0, _⟩ := id l0
    rw [en0] at e0
    rw [e0] at l0
    rw [e0]
    have L0 : Hid (AtL (fun b => b < w4.heap.size) w4 a.1 (.slice o0 n0 x0)) := l0
    obtain ⟨n1, en1⟩ : ∃ n, a.2.1.length = n := ⟨_, rfl⟩
    obtain ⟨o1, x1, e1, _⟩ := id l1
    rw [en1] at e1
    rw [e1] at l1
    rw [e1]
    have L1 : Hid (AtL (fun b => b < w4.heap.size) w4 a.2.1 (.slice o1 n1 x1)) := l1
    obtain ⟨n2, en2⟩ : ∃ n, a.2.2.1.length = n := ⟨_, rfl⟩
    obtain ⟨o2, x2, e2, _⟩ := id l2
    rw [en2] at e2
    rw [e2] at l2
    rw [e2]
    have L2 : Hid (AtL (fun b => b < w4.heap.size) w4 a.2.2.1 (.slice o2 n2 x2)) := l2
    obtain ⟨n3, en3⟩ : ∃ n, a.2.2.2.length = n := ⟨_, rfl⟩
    obtain ⟨o3, x3, e3, _⟩ := id l3
    rw [en3] at e3
    rw [e3] at l3
    rw [e3]
    have L3 : Hid (AtL (fun b => b < w4.heap.size) w4 a.2.2.2 (.slice o3 n3 x3)) := l3
    clear l0 l1 l2 l3 e0 e1 e2 e3 en0 en1 en2 en3
    have sA : Same (fun b => b < w4.heap.size) w4 (w4.alloc (.cells #[.slice o0 n0 x0, .slice o1 n1 x1, .slice o2 n2 x2, .slice o3 n3 x3] 35)) := Same.of_alloc w4 _ (fun b hb => hb)
    go_wp2_with fail
    refine (meetsI_v (fun b => b < w4.heap.size) a _ _ _ _ tx ty _ (L0.out.same sA) (L1.out.same sA) (L2.out.same sA) (L3.out.same sA) (fun b hb => by simp; omega)).mono ?_
    rintro e w5 ⟨rfl, hb5⟩
    have b45 : Hid (Below w4.heap.size w4 w5) := ((Below.refl _ _).alloc (Nat.le_refl _) _).trans (hb5.mono (by simp))
    have k5 : Hid (Below (w.heap.size + 1) (w.alloc (.cells #[c 0, c 1, c 2, c 3] 27)) w5) := below_of k4.out b45.out
    have e0 := box_at _ _ k5.out 0 (c 0) rfl
    have e1 := box_at _ _ k5.out 1 (c 1) rfl
    have e2 := box_at _ _ k5.out 2 (c 2) rfl
    have e3 := box_at _ _ k5.out 3 (c 3) rfl
    have d0 := (hb5.cell (p := ⟨w4.heap.size, 0, none⟩) (by simp)).trans (new_cell w4 #[.slice o0 n0 x0, .slice o1 n1 x1, .slice o2 n2 x2, .slice o3 n3 x3] 35 0 (.slice o0 n0 x0) rfl)
    have d1 := (hb5.cell (p := ⟨w4.heap.size, 1, none⟩) (by simp)).trans (new_cell w4 #[.slice o0 n0 x0, .slice o1 n1 x1, .slice o2 n2 x2, .slice o3 n3 x3] 35 1 (.slice o1 n1 x1) rfl)
    have d2 := (hb5.cell (p := ⟨w4.heap.size, 2, none⟩) (by simp)).trans (new_cell w4 #[.slice o0 n0 x0, .slice o1 n1 x1, .slice o2 n2 x2, .slice o3 n3 x3] 35 2 (.slice o2 n2 x2) rfl)
    have d3 := (hb5.cell (p := ⟨w4.heap.size, 3, none⟩) (by simp)).trans (new_cell w4 #[.slice o0 n0 x0, .slice o1 n1 x1, .slice o2 n2 x2, .slice o3 n3 x3] 35 3 (.slice o3 n3 x3) rfl)
    have s5 : w4.heap.size + 1 ≤ w5.heap.size := by have := hb5.size; simpa using this
    cases meetsB a tx ty
    all_goals
      go_wp2_with fail
      go_region_with (first
        | (go_at_call 6; refine (toStuffBook_any S a c _ (by exact H.out _ (below_end k5.out).drew) (fun b hb => by show b < w5.heap.size; have := hS b hb; omega) HM.out).mono ?_; rintro e w6 ⟨r, rfl, G6, hb6⟩; have HG6 : Hid (Lay.At (fun b => w5.heap.size ≤ b ∧ b < w6.heap.size) w6 a r) := G6; clear G6; have s6 : w5.heap.size ≤ w6.heap.size := hb6.size; have g0 := (hb6.cell (p := ⟨w4.heap.size, 0, none⟩) (by show w4.heap.size < w5.heap.size; omega)).trans d0; have g1 := (hb6.cell (p := ⟨w4.heap.size, 1, none⟩) (by show w4.heap.size < w5.heap.size; omega)).trans d1; have g2 := (hb6.cell (p := ⟨w4.heap.size, 2, none⟩) (by show w4.heap.size < w5.heap.size; omega)).trans d2; have g3 := (hb6.cell (p := ⟨w4.heap.size, 3, none⟩) (by show w4.heap.size < w5.heap.size; omega)).trans d3)
        | (go_at_call 8; refine (eqStuffBook_any (fun b => b < w4.heap.size) (fun b => w5.heap.size ≤ b ∧ b < w6.heap.size) a (cs [.slice o0 n0 x0, .slice o1 n1 x1, .slice o2 n2 x2, .slice o3 n3 x3]) r _ (Lay.same (book_cs L0.out L1.out L2.out L3.out) (Same.of_below (b45.out.drew.trans (hb6.mono (by show w4.heap.size ≤ w5.heap.size; omega))) (fun b hb => hb))) HG6.out (fun b hb => by omega) (fun b hb => hb.2)).mono ?_; rintro e w7 ⟨rfl, hb7⟩))
      all_goals
        go_wp2_with fail
        go_ret
        exact ⟨rfl, (below_end k5.out).drew.trans ((hb6.mono (by show w.heap.size ≤ w5.heap.size; omega)).trans (hb7.mono (by omega)))⟩

end Go.Proofs.YtejlcokhdgebiabGreat
