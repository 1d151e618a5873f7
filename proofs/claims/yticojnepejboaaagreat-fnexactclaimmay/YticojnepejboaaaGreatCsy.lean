/-
  The law FnExactClaimMay, walked: whatever the book and the valve, the call returns true, and nothing that was there before has turned.
-/
import Derived.Test.YticojnepejboaaaGreatCmy
import Derived.Test.YticojnepejboaaaGreatCbe
import Derived.Deep.RegionWith
namespace Go.Proofs.YticojnepejboaaaGreat
open Go.RowKit

set_option maxRecDepth 100000 in
set_option maxHeartbeats 8000000 in
theorem law_any (S : Nat → Prop) (a : DClaimBook) (c : Nat → Value) (tx : ByteArray) (w : World) (h : Lay.At S w a c) (hS : ∀ b, S b → b < w.heap.size) (htx : tx.size ≤ maxLen) :
    Calls Tryz.prog 3 #[.agg #[c 0, c 1, c 2, c 3, c 4], .string tx] w fun e w' => e = .returned (.bool true) ∧ Below w.heap.size w w' := by
  have H : Hid (∀ w', Below w.heap.size w w' → Lay.At S w' a c) := fun w' hb => Lay.same h (Same.of_below hb hS)
  clear h
  have k0 : Hid (Below (w.heap.size + 1) (w.alloc (.cells #[c 0, c 1, c 2, c 3, c 4] 27)) (w.alloc (.cells #[c 0, c 1, c 2, c 3, c 4] 27))) := Below.refl _ _
  unfold maxLen at htx
  by_cases gtx : 1048576 < tx.size
  · go_enter Tryz.func3, Tryz.ntmps3
    go_wp2_with fail
    go_ret
    exact ⟨rfl, below_end k0.out⟩
  go_enter Tryz.func3, Tryz.ntmps3
  go_wp2_with fail
  refine (szClaimBook_any S a c 1048576 _ (H.out _ (below_end k0.out)) (fun b hb => by have := hS b hb; simp; omega) (by omega) (by omega)).mono ?_
  rintro e w1 ⟨y, rfl, hy, hb1⟩
  have k1 : Hid (Below (w.heap.size + 1) (w.alloc (.cells #[c 0, c 1, c 2, c 3, c 4] 27)) w1) := below_of k0.out hb1
  have HY : Hid _ := hy
  clear hy
  by_cases hneg : y < 0
  · go_wp2_with fail
    go_ret
    exact ⟨rfl, below_end k1.out⟩
  · have a_0 := box_at _ _ k1.out 0 (c 0) rfl
    have a_1 := box_at _ _ k1.out 1 (c 1) rfl
    have a_2 := box_at _ _ k1.out 2 (c 2) rfl
    have a_3 := box_at _ _ k1.out 3 (c 3) rfl
    have a_4 := box_at _ _ k1.out 4 (c 4) rfl
    have s1 : w.heap.size + 1 ≤ w1.heap.size := by have := k1.out.size; simpa using this
    have HM : Hid (Lay.tot a ≤ 1048576) := by have := HY.out; show _ ≤ _; omega
    go_wp2_with fail
    refine (toClaimBook_any S a c _ (H.out _ (below_end k1.out)) (fun b hb => by have := hS b hb; omega) HM.out).mono ?_
    rintro e w2 ⟨g, rfl, G, hb2⟩
    have k2 : Hid (Below (w.heap.size + 1) (w.alloc (.cells #[c 0, c 1, c 2, c 3, c 4] 27)) w2) := below_of k1.out hb2
    obtain ⟨l0, l1, l2, l3, ⟨e4, _, _⟩⟩ := at_DClaimBook.1 G
    rw [e4]
    have HW : Hid _ := mayC_any (fun b => w1.heap.size ≤ b ∧ b < w2.heap.size) _ _ _ _ a.2.2.2.2 a.1 a.2.1 a.2.2.1 a.2.2.2.1 tx w2 l0 l1 l2 l3 (fun b hb => hb.2)
    clear G e4 l0 l1 l2 l3
    go_wp2_with fail
    refine Calls.mono HW.out ?_
    rintro e w3 ⟨rfl, hb3⟩
    have k3 : Hid (Below (w.heap.size + 1) (w.alloc (.cells #[c 0, c 1, c 2, c 3, c 4] 27)) w3) := below_of k2.out hb3
    have c_0 := box_at _ _ k3.out 0 (c 0) rfl
    have c_1 := box_at _ _ k3.out 1 (c 1) rfl
    have c_2 := box_at _ _ k3.out 2 (c 2) rfl
    have c_3 := box_at _ _ k3.out 3 (c 3) rfl
    have c_4 := box_at _ _ k3.out 4 (c 4) rfl
    have s3 : w.heap.size + 1 ≤ w3.heap.size := by have := k3.out.size; simpa using this
    go_wp2_with fail
    refine (toClaimBook_any S a c _ (H.out _ (below_end k3.out)) (fun b hb => by have := hS b hb; omega) HM.out).mono ?_
    rintro e w4 ⟨g4, rfl, G4, hb4⟩
    have k4 : Hid (Below (w.heap.size + 1) (w.alloc (.cells #[c 0, c 1, c 2, c 3, c 4] 27)) w4) := below_of k3.out hb4
    have s4 : w.heap.size + 1 ≤ w4.heap.size := by have := k4.out.size; simpa using this
    have G4' := Lay.up (S' := fun b => b < w4.heap.size) G4 (fun b hb => hb.2)
    obtain ⟨l0, l1, l2, l3, ⟨e4, i4, j4⟩⟩ := at_DClaimBook.1 G4'
    clear G4 G4'
    rw [e4]
    obtain ⟨n0, m0⟩ : ∃ n, a.1.length = n := ⟨_, rfl⟩
    obtain ⟨o0, x0, q0, w0n, _⟩ := id l0
    rw [m0] at q0 w0n
    rw [q0] at l0
    rw [q0]
    clear q0 w0n
    obtain ⟨n1, m1⟩ : ∃ n, a.2.1.length = n := ⟨_, rfl⟩
    obtain ⟨o1, x1, q1, w1n, _⟩ := id l1
    rw [m1] at q1 w1n
    rw [q1] at l1
    rw [q1]
    clear q1 w1n
    obtain ⟨n2, m2⟩ : ∃ n, a.2.2.1.length = n := ⟨_, rfl⟩
    obtain ⟨o2, x2, q2, w2n, _⟩ := id l2
    rw [m2] at q2 w2n
    rw [q2] at l2
    rw [q2]
    clear q2 w2n
    obtain ⟨n3, m3⟩ : ∃ n, a.2.2.2.1.length = n := ⟨_, rfl⟩
    obtain ⟨o3, x3, q3, w3n, _⟩ := id l3
    rw [m3] at q3 w3n
    rw [q3] at l3
    rw [q3]
    clear q3 w3n
    have HI : Hid (Lay.At (fun b => b < w4.heap.size) w4 a (cs [.slice o0 n0 x0, .slice o1 n1 x1, .slice o2 n2 x2, .slice o3 n3 x3, .int .i64 a.2.2.2.2])) := at_DClaimBook.2 ⟨l0, l1, l2, l3, ⟨rfl, i4, j4⟩⟩
    have sA : Same (fun b => b < w4.heap.size) w4 (w4.alloc (.cells #[.slice o0 n0 x0, .slice o1 n1 x1, .slice o2 n2 x2, .slice o3 n3 x3, .int .i64 a.2.2.2.2] 34)) := Same.of_alloc w4 _ (fun b hb => hb)
    have HP : Hid _ := mayI_any (fun b => b < w4.heap.size) (.slice o0 n0 x0) (.slice o1 n1 x1) (.slice o2 n2 x2) (.slice o3 n3 x3) a.2.2.2.2 a.1 a.2.1 a.2.2.1 a.2.2.2.1 tx (w4.alloc (.cells #[.slice o0 n0 x0, .slice o1 n1 x1, .slice o2 n2 x2, .slice o3 n3 x3, .int .i64 a.2.2.2.2] 34)) (l0.same sA) (l1.same sA) (l2.same sA) (l3.same sA) (fun b hb => by simp; omega)
    clear l0 l1 l2 l3 sA m0 m1 m2 m3 i4 j4 e4
    go_wp2_with fail
    refine Calls.mono HP.out ?_
    rintro e w5 ⟨rfl, hb5⟩
    have b45 : Hid (Below w4.heap.size w4 w5) := ((Below.refl _ _).alloc (Nat.le_refl _) _).trans (hb5.mono (by simp))
    have k5 : Hid (Below (w.heap.size + 1) (w.alloc (.cells #[c 0, c 1, c 2, c 3, c 4] 27)) w5) := below_of k4.out b45.out
    have e_0 := box_at _ _ k5.out 0 (c 0) rfl
    have e_1 := box_at _ _ k5.out 1 (c 1) rfl
    have e_2 := box_at _ _ k5.out 2 (c 2) rfl
    have e_3 := box_at _ _ k5.out 3 (c 3) rfl
    have e_4 := box_at _ _ k5.out 4 (c 4) rfl
    have d0 := (hb5.cell (p := ⟨w4.heap.size, 0, none⟩) (by simp)).trans (new_cell w4 #[.slice o0 n0 x0, .slice o1 n1 x1, .slice o2 n2 x2, .slice o3 n3 x3, .int .i64 a.2.2.2.2] 34 0 (.slice o0 n0 x0) rfl)
    have d1 := (hb5.cell (p := ⟨w4.heap.size, 1, none⟩) (by simp)).trans (new_cell w4 #[.slice o0 n0 x0, .slice o1 n1 x1, .slice o2 n2 x2, .slice o3 n3 x3, .int .i64 a.2.2.2.2] 34 1 (.slice o1 n1 x1) rfl)
    have d2 := (hb5.cell (p := ⟨w4.heap.size, 2, none⟩) (by simp)).trans (new_cell w4 #[.slice o0 n0 x0, .slice o1 n1 x1, .slice o2 n2 x2, .slice o3 n3 x3, .int .i64 a.2.2.2.2] 34 2 (.slice o2 n2 x2) rfl)
    have d3 := (hb5.cell (p := ⟨w4.heap.size, 3, none⟩) (by simp)).trans (new_cell w4 #[.slice o0 n0 x0, .slice o1 n1 x1, .slice o2 n2 x2, .slice o3 n3 x3, .int .i64 a.2.2.2.2] 34 3 (.slice o3 n3 x3) rfl)
    have d4 := (hb5.cell (p := ⟨w4.heap.size, 4, none⟩) (by simp)).trans (new_cell w4 #[.slice o0 n0 x0, .slice o1 n1 x1, .slice o2 n2 x2, .slice o3 n3 x3, .int .i64 a.2.2.2.2] 34 4 (.int .i64 a.2.2.2.2) rfl)
    have s5 : w4.heap.size + 1 ≤ w5.heap.size := by have := hb5.size; simpa using this
    generalize openN a.1 a.2.1 a.2.2.1 a.2.2.2.1 a.2.2.2.2 tx = y0
    go_wp2_with fail
    go_region_with (first
      | (go_at_call 6; refine (toClaimBook_any S a c _ (by exact H.out _ (below_end k5.out).drew) (fun b hb => by show b < w5.heap.size; have := hS b hb; omega) HM.out).mono ?_; rintro e w6 ⟨r, rfl, G6, hb6⟩; have HG6 : Hid (Lay.At (fun b => w5.heap.size ≤ b ∧ b < w6.heap.size) w6 a r) := G6; clear G6; have s6 : w5.heap.size ≤ w6.heap.size := hb6.size; have g0 := (hb6.cell (p := ⟨w4.heap.size, 0, none⟩) (by show w4.heap.size < w5.heap.size; omega)).trans d0; have g1 := (hb6.cell (p := ⟨w4.heap.size, 1, none⟩) (by show w4.heap.size < w5.heap.size; omega)).trans d1; have g2 := (hb6.cell (p := ⟨w4.heap.size, 2, none⟩) (by show w4.heap.size < w5.heap.size; omega)).trans d2; have g3 := (hb6.cell (p := ⟨w4.heap.size, 3, none⟩) (by show w4.heap.size < w5.heap.size; omega)).trans d3; have g4 := (hb6.cell (p := ⟨w4.heap.size, 4, none⟩) (by show w4.heap.size < w5.heap.size; omega)).trans d4)
      | (go_at_call 8; refine (eqClaimBook_any (fun b => b < w4.heap.size) (fun b => w5.heap.size ≤ b ∧ b < w6.heap.size) a (cs [.slice o0 n0 x0, .slice o1 n1 x1, .slice o2 n2 x2, .slice o3 n3 x3, .int .i64 a.2.2.2.2]) r _ (Lay.same HI.out (Same.of_below (b45.out.drew.trans (hb6.mono (by show w4.heap.size ≤ w5.heap.size; omega))) (fun b hb => hb))) HG6.out (fun b hb => by omega) (fun b hb => hb.2)).mono ?_; rintro e w7 ⟨rfl, hb7⟩))
    all_goals
      go_wp2_with fail
      go_ret
      exact ⟨rfl, (below_end k5.out).drew.trans ((hb6.mono (by show w.heap.size ≤ w5.heap.size; omega)).trans (hb7.mono (by omega)))⟩

end Go.Proofs.YticojnepejboaaaGreat
