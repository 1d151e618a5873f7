/-
  The law FnExactClaimWantOk, walked: whatever the want, the call returns true, and nothing that was there before has turned.
-/
import Derived.Test.YtdlaomgiocoahabCz
import Derived.Test.YtdlaomgiocoahabCwe
import Derived.Deep.RegionWith
namespace Go.Proofs.Ytdlaomgiocoahab
open Go.RowKit

set_option maxRecDepth 100000 in
set_option maxHeartbeats 8000000 in
theorem law_any (S : Nat → Prop) (a : DClaimWant) (c : Nat → Value) (w : World) (h : Lay.At S w a c) (hS : ∀ b, S b → b < w.heap.size) :
    Calls Try.prog 3 #[.agg #[c 0, c 1, c 2, c 3, c 4, c 5]] w fun e w' => e = .returned (.bool true) ∧ Below w.heap.size w w' := by
  have H : Hid (∀ w', Below w.heap.size w w' → Lay.At S w' a c) := fun w' hb => Lay.same h (Same.of_below hb hS)
  clear h
  have k0 : Hid (Below (w.heap.size + 1) (w.alloc (.cells #[c 0, c 1, c 2, c 3, c 4, c 5] 25)) (w.alloc (.cells #[c 0, c 1, c 2, c 3, c 4, c 5] 25))) := Below.refl _ _
  go_enter Try.func3, Try.ntmps3
  go_wp2_with fail
  refine (szClaimWant_any S a c 1048576 _ (H.out _ (below_end k0.out)) (fun b hb => by have := hS b hb; simp; omega) (by omega) (by omega)).mono ?_
  rintro e w1 ⟨y, rfl, hy, hb1⟩
  have k1 : Hid (Below (w.heap.size + 1) (w.alloc (.cells #[c 0, c 1, c 2, c 3, c 4, c 5] 25)) w1) := below_of k0.out hb1
  have HY : Hid _ := hy
  clear hy
  by_cases hneg : y < 0
  · go_wp2_with fail
    go_ret
    exact ⟨rfl, below_end k1.out⟩
  · have a_0 := box_at _ _ k1.out 0 (c 0) rfl
    have a_1 := box_at _ _ k1.out 1 (c 1) rfl
    have a_2 := box_at _ _ k1.out 2 (c 2) rfl
    have a_3 := box_at _ _ k1.out 3 (c 3) rfl
    have a_4 := box_at _ _ k1.out 4 (c 4) rfl
    have a_5 := box_at _ _ k1.out 5 (c 5) rfl
    have s1 : w.heap.size + 1 ≤ w1.heap.size := by have := k1.out.size; simpa using this
    have HM : Hid (Lay.tot a ≤ 1048576) := by have := HY.out; show _ ≤ _; omega
    go_wp2_with fail
    refine (toClaimWant_any S a c _ (H.out _ (below_end k1.out)) (fun b hb => by have := hS b hb; omega) HM.out).mono ?_
    rintro e w2 ⟨g, rfl, G, hb2⟩
    have k2 : Hid (Below (w.heap.size + 1) (w.alloc (.cells #[c 0, c 1, c 2, c 3, c 4, c 5] 25)) w2) := below_of k1.out hb2
    obtain ⟨⟨e0, _, _⟩, ⟨e1, _, _⟩, l2, l3, l4, l5⟩ := at_DClaimWant.1 G
    rw [e0, e1]
    have HW : Hid _ := wantS_any (fun b => w1.heap.size ≤ b ∧ b < w2.heap.size) a _ _ _ _ w2 l2 l3 l4 l5 (fun b hb => hb.2)
    clear G e0 e1 l2 l3 l4 l5
    go_wp2_with fail
    refine Calls.mono HW.out ?_
    rintro e w3 ⟨rfl, hb3⟩
    have k3 : Hid (Below (w.heap.size + 1) (w.alloc (.cells #[c 0, c 1, c 2, c 3, c 4, c 5] 25)) w3) := below_of k2.out hb3
    have c_0 := box_at _ _ k3.out 0 (c 0) rfl
    have c_1 := box_at _ _ k3.out 1 (c 1) rfl
    have c_2 := box_at _ _ k3.out 2 (c 2) rfl
    have c_3 := box_at _ _ k3.out 3 (c 3) rfl
    have c_4 := box_at _ _ k3.out 4 (c 4) rfl
    have c_5 := box_at _ _ k3.out 5 (c 5) rfl
    have s3 : w.heap.size + 1 ≤ w3.heap.size := by have := k3.out.size; simpa using this
    go_wp2_with fail
    refine (toClaimWant_any S a c _ (H.out _ (below_end k3.out)) (fun b hb => by have := hS b hb; omega) HM.out).mono ?_
    rintro e w4 ⟨g4, rfl, G4, hb4⟩
    have k4 : Hid (Below (w.heap.size + 1) (w.alloc (.cells #[c 0, c 1, c 2, c 3, c 4, c 5] 25)) w4) := below_of k3.out hb4
    have s4 : w.heap.size + 1 ≤ w4.heap.size := by have := k4.out.size; simpa using this
    have G4' := Lay.up (S' := fun b => b < w4.heap.size) G4 (fun b hb => hb.2)
    obtain ⟨⟨e0, i0, j0⟩, ⟨e1, i1, j1⟩, l2, l3, l4, l5⟩ := at_DClaimWant.1 G4'
    clear G4 G4'
    rw [e0, e1]
    obtain ⟨n2, m2⟩ : ∃ n, a.2.2.1.length = n := ⟨_, rfl⟩
    obtain ⟨o2, x2, q2, w2n, _⟩ := id l2
    rw [m2] at q2 w2n
    rw [q2] at l2
    rw [q2]
    have b2 := w2n.1
    clear q2 w2n
    obtain ⟨n3, m3⟩ : ∃ n, a.2.2.2.1.length = n := ⟨_, rfl⟩
    obtain ⟨o3, x3, q3, w3n, _⟩ := id l3
    rw [m3] at q3 w3n
    rw [q3] at l3
    rw [q3]
    have b3 := w3n.1
    clear q3 w3n
    obtain ⟨n4, m4⟩ : ∃ n, a.2.2.2.2.1.length = n := ⟨_, rfl⟩
    obtain ⟨o4, x4, q4, w4n, _⟩ := id l4
    rw [m4] at q4 w4n
    rw [q4] at l4
    rw [q4]
    have b4 := w4n.1
    clear q4 w4n
    obtain ⟨n5, m5⟩ : ∃ n, a.2.2.2.2.2.length = n := ⟨_, rfl⟩
    obtain ⟨o5, x5, q5, w5n, _⟩ := id l5
    rw [m5] at q5 w5n
    rw [q5] at l5
    rw [q5]
    have b5 := w5n.1
    clear q5 w5n
    have HI : Hid (Lay.At (fun b => b < w4.heap.size) w4 a (cs [.int .i64 a.1, .int .i64 a.2.1, .slice o2 n2 x2, .slice o3 n3 x3, .slice o4 n4 x4, .slice o5 n5 x5])) := at_DClaimWant.2 ⟨⟨rfl, i0, j0⟩, ⟨rfl, i1, j1⟩, l2, l3, l4, l5⟩
    have sA : Same (fun b => b < w4.heap.size) w4 (w4.alloc (.cells #[.int .i64 a.1, .int .i64 a.2.1, .slice o2 n2 x2, .slice o3 n3 x3, .slice o4 n4 x4, .slice o5 n5 x5] 30)) := Same.of_alloc w4 _ (fun b hb => hb)
    have HP : Hid _ := wantI_any (fun b => b < w4.heap.size) a o2 o3 o4 o5 n2 n3 n4 n5 x2 x3 x4 x5 (w4.alloc (.cells #[.int .i64 a.1, .int .i64 a.2.1, .slice o2 n2 x2, .slice o3 n3 x3, .slice o4 n4 x4, .slice o5 n5 x5] 30)) (l2.same sA) (l3.same sA) (l4.same sA) (l5.same sA) (fun b hb => by simp; omega) m2 m3 m4 m5 b2 b3 b4 b5
    rw [want_same] at HP
    clear l2 l3 l4 l5 sA m2 m3 m4 m5 b2 b3 b4 b5 i0 j0 i1 j1 e0 e1
    go_wp2_with fail
    refine Calls.mono HP.out ?_
    rintro e w5 ⟨rfl, hb5⟩
    have b45 : Hid (Below w4.heap.size w4 w5) := ((Below.refl _ _).alloc (Nat.le_refl _) _).trans (hb5.mono (by simp))
    have k5 : Hid (Below (w.heap.size + 1) (w.alloc (.cells #[c 0, c 1, c 2, c 3, c 4, c 5] 25)) w5) := below_of k4.out b45.out
    have e_0 := box_at _ _ k5.out 0 (c 0) rfl
    have e_1 := box_at _ _ k5.out 1 (c 1) rfl
    have e_2 := box_at _ _ k5.out 2 (c 2) rfl
    have e_3 := box_at _ _ k5.out 3 (c 3) rfl
    have e_4 := box_at _ _ k5.out 4 (c 4) rfl
    have e_5 := box_at _ _ k5.out 5 (c 5) rfl
    have d0 := (hb5.cell (p := ⟨w4.heap.size, 0, none⟩) (by simp)).trans (new_cell w4 #[.int .i64 a.1, .int .i64 a.2.1, .slice o2 n2 x2, .slice o3 n3 x3, .slice o4 n4 x4, .slice o5 n5 x5] 30 0 (.int .i64 a.1) rfl)
    have d1 := (hb5.cell (p := ⟨w4.heap.size, 1, none⟩) (by simp)).trans (new_cell w4 #[.int .i64 a.1, .int .i64 a.2.1, .slice o2 n2 x2, .slice o3 n3 x3, .slice o4 n4 x4, .slice o5 n5 x5] 30 1 (.int .i64 a.2.1) rfl)
    have d2 := (hb5.cell (p := ⟨w4.heap.size, 2, none⟩) (by simp)).trans (new_cell w4 #[.int .i64 a.1, .int .i64 a.2.1, .slice o2 n2 x2, .slice o3 n3 x3, .slice o4 n4 x4, .slice o5 n5 x5] 30 2 (.slice o2 n2 x2) rfl)
    have d3 := (hb5.cell (p := ⟨w4.heap.size, 3, none⟩) (by simp)).trans (new_cell w4 #[.int .i64 a.1, .int .i64 a.2.1, .slice o2 n2 x2, .slice o3 n3 x3, .slice o4 n4 x4, .slice o5 n5 x5] 30 3 (.slice o3 n3 x3) rfl)
    have d4 := (hb5.cell (p := ⟨w4.heap.size, 4, none⟩) (by simp)).trans (new_cell w4 #[.int .i64 a.1, .int .i64 a.2.1, .slice o2 n2 x2, .slice o3 n3 x3, .slice o4 n4 x4, .slice o5 n5 x5] 30 4 (.slice o4 n4 x4) rfl)
    have d5 := (hb5.cell (p := ⟨w4.heap.size, 5, none⟩) (by simp)).trans (new_cell w4 #[.int .i64 a.1, .int .i64 a.2.1, .slice o2 n2 x2, .slice o3 n3 x3, .slice o4 n4 x4, .slice o5 n5 x5] 30 5 (.slice o5 n5 x5) rfl)
    have s5 : w4.heap.size + 1 ≤ w5.heap.size := by have := hb5.size; simpa using this
    cases wantB a
    all_goals
      go_wp2_with fail
      go_region_with (first
        | (go_at_call 6; refine (toClaimWant_any S a c _ (by exact H.out _ (below_end k5.out).drew) (fun b hb => by show b < w5.heap.size; have := hS b hb; omega) HM.out).mono ?_; rintro e w6 ⟨r, rfl, G6, hb6⟩; have HG6 : Hid (Lay.At (fun b => w5.heap.size ≤ b ∧ b < w6.heap.size) w6 a r) := G6; clear G6; have s6 : w5.heap.size ≤ w6.heap.size := hb6.size; have g0 := (hb6.cell (p := ⟨w4.heap.size, 0, none⟩) (by show w4.heap.size < w5.heap.size; omega)).trans d0; have g1 := (hb6.cell (p := ⟨w4.heap.size, 1, none⟩) (by show w4.heap.size < w5.heap.size; omega)).trans d1; have g2 := (hb6.cell (p := ⟨w4.heap.size, 2, none⟩) (by show w4.heap.size < w5.heap.size; omega)).trans d2; have g3 := (hb6.cell (p := ⟨w4.heap.size, 3, none⟩) (by show w4.heap.size < w5.heap.size; omega)).trans d3; have g4 := (hb6.cell (p := ⟨w4.heap.size, 4, none⟩) (by show w4.heap.size < w5.heap.size; omega)).trans d4; have g5 := (hb6.cell (p := ⟨w4.heap.size, 5, none⟩) (by show w4.heap.size < w5.heap.size; omega)).trans d5)
        | (go_at_call 8; refine (eqClaimWant_any (fun b => b < w4.heap.size) (fun b => w5.heap.size ≤ b ∧ b < w6.heap.size) a (cs [.int .i64 a.1, .int .i64 a.2.1, .slice o2 n2 x2, .slice o3 n3 x3, .slice o4 n4 x4, .slice o5 n5 x5]) r _ (Lay.same HI.out (Same.of_below (b45.out.drew.trans (hb6.mono (by show w4.heap.size ≤ w5.heap.size; omega))) (fun b hb => hb))) HG6.out (fun b hb => by omega) (fun b hb => hb.2)).mono ?_; rintro e w7 ⟨rfl, hb7⟩))
      all_goals
        go_wp2_with fail
        go_ret
        exact ⟨rfl, (below_end k5.out).drew.trans ((hb6.mono (by show w.heap.size ≤ w5.heap.size; omega)).trans (hb7.mono (by omega)))⟩

end Go.Proofs.Ytdlaomgiocoahab
