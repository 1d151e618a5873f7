/-
  The law FnExactPlantFoes, walked: whatever the plant and the two texts, the call returns true, and nothing that was there before has turned.
-/
import Derived.Test.YtkmgogfgdpldbacFd
import Derived.Deep.RegionWith
namespace Go.Proofs.Ytkmgogfgdpldbac
open Go.RowKit

set_option maxRecDepth 100000 in
set_option maxHeartbeats 4000000 in
theorem lawPf_any (B : Nat) (v0 v1 v2 v3 : Value) (D : PD) (a b : ByteArray) (w : World) (h : PAt B w v0 v1 v2 v3 D) (hB : B ≤ w.heap.size) (hz : D.All) (ha : a.size ≤ maxLen) (hb : b.size ≤ maxLen) :
    Calls Try.prog 3 #[.agg #[v0, v1, v2, v3], .string a, .string b] w fun e w' => e = .returned (.bool true) ∧ Below w.heap.size w w' := by
  have H : Hid (∀ w', Below w.heap.size w w' → PAt B w' v0 v1 v2 v3 D) := fun w' hb => h.kept hb hB
  clear h
  have HA : Hid (a.size ≤ maxLen) := ha
  have HB : Hid (b.size ≤ maxLen) := hb
  unfold maxLen at ha hb
  have k0 : Hid (Below (w.heap.size + 1) (w.alloc (.cells #[v0, v1, v2, v3] 27)) (w.alloc (.cells #[v0, v1, v2, v3] 27))) := Below.refl _ _
  by_cases ga : 1048576 < a.size
  · go_enter Try.func3, Try.ntmps3
    go_wp2_with fail
    go_ret
    exact ⟨rfl, below_end k0.out⟩
  by_cases gb : 1048576 < b.size
  · go_enter Try.func3, Try.ntmps3
    go_wp2_with fail
    go_ret
    exact ⟨rfl, below_end k0.out⟩
  go_enter Try.func3, Try.ntmps3
  go_wp2_with fail
  refine (szPlant_any B v0 v1 v2 v3 D _ (H.out _ (below_end k0.out)) (by simp; omega) hz).mono ?_; rintro e w1 ⟨y, rfl, hsm, hb1⟩
  have k1 : Hid (Below (w.heap.size + 1) (w.alloc (.cells #[v0, v1, v2, v3] 27)) w1) := below_of k0.out hb1
  have HS : Hid _ := hsm
  clear hsm
  by_cases hneg : y < 0
  · go_wp2_with fail
    go_ret
    exact ⟨rfl, below_end k1.out⟩
  · have a0 := box_in k1.out 0 _ rfl
    have a1 := box_in k1.out 1 _ rfl
    have a2 := box_in k1.out 2 _ rfl
    have a3 := box_in k1.out 3 _ rfl
    simp only [List.getElem_toArray, List.getElem_cons_zero, List.getElem_cons_succ] at a0 a1 a2 a3
    have s1 : w.heap.size + 1 ≤ w1.heap.size := by have := k1.out.size; simpa using this
    have HM : Hid (D.ns ≤ 1048576 ∧ D.nf ≤ 1048576 ∧ D.np ≤ 1048576 ∧ D.nv ≤ 1048576) := HS.out (by omega)
    go_wp2_with fail
    refine (toPlant_any B v0 v1 v2 v3 D _ (H.out _ (below_end k1.out)) (by omega) HM.out).mono ?_; rintro e w2 ⟨p0, p1, p2, p3, rfl, P1, hb2⟩
    have k2 : Hid (Below (w.heap.size + 1) (w.alloc (.cells #[v0, v1, v2, v3] 27)) w2) := below_of k1.out hb2
    have HP1 : Hid (PAt w2.heap.size w2 p0 p1 p2 p3 D) := P1
    clear P1
    go_wp2_with fail
    refine (plantFoesS_any w2.heap.size p0 p1 p2 p3 D a b _ HP1.out (Nat.le_refl _) hz.sz).mono ?_; rintro e w3 ⟨bs, rfl, is, hb3⟩
    have IS : Hid _ := is
    clear is
    have k3 : Hid (Below (w.heap.size + 1) (w.alloc (.cells #[v0, v1, v2, v3] 27)) w3) := below_of k2.out hb3
    have c0 := box_in k3.out 0 _ rfl
    have c1 := box_in k3.out 1 _ rfl
    have c2 := box_in k3.out 2 _ rfl
    have c3 := box_in k3.out 3 _ rfl
    simp only [List.getElem_toArray, List.getElem_cons_zero, List.getElem_cons_succ] at c0 c1 c2 c3
    have s3 : w.heap.size + 1 ≤ w3.heap.size := by have := k3.out.size; simpa using this
    go_wp2_with fail
    refine (toPlant_any B v0 v1 v2 v3 D _ (H.out _ (below_end k3.out)) (by omega) HM.out).mono ?_; rintro e w4 ⟨q0, q1, q2, q3, rfl, P2, hb4⟩
    have k4 : Hid (Below (w.heap.size + 1) (w.alloc (.cells #[v0, v1, v2, v3] 27)) w4) := below_of k3.out hb4
    have s4 : w.heap.size + 1 ≤ w4.heap.size := by have := k4.out.size; simpa using this
    obtain ⟨o0, x0, rfl⟩ := slice_lst P2.s
    obtain ⟨o1, x1, rfl⟩ := slice_lst P2.f
    obtain ⟨o2, x2, rfl⟩ := slice_lst P2.p
    obtain ⟨o3, x3, rfl⟩ := slice_lst P2.v
    have HP2 : Hid (PAt w4.heap.size w4 _ _ _ _ D) := P2
    clear P2
    go_wp2_with fail
    refine (plantFoesI_any w4.heap.size _ _ _ _ D a b _ (HP2.out.kept ((Below.refl _ _).alloc (Nat.le_refl _) _) (Nat.le_refl _)) (by simp) hz HA.out HB.out).mono ?_; rintro e w5 ⟨bi, rfl, ii, hb5⟩
    have hbe : bi = bs := bool_same ii IS.out
    subst hbe
    clear ii
    have b45 : Hid (Below w4.heap.size w4 w5) := ((Below.refl _ _).alloc (Nat.le_refl _) _).trans (hb5.mono (by simp))
    have k5 : Hid (Below (w.heap.size + 1) (w.alloc (.cells #[v0, v1, v2, v3] 27)) w5) := below_of k4.out b45.out
    have e0 := box_in k5.out 0 _ rfl
    have e1 := box_in k5.out 1 _ rfl
    have e2 := box_in k5.out 2 _ rfl
    have e3 := box_in k5.out 3 _ rfl
    simp only [List.getElem_toArray, List.getElem_cons_zero, List.getElem_cons_succ] at e0 e1 e2 e3
    have d0 := (hb5.cell (p := ⟨w4.heap.size, 0, none⟩) (by simp)).trans (new_cell w4 #[.slice o0 D.ns x0, .slice o1 D.nf x1, .slice o2 D.np x2, .slice o3 D.nv x3] 34 0 _ rfl)
    have d1 := (hb5.cell (p := ⟨w4.heap.size, 1, none⟩) (by simp)).trans (new_cell w4 #[.slice o0 D.ns x0, .slice o1 D.nf x1, .slice o2 D.np x2, .slice o3 D.nv x3] 34 1 _ rfl)
    have d2 := (hb5.cell (p := ⟨w4.heap.size, 2, none⟩) (by simp)).trans (new_cell w4 #[.slice o0 D.ns x0, .slice o1 D.nf x1, .slice o2 D.np x2, .slice o3 D.nv x3] 34 2 _ rfl)
    have d3 := (hb5.cell (p := ⟨w4.heap.size, 3, none⟩) (by simp)).trans (new_cell w4 #[.slice o0 D.ns x0, .slice o1 D.nf x1, .slice o2 D.np x2, .slice o3 D.nv x3] 34 3 _ rfl)
    simp only [List.getElem_toArray, List.getElem_cons_zero, List.getElem_cons_succ] at d0 d1 d2 d3
    have s5 : w4.heap.size + 1 ≤ w5.heap.size := by have := hb5.size; simpa using this
    cases bi
    all_goals
      go_wp2_with fail
      go_region_with (first
        | (go_at_call 6; refine (toPlant_any B v0 v1 v2 v3 D _ (by exact H.out _ (below_end k5.out).drew) (by show B ≤ w5.heap.size; omega) HM.out).mono ?_; rintro e w6 ⟨r0, r1, r2, r3, rfl, P3, hb6⟩; have HP3 : Hid (PAt w6.heap.size w6 r0 r1 r2 r3 D) := P3; clear P3; have s6 : w5.heap.size ≤ w6.heap.size := hb6.size; have g0 := (hb6.cell (p := ⟨w4.heap.size, 0, none⟩) (by show w4.heap.size < w5.heap.size; omega)).trans d0; have g1 := (hb6.cell (p := ⟨w4.heap.size, 1, none⟩) (by show w4.heap.size < w5.heap.size; omega)).trans d1; have g2 := (hb6.cell (p := ⟨w4.heap.size, 2, none⟩) (by show w4.heap.size < w5.heap.size; omega)).trans d2; have g3 := (hb6.cell (p := ⟨w4.heap.size, 3, none⟩) (by show w4.heap.size < w5.heap.size; omega)).trans d3)
        | (go_at_call 8; refine (eqPlant_any w4.heap.size w6.heap.size _ _ _ _ r0 r1 r2 r3 D _ (HP2.out.kept (b45.out.drew.trans (hb6.mono (by show w4.heap.size ≤ w5.heap.size; omega))) (Nat.le_refl _)) HP3.out (by omega) (Nat.le_refl _)).mono ?_; rintro e w7 ⟨rfl, hb7⟩))
      all_goals
        go_wp2_with fail
        go_ret
        exact ⟨rfl, (below_end k5.out).drew.trans ((hb6.mono (by show w.heap.size ≤ w5.heap.size; omega)).trans (hb7.mono (by omega)))⟩

end Go.Proofs.Ytkmgogfgdpldbac
