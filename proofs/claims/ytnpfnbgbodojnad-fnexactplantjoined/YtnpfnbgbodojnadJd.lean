/-
  The law FnExactPlantJoined, walked: whatever the index and the two texts, the call returns true, and nothing that was there before has turned.
-/
import Derived.Test.YtnpfnbgbodojnadJc
import Derived.Deep.RegionWith
namespace Go.Proofs.Ytnpfnbgbodojnad
open Go.RowKit

set_option maxRecDepth 100000 in
set_option maxHeartbeats 4000000 in
theorem lawPj_any (B : Nat) (v0 v1 : Value) (m k : Nat) (P : Nat → ByteArray) (Q : Nat → ByteArray × ByteArray) (a b : ByteArray) (w : World) (h : IAt B w v0 v1 m P k Q) (hB : B ≤ w.heap.size) (hp : ∀ i, i < m → (P i).size ≤ maxLen) (hq : ∀ i, i < k → (Q i).1.size ≤ maxLen ∧ (Q i).2.size ≤ maxLen) (ha : a.size ≤ maxLen) (hb : b.size ≤ maxLen) :
    Calls Try.prog 3 #[.agg #[v0, v1], .string a, .string b] w fun e w' => e = .returned (.bool true) ∧ Below w.heap.size w w' := by
  have H : Hid (∀ w', Below w.heap.size w w' → IAt B w' v0 v1 m P k Q) := fun w' hb => h.kept hb hB
  clear h
  unfold maxLen at ha hb
  have HP : Hid _ := hp
  have HQ : Hid _ := hq
  clear hp hq
  have k0 : Hid (Below (w.heap.size + 1) (w.alloc (.cells #[v0, v1] 25)) (w.alloc (.cells #[v0, v1] 25))) := Below.refl _ _
  by_cases ga : 1048576 < a.size
  · go_enter Try.func3, Try.ntmps3
    go_wp2_with fail
    go_ret
    exact ⟨rfl, below_end k0.out⟩
  by_cases gb : 1048576 < b.size
  · go_enter Try.func3, Try.ntmps3
    go_wp2_with fail
    go_ret
    exact ⟨rfl, below_end k0.out⟩
  go_enter Try.func3, Try.ntmps3
  go_wp2_with fail
  refine (szIndex_any B v0 v1 m k P Q _ _ (H.out _ (below_end k0.out)) (by simp; omega) HP.out HQ.out (by omega) (by omega)).mono ?_; rintro e w1 ⟨y, rfl, _, hsm, hb1⟩
  have k1 : Hid (Below (w.heap.size + 1) (w.alloc (.cells #[v0, v1] 25)) w1) := below_of k0.out hb1
  have HS : Hid _ := hsm
  clear hsm
  by_cases hneg : y < 0
  · go_wp2_with fail
    go_ret
    exact ⟨rfl, below_end k1.out⟩
  · have a0 := box_in k1.out 0 _ rfl
    have a1 := box_in k1.out 1 _ rfl
    simp only [List.getElem_toArray, List.getElem_cons_zero, List.getElem_cons_succ] at a0 a1
    have s1 : w.heap.size + 1 ≤ w1.heap.size := by have := k1.out.size; simpa using this
    have HM : Hid (m ≤ 1048576 ∧ k ≤ 1048576) := HS.out (by omega)
    go_wp2_with fail
    refine (toIndex_any B v0 v1 m k P Q _ (H.out _ (below_end k1.out)) (by omega) HM.out.1 HM.out.2).mono ?_; rintro e w2 ⟨p0, p1, rfl, P1, hb2⟩
    have k2 : Hid (Below (w.heap.size + 1) (w.alloc (.cells #[v0, v1] 25)) w2) := below_of k1.out hb2
    have HP1 : Hid (IAt w2.heap.size w2 (sl p0 m) (sl p1 k) m P k Q) := P1
    clear P1
    go_wp2_with fail
    refine (joinedS_any w2.heap.size _ _ k Q a b _ HP1.out.v (Nat.le_refl _)).mono ?_; rintro e w3 ⟨rfl, hb3⟩
    have k3 : Hid (Below (w.heap.size + 1) (w.alloc (.cells #[v0, v1] 25)) w3) := below_of k2.out hb3
    have c0 := box_in k3.out 0 _ rfl
    have c1 := box_in k3.out 1 _ rfl
    simp only [List.getElem_toArray, List.getElem_cons_zero, List.getElem_cons_succ] at c0 c1
    have s3 : w.heap.size + 1 ≤ w3.heap.size := by have := k3.out.size; simpa using this
    go_wp2_with fail
    refine (toIndex_any B v0 v1 m k P Q _ (H.out _ (below_end k3.out)) (by omega) HM.out.1 HM.out.2).mono ?_; rintro e w4 ⟨q0, q1, rfl, P2, hb4⟩
    have k4 : Hid (Below (w.heap.size + 1) (w.alloc (.cells #[v0, v1] 25)) w4) := below_of k3.out hb4
    have s4 : w.heap.size + 1 ≤ w4.heap.size := by have := k4.out.size; simpa using this
    have HP2 : Hid (IAt w4.heap.size w4 (sl q0 m) (sl q1 k) m P k Q) := P2
    clear P2
    go_wp2_with fail
    refine (joinedI_any w4.heap.size _ _ k Q a b _ (HP2.out.v.kept ((Below.refl _ _).alloc (Nat.le_refl _) _) (Nat.le_refl _)) (by simp)).mono ?_; rintro e w5 ⟨rfl, hb5⟩
    have b45 : Hid (Below w4.heap.size w4 w5) := ((Below.refl _ _).alloc (Nat.le_refl _) _).trans (hb5.mono (by simp))
    have k5 : Hid (Below (w.heap.size + 1) (w.alloc (.cells #[v0, v1] 25)) w5) := below_of k4.out b45.out
    have e0 := box_in k5.out 0 _ rfl
    have e1 := box_in k5.out 1 _ rfl
    simp only [List.getElem_toArray, List.getElem_cons_zero, List.getElem_cons_succ] at e0 e1
    have d0 := (hb5.cell (p := ⟨w4.heap.size, 0, none⟩) (by simp)).trans (new_cell w4 #[sl q0 m, sl q1 k] 30 0 _ rfl)
    have d1 := (hb5.cell (p := ⟨w4.heap.size, 1, none⟩) (by simp)).trans (new_cell w4 #[sl q0 m, sl q1 k] 30 1 _ rfl)
    simp only [List.getElem_toArray, List.getElem_cons_zero, List.getElem_cons_succ] at d0 d1
    have s5 : w4.heap.size + 1 ≤ w5.heap.size := by have := hb5.size; simpa using this
    generalize jnB k Q a b = bi
    cases bi
    all_goals
      go_wp2_with fail
      go_region_with (first
        | (go_at_call 6; refine (toIndex_any B v0 v1 m k P Q _ (by exact H.out _ (below_end k5.out).drew) (by show B ≤ w5.heap.size; omega) HM.out.1 HM.out.2).mono ?_; rintro e w6 ⟨r0, r1, rfl, P3, hb6⟩; have HP3 : Hid (IAt w6.heap.size w6 (sl r0 m) (sl r1 k) m P k Q) := P3; clear P3; have s6 : w5.heap.size ≤ w6.heap.size := hb6.size; have g0 := (hb6.cell (p := ⟨w4.heap.size, 0, none⟩) (by show w4.heap.size < w5.heap.size; omega)).trans d0; have g1 := (hb6.cell (p := ⟨w4.heap.size, 1, none⟩) (by show w4.heap.size < w5.heap.size; omega)).trans d1)
        | (go_at_call 8; refine (eqIndex_any w4.heap.size w6.heap.size _ _ (sl r0 m) (sl r1 k) m k P Q _ (HP2.out.kept (b45.out.drew.trans (hb6.mono (by show w4.heap.size ≤ w5.heap.size; omega))) (Nat.le_refl _)) HP3.out (by omega) (Nat.le_refl _)).mono ?_; rintro e w7 ⟨rfl, hb7⟩))
      all_goals
        go_wp2_with fail
        go_ret
        exact ⟨rfl, (below_end k5.out).drew.trans ((hb6.mono (by show w.heap.size ≤ w5.heap.size; omega)).trans (hb7.mono (by omega)))⟩

end Go.Proofs.Ytnpfnbgbodojnad
