/-
  The model's test of a want, whole.
-/
import Derived.Test.YtciembgenlcogaeGreatCm
namespace Go.Proofs.YtciembgenlcogaeGreat.C
open Go.RowKit

/-- Is a want ok? -/
noncomputable def wantB (a : DClaimWant) : Bool := inB a.1 1 1000000 && inB a.2.1 1 3 && okB 8 (tst (useP a.2.1) useR) a.2.2.2.1 && okB 12 (tst nameB ltB) a.2.2.2.2.1 && okB 12 (tst nameB ltB) a.2.2.2.2.2 && !shareB a.2.2.2.2.1 a.2.2.2.2.2 && !decide (a.2.2.2.1.length + a.2.2.2.2.1.length + a.2.2.2.2.2.length = 0) && decide (a.2.1 = 1 ∨ a.2.2.2.2.1.length = 0) && okB 8 (tst nameB ltB) a.2.2.1 && decide (a.2.1 = 1 ↔ 0 < a.2.2.1.length)

set_option maxRecDepth 100000 in
set_option maxHeartbeats 16000000 in
theorem wantS_any (S : Nat → Prop) (a : DClaimWant) (v2 v3 v4 v5 : Value) (w : World) (h2 : AtL S w a.2.2.1 v2) (h3 : AtL S w a.2.2.2.1 v3) (h4 : AtL S w a.2.2.2.2.1 v4) (h5 : AtL S w a.2.2.2.2.2 v5) (hS : ∀ b, S b → b < w.heap.size) :
    Calls Tryz.prog 21 #[.agg #[.int .i64 a.1, .int .i64 a.2.1, v2, v3, v4, v5]] w fun e w' => e = .returned (.bool (wantB a)) ∧ Below w.heap.size w w' := by
  have H2 : Hid (∀ w', Below w.heap.size w w' → AtL S w' a.2.2.1 v2) := fun w' hb => h2.same (Same.of_below hb hS)
  have H3 : Hid (∀ w', Below w.heap.size w w' → AtL S w' a.2.2.2.1 v3) := fun w' hb => h3.same (Same.of_below hb hS)
  have H4 : Hid (∀ w', Below w.heap.size w w' → AtL S w' a.2.2.2.2.1 v4) := fun w' hb => h4.same (Same.of_below hb hS)
  have H5 : Hid (∀ w', Below w.heap.size w w' → AtL S w' a.2.2.2.2.2 v5) := fun w' hb => h5.same (Same.of_below hb hS)
  obtain ⟨o2, k2, e2, _⟩ := id h2
  obtain ⟨o3, k3, e3, _⟩ := id h3
  obtain ⟨o4, k4, e4, _⟩ := id h4
  obtain ⟨o5, k5, e5, _⟩ := id h5
  have L2 : v2 = .slice o2 a.2.2.1.length k2 := e2
  have L3 : v3 = .slice o3 a.2.2.2.1.length k3 := e3
  have L4 : v4 = .slice o4 a.2.2.2.2.1.length k4 := e4
  have L5 : v5 = .slice o5 a.2.2.2.2.2.length k5 := e5
  obtain ⟨n3, m3⟩ : ∃ n, a.2.2.2.1.length = n := ⟨_, rfl⟩
  obtain ⟨n4, m4⟩ : ∃ n, a.2.2.2.2.1.length = n := ⟨_, rfl⟩
  obtain ⟨n5, m5⟩ : ∃ n, a.2.2.2.2.2.length = n := ⟨_, rfl⟩
  obtain ⟨n2, m2⟩ : ∃ n, a.2.2.1.length = n := ⟨_, rfl⟩
  rw [m2] at L2
  rw [m3] at L3
  rw [m4] at L4
  rw [m5] at L5
  subst L2 L3 L4 L5
  have b2 : n2 ≤ maxLen := by obtain ⟨_, _, _, q, _⟩ := id h2; rw [m2] at q; exact q.1
  have b3 : n3 ≤ maxLen := by obtain ⟨_, _, _, q, _⟩ := id h3; rw [m3] at q; exact q.1
  have b4 : n4 ≤ maxLen := by obtain ⟨_, _, _, q, _⟩ := id h4; rw [m4] at q; exact q.1
  have b5 : n5 ≤ maxLen := by obtain ⟨_, _, _, q, _⟩ := id h5; rw [m5] at q; exact q.1
  unfold maxLen at b2 b3 b4 b5
  clear h2 h3 h4 h5 e2 e3 e4 e5
  have hbx : Hid (Below w.heap.size w (w.alloc (.cells #[.int .i64 a.1, .int .i64 a.2.1, .slice o2 n2 k2, .slice o3 n3 k3, .slice o4 n4 k4, .slice o5 n5 k5] 44))) := (Below.refl _ _).alloc (Nat.le_refl _) _
  have S0 : ∀ b, S b → b < (w.alloc (.cells #[.int .i64 a.1, .int .i64 a.2.1, .slice o2 n2 k2, .slice o3 n3 k3, .slice o4 n4 k4, .slice o5 n5 k5] 44)).heap.size := fun b hb => by have := hS b hb; simp; omega
  go_enter Tryz.func21, Tryz.ntmps21
  cases hN : inB a.1 1 1000000
  · go_wp2_with fail
    refine ((inC_any _ _ _ _).mono (fun e w' (hq : e = .returned (.bool (inB a.1 1 1000000)) ∧ w' = (w.alloc (.cells #[.int .i64 a.1, .int .i64 a.2.1, .slice o2 n2 k2, .slice o3 n3 k3, .slice o4 n4 k4, .slice o5 n5 k5] 44))) => (⟨hq.1, by rw [hq.2]; exact Below.refl _ _⟩ : e = .returned (.bool (inB a.1 1 1000000)) ∧ Below ((w.alloc (.cells #[.int .i64 a.1, .int .i64 a.2.1, .slice o2 n2 k2, .slice o3 n3 k3, .slice o4 n4 k4, .slice o5 n5 k5] 44))).heap.size (w.alloc (.cells #[.int .i64 a.1, .int .i64 a.2.1, .slice o2 n2 k2, .slice o3 n3 k3, .slice o4 n4 k4, .slice o5 n5 k5] 44)) w'))).mono ?_
    rintro e w1 ⟨rfl, hb1⟩
    rw [hN]
    have hbel1 : Hid (Below (w.heap.size + 1) (w.alloc (.cells #[.int .i64 a.1, .int .i64 a.2.1, .slice o2 n2 k2, .slice o3 n3 k3, .slice o4 n4 k4, .slice o5 n5 k5] 44)) w1) := by simpa [Hid] using hb1
    have y10 := box_at _ _ hbel1.out 0 (.int .i64 a.1) rfl
    have y11 := box_at _ _ hbel1.out 1 (.int .i64 a.2.1) rfl
    have y12 := box_at _ _ hbel1.out 2 (.slice o2 n2 k2) rfl
    have y13 := box_at _ _ hbel1.out 3 (.slice o3 n3 k3) rfl
    have y14 := box_at _ _ hbel1.out 4 (.slice o4 n4 k4) rfl
    have y15 := box_at _ _ hbel1.out 5 (.slice o5 n5 k5) rfl
    have B1 : Hid (Below w.heap.size w w1) := below_end hbel1.out
    have S1 : ∀ b, S b → b < w1.heap.size := fun b hb => by have := hS b hb; have := B1.out.size; omega
    clear hb1
    go_wp2_with fail
    go_ret
    exact ⟨by rw [show wantB a = false by simp [wantB, hN]]; rfl, B1.out⟩
  · go_wp2_with fail
    refine ((inC_any _ _ _ _).mono (fun e w' (hq : e = .returned (.bool (inB a.1 1 1000000)) ∧ w' = (w.alloc (.cells #[.int .i64 a.1, .int .i64 a.2.1, .slice o2 n2 k2, .slice o3 n3 k3, .slice o4 n4 k4, .slice o5 n5 k5] 44))) => (⟨hq.1, by rw [hq.2]; exact Below.refl _ _⟩ : e = .returned (.bool (inB a.1 1 1000000)) ∧ Below ((w.alloc (.cells #[.int .i64 a.1, .int .i64 a.2.1, .slice o2 n2 k2, .slice o3 n3 k3, .slice o4 n4 k4, .slice o5 n5 k5] 44))).heap.size (w.alloc (.cells #[.int .i64 a.1, .int .i64 a.2.1, .slice o2 n2 k2, .slice o3 n3 k3, .slice o4 n4 k4, .slice o5 n5 k5] 44)) w'))).mono ?_
    rintro e w1 ⟨rfl, hb1⟩
    rw [hN]
    have hbel1 : Hid (Below (w.heap.size + 1) (w.alloc (.cells #[.int .i64 a.1, .int .i64 a.2.1, .slice o2 n2 k2, .slice o3 n3 k3, .slice o4 n4 k4, .slice o5 n5 k5] 44)) w1) := by simpa [Hid] using hb1
    have y10 := box_at _ _ hbel1.out 0 (.int .i64 a.1) rfl
    have y11 := box_at _ _ hbel1.out 1 (.int .i64 a.2.1) rfl
    have y12 := box_at _ _ hbel1.out 2 (.slice o2 n2 k2) rfl
    have y13 := box_at _ _ hbel1.out 3 (.slice o3 n3 k3) rfl
    have y14 := box_at _ _ hbel1.out 4 (.slice o4 n4 k4) rfl
    have y15 := box_at _ _ hbel1.out 5 (.slice o5 n5 k5) rfl
    have B1 : Hid (Below w.heap.size w w1) := below_end hbel1.out
    have S1 : ∀ b, S b → b < w1.heap.size := fun b hb => by have := hS b hb; have := B1.out.size; omega
    clear hb1
    cases hK : inB a.2.1 1 3
    · go_wp2_with fail
      refine ((inC_any _ _ _ _).mono (fun e w' (hq : e = .returned (.bool (inB a.2.1 1 3)) ∧ w' = w1) => (⟨hq.1, by rw [hq.2]; exact Below.refl _ _⟩ : e = .returned (.bool (inB a.2.1 1 3)) ∧ Below (w1).heap.size w1 w'))).mono ?_
      rintro e w2 ⟨rfl, hb2⟩
      rw [hK]
      have hbel2 : Hid (Below (w.heap.size + 1) (w.alloc (.cells #[.int .i64 a.1, .int .i64 a.2.1, .slice o2 n2 k2, .slice o3 n3 k3, .slice o4 n4 k4, .slice o5 n5 k5] 44)) w2) := below_of hbel1.out hb2
      have y20 := box_at _ _ hbel2.out 0 (.int .i64 a.1) rfl
      have y21 := box_at _ _ hbel2.out 1 (.int .i64 a.2.1) rfl
      have y22 := box_at _ _ hbel2.out 2 (.slice o2 n2 k2) rfl
      have y23 := box_at _ _ hbel2.out 3 (.slice o3 n3 k3) rfl
      have y24 := box_at _ _ hbel2.out 4 (.slice o4 n4 k4) rfl
      have y25 := box_at _ _ hbel2.out 5 (.slice o5 n5 k5) rfl
      have B2 : Hid (Below w.heap.size w w2) := below_end hbel2.out
      have S2 : ∀ b, S b → b < w2.heap.size := fun b hb => by have := hS b hb; have := B2.out.size; omega
      clear hb2
      go_wp2_with fail
      go_ret
      exact ⟨by rw [show wantB a = false by simp [wantB, hN, hK]]; rfl, B2.out⟩
    · go_wp2_with fail
      refine ((inC_any _ _ _ _).mono (fun e w' (hq : e = .returned (.bool (inB a.2.1 1 3)) ∧ w' = w1) => (⟨hq.1, by rw [hq.2]; exact Below.refl _ _⟩ : e = .returned (.bool (inB a.2.1 1 3)) ∧ Below (w1).heap.size w1 w'))).mono ?_
      rintro e w2 ⟨rfl, hb2⟩
      rw [hK]
      have hbel2 : Hid (Below (w.heap.size + 1) (w.alloc (.cells #[.int .i64 a.1, .int .i64 a.2.1, .slice o2 n2 k2, .slice o3 n3 k3, .slice o4 n4 k4, .slice o5 n5 k5] 44)) w2) := below_of hbel1.out hb2
      have y20 := box_at _ _ hbel2.out 0 (.int .i64 a.1) rfl
      have y21 := box_at _ _ hbel2.out 1 (.int .i64 a.2.1) rfl
      have y22 := box_at _ _ hbel2.out 2 (.slice o2 n2 k2) rfl
      have y23 := box_at _ _ hbel2.out 3 (.slice o3 n3 k3) rfl
      have y24 := box_at _ _ hbel2.out 4 (.slice o4 n4 k4) rfl
      have y25 := box_at _ _ hbel2.out 5 (.slice o5 n5 k5) rfl
      have B2 : Hid (Below w.heap.size w w2) := below_end hbel2.out
      have S2 : ∀ b, S b → b < w2.heap.size := fun b hb => by have := hS b hb; have := B2.out.size; omega
      clear hb2
      cases hU : okB 8 (tst (useP a.2.1) useR) a.2.2.2.1
      · go_wp2_with fail
        refine (usesC_any S a.1 a.2.1 _ _ _ _ a.2.2.2.1 w2 (H3.out _ B2.out) S2).mono ?_
        rintro e w3 ⟨rfl, hb3⟩
        rw [hU]
        have hbel3 : Hid (Below (w.heap.size + 1) (w.alloc (.cells #[.int .i64 a.1, .int .i64 a.2.1, .slice o2 n2 k2, .slice o3 n3 k3, .slice o4 n4 k4, .slice o5 n5 k5] 44)) w3) := below_of hbel2.out hb3
        have y30 := box_at _ _ hbel3.out 0 (.int .i64 a.1) rfl
        have y31 := box_at _ _ hbel3.out 1 (.int .i64 a.2.1) rfl
        have y32 := box_at _ _ hbel3.out 2 (.slice o2 n2 k2) rfl
        have y33 := box_at _ _ hbel3.out 3 (.slice o3 n3 k3) rfl
        have y34 := box_at _ _ hbel3.out 4 (.slice o4 n4 k4) rfl
        have y35 := box_at _ _ hbel3.out 5 (.slice o5 n5 k5) rfl
        have B3 : Hid (Below w.heap.size w w3) := below_end hbel3.out
        have S3 : ∀ b, S b → b < w3.heap.size := fun b hb => by have := hS b hb; have := B3.out.size; omega
        clear hb3
        go_wp2_with fail
        go_ret
        exact ⟨by rw [show wantB a = false by simp [wantB, hN, hK, hU]]; rfl, B3.out⟩
      · go_wp2_with fail
        refine (usesC_any S a.1 a.2.1 _ _ _ _ a.2.2.2.1 w2 (H3.out _ B2.out) S2).mono ?_
        rintro e w3 ⟨rfl, hb3⟩
        rw [hU]
        have hbel3 : Hid (Below (w.heap.size + 1) (w.alloc (.cells #[.int .i64 a.1, .int .i64 a.2.1, .slice o2 n2 k2, .slice o3 n3 k3, .slice o4 n4 k4, .slice o5 n5 k5] 44)) w3) := below_of hbel2.out hb3
        have y30 := box_at _ _ hbel3.out 0 (.int .i64 a.1) rfl
        have y31 := box_at _ _ hbel3.out 1 (.int .i64 a.2.1) rfl
        have y32 := box_at _ _ hbel3.out 2 (.slice o2 n2 k2) rfl
        have y33 := box_at _ _ hbel3.out 3 (.slice o3 n3 k3) rfl
        have y34 := box_at _ _ hbel3.out 4 (.slice o4 n4 k4) rfl
        have y35 := box_at _ _ hbel3.out 5 (.slice o5 n5 k5) rfl
        have B3 : Hid (Below w.heap.size w w3) := below_end hbel3.out
        have S3 : ∀ b, S b → b < w3.heap.size := fun b hb => by have := hS b hb; have := B3.out.size; omega
        clear hb3
        cases hO : okB 12 (tst nameB ltB) a.2.2.2.2.1
        · go_wp2_with fail
          refine (namesC_any S _ a.2.2.2.2.1 12 w3 (H4.out _ B3.out) S3).mono ?_
          rintro e w4 ⟨rfl, hb4⟩
          rw [hO]
          have hbel4 : Hid (Below (w.heap.size + 1) (w.alloc (.cells #[.int .i64 a.1, .int .i64 a.2.1, .slice o2 n2 k2, .slice o3 n3 k3, .slice o4 n4 k4, .slice o5 n5 k5] 44)) w4) := below_of hbel3.out hb4
          have y40 := box_at _ _ hbel4.out 0 (.int .i64 a.1) rfl
          have y41 := box_at _ _ hbel4.out 1 (.int .i64 a.2.1) rfl
          have y42 := box_at _ _ hbel4.out 2 (.slice o2 n2 k2) rfl
          have y43 := box_at _ _ hbel4.out 3 (.slice o3 n3 k3) rfl
          have y44 := box_at _ _ hbel4.out 4 (.slice o4 n4 k4) rfl
          have y45 := box_at _ _ hbel4.out 5 (.slice o5 n5 k5) rfl
          have B4 : Hid (Below w.heap.size w w4) := below_end hbel4.out
          have S4 : ∀ b, S b → b < w4.heap.size := fun b hb => by have := hS b hb; have := B4.out.size; omega
          clear hb4
          go_wp2_with fail
          go_ret
          exact ⟨by rw [show wantB a = false by simp [wantB, hN, hK, hU, hO]]; rfl, B4.out⟩
        · go_wp2_with fail
          refine (namesC_any S _ a.2.2.2.2.1 12 w3 (H4.out _ B3.out) S3).mono ?_
          rintro e w4 ⟨rfl, hb4⟩
          rw [hO]
          have hbel4 : Hid (Below (w.heap.size + 1) (w.alloc (.cells #[.int .i64 a.1, .int .i64 a.2.1, .slice o2 n2 k2, .slice o3 n3 k3, .slice o4 n4 k4, .slice o5 n5 k5] 44)) w4) := below_of hbel3.out hb4
          have y40 := box_at _ _ hbel4.out 0 (.int .i64 a.1) rfl
          have y41 := box_at _ _ hbel4.out 1 (.int .i64 a.2.1) rfl
          have y42 := box_at _ _ hbel4.out 2 (.slice o2 n2 k2) rfl
          have y43 := box_at _ _ hbel4.out 3 (.slice o3 n3 k3) rfl
          have y44 := box_at _ _ hbel4.out 4 (.slice o4 n4 k4) rfl
          have y45 := box_at _ _ hbel4.out 5 (.slice o5 n5 k5) rfl
          have B4 : Hid (Below w.heap.size w w4) := below_end hbel4.out
          have S4 : ∀ b, S b → b < w4.heap.size := fun b hb => by have := hS b hb; have := B4.out.size; omega
          clear hb4
          cases hH : okB 12 (tst nameB ltB) a.2.2.2.2.2
          · go_wp2_with fail
            refine (namesC_any S _ a.2.2.2.2.2 12 w4 (H5.out _ B4.out) S4).mono ?_
            rintro e w5 ⟨rfl, hb5⟩
            rw [hH]
            have hbel5 : Hid (Below (w.heap.size + 1) (w.alloc (.cells #[.int .i64 a.1, .int .i64 a.2.1, .slice o2 n2 k2, .slice o3 n3 k3, .slice o4 n4 k4, .slice o5 n5 k5] 44)) w5) := below_of hbel4.out hb5
            have y50 := box_at _ _ hbel5.out 0 (.int .i64 a.1) rfl
            have y51 := box_at _ _ hbel5.out 1 (.int .i64 a.2.1) rfl
            have y52 := box_at _ _ hbel5.out 2 (.slice o2 n2 k2) rfl
            have y53 := box_at _ _ hbel5.out 3 (.slice o3 n3 k3) rfl
            have y54 := box_at _ _ hbel5.out 4 (.slice o4 n4 k4) rfl
            have y55 := box_at _ _ hbel5.out 5 (.slice o5 n5 k5) rfl
            have B5 : Hid (Below w.heap.size w w5) := below_end hbel5.out
            have S5 : ∀ b, S b → b < w5.heap.size := fun b hb => by have := hS b hb; have := B5.out.size; omega
            clear hb5
            go_wp2_with fail
            go_ret
            exact ⟨by rw [show wantB a = false by simp [wantB, hN, hK, hU, hO, hH]]; rfl, B5.out⟩
          · go_wp2_with fail
            refine (namesC_any S _ a.2.2.2.2.2 12 w4 (H5.out _ B4.out) S4).mono ?_
            rintro e w5 ⟨rfl, hb5⟩
            rw [hH]
            have hbel5 : Hid (Below (w.heap.size + 1) (w.alloc (.cells #[.int .i64 a.1, .int .i64 a.2.1, .slice o2 n2 k2, .slice o3 n3 k3, .slice o4 n4 k4, .slice o5 n5 k5] 44)) w5) := below_of hbel4.out hb5
            have y50 := box_at _ _ hbel5.out 0 (.int .i64 a.1) rfl
            have y51 := box_at _ _ hbel5.out 1 (.int .i64 a.2.1) rfl
            have y52 := box_at _ _ hbel5.out 2 (.slice o2 n2 k2) rfl
            have y53 := box_at _ _ hbel5.out 3 (.slice o3 n3 k3) rfl
            have y54 := box_at _ _ hbel5.out 4 (.slice o4 n4 k4) rfl
            have y55 := box_at _ _ hbel5.out 5 (.slice o5 n5 k5) rfl
            have B5 : Hid (Below w.heap.size w w5) := below_end hbel5.out
            have S5 : ∀ b, S b → b < w5.heap.size := fun b hb => by have := hS b hb; have := B5.out.size; omega
            clear hb5
            cases hX : shareB a.2.2.2.2.1 a.2.2.2.2.2
            · go_wp2_with fail
              refine (shareC_any S _ _ a.2.2.2.2.1 a.2.2.2.2.2 w5 (H4.out _ B5.out) (H5.out _ B5.out) S5).mono ?_
              rintro e w6 ⟨rfl, hb6⟩
              rw [hX]
              have hbel6 : Hid (Below (w.heap.size + 1) (w.alloc (.cells #[.int .i64 a.1, .int .i64 a.2.1, .slice o2 n2 k2, .slice o3 n3 k3, .slice o4 n4 k4, .slice o5 n5 k5] 44)) w6) := below_of hbel5.out hb6
              have y60 := box_at _ _ hbel6.out 0 (.int .i64 a.1) rfl
              have y61 := box_at _ _ hbel6.out 1 (.int .i64 a.2.1) rfl
              have y62 := box_at _ _ hbel6.out 2 (.slice o2 n2 k2) rfl
              have y63 := box_at _ _ hbel6.out 3 (.slice o3 n3 k3) rfl
              have y64 := box_at _ _ hbel6.out 4 (.slice o4 n4 k4) rfl
              have y65 := box_at _ _ hbel6.out 5 (.slice o5 n5 k5) rfl
              have B6 : Hid (Below w.heap.size w w6) := below_end hbel6.out
              have S6 : ∀ b, S b → b < w6.heap.size := fun b hb => by have := hS b hb; have := B6.out.size; omega
              clear hb6
              have r3 : n3 ≤ 8 := by have := (ok_iff.1 hU).1; omega
              have r4 : n4 ≤ 12 := by have := (ok_iff.1 hO).1; omega
              have r5 : n5 ≤ 12 := by have := (ok_iff.1 hH).1; omega
              clear b3 b4 b5
              by_cases h0 : n3 + n4 + n5 = 0
              · have g0 : ((n3 : Int) + (n4 : Int) + (n5 : Int) == 0) = true := by simp; omega
                go_wp2_with fail
                go_ret
                exact ⟨by rw [show wantB a = false by simp only [wantB, m3, m4, m5, h0, decide_true, Bool.not_true, Bool.and_false, Bool.false_and]]; rfl, B6.out⟩
              · have g0 : ((n3 : Int) + (n4 : Int) + (n5 : Int) == 0) = false := by simp; omega
                by_cases hk : a.2.1 = 1
                · have gk : (a.2.1 == 1) = true := by simpa using hk
                  have gkn : (a.2.1 != 1) = false := by simp [hk]
                  cases hS7 : okB 8 (tst nameB ltB) a.2.2.1
                  · go_wp2_with fail
                    refine (namesC_any S _ a.2.2.1 8 w6 (H2.out _ B6.out) S6).mono ?_
                    rintro e w7 ⟨rfl, hb7⟩
                    rw [hS7]
                    have hbel7 : Hid (Below (w.heap.size + 1) (w.alloc (.cells #[.int .i64 a.1, .int .i64 a.2.1, .slice o2 n2 k2, .slice o3 n3 k3, .slice o4 n4 k4, .slice o5 n5 k5] 44)) w7) := below_of hbel6.out hb7
                    have y70 := box_at _ _ hbel7.out 0 (.int .i64 a.1) rfl
                    have y71 := box_at _ _ hbel7.out 1 (.int .i64 a.2.1) rfl
                    have y72 := box_at _ _ hbel7.out 2 (.slice o2 n2 k2) rfl
                    have y73 := box_at _ _ hbel7.out 3 (.slice o3 n3 k3) rfl
                    have y74 := box_at _ _ hbel7.out 4 (.slice o4 n4 k4) rfl
                    have y75 := box_at _ _ hbel7.out 5 (.slice o5 n5 k5) rfl
                    have B7 : Hid (Below w.heap.size w w7) := below_end hbel7.out
                    have S77 : ∀ b, S b → b < w7.heap.size := fun b hb => by have := hS b hb; have := B7.out.size; omega
                    clear hb7
                    go_wp2_with fail
                    go_ret
                    exact ⟨by rw [show wantB a = false by simp [wantB, hS7]]; rfl, B7.out⟩
                  · go_wp2_with fail
                    refine (namesC_any S _ a.2.2.1 8 w6 (H2.out _ B6.out) S6).mono ?_
                    rintro e w7 ⟨rfl, hb7⟩
                    rw [hS7]
                    have hbel7 : Hid (Below (w.heap.size + 1) (w.alloc (.cells #[.int .i64 a.1, .int .i64 a.2.1, .slice o2 n2 k2, .slice o3 n3 k3, .slice o4 n4 k4, .slice o5 n5 k5] 44)) w7) := below_of hbel6.out hb7
                    have y70 := box_at _ _ hbel7.out 0 (.int .i64 a.1) rfl
                    have y71 := box_at _ _ hbel7.out 1 (.int .i64 a.2.1) rfl
                    have y72 := box_at _ _ hbel7.out 2 (.slice o2 n2 k2) rfl
                    have y73 := box_at _ _ hbel7.out 3 (.slice o3 n3 k3) rfl
                    have y74 := box_at _ _ hbel7.out 4 (.slice o4 n4 k4) rfl
                    have y75 := box_at _ _ hbel7.out 5 (.slice o5 n5 k5) rfl
                    have B7 : Hid (Below w.heap.size w w7) := below_end hbel7.out
                    have S77 : ∀ b, S b → b < w7.heap.size := fun b hb => by have := hS b hb; have := B7.out.size; omega
                    clear hb7
                    by_cases hp : 0 < n2
                    · have gp : decide ((0 : Int) < (n2 : Int)) = true := by simp; omega
                      go_wp2_with fail
                      go_ret
                      exact ⟨by rw [show wantB a = true by unfold wantB; rw [m2, m3, m4, m5, hN, hK, hU, hO, hH, hX, hS7, decide_eq_false h0, decide_eq_true (show a.2.1 = 1 ∨ n4 = 0 by omega), decide_eq_true (show (a.2.1 = 1 ↔ 0 < n2) by omega)]; rfl]; rfl, B7.out⟩
                    · have gp : decide ((0 : Int) < (n2 : Int)) = false := by simp; omega
                      go_wp2_with fail
                      go_ret
                      exact ⟨by rw [show wantB a = false by unfold wantB; rw [m2, m3, m4, m5, hN, hK, hU, hO, hH, hX, hS7, decide_eq_false h0, decide_eq_true (show a.2.1 = 1 ∨ n4 = 0 by omega), decide_eq_false (show ¬ (a.2.1 = 1 ↔ 0 < n2) by omega)]; rfl]; rfl, B7.out⟩
                · have gk : (a.2.1 == 1) = false := by simpa using hk
                  have gkn : (a.2.1 != 1) = true := by simpa using hk
                  by_cases h4 : 0 < n4
                  · have g4 : decide ((0 : Int) < (n4 : Int)) = true := by simp; omega
                    go_wp2_with fail
                    go_ret
                    exact ⟨by rw [show wantB a = false by simp only [wantB, m4, decide_eq_false (show ¬ (a.2.1 = 1 ∨ n4 = 0) by omega), Bool.and_false, Bool.false_and]]; rfl, B6.out⟩
                  · have g4 : decide ((0 : Int) < (n4 : Int)) = false := by simp; omega
                    cases hS7 : okB 8 (tst nameB ltB) a.2.2.1
                    · go_wp2_with fail
                      refine (namesC_any S _ a.2.2.1 8 w6 (H2.out _ B6.out) S6).mono ?_
                      rintro e w7 ⟨rfl, hb7⟩
                      rw [hS7]
                      have hbel7 : Hid (Below (w.heap.size + 1) (w.alloc (.cells #[.int .i64 a.1, .int .i64 a.2.1, .slice o2 n2 k2, .slice o3 n3 k3, .slice o4 n4 k4, .slice o5 n5 k5] 44)) w7) := below_of hbel6.out hb7
                      have y70 := box_at _ _ hbel7.out 0 (.int .i64 a.1) rfl
                      have y71 := box_at _ _ hbel7.out 1 (.int .i64 a.2.1) rfl
                      have y72 := box_at _ _ hbel7.out 2 (.slice o2 n2 k2) rfl
                      have y73 := box_at _ _ hbel7.out 3 (.slice o3 n3 k3) rfl
                      have y74 := box_at _ _ hbel7.out 4 (.slice o4 n4 k4) rfl
                      have y75 := box_at _ _ hbel7.out 5 (.slice o5 n5 k5) rfl
                      have B7 : Hid (Below w.heap.size w w7) := below_end hbel7.out
                      have S77 : ∀ b, S b → b < w7.heap.size := fun b hb => by have := hS b hb; have := B7.out.size; omega
                      clear hb7
                      go_wp2_with fail
                      go_ret
                      exact ⟨by rw [show wantB a = false by simp [wantB, hS7]]; rfl, B7.out⟩
                    · go_wp2_with fail
                      refine (namesC_any S _ a.2.2.1 8 w6 (H2.out _ B6.out) S6).mono ?_
                      rintro e w7 ⟨rfl, hb7⟩
                      rw [hS7]
                      have hbel7 : Hid (Below (w.heap.size + 1) (w.alloc (.cells #[.int .i64 a.1, .int .i64 a.2.1, .slice o2 n2 k2, .slice o3 n3 k3, .slice o4 n4 k4, .slice o5 n5 k5] 44)) w7) := below_of hbel6.out hb7
                      have y70 := box_at _ _ hbel7.out 0 (.int .i64 a.1) rfl
                      have y71 := box_at _ _ hbel7.out 1 (.int .i64 a.2.1) rfl
                      have y72 := box_at _ _ hbel7.out 2 (.slice o2 n2 k2) rfl
                      have y73 := box_at _ _ hbel7.out 3 (.slice o3 n3 k3) rfl
                      have y74 := box_at _ _ hbel7.out 4 (.slice o4 n4 k4) rfl
                      have y75 := box_at _ _ hbel7.out 5 (.slice o5 n5 k5) rfl
                      have B7 : Hid (Below w.heap.size w w7) := below_end hbel7.out
                      have S77 : ∀ b, S b → b < w7.heap.size := fun b hb => by have := hS b hb; have := B7.out.size; omega
                      clear hb7
                      by_cases hp : 0 < n2
                      · have gp : decide ((0 : Int) < (n2 : Int)) = true := by simp; omega
                        go_wp2_with fail
                        go_ret
                        exact ⟨by rw [show wantB a = false by unfold wantB; rw [m2, m3, m4, m5, hN, hK, hU, hO, hH, hX, hS7, decide_eq_false h0, decide_eq_true (show a.2.1 = 1 ∨ n4 = 0 by omega), decide_eq_false (show ¬ (a.2.1 = 1 ↔ 0 < n2) by omega)]; rfl]; rfl, B7.out⟩
                      · have gp : decide ((0 : Int) < (n2 : Int)) = false := by simp; omega
                        go_wp2_with fail
                        go_ret
                        exact ⟨by rw [show wantB a = true by unfold wantB; rw [m2, m3, m4, m5, hN, hK, hU, hO, hH, hX, hS7, decide_eq_false h0, decide_eq_true (show a.2.1 = 1 ∨ n4 = 0 by omega), decide_eq_true (show (a.2.1 = 1 ↔ 0 < n2) by omega)]; rfl]; rfl, B7.out⟩
            · go_wp2_with fail
              refine (shareC_any S _ _ a.2.2.2.2.1 a.2.2.2.2.2 w5 (H4.out _ B5.out) (H5.out _ B5.out) S5).mono ?_
              rintro e w6 ⟨rfl, hb6⟩
              rw [hX]
              have hbel6 : Hid (Below (w.heap.size + 1) (w.alloc (.cells #[.int .i64 a.1, .int .i64 a.2.1, .slice o2 n2 k2, .slice o3 n3 k3, .slice o4 n4 k4, .slice o5 n5 k5] 44)) w6) := below_of hbel5.out hb6
              have y60 := box_at _ _ hbel6.out 0 (.int .i64 a.1) rfl
              have y61 := box_at _ _ hbel6.out 1 (.int .i64 a.2.1) rfl
              have y62 := box_at _ _ hbel6.out 2 (.slice o2 n2 k2) rfl
              have y63 := box_at _ _ hbel6.out 3 (.slice o3 n3 k3) rfl
              have y64 := box_at _ _ hbel6.out 4 (.slice o4 n4 k4) rfl
              have y65 := box_at _ _ hbel6.out 5 (.slice o5 n5 k5) rfl
              have B6 : Hid (Below w.heap.size w w6) := below_end hbel6.out
              have S6 : ∀ b, S b → b < w6.heap.size := fun b hb => by have := hS b hb; have := B6.out.size; omega
              clear hb6
              go_wp2_with fail
              go_ret
              exact ⟨by rw [show wantB a = false by simp [wantB, hN, hK, hU, hO, hH, hX]]; rfl, B6.out⟩

end Go.Proofs.YtciembgenlcogaeGreat.C
