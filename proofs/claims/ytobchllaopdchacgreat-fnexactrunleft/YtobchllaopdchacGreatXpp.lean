import Derived.Test.YtobchllaopdchacGreatXpq
namespace Go.Proofs.YtobchllaopdchacGreat
open Go.RowKit
def phI (nm a b th el : ByteArray) (kd n wi : Int) : Bool := nameB nm && (endI nm == 0) && decide (1 ≤ wi) && decide (wi ≤ 1000) && kindB kd && nameB a && secB kd a b && cntB kd n wi && nameB th && nameB el
theorem phI_same (nm a b th el : ByteArray) (kd n wi : Int) : phI nm a b th el kd n wi = phaseB (nm, kd, a, b, n, wi, th, el) := by
  have hin : inB wi 1 1000 = (decide (1 ≤ wi) && decide (wi ≤ 1000)) := by simp [inB]
  have hsym : eqB b a = eqB a b := by unfold eqB; rw [Bool.eq_iff_iff, beq_iff_eq, beq_iff_eq]; exact eq_comm
  unfold phI phaseB plainB argsB kindB secB cntB
  simp only [hin, hsym]
  by_cases h1 : kd = 1
  · subst h1
    simp only [inB]
    cases nameB nm <;> cases (endI nm == 0) <;> cases decide (1 ≤ wi) <;> cases decide (wi ≤ 1000) <;> cases nameB a <;> cases nameB b <;> cases nameB th <;> cases nameB el <;> simp
  · by_cases h2 : kd = 2
    · subst h2
      simp only [inB]
      cases nameB nm <;> cases (endI nm == 0) <;> cases decide (1 ≤ wi) <;> cases decide (wi ≤ 1000) <;> cases nameB a <;> cases nameB b <;> cases nameB th <;> cases nameB el <;> cases eqB a b <;> simp
    · by_cases h3 : kd = 3
      · subst h3
        simp only [inB]
        cases nameB nm <;> cases (endI nm == 0) <;> cases decide (1 ≤ wi) <;> cases decide (wi ≤ 1000) <;> cases nameB a <;> cases isT b [] <;> cases nameB th <;> cases nameB el <;> simp
      · by_cases h4 : kd = 4 ∨ kd = 5
        · cases nameB nm <;> cases (endI nm == 0) <;> cases decide (1 ≤ wi) <;> cases decide (wi ≤ 1000) <;> cases nameB a <;> cases isT b [] <;> cases nameB th <;> cases nameB el <;> simp [h1, h2, h3, h4]
        · simp [h1, h2, h3, h4]
set_option maxRecDepth 100000 in
set_option maxHeartbeats 4000000 in
theorem phI_any (nm a b th el : ByteArray) (kd n wi : Int) (w : World) (hn : nm.size ≤ maxLen) (ha : a.size ≤ maxLen) (hb : b.size ≤ maxLen) (ht : th.size ≤ maxLen) (he : el.size ≤ maxLen) : Calls Tryz.prog 121 #[.agg #[.string nm, .int .i64 kd, .string a, .string b, .int .i64 n, .int .i64 wi, .string th, .string el]] w fun e w' => e = .returned (.bool (phI nm a b th el kd n wi)) ∧ Below w.heap.size w w' := by
  cases h0 : nameB nm
  · have hw : phI nm a b th el kd n wi = false := by simp only [phI, h0, Bool.false_and]
    rw [hw]
    clear hw
    have k0 : Hid (Below (w.heap.size + 1) (w.alloc (.cells #[.string nm, .int .i64 kd, .string a, .string b, .int .i64 n, .int .i64 wi, .string th, .string el] 75)) (w.alloc (.cells #[.string nm, .int .i64 kd, .string a, .string b, .int .i64 n, .int .i64 wi, .string th, .string el] 75))) := Below.refl _ _
    go_enter Tryz.func121, Tryz.ntmps121
    go_wp2_with fail
    refine (nameI_any nm _ hn).mono ?_; rintro e w1 ⟨rfl, hb1⟩; rw [h0]
    have k1 : Hid (Below (w.heap.size + 1) (w.alloc (.cells #[.string nm, .int .i64 kd, .string a, .string b, .int .i64 n, .int .i64 wi, .string th, .string el] 75)) w1) := below_of k0.out hb1
    clear hb1
    have x1_0 := box_at _ _ k1.out 0 (.string nm) rfl
    have x1_1 := box_at _ _ k1.out 1 (.int .i64 kd) rfl
    have x1_2 := box_at _ _ k1.out 2 (.string a) rfl
    have x1_3 := box_at _ _ k1.out 3 (.string b) rfl
    have x1_4 := box_at _ _ k1.out 4 (.int .i64 n) rfl
    have x1_5 := box_at _ _ k1.out 5 (.int .i64 wi) rfl
    have x1_6 := box_at _ _ k1.out 6 (.string th) rfl
    have x1_7 := box_at _ _ k1.out 7 (.string el) rfl
    go_wp2_with fail
    go_ret
    exact ⟨rfl, below_end k1.out⟩
  · cases h1 : (endI nm == 0)
    · have hw : phI nm a b th el kd n wi = false := by simp only [phI, h1, Bool.and_false, Bool.false_and]
      rw [hw]
      clear hw
      have k0 : Hid (Below (w.heap.size + 1) (w.alloc (.cells #[.string nm, .int .i64 kd, .string a, .string b, .int .i64 n, .int .i64 wi, .string th, .string el] 75)) (w.alloc (.cells #[.string nm, .int .i64 kd, .string a, .string b, .int .i64 n, .int .i64 wi, .string th, .string el] 75))) := Below.refl _ _
      go_enter Tryz.func121, Tryz.ntmps121
      go_wp2_with fail
      refine (nameI_any nm _ hn).mono ?_; rintro e w1 ⟨rfl, hb1⟩; rw [h0]
      have k1 : Hid (Below (w.heap.size + 1) (w.alloc (.cells #[.string nm, .int .i64 kd, .string a, .string b, .int .i64 n, .int .i64 wi, .string th, .string el] 75)) w1) := below_of k0.out hb1
      clear hb1
      have x1_0 := box_at _ _ k1.out 0 (.string nm) rfl
      have x1_1 := box_at _ _ k1.out 1 (.int .i64 kd) rfl
      have x1_2 := box_at _ _ k1.out 2 (.string a) rfl
      have x1_3 := box_at _ _ k1.out 3 (.string b) rfl
      have x1_4 := box_at _ _ k1.out 4 (.int .i64 n) rfl
      have x1_5 := box_at _ _ k1.out 5 (.int .i64 wi) rfl
      have x1_6 := box_at _ _ k1.out 6 (.string th) rfl
      have x1_7 := box_at _ _ k1.out 7 (.string el) rfl
      go_wp2_with fail
      refine (endP_any nm _).mono ?_; rintro e w2 ⟨rfl, rfl⟩
      obtain ⟨E, hE⟩ : ∃ E, E = endI nm := ⟨_, rfl⟩
      rw [← hE]
      rw [← hE] at h1
      clear hE
      have p1 : ¬ E = 0 := by simpa using h1
      clear h1
      go_wp2_with fail
      go_ret
      exact ⟨rfl, below_end k1.out⟩
    · cases h2 : decide (1 ≤ wi)
      · have hw : phI nm a b th el kd n wi = false := by simp only [phI, h2, Bool.and_false, Bool.false_and]
        rw [hw]
        clear hw
        have k0 : Hid (Below (w.heap.size + 1) (w.alloc (.cells #[.string nm, .int .i64 kd, .string a, .string b, .int .i64 n, .int .i64 wi, .string th, .string el] 75)) (w.alloc (.cells #[.string nm, .int .i64 kd, .string a, .string b, .int .i64 n, .int .i64 wi, .string th, .string el] 75))) := Below.refl _ _
        go_enter Tryz.func121, Tryz.ntmps121
        go_wp2_with fail
        refine (nameI_any nm _ hn).mono ?_; rintro e w1 ⟨rfl, hb1⟩; rw [h0]
        have k1 : Hid (Below (w.heap.size + 1) (w.alloc (.cells #[.string nm, .int .i64 kd, .string a, .string b, .int .i64 n, .int .i64 wi, .string th, .string el] 75)) w1) := below_of k0.out hb1
        clear hb1
        have x1_0 := box_at _ _ k1.out 0 (.string nm) rfl
        have x1_1 := box_at _ _ k1.out 1 (.int .i64 kd) rfl
        have x1_2 := box_at _ _ k1.out 2 (.string a) rfl
        have x1_3 := box_at _ _ k1.out 3 (.string b) rfl
        have x1_4 := box_at _ _ k1.out 4 (.int .i64 n) rfl
        have x1_5 := box_at _ _ k1.out 5 (.int .i64 wi) rfl
        have x1_6 := box_at _ _ k1.out 6 (.string th) rfl
        have x1_7 := box_at _ _ k1.out 7 (.string el) rfl
        go_wp2_with fail
        refine (endP_any nm _).mono ?_; rintro e w2 ⟨rfl, rfl⟩
        obtain ⟨E, hE⟩ : ∃ E, E = endI nm := ⟨_, rfl⟩
        rw [← hE]
        rw [← hE] at h1
        clear hE
        have p1 : E = 0 := by simpa using h1
        clear h1
        subst p1
        have p2 : ¬ (1 ≤ wi) := by simpa using h2
        clear h2
        go_wp2_with fail
        go_ret
        exact ⟨rfl, below_end k1.out⟩
      · cases h3 : decide (wi ≤ 1000)
        · have hw : phI nm a b th el kd n wi = false := by simp only [phI, h3, Bool.and_false, Bool.false_and]
          rw [hw]
          clear hw
          have k0 : Hid (Below (w.heap.size + 1) (w.alloc (.cells #[.string nm, .int .i64 kd, .string a, .string b, .int .i64 n, .int .i64 wi, .string th, .string el] 75)) (w.alloc (.cells #[.string nm, .int .i64 kd, .string a, .string b, .int .i64 n, .int .i64 wi, .string th, .string el] 75))) := Below.refl _ _
          go_enter Tryz.func121, Tryz.ntmps121
          go_wp2_with fail
          refine (nameI_any nm _ hn).mono ?_; rintro e w1 ⟨rfl, hb1⟩; rw [h0]
          have k1 : Hid (Below (w.heap.size + 1) (w.alloc (.cells #[.string nm, .int .i64 kd, .string a, .string b, .int .i64 n, .int .i64 wi, .string th, .string el] 75)) w1) := below_of k0.out hb1
          clear hb1
          have x1_0 := box_at _ _ k1.out 0 (.string nm) rfl
          have x1_1 := box_at _ _ k1.out 1 (.int .i64 kd) rfl
          have x1_2 := box_at _ _ k1.out 2 (.string a) rfl
          have x1_3 := box_at _ _ k1.out 3 (.string b) rfl
          have x1_4 := box_at _ _ k1.out 4 (.int .i64 n) rfl
          have x1_5 := box_at _ _ k1.out 5 (.int .i64 wi) rfl
          have x1_6 := box_at _ _ k1.out 6 (.string th) rfl
          have x1_7 := box_at _ _ k1.out 7 (.string el) rfl
          go_wp2_with fail
          refine (endP_any nm _).mono ?_; rintro e w2 ⟨rfl, rfl⟩
          obtain ⟨E, hE⟩ : ∃ E, E = endI nm := ⟨_, rfl⟩
          rw [← hE]
          rw [← hE] at h1
          clear hE
          have p1 : E = 0 := by simpa using h1
          clear h1
          subst p1
          have p2 : (1 ≤ wi) := by simpa using h2
          clear h2
          have p3 : ¬ (wi ≤ 1000) := by simpa using h3
          clear h3
          go_wp2_with fail
          go_ret
          exact ⟨rfl, below_end k1.out⟩
        · cases h4 : kindB kd
          · have hw : phI nm a b th el kd n wi = false := by simp only [phI, h4, Bool.and_false, Bool.false_and]
            rw [hw]
            clear hw
            have k0 : Hid (Below (w.heap.size + 1) (w.alloc (.cells #[.string nm, .int .i64 kd, .string a, .string b, .int .i64 n, .int .i64 wi, .string th, .string el] 75)) (w.alloc (.cells #[.string nm, .int .i64 kd, .string a, .string b, .int .i64 n, .int .i64 wi, .string th, .string el] 75))) := Below.refl _ _
            go_enter Tryz.func121, Tryz.ntmps121
            go_wp2_with fail
            refine (nameI_any nm _ hn).mono ?_; rintro e w1 ⟨rfl, hb1⟩; rw [h0]
            have k1 : Hid (Below (w.heap.size + 1) (w.alloc (.cells #[.string nm, .int .i64 kd, .string a, .string b, .int .i64 n, .int .i64 wi, .string th, .string el] 75)) w1) := below_of k0.out hb1
            clear hb1
            have x1_0 := box_at _ _ k1.out 0 (.string nm) rfl
            have x1_1 := box_at _ _ k1.out 1 (.int .i64 kd) rfl
            have x1_2 := box_at _ _ k1.out 2 (.string a) rfl
            have x1_3 := box_at _ _ k1.out 3 (.string b) rfl
            have x1_4 := box_at _ _ k1.out 4 (.int .i64 n) rfl
            have x1_5 := box_at _ _ k1.out 5 (.int .i64 wi) rfl
            have x1_6 := box_at _ _ k1.out 6 (.string th) rfl
            have x1_7 := box_at _ _ k1.out 7 (.string el) rfl
            go_wp2_with fail
            refine (endP_any nm _).mono ?_; rintro e w2 ⟨rfl, rfl⟩
            obtain ⟨E, hE⟩ : ∃ E, E = endI nm := ⟨_, rfl⟩
            rw [← hE]
            rw [← hE] at h1
            clear hE
            have p1 : E = 0 := by simpa using h1
            clear h1
            subst p1
            have p2 : (1 ≤ wi) := by simpa using h2
            clear h2
            have p3 : (wi ≤ 1000) := by simpa using h3
            clear h3
            go_wp2_with fail
            refine (kindOk_any nm a b th el kd n wi _).mono ?_; rintro e w2 ⟨rfl, hb2⟩; rw [h4]
            have k2 : Hid (Below (w.heap.size + 1) (w.alloc (.cells #[.string nm, .int .i64 kd, .string a, .string b, .int .i64 n, .int .i64 wi, .string th, .string el] 75)) w2) := below_of k1.out hb2
            clear hb2
            clear x1_0 x1_1 x1_2 x1_3 x1_4 x1_5 x1_6 x1_7
            have x2_0 := box_at _ _ k2.out 0 (.string nm) rfl
            have x2_1 := box_at _ _ k2.out 1 (.int .i64 kd) rfl
            have x2_2 := box_at _ _ k2.out 2 (.string a) rfl
            have x2_3 := box_at _ _ k2.out 3 (.string b) rfl
            have x2_4 := box_at _ _ k2.out 4 (.int .i64 n) rfl
            have x2_5 := box_at _ _ k2.out 5 (.int .i64 wi) rfl
            have x2_6 := box_at _ _ k2.out 6 (.string th) rfl
            have x2_7 := box_at _ _ k2.out 7 (.string el) rfl
            go_wp2_with fail
            go_ret
            exact ⟨rfl, below_end k2.out⟩
          · cases h5 : nameB a
            · have hw : phI nm a b th el kd n wi = false := by simp only [phI, h5, Bool.and_false, Bool.false_and]
              rw [hw]
              clear hw
              have k0 : Hid (Below (w.heap.size + 1) (w.alloc (.cells #[.string nm, .int .i64 kd, .string a, .string b, .int .i64 n, .int .i64 wi, .string th, .string el] 75)) (w.alloc (.cells #[.string nm, .int .i64 kd, .string a, .string b, .int .i64 n, .int .i64 wi, .string th, .string el] 75))) := Below.refl _ _
              go_enter Tryz.func121, Tryz.ntmps121
              go_wp2_with fail
              refine (nameI_any nm _ hn).mono ?_; rintro e w1 ⟨rfl, hb1⟩; rw [h0]
              have k1 : Hid (Below (w.heap.size + 1) (w.alloc (.cells #[.string nm, .int .i64 kd, .string a, .string b, .int .i64 n, .int .i64 wi, .string th, .string el] 75)) w1) := below_of k0.out hb1
              clear hb1
              have x1_0 := box_at _ _ k1.out 0 (.string nm) rfl
              have x1_1 := box_at _ _ k1.out 1 (.int .i64 kd) rfl
              have x1_2 := box_at _ _ k1.out 2 (.string a) rfl
              have x1_3 := box_at _ _ k1.out 3 (.string b) rfl
              have x1_4 := box_at _ _ k1.out 4 (.int .i64 n) rfl
              have x1_5 := box_at _ _ k1.out 5 (.int .i64 wi) rfl
              have x1_6 := box_at _ _ k1.out 6 (.string th) rfl
              have x1_7 := box_at _ _ k1.out 7 (.string el) rfl
              go_wp2_with fail
              refine (endP_any nm _).mono ?_; rintro e w2 ⟨rfl, rfl⟩
              obtain ⟨E, hE⟩ : ∃ E, E = endI nm := ⟨_, rfl⟩
              rw [← hE]
              rw [← hE] at h1
              clear hE
              have p1 : E = 0 := by simpa using h1
              clear h1
              subst p1
              have p2 : (1 ≤ wi) := by simpa using h2
              clear h2
              have p3 : (wi ≤ 1000) := by simpa using h3
              clear h3
              go_wp2_with fail
              refine (kindOk_any nm a b th el kd n wi _).mono ?_; rintro e w2 ⟨rfl, hb2⟩; rw [h4]
              have k2 : Hid (Below (w.heap.size + 1) (w.alloc (.cells #[.string nm, .int .i64 kd, .string a, .string b, .int .i64 n, .int .i64 wi, .string th, .string el] 75)) w2) := below_of k1.out hb2
              clear hb2
              clear x1_0 x1_1 x1_2 x1_3 x1_4 x1_5 x1_6 x1_7
              have x2_0 := box_at _ _ k2.out 0 (.string nm) rfl
              have x2_1 := box_at _ _ k2.out 1 (.int .i64 kd) rfl
              have x2_2 := box_at _ _ k2.out 2 (.string a) rfl
              have x2_3 := box_at _ _ k2.out 3 (.string b) rfl
              have x2_4 := box_at _ _ k2.out 4 (.int .i64 n) rfl
              have x2_5 := box_at _ _ k2.out 5 (.int .i64 wi) rfl
              have x2_6 := box_at _ _ k2.out 6 (.string th) rfl
              have x2_7 := box_at _ _ k2.out 7 (.string el) rfl
              go_wp2_with fail
              refine (nameI_any a _ ha).mono ?_; rintro e w3 ⟨rfl, hb3⟩; rw [h5]
              have k3 : Hid (Below (w.heap.size + 1) (w.alloc (.cells #[.string nm, .int .i64 kd, .string a, .string b, .int .i64 n, .int .i64 wi, .string th, .string el] 75)) w3) := below_of k2.out hb3
              clear hb3
              clear x2_0 x2_1 x2_2 x2_3 x2_4 x2_5 x2_6 x2_7
              have x3_0 := box_at _ _ k3.out 0 (.string nm) rfl
              have x3_1 := box_at _ _ k3.out 1 (.int .i64 kd) rfl
              have x3_2 := box_at _ _ k3.out 2 (.string a) rfl
              have x3_3 := box_at _ _ k3.out 3 (.string b) rfl
              have x3_4 := box_at _ _ k3.out 4 (.int .i64 n) rfl
              have x3_5 := box_at _ _ k3.out 5 (.int .i64 wi) rfl
              have x3_6 := box_at _ _ k3.out 6 (.string th) rfl
              have x3_7 := box_at _ _ k3.out 7 (.string el) rfl
              go_wp2_with fail
              go_ret
              exact ⟨rfl, below_end k3.out⟩
            · cases h6 : secB kd a b
              · have hw : phI nm a b th el kd n wi = false := by simp only [phI, h6, Bool.and_false, Bool.false_and]
                rw [hw]
                clear hw
                have k0 : Hid (Below (w.heap.size + 1) (w.alloc (.cells #[.string nm, .int .i64 kd, .string a, .string b, .int .i64 n, .int .i64 wi, .string th, .string el] 75)) (w.alloc (.cells #[.string nm, .int .i64 kd, .string a, .string b, .int .i64 n, .int .i64 wi, .string th, .string el] 75))) := Below.refl _ _
                go_enter Tryz.func121, Tryz.ntmps121
                go_wp2_with fail
                refine (nameI_any nm _ hn).mono ?_; rintro e w1 ⟨rfl, hb1⟩; rw [h0]
                have k1 : Hid (Below (w.heap.size + 1) (w.alloc (.cells #[.string nm, .int .i64 kd, .string a, .string b, .int .i64 n, .int .i64 wi, .string th, .string el] 75)) w1) := below_of k0.out hb1
                clear hb1
                have x1_0 := box_at _ _ k1.out 0 (.string nm) rfl
                have x1_1 := box_at _ _ k1.out 1 (.int .i64 kd) rfl
                have x1_2 := box_at _ _ k1.out 2 (.string a) rfl
                have x1_3 := box_at _ _ k1.out 3 (.string b) rfl
                have x1_4 := box_at _ _ k1.out 4 (.int .i64 n) rfl
                have x1_5 := box_at _ _ k1.out 5 (.int .i64 wi) rfl
                have x1_6 := box_at _ _ k1.out 6 (.string th) rfl
                have x1_7 := box_at _ _ k1.out 7 (.string el) rfl
                go_wp2_with fail
                refine (endP_any nm _).mono ?_; rintro e w2 ⟨rfl, rfl⟩
                obtain ⟨E, hE⟩ : ∃ E, E = endI nm := ⟨_, rfl⟩
                rw [← hE]
                rw [← hE] at h1
                clear hE
                have p1 : E = 0 := by simpa using h1
                clear h1
                subst p1
                have p2 : (1 ≤ wi) := by simpa using h2
                clear h2
                have p3 : (wi ≤ 1000) := by simpa using h3
                clear h3
                go_wp2_with fail
                refine (kindOk_any nm a b th el kd n wi _).mono ?_; rintro e w2 ⟨rfl, hb2⟩; rw [h4]
                have k2 : Hid (Below (w.heap.size + 1) (w.alloc (.cells #[.string nm, .int .i64 kd, .string a, .string b, .int .i64 n, .int .i64 wi, .string th, .string el] 75)) w2) := below_of k1.out hb2
                clear hb2
                clear x1_0 x1_1 x1_2 x1_3 x1_4 x1_5 x1_6 x1_7
                have x2_0 := box_at _ _ k2.out 0 (.string nm) rfl
                have x2_1 := box_at _ _ k2.out 1 (.int .i64 kd) rfl
                have x2_2 := box_at _ _ k2.out 2 (.string a) rfl
                have x2_3 := box_at _ _ k2.out 3 (.string b) rfl
                have x2_4 := box_at _ _ k2.out 4 (.int .i64 n) rfl
                have x2_5 := box_at _ _ k2.out 5 (.int .i64 wi) rfl
                have x2_6 := box_at _ _ k2.out 6 (.string th) rfl
                have x2_7 := box_at _ _ k2.out 7 (.string el) rfl
                go_wp2_with fail
                refine (nameI_any a _ ha).mono ?_; rintro e w3 ⟨rfl, hb3⟩; rw [h5]
                have k3 : Hid (Below (w.heap.size + 1) (w.alloc (.cells #[.string nm, .int .i64 kd, .string a, .string b, .int .i64 n, .int .i64 wi, .string th, .string el] 75)) w3) := below_of k2.out hb3
                clear hb3
                clear x2_0 x2_1 x2_2 x2_3 x2_4 x2_5 x2_6 x2_7
                have x3_0 := box_at _ _ k3.out 0 (.string nm) rfl
                have x3_1 := box_at _ _ k3.out 1 (.int .i64 kd) rfl
                have x3_2 := box_at _ _ k3.out 2 (.string a) rfl
                have x3_3 := box_at _ _ k3.out 3 (.string b) rfl
                have x3_4 := box_at _ _ k3.out 4 (.int .i64 n) rfl
                have x3_5 := box_at _ _ k3.out 5 (.int .i64 wi) rfl
                have x3_6 := box_at _ _ k3.out 6 (.string th) rfl
                have x3_7 := box_at _ _ k3.out 7 (.string el) rfl
                go_wp2_with fail
                refine (second_any nm a b th el kd n wi _ hb).mono ?_; rintro e w4 ⟨rfl, hb4⟩; rw [h6]
                have k4 : Hid (Below (w.heap.size + 1) (w.alloc (.cells #[.string nm, .int .i64 kd, .string a, .string b, .int .i64 n, .int .i64 wi, .string th, .string el] 75)) w4) := below_of k3.out hb4
                clear hb4
                clear x3_0 x3_1 x3_2 x3_3 x3_4 x3_5 x3_6 x3_7
                have x4_0 := box_at _ _ k4.out 0 (.string nm) rfl
                have x4_1 := box_at _ _ k4.out 1 (.int .i64 kd) rfl
                have x4_2 := box_at _ _ k4.out 2 (.string a) rfl
                have x4_3 := box_at _ _ k4.out 3 (.string b) rfl
                have x4_4 := box_at _ _ k4.out 4 (.int .i64 n) rfl
                have x4_5 := box_at _ _ k4.out 5 (.int .i64 wi) rfl
                have x4_6 := box_at _ _ k4.out 6 (.string th) rfl
                have x4_7 := box_at _ _ k4.out 7 (.string el) rfl
                go_wp2_with fail
                go_ret
                exact ⟨rfl, below_end k4.out⟩
              · cases h7 : cntB kd n wi
                · have hw : phI nm a b th el kd n wi = false := by simp only [phI, h7, Bool.and_false, Bool.false_and]
                  rw [hw]
                  clear hw
                  have k0 : Hid (Below (w.heap.size + 1) (w.alloc (.cells #[.string nm, .int .i64 kd, .string a, .string b, .int .i64 n, .int .i64 wi, .string th, .string el] 75)) (w.alloc (.cells #[.string nm, .int .i64 kd, .string a, .string b, .int .i64 n, .int .i64 wi, .string th, .string el] 75))) := Below.refl _ _
                  go_enter Tryz.func121, Tryz.ntmps121
                  go_wp2_with fail
                  refine (nameI_any nm _ hn).mono ?_; rintro e w1 ⟨rfl, hb1⟩; rw [h0]
                  have k1 : Hid (Below (w.heap.size + 1) (w.alloc (.cells #[.string nm, .int .i64 kd, .string a, .string b, .int .i64 n, .int .i64 wi, .string th, .string el] 75)) w1) := below_of k0.out hb1
                  clear hb1
                  have x1_0 := box_at _ _ k1.out 0 (.string nm) rfl
                  have x1_1 := box_at _ _ k1.out 1 (.int .i64 kd) rfl
                  have x1_2 := box_at _ _ k1.out 2 (.string a) rfl
                  have x1_3 := box_at _ _ k1.out 3 (.string b) rfl
                  have x1_4 := box_at _ _ k1.out 4 (.int .i64 n) rfl
                  have x1_5 := box_at _ _ k1.out 5 (.int .i64 wi) rfl
                  have x1_6 := box_at _ _ k1.out 6 (.string th) rfl
                  have x1_7 := box_at _ _ k1.out 7 (.string el) rfl
                  go_wp2_with fail
                  refine (endP_any nm _).mono ?_; rintro e w2 ⟨rfl, rfl⟩
                  obtain ⟨E, hE⟩ : ∃ E, E = endI nm := ⟨_, rfl⟩
                  rw [← hE]
                  rw [← hE] at h1
                  clear hE
                  have p1 : E = 0 := by simpa using h1
                  clear h1
                  subst p1
                  have p2 : (1 ≤ wi) := by simpa using h2
                  clear h2
                  have p3 : (wi ≤ 1000) := by simpa using h3
                  clear h3
                  go_wp2_with fail
                  refine (kindOk_any nm a b th el kd n wi _).mono ?_; rintro e w2 ⟨rfl, hb2⟩; rw [h4]
                  have k2 : Hid (Below (w.heap.size + 1) (w.alloc (.cells #[.string nm, .int .i64 kd, .string a, .string b, .int .i64 n, .int .i64 wi, .string th, .string el] 75)) w2) := below_of k1.out hb2
                  clear hb2
                  clear x1_0 x1_1 x1_2 x1_3 x1_4 x1_5 x1_6 x1_7
                  have x2_0 := box_at _ _ k2.out 0 (.string nm) rfl
                  have x2_1 := box_at _ _ k2.out 1 (.int .i64 kd) rfl
                  have x2_2 := box_at _ _ k2.out 2 (.string a) rfl
                  have x2_3 := box_at _ _ k2.out 3 (.string b) rfl
                  have x2_4 := box_at _ _ k2.out 4 (.int .i64 n) rfl
                  have x2_5 := box_at _ _ k2.out 5 (.int .i64 wi) rfl
                  have x2_6 := box_at _ _ k2.out 6 (.string th) rfl
                  have x2_7 := box_at _ _ k2.out 7 (.string el) rfl
                  go_wp2_with fail
                  refine (nameI_any a _ ha).mono ?_; rintro e w3 ⟨rfl, hb3⟩; rw [h5]
                  have k3 : Hid (Below (w.heap.size + 1) (w.alloc (.cells #[.string nm, .int .i64 kd, .string a, .string b, .int .i64 n, .int .i64 wi, .string th, .string el] 75)) w3) := below_of k2.out hb3
                  clear hb3
                  clear x2_0 x2_1 x2_2 x2_3 x2_4 x2_5 x2_6 x2_7
                  have x3_0 := box_at _ _ k3.out 0 (.string nm) rfl
                  have x3_1 := box_at _ _ k3.out 1 (.int .i64 kd) rfl
                  have x3_2 := box_at _ _ k3.out 2 (.string a) rfl
                  have x3_3 := box_at _ _ k3.out 3 (.string b) rfl
                  have x3_4 := box_at _ _ k3.out 4 (.int .i64 n) rfl
                  have x3_5 := box_at _ _ k3.out 5 (.int .i64 wi) rfl
                  have x3_6 := box_at _ _ k3.out 6 (.string th) rfl
                  have x3_7 := box_at _ _ k3.out 7 (.string el) rfl
                  go_wp2_with fail
                  refine (second_any nm a b th el kd n wi _ hb).mono ?_; rintro e w4 ⟨rfl, hb4⟩; rw [h6]
                  have k4 : Hid (Below (w.heap.size + 1) (w.alloc (.cells #[.string nm, .int .i64 kd, .string a, .string b, .int .i64 n, .int .i64 wi, .string th, .string el] 75)) w4) := below_of k3.out hb4
                  clear hb4
                  clear x3_0 x3_1 x3_2 x3_3 x3_4 x3_5 x3_6 x3_7
                  have x4_0 := box_at _ _ k4.out 0 (.string nm) rfl
                  have x4_1 := box_at _ _ k4.out 1 (.int .i64 kd) rfl
                  have x4_2 := box_at _ _ k4.out 2 (.string a) rfl
                  have x4_3 := box_at _ _ k4.out 3 (.string b) rfl
                  have x4_4 := box_at _ _ k4.out 4 (.int .i64 n) rfl
                  have x4_5 := box_at _ _ k4.out 5 (.int .i64 wi) rfl
                  have x4_6 := box_at _ _ k4.out 6 (.string th) rfl
                  have x4_7 := box_at _ _ k4.out 7 (.string el) rfl
                  go_wp2_with fail
                  refine (count_any nm a b th el kd n wi _).mono ?_; rintro e w5 ⟨rfl, hb5⟩; rw [h7]
                  have k5 : Hid (Below (w.heap.size + 1) (w.alloc (.cells #[.string nm, .int .i64 kd, .string a, .string b, .int .i64 n, .int .i64 wi, .string th, .string el] 75)) w5) := below_of k4.out hb5
                  clear hb5
                  clear x4_0 x4_1 x4_2 x4_3 x4_4 x4_5 x4_6 x4_7
                  have x5_0 := box_at _ _ k5.out 0 (.string nm) rfl
                  have x5_1 := box_at _ _ k5.out 1 (.int .i64 kd) rfl
                  have x5_2 := box_at _ _ k5.out 2 (.string a) rfl
                  have x5_3 := box_at _ _ k5.out 3 (.string b) rfl
                  have x5_4 := box_at _ _ k5.out 4 (.int .i64 n) rfl
                  have x5_5 := box_at _ _ k5.out 5 (.int .i64 wi) rfl
                  have x5_6 := box_at _ _ k5.out 6 (.string th) rfl
                  have x5_7 := box_at _ _ k5.out 7 (.string el) rfl
                  go_wp2_with fail
                  go_ret
                  exact ⟨rfl, below_end k5.out⟩
                · cases h8 : nameB th
                  · have hw : phI nm a b th el kd n wi = false := by simp only [phI, h8, Bool.and_false, Bool.false_and]
                    rw [hw]
                    clear hw
                    have k0 : Hid (Below (w.heap.size + 1) (w.alloc (.cells #[.string nm, .int .i64 kd, .string a, .string b, .int .i64 n, .int .i64 wi, .string th, .string el] 75)) (w.alloc (.cells #[.string nm, .int .i64 kd, .string a, .string b, .int .i64 n, .int .i64 wi, .string th, .string el] 75))) := Below.refl _ _
                    go_enter Tryz.func121, Tryz.ntmps121
                    go_wp2_with fail
                    refine (nameI_any nm _ hn).mono ?_; rintro e w1 ⟨rfl, hb1⟩; rw [h0]
                    have k1 : Hid (Below (w.heap.size + 1) (w.alloc (.cells #[.string nm, .int .i64 kd, .string a, .string b, .int .i64 n, .int .i64 wi, .string th, .string el] 75)) w1) := below_of k0.out hb1
                    clear hb1
                    have x1_0 := box_at _ _ k1.out 0 (.string nm) rfl
                    have x1_1 := box_at _ _ k1.out 1 (.int .i64 kd) rfl
                    have x1_2 := box_at _ _ k1.out 2 (.string a) rfl
                    have x1_3 := box_at _ _ k1.out 3 (.string b) rfl
                    have x1_4 := box_at _ _ k1.out 4 (.int .i64 n) rfl
                    have x1_5 := box_at _ _ k1.out 5 (.int .i64 wi) rfl
                    have x1_6 := box_at _ _ k1.out 6 (.string th) rfl
                    have x1_7 := box_at _ _ k1.out 7 (.string el) rfl
                    go_wp2_with fail
                    refine (endP_any nm _).mono ?_; rintro e w2 ⟨rfl, rfl⟩
                    obtain ⟨E, hE⟩ : ∃ E, E = endI nm := ⟨_, rfl⟩
                    rw [← hE]
                    rw [← hE] at h1
                    clear hE
                    have p1 : E = 0 := by simpa using h1
                    clear h1
                    subst p1
                    have p2 : (1 ≤ wi) := by simpa using h2
                    clear h2
                    have p3 : (wi ≤ 1000) := by simpa using h3
                    clear h3
                    go_wp2_with fail
                    refine (kindOk_any nm a b th el kd n wi _).mono ?_; rintro e w2 ⟨rfl, hb2⟩; rw [h4]
                    have k2 : Hid (Below (w.heap.size + 1) (w.alloc (.cells #[.string nm, .int .i64 kd, .string a, .string b, .int .i64 n, .int .i64 wi, .string th, .string el] 75)) w2) := below_of k1.out hb2
                    clear hb2
                    clear x1_0 x1_1 x1_2 x1_3 x1_4 x1_5 x1_6 x1_7
                    have x2_0 := box_at _ _ k2.out 0 (.string nm) rfl
                    have x2_1 := box_at _ _ k2.out 1 (.int .i64 kd) rfl
                    have x2_2 := box_at _ _ k2.out 2 (.string a) rfl
                    have x2_3 := box_at _ _ k2.out 3 (.string b) rfl
                    have x2_4 := box_at _ _ k2.out 4 (.int .i64 n) rfl
                    have x2_5 := box_at _ _ k2.out 5 (.int .i64 wi) rfl
                    have x2_6 := box_at _ _ k2.out 6 (.string th) rfl
                    have x2_7 := box_at _ _ k2.out 7 (.string el) rfl
                    go_wp2_with fail
                    refine (nameI_any a _ ha).mono ?_; rintro e w3 ⟨rfl, hb3⟩; rw [h5]
                    have k3 : Hid (Below (w.heap.size + 1) (w.alloc (.cells #[.string nm, .int .i64 kd, .string a, .string b, .int .i64 n, .int .i64 wi, .string th, .string el] 75)) w3) := below_of k2.out hb3
                    clear hb3
                    clear x2_0 x2_1 x2_2 x2_3 x2_4 x2_5 x2_6 x2_7
                    have x3_0 := box_at _ _ k3.out 0 (.string nm) rfl
                    have x3_1 := box_at _ _ k3.out 1 (.int .i64 kd) rfl
                    have x3_2 := box_at _ _ k3.out 2 (.string a) rfl
                    have x3_3 := box_at _ _ k3.out 3 (.string b) rfl
                    have x3_4 := box_at _ _ k3.out 4 (.int .i64 n) rfl
                    have x3_5 := box_at _ _ k3.out 5 (.int .i64 wi) rfl
                    have x3_6 := box_at _ _ k3.out 6 (.string th) rfl
                    have x3_7 := box_at _ _ k3.out 7 (.string el) rfl
                    go_wp2_with fail
                    refine (second_any nm a b th el kd n wi _ hb).mono ?_; rintro e w4 ⟨rfl, hb4⟩; rw [h6]
                    have k4 : Hid (Below (w.heap.size + 1) (w.alloc (.cells #[.string nm, .int .i64 kd, .string a, .string b, .int .i64 n, .int .i64 wi, .string th, .string el] 75)) w4) := below_of k3.out hb4
                    clear hb4
                    clear x3_0 x3_1 x3_2 x3_3 x3_4 x3_5 x3_6 x3_7
                    have x4_0 := box_at _ _ k4.out 0 (.string nm) rfl
                    have x4_1 := box_at _ _ k4.out 1 (.int .i64 kd) rfl
                    have x4_2 := box_at _ _ k4.out 2 (.string a) rfl
                    have x4_3 := box_at _ _ k4.out 3 (.string b) rfl
                    have x4_4 := box_at _ _ k4.out 4 (.int .i64 n) rfl
                    have x4_5 := box_at _ _ k4.out 5 (.int .i64 wi) rfl
                    have x4_6 := box_at _ _ k4.out 6 (.string th) rfl
                    have x4_7 := box_at _ _ k4.out 7 (.string el) rfl
                    go_wp2_with fail
                    refine (count_any nm a b th el kd n wi _).mono ?_; rintro e w5 ⟨rfl, hb5⟩; rw [h7]
                    have k5 : Hid (Below (w.heap.size + 1) (w.alloc (.cells #[.string nm, .int .i64 kd, .string a, .string b, .int .i64 n, .int .i64 wi, .string th, .string el] 75)) w5) := below_of k4.out hb5
                    clear hb5
                    clear x4_0 x4_1 x4_2 x4_3 x4_4 x4_5 x4_6 x4_7
                    have x5_0 := box_at _ _ k5.out 0 (.string nm) rfl
                    have x5_1 := box_at _ _ k5.out 1 (.int .i64 kd) rfl
                    have x5_2 := box_at _ _ k5.out 2 (.string a) rfl
                    have x5_3 := box_at _ _ k5.out 3 (.string b) rfl
                    have x5_4 := box_at _ _ k5.out 4 (.int .i64 n) rfl
                    have x5_5 := box_at _ _ k5.out 5 (.int .i64 wi) rfl
                    have x5_6 := box_at _ _ k5.out 6 (.string th) rfl
                    have x5_7 := box_at _ _ k5.out 7 (.string el) rfl
                    go_wp2_with fail
                    refine (nameI_any th _ ht).mono ?_; rintro e w6 ⟨rfl, hb6⟩; rw [h8]
                    have k6 : Hid (Below (w.heap.size + 1) (w.alloc (.cells #[.string nm, .int .i64 kd, .string a, .string b, .int .i64 n, .int .i64 wi, .string th, .string el] 75)) w6) := below_of k5.out hb6
                    clear hb6
                    clear x5_0 x5_1 x5_2 x5_3 x5_4 x5_5 x5_6 x5_7
                    have x6_0 := box_at _ _ k6.out 0 (.string nm) rfl
                    have x6_1 := box_at _ _ k6.out 1 (.int .i64 kd) rfl
                    have x6_2 := box_at _ _ k6.out 2 (.string a) rfl
                    have x6_3 := box_at _ _ k6.out 3 (.string b) rfl
                    have x6_4 := box_at _ _ k6.out 4 (.int .i64 n) rfl
                    have x6_5 := box_at _ _ k6.out 5 (.int .i64 wi) rfl
                    have x6_6 := box_at _ _ k6.out 6 (.string th) rfl
                    have x6_7 := box_at _ _ k6.out 7 (.string el) rfl
                    go_wp2_with fail
                    go_ret
                    exact ⟨rfl, below_end k6.out⟩
                  · cases h9 : nameB el
                    · have hw : phI nm a b th el kd n wi = false := by simp only [phI, h9, Bool.and_false]
                      rw [hw]
                      clear hw
                      have k0 : Hid (Below (w.heap.size + 1) (w.alloc (.cells #[.string nm, .int .i64 kd, .string a, .string b, .int .i64 n, .int .i64 wi, .string th, .string el] 75)) (w.alloc (.cells #[.string nm, .int .i64 kd, .string a, .string b, .int .i64 n, .int .i64 wi, .string th, .string el] 75))) := Below.refl _ _
                      go_enter Tryz.func121, Tryz.ntmps121
                      go_wp2_with fail
                      refine (nameI_any nm _ hn).mono ?_; rintro e w1 ⟨rfl, hb1⟩; rw [h0]
                      have k1 : Hid (Below (w.heap.size + 1) (w.alloc (.cells #[.string nm, .int .i64 kd, .string a, .string b, .int .i64 n, .int .i64 wi, .string th, .string el] 75)) w1) := below_of k0.out hb1
                      clear hb1
                      have x1_0 := box_at _ _ k1.out 0 (.string nm) rfl
                      have x1_1 := box_at _ _ k1.out 1 (.int .i64 kd) rfl
                      have x1_2 := box_at _ _ k1.out 2 (.string a) rfl
                      have x1_3 := box_at _ _ k1.out 3 (.string b) rfl
                      have x1_4 := box_at _ _ k1.out 4 (.int .i64 n) rfl
                      have x1_5 := box_at _ _ k1.out 5 (.int .i64 wi) rfl
                      have x1_6 := box_at _ _ k1.out 6 (.string th) rfl
                      have x1_7 := box_at _ _ k1.out 7 (.string el) rfl
                      go_wp2_with fail
                      refine (endP_any nm _).mono ?_; rintro e w2 ⟨rfl, rfl⟩
                      obtain ⟨E, hE⟩ : ∃ E, E = endI nm := ⟨_, rfl⟩
                      rw [← hE]
                      rw [← hE] at h1
                      clear hE
                      have p1 : E = 0 := by simpa using h1
                      clear h1
                      subst p1
                      have p2 : (1 ≤ wi) := by simpa using h2
                      clear h2
                      have p3 : (wi ≤ 1000) := by simpa using h3
                      clear h3
                      go_wp2_with fail
                      refine (kindOk_any nm a b th el kd n wi _).mono ?_; rintro e w2 ⟨rfl, hb2⟩; rw [h4]
                      have k2 : Hid (Below (w.heap.size + 1) (w.alloc (.cells #[.string nm, .int .i64 kd, .string a, .string b, .int .i64 n, .int .i64 wi, .string th, .string el] 75)) w2) := below_of k1.out hb2
                      clear hb2
                      clear x1_0 x1_1 x1_2 x1_3 x1_4 x1_5 x1_6 x1_7
                      have x2_0 := box_at _ _ k2.out 0 (.string nm) rfl
                      have x2_1 := box_at _ _ k2.out 1 (.int .i64 kd) rfl
                      have x2_2 := box_at _ _ k2.out 2 (.string a) rfl
                      have x2_3 := box_at _ _ k2.out 3 (.string b) rfl
                      have x2_4 := box_at _ _ k2.out 4 (.int .i64 n) rfl
                      have x2_5 := box_at _ _ k2.out 5 (.int .i64 wi) rfl
                      have x2_6 := box_at _ _ k2.out 6 (.string th) rfl
                      have x2_7 := box_at _ _ k2.out 7 (.string el) rfl
                      go_wp2_with fail
                      refine (nameI_any a _ ha).mono ?_; rintro e w3 ⟨rfl, hb3⟩; rw [h5]
                      have k3 : Hid (Below (w.heap.size + 1) (w.alloc (.cells #[.string nm, .int .i64 kd, .string a, .string b, .int .i64 n, .int .i64 wi, .string th, .string el] 75)) w3) := below_of k2.out hb3
                      clear hb3
                      clear x2_0 x2_1 x2_2 x2_3 x2_4 x2_5 x2_6 x2_7
                      have x3_0 := box_at _ _ k3.out 0 (.string nm) rfl
                      have x3_1 := box_at _ _ k3.out 1 (.int .i64 kd) rfl
                      have x3_2 := box_at _ _ k3.out 2 (.string a) rfl
                      have x3_3 := box_at _ _ k3.out 3 (.string b) rfl
                      have x3_4 := box_at _ _ k3.out 4 (.int .i64 n) rfl
                      have x3_5 := box_at _ _ k3.out 5 (.int .i64 wi) rfl
                      have x3_6 := box_at _ _ k3.out 6 (.string th) rfl
                      have x3_7 := box_at _ _ k3.out 7 (.string el) rfl
                      go_wp2_with fail
                      refine (second_any nm a b th el kd n wi _ hb).mono ?_; rintro e w4 ⟨rfl, hb4⟩; rw [h6]
                      have k4 : Hid (Below (w.heap.size + 1) (w.alloc (.cells #[.string nm, .int .i64 kd, .string a, .string b, .int .i64 n, .int .i64 wi, .string th, .string el] 75)) w4) := below_of k3.out hb4
                      clear hb4
                      clear x3_0 x3_1 x3_2 x3_3 x3_4 x3_5 x3_6 x3_7
                      have x4_0 := box_at _ _ k4.out 0 (.string nm) rfl
                      have x4_1 := box_at _ _ k4.out 1 (.int .i64 kd) rfl
                      have x4_2 := box_at _ _ k4.out 2 (.string a) rfl
                      have x4_3 := box_at _ _ k4.out 3 (.string b) rfl
                      have x4_4 := box_at _ _ k4.out 4 (.int .i64 n) rfl
                      have x4_5 := box_at _ _ k4.out 5 (.int .i64 wi) rfl
                      have x4_6 := box_at _ _ k4.out 6 (.string th) rfl
                      have x4_7 := box_at _ _ k4.out 7 (.string el) rfl
                      go_wp2_with fail
                      refine (count_any nm a b th el kd n wi _).mono ?_; rintro e w5 ⟨rfl, hb5⟩; rw [h7]
                      have k5 : Hid (Below (w.heap.size + 1) (w.alloc (.cells #[.string nm, .int .i64 kd, .string a, .string b, .int .i64 n, .int .i64 wi, .string th, .string el] 75)) w5) := below_of k4.out hb5
                      clear hb5
                      clear x4_0 x4_1 x4_2 x4_3 x4_4 x4_5 x4_6 x4_7
                      have x5_0 := box_at _ _ k5.out 0 (.string nm) rfl
                      have x5_1 := box_at _ _ k5.out 1 (.int .i64 kd) rfl
                      have x5_2 := box_at _ _ k5.out 2 (.string a) rfl
                      have x5_3 := box_at _ _ k5.out 3 (.string b) rfl
                      have x5_4 := box_at _ _ k5.out 4 (.int .i64 n) rfl
                      have x5_5 := box_at _ _ k5.out 5 (.int .i64 wi) rfl
                      have x5_6 := box_at _ _ k5.out 6 (.string th) rfl
                      have x5_7 := box_at _ _ k5.out 7 (.string el) rfl
                      go_wp2_with fail
                      refine (nameI_any th _ ht).mono ?_; rintro e w6 ⟨rfl, hb6⟩; rw [h8]
                      have k6 : Hid (Below (w.heap.size + 1) (w.alloc (.cells #[.string nm, .int .i64 kd, .string a, .string b, .int .i64 n, .int .i64 wi, .string th, .string el] 75)) w6) := below_of k5.out hb6
                      clear hb6
                      clear x5_0 x5_1 x5_2 x5_3 x5_4 x5_5 x5_6 x5_7
                      have x6_0 := box_at _ _ k6.out 0 (.string nm) rfl
                      have x6_1 := box_at _ _ k6.out 1 (.int .i64 kd) rfl
                      have x6_2 := box_at _ _ k6.out 2 (.string a) rfl
                      have x6_3 := box_at _ _ k6.out 3 (.string b) rfl
                      have x6_4 := box_at _ _ k6.out 4 (.int .i64 n) rfl
                      have x6_5 := box_at _ _ k6.out 5 (.int .i64 wi) rfl
                      have x6_6 := box_at _ _ k6.out 6 (.string th) rfl
                      have x6_7 := box_at _ _ k6.out 7 (.string el) rfl
                      go_wp2_with fail
                      refine (nameI_any el _ he).mono ?_; rintro e w7 ⟨rfl, hb7⟩; rw [h9]
                      have k7 : Hid (Below (w.heap.size + 1) (w.alloc (.cells #[.string nm, .int .i64 kd, .string a, .string b, .int .i64 n, .int .i64 wi, .string th, .string el] 75)) w7) := below_of k6.out hb7
                      clear hb7
                      clear x6_0 x6_1 x6_2 x6_3 x6_4 x6_5 x6_6 x6_7
                      have x7_0 := box_at _ _ k7.out 0 (.string nm) rfl
                      have x7_1 := box_at _ _ k7.out 1 (.int .i64 kd) rfl
                      have x7_2 := box_at _ _ k7.out 2 (.string a) rfl
                      have x7_3 := box_at _ _ k7.out 3 (.string b) rfl
                      have x7_4 := box_at _ _ k7.out 4 (.int .i64 n) rfl
                      have x7_5 := box_at _ _ k7.out 5 (.int .i64 wi) rfl
                      have x7_6 := box_at _ _ k7.out 6 (.string th) rfl
                      have x7_7 := box_at _ _ k7.out 7 (.string el) rfl
                      go_wp2_with fail
                      go_ret
                      exact ⟨rfl, below_end k7.out⟩
                    · have hw : phI nm a b th el kd n wi = true := by simp only [phI, h0, h1, h2, h3, h4, h5, h6, h7, h8, h9, Bool.and_self]
                      rw [hw]
                      clear hw
                      have k0 : Hid (Below (w.heap.size + 1) (w.alloc (.cells #[.string nm, .int .i64 kd, .string a, .string b, .int .i64 n, .int .i64 wi, .string th, .string el] 75)) (w.alloc (.cells #[.string nm, .int .i64 kd, .string a, .string b, .int .i64 n, .int .i64 wi, .string th, .string el] 75))) := Below.refl _ _
                      go_enter Tryz.func121, Tryz.ntmps121
                      go_wp2_with fail
                      refine (nameI_any nm _ hn).mono ?_; rintro e w1 ⟨rfl, hb1⟩; rw [h0]
                      have k1 : Hid (Below (w.heap.size + 1) (w.alloc (.cells #[.string nm, .int .i64 kd, .string a, .string b, .int .i64 n, .int .i64 wi, .string th, .string el] 75)) w1) := below_of k0.out hb1
                      clear hb1
                      have x1_0 := box_at _ _ k1.out 0 (.string nm) rfl
                      have x1_1 := box_at _ _ k1.out 1 (.int .i64 kd) rfl
                      have x1_2 := box_at _ _ k1.out 2 (.string a) rfl
                      have x1_3 := box_at _ _ k1.out 3 (.string b) rfl
                      have x1_4 := box_at _ _ k1.out 4 (.int .i64 n) rfl
                      have x1_5 := box_at _ _ k1.out 5 (.int .i64 wi) rfl
                      have x1_6 := box_at _ _ k1.out 6 (.string th) rfl
                      have x1_7 := box_at _ _ k1.out 7 (.string el) rfl
                      go_wp2_with fail
                      refine (endP_any nm _).mono ?_; rintro e w2 ⟨rfl, rfl⟩
                      obtain ⟨E, hE⟩ : ∃ E, E = endI nm := ⟨_, rfl⟩
                      rw [← hE]
                      rw [← hE] at h1
                      clear hE
                      have p1 : E = 0 := by simpa using h1
                      clear h1
                      subst p1
                      have p2 : (1 ≤ wi) := by simpa using h2
                      clear h2
                      have p3 : (wi ≤ 1000) := by simpa using h3
                      clear h3
                      go_wp2_with fail
                      refine (kindOk_any nm a b th el kd n wi _).mono ?_; rintro e w2 ⟨rfl, hb2⟩; rw [h4]
                      have k2 : Hid (Below (w.heap.size + 1) (w.alloc (.cells #[.string nm, .int .i64 kd, .string a, .string b, .int .i64 n, .int .i64 wi, .string th, .string el] 75)) w2) := below_of k1.out hb2
                      clear hb2
                      clear x1_0 x1_1 x1_2 x1_3 x1_4 x1_5 x1_6 x1_7
                      have x2_0 := box_at _ _ k2.out 0 (.string nm) rfl
                      have x2_1 := box_at _ _ k2.out 1 (.int .i64 kd) rfl
                      have x2_2 := box_at _ _ k2.out 2 (.string a) rfl
                      have x2_3 := box_at _ _ k2.out 3 (.string b) rfl
                      have x2_4 := box_at _ _ k2.out 4 (.int .i64 n) rfl
                      have x2_5 := box_at _ _ k2.out 5 (.int .i64 wi) rfl
                      have x2_6 := box_at _ _ k2.out 6 (.string th) rfl
                      have x2_7 := box_at _ _ k2.out 7 (.string el) rfl
                      go_wp2_with fail
                      refine (nameI_any a _ ha).mono ?_; rintro e w3 ⟨rfl, hb3⟩; rw [h5]
                      have k3 : Hid (Below (w.heap.size + 1) (w.alloc (.cells #[.string nm, .int .i64 kd, .string a, .string b, .int .i64 n, .int .i64 wi, .string th, .string el] 75)) w3) := below_of k2.out hb3
                      clear hb3
                      clear x2_0 x2_1 x2_2 x2_3 x2_4 x2_5 x2_6 x2_7
                      have x3_0 := box_at _ _ k3.out 0 (.string nm) rfl
                      have x3_1 := box_at _ _ k3.out 1 (.int .i64 kd) rfl
                      have x3_2 := box_at _ _ k3.out 2 (.string a) rfl
                      have x3_3 := box_at _ _ k3.out 3 (.string b) rfl
                      have x3_4 := box_at _ _ k3.out 4 (.int .i64 n) rfl
                      have x3_5 := box_at _ _ k3.out 5 (.int .i64 wi) rfl
                      have x3_6 := box_at _ _ k3.out 6 (.string th) rfl
                      have x3_7 := box_at _ _ k3.out 7 (.string el) rfl
                      go_wp2_with fail
                      refine (second_any nm a b th el kd n wi _ hb).mono ?_; rintro e w4 ⟨rfl, hb4⟩; rw [h6]
                      have k4 : Hid (Below (w.heap.size + 1) (w.alloc (.cells #[.string nm, .int .i64 kd, .string a, .string b, .int .i64 n, .int .i64 wi, .string th, .string el] 75)) w4) := below_of k3.out hb4
                      clear hb4
                      clear x3_0 x3_1 x3_2 x3_3 x3_4 x3_5 x3_6 x3_7
                      have x4_0 := box_at _ _ k4.out 0 (.string nm) rfl
                      have x4_1 := box_at _ _ k4.out 1 (.int .i64 kd) rfl
                      have x4_2 := box_at _ _ k4.out 2 (.string a) rfl
                      have x4_3 := box_at _ _ k4.out 3 (.string b) rfl
                      have x4_4 := box_at _ _ k4.out 4 (.int .i64 n) rfl
                      have x4_5 := box_at _ _ k4.out 5 (.int .i64 wi) rfl
                      have x4_6 := box_at _ _ k4.out 6 (.string th) rfl
                      have x4_7 := box_at _ _ k4.out 7 (.string el) rfl
                      go_wp2_with fail
                      refine (count_any nm a b th el kd n wi _).mono ?_; rintro e w5 ⟨rfl, hb5⟩; rw [h7]
                      have k5 : Hid (Below (w.heap.size + 1) (w.alloc (.cells #[.string nm, .int .i64 kd, .string a, .string b, .int .i64 n, .int .i64 wi, .string th, .string el] 75)) w5) := below_of k4.out hb5
                      clear hb5
                      clear x4_0 x4_1 x4_2 x4_3 x4_4 x4_5 x4_6 x4_7
                      have x5_0 := box_at _ _ k5.out 0 (.string nm) rfl
                      have x5_1 := box_at _ _ k5.out 1 (.int .i64 kd) rfl
                      have x5_2 := box_at _ _ k5.out 2 (.string a) rfl
                      have x5_3 := box_at _ _ k5.out 3 (.string b) rfl
                      have x5_4 := box_at _ _ k5.out 4 (.int .i64 n) rfl
                      have x5_5 := box_at _ _ k5.out 5 (.int .i64 wi) rfl
                      have x5_6 := box_at _ _ k5.out 6 (.string th) rfl
                      have x5_7 := box_at _ _ k5.out 7 (.string el) rfl
                      go_wp2_with fail
                      refine (nameI_any th _ ht).mono ?_; rintro e w6 ⟨rfl, hb6⟩; rw [h8]
                      have k6 : Hid (Below (w.heap.size + 1) (w.alloc (.cells #[.string nm, .int .i64 kd, .string a, .string b, .int .i64 n, .int .i64 wi, .string th, .string el] 75)) w6) := below_of k5.out hb6
                      clear hb6
                      clear x5_0 x5_1 x5_2 x5_3 x5_4 x5_5 x5_6 x5_7
                      have x6_0 := box_at _ _ k6.out 0 (.string nm) rfl
                      have x6_1 := box_at _ _ k6.out 1 (.int .i64 kd) rfl
                      have x6_2 := box_at _ _ k6.out 2 (.string a) rfl
                      have x6_3 := box_at _ _ k6.out 3 (.string b) rfl
                      have x6_4 := box_at _ _ k6.out 4 (.int .i64 n) rfl
                      have x6_5 := box_at _ _ k6.out 5 (.int .i64 wi) rfl
                      have x6_6 := box_at _ _ k6.out 6 (.string th) rfl
                      have x6_7 := box_at _ _ k6.out 7 (.string el) rfl
                      go_wp2_with fail
                      refine (nameI_any el _ he).mono ?_; rintro e w7 ⟨rfl, hb7⟩; rw [h9]
                      have k7 : Hid (Below (w.heap.size + 1) (w.alloc (.cells #[.string nm, .int .i64 kd, .string a, .string b, .int .i64 n, .int .i64 wi, .string th, .string el] 75)) w7) := below_of k6.out hb7
                      clear hb7
                      clear x6_0 x6_1 x6_2 x6_3 x6_4 x6_5 x6_6 x6_7
                      have x7_0 := box_at _ _ k7.out 0 (.string nm) rfl
                      have x7_1 := box_at _ _ k7.out 1 (.int .i64 kd) rfl
                      have x7_2 := box_at _ _ k7.out 2 (.string a) rfl
                      have x7_3 := box_at _ _ k7.out 3 (.string b) rfl
                      have x7_4 := box_at _ _ k7.out 4 (.int .i64 n) rfl
                      have x7_5 := box_at _ _ k7.out 5 (.int .i64 wi) rfl
                      have x7_6 := box_at _ _ k7.out 6 (.string th) rfl
                      have x7_7 := box_at _ _ k7.out 7 (.string el) rfl
                      go_wp2_with fail
                      go_ret
                      exact ⟨rfl, below_end k7.out⟩
theorem phaseI_any (nm a b th el : ByteArray) (kd n wi : Int) (w : World) (hn : nm.size ≤ maxLen) (ha : a.size ≤ maxLen) (hb : b.size ≤ maxLen) (ht : th.size ≤ maxLen) (he : el.size ≤ maxLen) (_ : OkN kd) (_ : OkN n) (_ : OkN wi) : Calls Tryz.prog 121 #[.agg #[.string nm, .int .i64 kd, .string a, .string b, .int .i64 n, .int .i64 wi, .string th, .string el]] w fun e w' => e = .returned (.bool (phaseB (nm, kd, a, b, n, wi, th, el))) ∧ Below w.heap.size w w' := by
  rw [← phI_same]
  exact phI_any nm a b th el kd n wi w hn ha hb ht he
end Go.Proofs.YtobchllaopdchacGreat
