/-
  The model's test of one spot of a book.
-/
import Derived.Test.YticojnepejboaabGreatCg
namespace Go.Proofs.YticojnepejboaabGreat
open Go.RowKit

/-- May a stuff of a spot not meet another of it? -/
def peaceB (foes : List DClaimFoe) (may : List ByteArray) (x : ByteArray) : Bool := !clashC foes x may
/-- Is a spot as it is to be? -/
noncomputable def spotB (foes : List DClaimFoe) (s : DClaimSpot) : Bool := nameB s.1 && (inB s.2.1 0 1000 && (inB s.2.2.1 0 s.2.2.2.1 && (!decide (s.2.1 < s.2.2.2.1) && (okB 8 (tst nameB ltB) s.2.2.2.2 && s.2.2.2.2.all (peaceB foes s.2.2.2.2)))))

open Go.Sort in
theorem clashC_q (S : Nat → Prop) (v0 v1 v2 v3 v4 vm : Value) (l : List DClaimFoe) (x : ByteArray) (may : List ByteArray) (wr : World) (h : AtL S wr l v0) (hm : AtL S wr may vm) (hS : ∀ b, S b → b < wr.heap.size) (r : Bool) (hr : clashC l x may = r) (d : Nat) (os : Array Obj) : Calls Tryz.prog 58 #[.agg #[v0, v1, v2, v3, v4], .string x, vm] (grow (redrawn wr d) os) fun e w'' => e = .returned (.bool r) ∧ ∃ p : Regrown, w'' = grow (redrawn wr p.d) p.os :=
  Calls.regrown_of (by subst hr; exact clashC_any S v0 v1 v2 v3 v4 vm l x may _ (h.same (Same.of_below (below_regrown wr d os) hS)) (hm.same (Same.of_below (below_regrown wr d os) hS)) (fun b hb => Nat.lt_of_lt_of_le (hS b hb) (below_regrown wr d os).size))

set_option maxRecDepth 100000 in
set_option maxHeartbeats 8000000 in
theorem spotokC_any (S : Nat → Prop) (v0 v1 v2 v3 v4 vm : Value) (foes : List DClaimFoe) (nm : ByteArray) (cap least most : Int) (may : List ByteArray) (w : World) (h0 : AtL S w foes v0) (hz : nm.size ≤ maxLen) (hm : AtL S w may vm) (hS : ∀ b, S b → b < w.heap.size) :
    Calls Tryz.prog 39 #[.agg #[v0, v1, v2, v3, v4], .agg #[.string nm, .int .i64 cap, .int .i64 least, .int .i64 most, vm]] w fun e w' => e = .returned (.bool (spotB foes (nm, cap, least, most, may))) ∧ Below w.heap.size w w' := by
  have H0 : Hid (∀ w', Below w.heap.size w w' → AtL S w' foes v0) := fun w' h => h0.same (Same.of_below h hS)
  have HM : Hid (∀ w', Below w.heap.size w w' → AtL S w' may vm) := fun w' h => hm.same (Same.of_below h hS)
  clear h0
  obtain ⟨om, km, rfl, hn, hc⟩ := hm
  obtain ⟨nm8, en⟩ : ∃ n, may.length = n := ⟨_, rfl⟩
  rw [en] at hn HM
  rw [en]
  unfold maxLen at hn
  have HC : Hid _ := hc
  clear hc
  have D0 : Hid (Below (w.heap.size + 2) ((w.alloc (.cells #[v0, v1, v2, v3, v4] 35)).alloc (.cells #[.string nm, .int .i64 cap, .int .i64 least, .int .i64 most, .slice om nm8 km] 79)) ((w.alloc (.cells #[v0, v1, v2, v3, v4] 35)).alloc (.cells #[.string nm, .int .i64 cap, .int .i64 least, .int .i64 most, .slice om nm8 km] 79))) := Below.refl _ _
  have B0 : Hid (Below w.heap.size w ((w.alloc (.cells #[v0, v1, v2, v3, v4] 35)).alloc (.cells #[.string nm, .int .i64 cap, .int .i64 least, .int .i64 most, .slice om nm8 km] 79))) := below_end (below2 D0.out)
  have S0 : ∀ b, S b → b < ((w.alloc (.cells #[v0, v1, v2, v3, v4] 35)).alloc (.cells #[.string nm, .int .i64 cap, .int .i64 least, .int .i64 most, .slice om nm8 km] 79)).heap.size := fun b hb => by have := hS b hb; simp; omega
  go_enter Tryz.func39, Tryz.ntmps39
  cases c0 : nameB nm
  · go_wp2_with fail
    refine (nameC_any _ _ hz).mono ?_
    rintro e w1 ⟨rfl, rfl⟩
    rw [c0]
    go_wp2_with fail
    go_ret
    exact ⟨by rw [show spotB foes (nm, cap, least, most, may) = false by simp only [spotB]; rw [c0]; rfl]; rfl, B0.out⟩
  · go_wp2_with fail
    refine (nameC_any _ _ hz).mono ?_
    rintro e w1 ⟨rfl, rfl⟩
    rw [c0]
    cases c1 : inB cap 0 1000
    · go_wp2_with fail
      refine (inC_any _ _ _ _).mono ?_
      rintro e w1 ⟨rfl, rfl⟩
      rw [c1]
      go_wp2_with fail
      go_ret
      exact ⟨by rw [show spotB foes (nm, cap, least, most, may) = false by simp only [spotB]; rw [c0, c1]; rfl]; rfl, B0.out⟩
    · go_wp2_with fail
      refine (inC_any _ _ _ _).mono ?_
      rintro e w1 ⟨rfl, rfl⟩
      rw [c1]
      cases c2 : inB least 0 most
      · go_wp2_with fail
        refine (inC_any _ _ _ _).mono ?_
        rintro e w1 ⟨rfl, rfl⟩
        rw [c2]
        go_wp2_with fail
        go_ret
        exact ⟨by rw [show spotB foes (nm, cap, least, most, may) = false by simp only [spotB]; rw [c0, c1, c2]; rfl]; rfl, B0.out⟩
      · go_wp2_with fail
        refine (inC_any _ _ _ _).mono ?_
        rintro e w1 ⟨rfl, rfl⟩
        rw [c2]
        cases c3 : decide (cap < most)
        · have _u := trivial
          cases c4 : okB 8 (tst nameB ltB) may
          · go_wp2_with fail
            refine (namesC_any S _ may 8 _ (HM.out _ B0.out) S0).mono ?_
            rintro e w1 ⟨rfl, hb⟩
            rw [c4]
            have D1 : Hid (Below (w.heap.size + 2) ((w.alloc (.cells #[v0, v1, v2, v3, v4] 35)).alloc (.cells #[.string nm, .int .i64 cap, .int .i64 least, .int .i64 most, .slice om nm8 km] 79)) w1) := D0.out.trans (hb.mono (by simp))
            have B1 : Hid (Below w.heap.size w w1) := below_end (below2 D1.out)
            have y1 := box2_at _ _ _ D1.out 4 (.slice om nm8 km) rfl
            clear hb
            go_wp2_with fail
            go_ret
            exact ⟨by rw [show spotB foes (nm, cap, least, most, may) = false by simp only [spotB]; rw [c0, c1, c2, c3, c4]; rfl]; rfl, B1.out⟩
          · go_wp2_with fail
            refine (namesC_any S _ may 8 _ (HM.out _ B0.out) S0).mono ?_
            rintro e w1 ⟨rfl, hb⟩
            rw [c4]
            have D1 : Hid (Below (w.heap.size + 2) ((w.alloc (.cells #[v0, v1, v2, v3, v4] 35)).alloc (.cells #[.string nm, .int .i64 cap, .int .i64 least, .int .i64 most, .slice om nm8 km] 79)) w1) := D0.out.trans (hb.mono (by simp))
            have B1 : Hid (Below w.heap.size w w1) := below_end (below2 D1.out)
            have y1 := box2_at _ _ _ D1.out 4 (.slice om nm8 km) rfl
            clear hb
            go_wp2_with fail
            go_loopw [5] (fun i wr => ∃ k : Nat, k ≤ nm8 ∧ i = .int .i64 k ∧ Hid (∀ j (hj : j < may.length), j < k → (peaceB foes may) may[j] = true) ∧ Hid (Below (w.heap.size + 2) ((w.alloc (.cells #[v0, v1, v2, v3, v4] 35)).alloc (.cells #[.string nm, .int .i64 cap, .int .i64 least, .int .i64 most, .slice om nm8 km] 79)) wr)) (fun i _ => nm8 - (intOf i).toNat)
            case atStart => exact ⟨0, Nat.zero_le _, rfl, fun _ _ h => by omega, D1.out⟩
            case round =>
              obtain ⟨k, hk, rfl, hno, E⟩ := hrel
              have B := below_end (below2 E.out)
              have hs := B.size
              have hSr : ∀ b, S b → b < wr.heap.size := fun b hb => by have := hS b hb; omega
              have G0 := H0.out _ B
              have GM := HM.out _ B
              have q0 := fun d os => cell_regrown (box_at _ _ (below2 E.out) 0 v0 rfl) d os
              have q1 := fun d os => cell_regrown (box_at _ _ (below2 E.out) 1 v1 rfl) d os
              have q2 := fun d os => cell_regrown (box_at _ _ (below2 E.out) 2 v2 rfl) d os
              have q3 := fun d os => cell_regrown (box_at _ _ (below2 E.out) 3 v3 rfl) d os
              have q4 := fun d os => cell_regrown (box_at _ _ (below2 E.out) 4 v4 rfl) d os
              have y := box2_at _ _ _ E.out 4 (.slice om nm8 km) rfl
              have z := fun d os => cell_regrown y d os
              by_cases hlt : k < nm8
              · obtain ⟨q, off, rfl, hqS, cc, hcell, hat⟩ := HC.out k (by omega)
                have hq := hS q hqS
                rw [width_str] at hcell
                have e0 : wr.cell? ⟨q, off + k, none⟩ = some (cc 0) := (B.cell (p := ⟨q, off + k, none⟩) hq).trans (by simpa using hcell 0 (by omega))
                rw [at_str] at hat
                rw [hat.1] at e0
                clear hcell hat
                obtain ⟨f, ef⟩ : ∃ f, may[k]'(by omega) = f := ⟨_, rfl⟩
                rw [ef] at e0
                have qe := fun d os => cell_regrown e0 d os
                cases hy : clashC foes f may
                · have hp : peaceB foes may (may[k]'(by omega)) = true := by rw [ef]; show (!clashC foes f may) = _; rw [hy]; rfl
                  go_wp2
                  refine wp_region_quiet_below (by kernel_rfl) (by kernel_rfl) ?_
                  repeat (first | go_big_quiet_step (with_reducible exact clashC_q S _ _ _ _ _ _ foes _ may _ G0 GM hSr _ hy _ _) | quiet_step (with_reducible exact clashC_q S _ _ _ _ _ _ foes _ may _ G0 GM hSr _ hy _ _))
                  refine wpQuiet_nil ?_
                  intro _ hw'
                  obtain ⟨⟨dq, osq⟩, hw''⟩ := hw'
                  subst hw''
                  go_wp2
                  go_roundw
                  case rel => exact ⟨k + 1, by omega, by go_num, fun j hj hjk => by
                    by_cases e : j = k
                    · subst e; exact hp
                    · exact hno.out j hj (by omega), E.out.trans ((below_regrown _ dq osq).mono (by have := E.out.size; simp at this; exact this))⟩
                  case measure => simp [intOf]; omega
                · have hp : peaceB foes may (may[k]'(by omega)) = false := by rw [ef]; show (!clashC foes f may) = _; rw [hy]; rfl
                  go_wp2
                  refine wp_region_quiet_below (by kernel_rfl) (by kernel_rfl) ?_
                  repeat (first | go_big_quiet_step (with_reducible exact clashC_q S _ _ _ _ _ _ foes _ may _ G0 GM hSr _ hy _ _) | quiet_step (with_reducible exact clashC_q S _ _ _ _ _ _ foes _ may _ G0 GM hSr _ hy _ _))
                  refine wpQuiet_nil ?_
                  intro _ hw'
                  obtain ⟨⟨dq, osq⟩, hw''⟩ := hw'
                  subst hw''
                  go_wp2
                  go_ret
                  have hz : may.all (peaceB foes may) = false := all_no (k := k) (by omega) hp
                  exact ⟨by rw [show spotB foes (nm, cap, least, most, may) = false by simp only [spotB]; rw [c0, c1, c2, c3, c4, hz]; rfl]; rfl, below_end (below2 (E.out.trans ((below_regrown _ dq osq).mono (by have := E.out.size; simp at this; exact this))))⟩
              · have hz : may.all (peaceB foes may) = true := all_yes (fun j hj => hno.out j hj (by omega))
                go_wp2
                go_ret
                exact ⟨by rw [show spotB foes (nm, cap, least, most, may) = true by simp only [spotB]; rw [c0, c1, c2, c3, c4, hz]; rfl]; rfl, B⟩
        · have _u := trivial
          go_wp2_with fail
          go_ret
          exact ⟨by rw [show spotB foes (nm, cap, least, most, may) = false by simp only [spotB]; rw [c0, c1, c2, c3]; rfl]; rfl, B0.out⟩

end Go.Proofs.YticojnepejboaabGreat
