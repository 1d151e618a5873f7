/-
  The model's test of a book of claims.
-/
import Derived.Test.YticojnepejboaacGreatCk
namespace Go.Proofs.YticojnepejboaacGreat
open Go.RowKit

/-- One spot, behind the one ahead of it. -/
noncomputable def spotT (foes : List DClaimFoe) : Option DClaimSpot → DClaimSpot → Bool
  | none, s => spotB foes s
  | some p, s => spotB foes s && ltB p.1 s.1
/-- Is a book as it is to be? -/
noncomputable def bookS (foes : List DClaimFoe) (sp : List DClaimSpot) (va : List ByteArray) (ps : List DClaimPart) (seen : Int) : Bool :=
  okB 12 foeTC foes && (okB 12 (tst nameB ltB) va && (inB seen 0 1000000 && (okB 8 (spotT foes) sp && partsB sp va seen ps)))

theorem spot_least {foes : List DClaimFoe} {s : DClaimSpot} (h : spotB foes s = true) : 0 ≤ s.2.2.1 ∧ s.2.2.1 ≤ 1000 := by
  simp only [spotB, Bool.and_eq_true, inB, decide_eq_true_eq, Bool.not_eq_true', decide_eq_false_iff_not] at h
  omega
theorem spotT_B {foes : List DClaimFoe} {p : Option DClaimSpot} {s : DClaimSpot} (h : spotT foes p s = true) : spotB foes s = true := by
  cases p with
  | none => exact h
  | some q => simp only [spotT, Bool.and_eq_true] at h; exact h.1

open Go.Sort in
theorem spotokC_q (S : Nat → Prop) (v0 v1 v2 v3 v4 vm : Value) (foes : List DClaimFoe) (s : DClaimSpot) (wr : World) (h0 : AtL S wr foes v0) (hz : s.1.size ≤ maxLen) (hm : AtL S wr s.2.2.2.2 vm) (hS : ∀ b, S b → b < wr.heap.size) (r : Bool) (hr : spotB foes s = r) (d : Nat) (os : Array Obj) : Calls Tryz.prog 43 #[.agg #[v0, v1, v2, v3, v4], .agg #[.string s.1, .int .i64 s.2.1, .int .i64 s.2.2.1, .int .i64 s.2.2.2.1, vm]] (grow (redrawn wr d) os) fun e w'' => e = .returned (.bool r) ∧ ∃ p : Regrown, w'' = grow (redrawn wr p.d) p.os :=
  Calls.regrown_of (by
    subst hr
    exact spotokC_any S v0 v1 v2 v3 v4 vm foes s.1 s.2.1 s.2.2.1 s.2.2.2.1 s.2.2.2.2 _ (h0.same (Same.of_below (below_regrown wr d os) hS)) hz (hm.same (Same.of_below (below_regrown wr d os) hS)) (fun b hb => Nat.lt_of_lt_of_le (hS b hb) (below_regrown wr d os).size))

set_option maxRecDepth 100000 in
set_option maxHeartbeats 8000000 in
theorem bookC_any (S : Nat → Prop) (v0 v1 v2 v3 : Value) (seen : Int) (foes : List DClaimFoe) (sp : List DClaimSpot) (va : List ByteArray) (ps : List DClaimPart) (w : World) (h0 : AtL S w foes v0) (h1 : AtL S w sp v1) (h2 : AtL S w va v2) (h3 : AtL S w ps v3) (hS : ∀ b, S b → b < w.heap.size) :
    Calls Tryz.prog 15 #[.agg #[v0, v1, v2, v3, .int .i64 seen]] w fun e w' => e = .returned (.bool (bookS foes sp va ps seen)) ∧ Below w.heap.size w w' := by
  have H0 : Hid (∀ w', Below w.heap.size w w' → AtL S w' foes v0) := fun w' h => h0.same (Same.of_below h hS)
  have H1 : Hid (∀ w', Below w.heap.size w w' → AtL S w' sp v1) := fun w' h => h1.same (Same.of_below h hS)
  have H2 : Hid (∀ w', Below w.heap.size w w' → AtL S w' va v2) := fun w' h => h2.same (Same.of_below h hS)
  have H3 : Hid (∀ w', Below w.heap.size w w' → AtL S w' ps v3) := fun w' h => h3.same (Same.of_below h hS)
  clear h0 h2 h3
  obtain ⟨o1, k1, rfl, hn, hc⟩ := h1
  obtain ⟨n, en⟩ : ∃ n, sp.length = n := ⟨_, rfl⟩
  rw [en] at hn H1
  rw [en]
  unfold maxLen at hn
  have HC : Hid _ := hc
  clear hc
  have D0 : Hid (Below (w.heap.size + 1) (w.alloc (.cells #[v0, .slice o1 n k1, v2, v3, .int .i64 seen] 33)) (w.alloc (.cells #[v0, .slice o1 n k1, v2, v3, .int .i64 seen] 33))) := Below.refl _ _
  have B0 : Hid (Below w.heap.size w (w.alloc (.cells #[v0, .slice o1 n k1, v2, v3, .int .i64 seen] 33))) := below_end D0.out
  have S0 : ∀ b, S b → b < (w.alloc (.cells #[v0, .slice o1 n k1, v2, v3, .int .i64 seen] 33)).heap.size := fun b hb => by have := hS b hb; simp; omega
  go_enter Tryz.func15, Tryz.ntmps15
  cases c0 : okB 12 foeTC foes
  · go_wp2_with fail
    refine (foesokC_any S _ _ _ _ _ foes _ (H0.out _ B0.out) S0).mono ?_
    rintro e w1 ⟨rfl, hb⟩
    rw [c0]
    have D1 : Hid (Below (w.heap.size + 1) (w.alloc (.cells #[v0, .slice o1 n k1, v2, v3, .int .i64 seen] 33)) w1) := D0.out.trans (hb.mono (by simp))
    have B1 : Hid (Below w.heap.size w w1) := below_end D1.out
    have S1 : ∀ b, S b → b < w1.heap.size := fun b hb => by have := hS b hb; have := B1.out.size; omega
    have y10 := box_at _ _ D1.out 0 (v0) rfl
    have y11 := box_at _ _ D1.out 1 (.slice o1 n k1) rfl
    have y12 := box_at _ _ D1.out 2 (v2) rfl
    have y13 := box_at _ _ D1.out 3 (v3) rfl
    have y14 := box_at _ _ D1.out 4 (.int .i64 seen) rfl
    clear hb
    go_wp2_with fail
    go_ret
    exact ⟨by rw [show bookS foes sp va ps seen = false by simp only [bookS]; rw [c0]; rfl]; rfl, B1.out⟩
  · go_wp2_with fail
    refine (foesokC_any S _ _ _ _ _ foes _ (H0.out _ B0.out) S0).mono ?_
    rintro e w1 ⟨rfl, hb⟩
    rw [c0]
    have D1 : Hid (Below (w.heap.size + 1) (w.alloc (.cells #[v0, .slice o1 n k1, v2, v3, .int .i64 seen] 33)) w1) := D0.out.trans (hb.mono (by simp))
    have B1 : Hid (Below w.heap.size w w1) := below_end D1.out
    have S1 : ∀ b, S b → b < w1.heap.size := fun b hb => by have := hS b hb; have := B1.out.size; omega
    have y10 := box_at _ _ D1.out 0 (v0) rfl
    have y11 := box_at _ _ D1.out 1 (.slice o1 n k1) rfl
    have y12 := box_at _ _ D1.out 2 (v2) rfl
    have y13 := box_at _ _ D1.out 3 (v3) rfl
    have y14 := box_at _ _ D1.out 4 (.int .i64 seen) rfl
    clear hb
    by_cases hl : n ≤ 8
    · have d0 : decide ((8 : Int) < (n : Int)) = false := by simp; omega
      cases c2 : okB 12 (tst nameB ltB) va
      · go_wp2_with fail
        refine (namesC_any S _ va 12 _ (H2.out _ B1.out) S1).mono ?_
        rintro e w2 ⟨rfl, hb⟩
        rw [c2]
        have D2 : Hid (Below (w.heap.size + 1) (w.alloc (.cells #[v0, .slice o1 n k1, v2, v3, .int .i64 seen] 33)) w2) := D1.out.trans (hb.mono (by have := D1.out.size; simp at this; exact this))
        have B2 : Hid (Below w.heap.size w w2) := below_end D2.out
        have y20 := box_at _ _ D2.out 0 (v0) rfl
        have y21 := box_at _ _ D2.out 1 (.slice o1 n k1) rfl
        have y22 := box_at _ _ D2.out 2 (v2) rfl
        have y23 := box_at _ _ D2.out 3 (v3) rfl
        have y24 := box_at _ _ D2.out 4 (.int .i64 seen) rfl
        clear hb
        go_wp2_with fail
        go_ret
        exact ⟨by rw [show bookS foes sp va ps seen = false by simp only [bookS]; rw [c0, c2]; rfl]; rfl, B2.out⟩
      · go_wp2_with fail
        refine (namesC_any S _ va 12 _ (H2.out _ B1.out) S1).mono ?_
        rintro e w2 ⟨rfl, hb⟩
        rw [c2]
        have D2 : Hid (Below (w.heap.size + 1) (w.alloc (.cells #[v0, .slice o1 n k1, v2, v3, .int .i64 seen] 33)) w2) := D1.out.trans (hb.mono (by have := D1.out.size; simp at this; exact this))
        have B2 : Hid (Below w.heap.size w w2) := below_end D2.out
        have y20 := box_at _ _ D2.out 0 (v0) rfl
        have y21 := box_at _ _ D2.out 1 (.slice o1 n k1) rfl
        have y22 := box_at _ _ D2.out 2 (v2) rfl
        have y23 := box_at _ _ D2.out 3 (v3) rfl
        have y24 := box_at _ _ D2.out 4 (.int .i64 seen) rfl
        clear hb
        cases c3 : inB seen 0 1000000
        · go_wp2_with fail
          refine (inC_any _ _ _ _).mono ?_
          rintro e w2 ⟨rfl, rfl⟩
          rw [c3]
          go_wp2_with fail
          go_ret
          exact ⟨by rw [show bookS foes sp va ps seen = false by simp only [bookS]; rw [c0, c2, c3]; rfl]; rfl, B2.out⟩
        · go_wp2_with fail
          refine (inC_any _ _ _ _).mono ?_
          rintro e w2 ⟨rfl, rfl⟩
          rw [c3]
          go_wp2_with fail
          go_loopw [3] (fun i wr => ∃ k : Nat, k ≤ n ∧ i = .int .i64 k ∧ Hid (∀ j (hj : j < sp.length), j < k → spotT foes (prevO sp j) sp[j] = true) ∧ Hid (Below (w.heap.size + 1) (w.alloc (.cells #[v0, .slice o1 n k1, v2, v3, .int .i64 seen] 33)) wr)) (fun i _ => n - (intOf i).toNat)
          case atStart => exact ⟨0, Nat.zero_le _, rfl, fun _ _ h => by omega, D2.out⟩
          case round =>
            obtain ⟨k, hk, rfl, hall, E⟩ := hrel
            have B := below_end E.out
            have hs := B.size
            have hSr : ∀ b, S b → b < wr.heap.size := fun b hb => by have := hS b hb; omega
            have hsE : w.heap.size + 1 ≤ wr.heap.size := by have := E.out.size; simpa using this
            by_cases hlt : k < n
            · rcases Nat.eq_zero_or_pos k with rfl | hpos
              · have _u := trivial
                obtain ⟨b, off, rfl, hbS, cc, hcell, hat⟩ := HC.out 0 (by omega)
                have hb := hS b hbS
                rw [width_DClaimSpot] at hcell
                rw [at_DClaimSpot] at hat
                have e0 : wr.cell? ⟨b, off, none⟩ = some (cc 0) := (B.cell (p := ⟨b, off, none⟩) hb).trans (by simpa using hcell 0 (by omega))
                rw [hat.1.1] at e0
                have e1 : wr.cell? ⟨b, off + 1, none⟩ = some (cc 1) := (B.cell (p := ⟨b, off + 1, none⟩) hb).trans (by simpa using hcell 1 (by omega))
                rw [hat.2.1.1] at e1
                have e2 : wr.cell? ⟨b, off + 2, none⟩ = some (cc 2) := (B.cell (p := ⟨b, off + 2, none⟩) hb).trans (by simpa using hcell 2 (by omega))
                rw [hat.2.2.1.1] at e2
                have e3 : wr.cell? ⟨b, off + 3, none⟩ = some (cc 3) := (B.cell (p := ⟨b, off + 3, none⟩) hb).trans (by simpa using hcell 3 (by omega))
                rw [hat.2.2.2.1.1] at e3
                have e4 : wr.cell? ⟨b, off + 4, none⟩ = some (cc 4) := (B.cell (p := ⟨b, off + 4, none⟩) hb).trans (by simpa using hcell 4 (by omega))
                have hz := hat.1.2
                have g4 := hat.2.2.2.2.same (Same.of_below B hS)
                obtain ⟨f, ef⟩ : ∃ f, sp[0]'(by omega) = f := ⟨_, rfl⟩
                rw [ef] at e0 e1 e2 e3 g4 hz
                obtain ⟨mv, emv⟩ : ∃ v, cc 4 = v := ⟨_, rfl⟩
                rw [emv] at e4 g4
                clear hcell hat emv
                have G0 := H0.out _ B
                have yy1 := box_at _ _ E.out 1 (.slice (some ⟨b, off, none⟩) n k1) rfl
                have z0 := fun d os => cell_regrown (box_at _ _ E.out 0 (v0) rfl) d os
                have z1 := fun d os => cell_regrown (box_at _ _ E.out 1 (.slice (some ⟨b, off, none⟩) n k1) rfl) d os
                have z2 := fun d os => cell_regrown (box_at _ _ E.out 2 (v2) rfl) d os
                have z3 := fun d os => cell_regrown (box_at _ _ E.out 3 (v3) rfl) d os
                have z4 := fun d os => cell_regrown (box_at _ _ E.out 4 (.int .i64 seen) rfl) d os
                have fe0 := fun d os => cell_regrown e0 d os
                have fe1 := fun d os => cell_regrown e1 d os
                have fe2 := fun d os => cell_regrown e2 d os
                have fe3 := fun d os => cell_regrown e3 d os
                have fe4 := fun d os => cell_regrown e4 d os
                go_wp2
                cases hp : spotB foes f
                · refine wp_region_quiet_below (by kernel_rfl) (by kernel_rfl) ?_
                  repeat (first | go_big_quiet_step (with_reducible exact spotokC_q S _ _ _ _ _ _ foes f _ G0 hz g4 hSr _ hp _ _) | quiet_step (with_reducible exact spotokC_q S _ _ _ _ _ _ foes f _ G0 hz g4 hSr _ hp _ _))
                  refine wpQuiet_nil ?_
                  intro _ hw'
                  obtain ⟨⟨dq, osq⟩, hw''⟩ := hw'
                  subst hw''
                  go_wp2
                  go_ret
                  have hA : okB 8 (spotT foes) sp = false := ok_no (k := 0) (by omega) (by rw [prev_zero sp, ef]; exact hp)
                  exact ⟨by rw [show bookS foes sp va ps seen = false by simp only [bookS]; rw [c0, c2, c3, hA]; rfl]; rfl, below_end (E.out.trans ((below_regrown wr dq osq).mono hsE))⟩
                · refine wp_region_quiet_below (by kernel_rfl) (by kernel_rfl) ?_
                  repeat (first | go_big_quiet_step (with_reducible exact spotokC_q S _ _ _ _ _ _ foes f _ G0 hz g4 hSr _ hp _ _) | quiet_step (with_reducible exact spotokC_q S _ _ _ _ _ _ foes f _ G0 hz g4 hSr _ hp _ _))
                  refine wpQuiet_nil ?_
                  intro _ hw'
                  obtain ⟨⟨dq, osq⟩, hw''⟩ := hw'
                  subst hw''
                  have hz2 : spotT foes (prevO sp (0)) (sp[0]'(by omega)) = true := by rw [prev_zero sp, ef]; exact hp
                  go_wp2
                  go_roundw
                  case rel => exact ⟨0 + 1, by omega, by go_num, fun j hj hjk => by
                    by_cases e : j = 0
                    · subst e; exact hz2
                    · exact hall.out j hj (by omega), (E.out.trans ((below_regrown wr dq osq).mono hsE))⟩
                  case measure => simp [intOf]; omega
              · obtain ⟨m, rfl⟩ : ∃ m, k = m + 1 := ⟨k - 1, by omega⟩
                obtain ⟨b, off, rfl, hbS, cc, hcell, hat⟩ := HC.out (m + 1) (by omega)
                have hb := hS b hbS
                rw [width_DClaimSpot] at hcell
                rw [at_DClaimSpot] at hat
                have e0 : wr.cell? ⟨b, off + (m + 1) * 5, none⟩ = some (cc 0) := (B.cell (p := ⟨b, off + (m + 1) * 5, none⟩) hb).trans (by simpa using hcell 0 (by omega))
                rw [hat.1.1] at e0
                have e1 : wr.cell? ⟨b, off + (m + 1) * 5 + 1, none⟩ = some (cc 1) := (B.cell (p := ⟨b, off + (m + 1) * 5 + 1, none⟩) hb).trans (by simpa using hcell 1 (by omega))
                rw [hat.2.1.1] at e1
                have e2 : wr.cell? ⟨b, off + (m + 1) * 5 + 2, none⟩ = some (cc 2) := (B.cell (p := ⟨b, off + (m + 1) * 5 + 2, none⟩) hb).trans (by simpa using hcell 2 (by omega))
                rw [hat.2.2.1.1] at e2
                have e3 : wr.cell? ⟨b, off + (m + 1) * 5 + 3, none⟩ = some (cc 3) := (B.cell (p := ⟨b, off + (m + 1) * 5 + 3, none⟩) hb).trans (by simpa using hcell 3 (by omega))
                rw [hat.2.2.2.1.1] at e3
                have e4 : wr.cell? ⟨b, off + (m + 1) * 5 + 4, none⟩ = some (cc 4) := (B.cell (p := ⟨b, off + (m + 1) * 5 + 4, none⟩) hb).trans (by simpa using hcell 4 (by omega))
                have hz := hat.1.2
                have g4 := hat.2.2.2.2.same (Same.of_below B hS)
                obtain ⟨f, ef⟩ : ∃ f, sp[(m + 1)]'(by omega) = f := ⟨_, rfl⟩
                rw [ef] at e0 e1 e2 e3 g4 hz
                obtain ⟨mv, emv⟩ : ∃ v, cc 4 = v := ⟨_, rfl⟩
                rw [emv] at e4 g4
                clear hcell hat emv
                obtain ⟨pb, poff, peq, _, pc, hcell, hat⟩ := HC.out m (by omega)
                cases peq
                rw [width_DClaimSpot] at hcell
                rw [at_DClaimSpot] at hat
                have p0 : wr.cell? ⟨b, off + m * 5, none⟩ = some (pc 0) := (B.cell (p := ⟨b, off + m * 5, none⟩) hb).trans (by simpa using hcell 0 (by omega))
                rw [hat.1.1] at p0
                clear hcell hat
                obtain ⟨pr, epr⟩ : ∃ f, sp[m]'(by omega) = f := ⟨_, rfl⟩
                rw [epr] at p0
                have gt0 : decide ((0 : Int) < ((m : Int) + 1)) = true := by rw [decide_eq_true_eq]; omega
                have G0 := H0.out _ B
                have yy1 := box_at _ _ E.out 1 (.slice (some ⟨b, off, none⟩) n k1) rfl
                have z0 := fun d os => cell_regrown (box_at _ _ E.out 0 (v0) rfl) d os
                have z1 := fun d os => cell_regrown (box_at _ _ E.out 1 (.slice (some ⟨b, off, none⟩) n k1) rfl) d os
                have z2 := fun d os => cell_regrown (box_at _ _ E.out 2 (v2) rfl) d os
                have z3 := fun d os => cell_regrown (box_at _ _ E.out 3 (v3) rfl) d os
                have z4 := fun d os => cell_regrown (box_at _ _ E.out 4 (.int .i64 seen) rfl) d os
                have fe0 := fun d os => cell_regrown e0 d os
                have fe1 := fun d os => cell_regrown e1 d os
                have fe2 := fun d os => cell_regrown e2 d os
                have fe3 := fun d os => cell_regrown e3 d os
                have fe4 := fun d os => cell_regrown e4 d os
                have fp0 := fun d os => cell_regrown p0 d os
                go_wp2
                cases hp : spotB foes f
                · refine wp_region_quiet_below (by kernel_rfl) (by kernel_rfl) ?_
                  repeat (first | go_big_quiet_step (with_reducible exact spotokC_q S _ _ _ _ _ _ foes f _ G0 hz g4 hSr _ hp _ _) | quiet_step (with_reducible exact spotokC_q S _ _ _ _ _ _ foes f _ G0 hz g4 hSr _ hp _ _))
                  refine wpQuiet_nil ?_
                  intro _ hw'
                  obtain ⟨⟨dq, osq⟩, hw''⟩ := hw'
                  subst hw''
                  go_wp2
                  go_ret
                  have hA : okB 8 (spotT foes) sp = false := ok_no (k := (m + 1)) (by omega) (by rw [prev_succ sp m (by omega), epr, ef]; show (spotB foes f && ltB pr.1 f.1) = _; rw [hp]; rfl)
                  exact ⟨by rw [show bookS foes sp va ps seen = false by simp only [bookS]; rw [c0, c2, c3, hA]; rfl]; rfl, below_end (E.out.trans ((below_regrown wr dq osq).mono hsE))⟩
                · cases hlb : Op.bytesLess pr.1.toList f.1.toList
                  · refine wp_region_quiet_below (by kernel_rfl) (by kernel_rfl) ?_
                    repeat (first | go_big_quiet_step (with_reducible exact spotokC_q S _ _ _ _ _ _ foes f _ G0 hz g4 hSr _ hp _ _) | quiet_step (with_reducible exact spotokC_q S _ _ _ _ _ _ foes f _ G0 hz g4 hSr _ hp _ _))
                    refine wpQuiet_nil ?_
                    intro _ hw'
                    obtain ⟨⟨dq, osq⟩, hw''⟩ := hw'
                    subst hw''
                    go_wp2
                    go_ret
                    have hA : okB 8 (spotT foes) sp = false := ok_no (k := (m + 1)) (by omega) (by rw [prev_succ sp m (by omega), epr, ef]; show (spotB foes f && ltB pr.1 f.1) = _; rw [hp, show ltB pr.1 f.1 = false from hlb]; rfl)
                    exact ⟨by rw [show bookS foes sp va ps seen = false by simp only [bookS]; rw [c0, c2, c3, hA]; rfl]; rfl, below_end (E.out.trans ((below_regrown wr dq osq).mono hsE))⟩
                  · refine wp_region_quiet_below (by kernel_rfl) (by kernel_rfl) ?_
                    repeat (first | go_big_quiet_step (with_reducible exact spotokC_q S _ _ _ _ _ _ foes f _ G0 hz g4 hSr _ hp _ _) | quiet_step (with_reducible exact spotokC_q S _ _ _ _ _ _ foes f _ G0 hz g4 hSr _ hp _ _))
                    refine wpQuiet_nil ?_
                    intro _ hw'
                    obtain ⟨⟨dq, osq⟩, hw''⟩ := hw'
                    subst hw''
                    have hz2 : spotT foes (prevO sp ((m + 1))) (sp[(m + 1)]'(by omega)) = true := by rw [prev_succ sp m (by omega), epr, ef]; show (spotB foes f && ltB pr.1 f.1) = _; rw [hp, show ltB pr.1 f.1 = true from hlb]; rfl
                    go_wp2
                    go_roundw
                    case rel => exact ⟨(m + 1) + 1, by omega, by go_num, fun j hj hjk => by
                      by_cases e : j = (m + 1)
                      · subst e; exact hz2
                      · exact hall.out j hj (by omega), (E.out.trans ((below_regrown wr dq osq).mono hsE))⟩
                    case measure => simp [intOf]; omega
            · have hA : okB 8 (spotT foes) sp = true := ok_yes (by omega) (fun i hi => hall.out i hi (by omega))
              have yy0 := box_at _ _ E.out 0 (v0) rfl
              have yy1 := box_at _ _ E.out 1 (.slice o1 n k1) rfl
              have yy2 := box_at _ _ E.out 2 (v2) rfl
              have yy3 := box_at _ _ E.out 3 (v3) rfl
              have yy4 := box_at _ _ E.out 4 (.int .i64 seen) rfl
              go_wp2_with fail
              refine (partsC_any S _ _ _ _ seen sp va ps _ (H1.out _ B) (H2.out _ B) (H3.out _ B) hSr (fun j hj => spot_least (spotT_B (hall.out j hj (by omega))))).mono ?_
              rintro e w3 ⟨rfl, hb3⟩
              go_wp2_with fail
              go_ret
              exact ⟨by rw [show bookS foes sp va ps seen = partsB sp va seen ps by simp only [bookS]; rw [c0, c2, c3, hA]; simp]; rfl, B.trans (hb3.mono hs)⟩
    · have d0 : decide ((8 : Int) < (n : Int)) = true := by simp; omega
      have hA : okB 8 (spotT foes) sp = false := ok_long (by omega)
      go_wp2_with fail
      go_ret
      exact ⟨by rw [show bookS foes sp va ps seen = false by simp only [bookS]; rw [c0, hA]; simp]; rfl, B1.out⟩

end Go.Proofs.YticojnepejboaacGreat
