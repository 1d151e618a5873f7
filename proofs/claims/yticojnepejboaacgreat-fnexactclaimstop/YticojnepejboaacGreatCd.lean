/-
  The model's test of the foes of a book of claims.
-/
import Derived.Test.YticojnepejboaacGreatCc
namespace Go.Proofs.YticojnepejboaacGreat
open Go.RowKit

/-- One pair of foes, behind the one ahead of it. -/
def foeTC : Option DClaimFoe → DClaimFoe → Bool
  | none, f => nameB f.1 && nameB f.2 && ltB f.1 f.2
  | some p, f => nameB f.1 && nameB f.2 && ltB f.1 f.2 && cond (eqB p.1 f.1) (ltB p.2 f.2) (ltB p.1 f.1)

set_option maxRecDepth 100000 in
set_option maxHeartbeats 8000000 in
theorem foesokC_any (S : Nat → Prop) (v0 v1 v2 v3 v4 : Value) (l : List DClaimFoe) (w : World) (h : AtL S w l v0) (hS : ∀ b, S b → b < w.heap.size) :
    Calls Tryz.prog 40 #[.agg #[v0, v1, v2, v3, v4]] w fun e w' => e = .returned (.bool (okB 12 foeTC l)) ∧ Below w.heap.size w w' := by
  obtain ⟨oa, cap, rfl, hn, hc⟩ := h
  obtain ⟨n, en⟩ : ∃ n, l.length = n := ⟨_, rfl⟩
  rw [en] at hn
  rw [en]
  unfold maxLen at hn
  have HC : Hid _ := hc
  clear hc
  by_cases hl : n ≤ 12
  · have d0 : decide ((12 : Int) < (n : Int)) = false := by simp; omega
    go_enter Tryz.func40, Tryz.ntmps40
    go_wp2
    go_loopw [3] (fun i wr => ∃ q : Nat, q ≤ n ∧ i = .int .i64 q ∧ Hid (∀ j (hj : j < l.length), j < q → foeTC (prevO l j) l[j] = true) ∧ Hid (Below (w.heap.size + 1) (w.alloc (.cells #[.slice oa n cap, v1, v2, v3, v4] 33)) wr)) (fun i _ => n - (intOf i).toNat)
    case atStart => exact ⟨0, Nat.zero_le _, rfl, fun _ _ h => by omega, Below.refl _ _⟩
    case round =>
      obtain ⟨q, hq, rfl, hall, hbel⟩ := hrel
      have hbw := below_end hbel.out
      have hsz : w.heap.size + 1 ≤ wr.heap.size := by have := hbel.out.size; simpa using this
      have x0 := box_at _ _ hbel.out 0 _ rfl
      have x1 := box_at _ _ hbel.out 1 _ rfl
      have x2 := box_at _ _ hbel.out 2 _ rfl
      have x3 := box_at _ _ hbel.out 3 _ rfl
      have x4 := box_at _ _ hbel.out 4 _ rfl
      simp only [List.getElem_toArray, List.getElem_cons_zero, List.getElem_cons_succ] at x0 x1 x2 x3 x4
      by_cases hlt : q < n
      · rcases Nat.eq_zero_or_pos q with rfl | hpos
        · obtain ⟨b, off, rfl, hbS, cc, hcell, hat⟩ := HC.out 0 (by omega)
          have hb := hS b hbS
          rw [width_DClaimFoe] at hcell
          have e0 : wr.cell? ⟨b, off, none⟩ = some (cc 0) := (hbw.cell (p := ⟨b, off, none⟩) (by show b < _; omega)).trans (by simpa using hcell 0 (by omega))
          have e1 : wr.cell? ⟨b, off + 1, none⟩ = some (cc 1) := (hbw.cell (p := ⟨b, off + 1, none⟩) (by show b < _; omega)).trans (by simpa using hcell 1 (by omega))
          clear hcell
          rw [at_DClaimFoe] at hat
          obtain ⟨⟨t0, ez0⟩, t1, ez1⟩ := hat
          rw [t0] at e0
          rw [t1] at e1
          clear t0 t1
          obtain ⟨f, ef⟩ : ∃ f, l[0]'(by omega) = f := ⟨_, rfl⟩
          rw [ef] at e0 e1 ez0 ez1
          have hW : Hid (Below (w.heap.size + 1) (w.alloc (.cells #[.slice (some ⟨b, off, none⟩) n cap, v1, v2, v3, v4] 33)) (wr.alloc (.cells #[.string f.1, .string f.2] 83))) := hbel.out.alloc (by omega) _
          have qn0 := fun d os => cell_regrown (cell_row (heap_alloc_new wr (.cells #[.string f.1, .string f.2] 83)) 0 _ rfl).1 d os
          have qn1 := fun d os => cell_regrown (cell_row (heap_alloc_new wr (.cells #[.string f.1, .string f.2] 83)) 1 _ rfl).1 d os
          have qx0 := fun d os => cell_regrown (cell_past x0 (by omega) (.cells #[.string f.1, .string f.2] 83)) d os
          have qx1 := fun d os => cell_regrown (cell_past x1 (by omega) (.cells #[.string f.1, .string f.2] 83)) d os
          have qx2 := fun d os => cell_regrown (cell_past x2 (by omega) (.cells #[.string f.1, .string f.2] 83)) d os
          have qx3 := fun d os => cell_regrown (cell_past x3 (by omega) (.cells #[.string f.1, .string f.2] 83)) d os
          have qx4 := fun d os => cell_regrown (cell_past x4 (by omega) (.cells #[.string f.1, .string f.2] 83)) d os
          have qe0 := fun d os => cell_regrown (cell_past e0 (by omega) (.cells #[.string f.1, .string f.2] 83)) d os
          have qe1 := fun d os => cell_regrown (cell_past e1 (by omega) (.cells #[.string f.1, .string f.2] 83)) d os
          cases c0 : (nameB f.1)
          · have hp : foeTC (prevO l (0)) (l[0]'(by omega)) = false := by
              rw [prev_zero l, ef]
              simp [foeTC, ltB, c0]
            go_wp2
            refine wp_region_quiet_below (by kernel_rfl) (by kernel_rfl) ?_
            repeat (first | go_big_quiet_step (first | (with_reducible exact nameC_q _ _ ez0 _ c0 _ _) | (with_reducible exact nameC_q _ _ ez1 _ c1 _ _)) | quiet_step (first | (with_reducible exact nameC_q _ _ ez0 _ c0 _ _) | (with_reducible exact nameC_q _ _ ez1 _ c1 _ _)))
            refine wpQuiet_nil ?_
            intro _ hw'
            obtain ⟨⟨dq, osq⟩, hw''⟩ := hw'
            subst hw''
            go_wp2
            go_ret
            rw [ok_no (lim := 12) (T := foeTC) (k := 0) (by omega) hp]
            exact ⟨rfl, below_end (below_of hW.out (below_regrown _ dq osq))⟩
          · cases c1 : (nameB f.2)
            · have hp : foeTC (prevO l (0)) (l[0]'(by omega)) = false := by
                rw [prev_zero l, ef]
                simp [foeTC, ltB, c0, c1]
              go_wp2
              refine wp_region_quiet_below (by kernel_rfl) (by kernel_rfl) ?_
              repeat (first | go_big_quiet_step (first | (with_reducible exact nameC_q _ _ ez0 _ c0 _ _) | (with_reducible exact nameC_q _ _ ez1 _ c1 _ _)) | quiet_step (first | (with_reducible exact nameC_q _ _ ez0 _ c0 _ _) | (with_reducible exact nameC_q _ _ ez1 _ c1 _ _)))
              refine wpQuiet_nil ?_
              intro _ hw'
              obtain ⟨⟨dq, osq⟩, hw''⟩ := hw'
              subst hw''
              go_wp2
              go_ret
              rw [ok_no (lim := 12) (T := foeTC) (k := 0) (by omega) hp]
              exact ⟨rfl, below_end (below_of hW.out (below_regrown _ dq osq))⟩
            · cases c2 : (Op.bytesLess f.1.toList f.2.toList)
              · have hp : foeTC (prevO l (0)) (l[0]'(by omega)) = false := by
                  rw [prev_zero l, ef]
                  simp [foeTC, ltB, c0, c1, c2]
                go_wp2
                refine wp_region_quiet_below (by kernel_rfl) (by kernel_rfl) ?_
                repeat (first | go_big_quiet_step (first | (with_reducible exact nameC_q _ _ ez0 _ c0 _ _) | (with_reducible exact nameC_q _ _ ez1 _ c1 _ _)) | quiet_step (first | (with_reducible exact nameC_q _ _ ez0 _ c0 _ _) | (with_reducible exact nameC_q _ _ ez1 _ c1 _ _)))
                refine wpQuiet_nil ?_
                intro _ hw'
                obtain ⟨⟨dq, osq⟩, hw''⟩ := hw'
                subst hw''
                go_wp2
                go_ret
                rw [ok_no (lim := 12) (T := foeTC) (k := 0) (by omega) hp]
                exact ⟨rfl, below_end (below_of hW.out (below_regrown _ dq osq))⟩
              · have hp : foeTC (prevO l (0)) (l[0]'(by omega)) = true := by
                  rw [prev_zero l, ef]
                  simp [foeTC, ltB, c0, c1, c2]
                go_wp2
                refine wp_region_quiet_below (by kernel_rfl) (by kernel_rfl) ?_
                repeat (first | go_big_quiet_step (first | (with_reducible exact nameC_q _ _ ez0 _ c0 _ _) | (with_reducible exact nameC_q _ _ ez1 _ c1 _ _)) | quiet_step (first | (with_reducible exact nameC_q _ _ ez0 _ c0 _ _) | (with_reducible exact nameC_q _ _ ez1 _ c1 _ _)))
                refine wpQuiet_nil ?_
                intro _ hw'
                obtain ⟨⟨dq, osq⟩, hw''⟩ := hw'
                subst hw''
                go_wp2
                go_roundw
                case rel => exact ⟨0 + 1, by omega, by go_num, fun j hj hjk => by
                  by_cases e : j = 0
                  · subst e; exact hp
                  · exact hall.out j hj (by omega), below_of hW.out (below_regrown _ dq osq)⟩
                case measure => simp [intOf]; omega
        · obtain ⟨m, rfl⟩ : ∃ m, q = m + 1 := ⟨q - 1, by omega⟩
          obtain ⟨b, off, rfl, hbS, cc, hcell, hat⟩ := HC.out (m + 1) (by omega)
          have hb := hS b hbS
          rw [width_DClaimFoe] at hcell
          have e0 : wr.cell? ⟨b, off + (m + 1) * 2, none⟩ = some (cc 0) := (hbw.cell (p := ⟨b, off + (m + 1) * 2, none⟩) (by show b < _; omega)).trans (by simpa using hcell 0 (by omega))
          have e1 : wr.cell? ⟨b, off + (m + 1) * 2 + 1, none⟩ = some (cc 1) := (hbw.cell (p := ⟨b, off + (m + 1) * 2 + 1, none⟩) (by show b < _; omega)).trans (by simpa using hcell 1 (by omega))
          clear hcell
          rw [at_DClaimFoe] at hat
          obtain ⟨⟨t0, ez0⟩, t1, ez1⟩ := hat
          rw [t0] at e0
          rw [t1] at e1
          clear t0 t1
          obtain ⟨f, ef⟩ : ∃ f, l[(m + 1)]'(by omega) = f := ⟨_, rfl⟩
          rw [ef] at e0 e1 ez0 ez1
          obtain ⟨b', off', e', _, dd, hcell, hat⟩ := HC.out m (by omega)
          cases e'
          rw [width_DClaimFoe] at hcell
          have m0 : wr.cell? ⟨b, off + m * 2, none⟩ = some (dd 0) := (hbw.cell (p := ⟨b, off + m * 2, none⟩) (by show b < _; omega)).trans (by simpa using hcell 0 (by omega))
          have m1 : wr.cell? ⟨b, off + m * 2 + 1, none⟩ = some (dd 1) := (hbw.cell (p := ⟨b, off + m * 2 + 1, none⟩) (by show b < _; omega)).trans (by simpa using hcell 1 (by omega))
          clear hcell
          rw [at_DClaimFoe] at hat
          obtain ⟨⟨t0, mz0⟩, t1, mz1⟩ := hat
          rw [t0] at m0
          rw [t1] at m1
          clear t0 t1
          obtain ⟨g, eg⟩ : ∃ f, l[m]'(by omega) = f := ⟨_, rfl⟩
          rw [eg] at m0 m1 mz0 mz1
          have gt0 : decide ((0 : Int) < ((m : Int) + 1)) = true := by rw [decide_eq_true_eq]; omega
          have hW : Hid (Below (w.heap.size + 1) (w.alloc (.cells #[.slice (some ⟨b, off, none⟩) n cap, v1, v2, v3, v4] 33)) (wr.alloc (.cells #[.string f.1, .string f.2] 83))) := hbel.out.alloc (by omega) _
          have qn0 := fun d os => cell_regrown (cell_row (heap_alloc_new wr (.cells #[.string f.1, .string f.2] 83)) 0 _ rfl).1 d os
          have qn1 := fun d os => cell_regrown (cell_row (heap_alloc_new wr (.cells #[.string f.1, .string f.2] 83)) 1 _ rfl).1 d os
          have qx0 := fun d os => cell_regrown (cell_past x0 (by omega) (.cells #[.string f.1, .string f.2] 83)) d os
          have qx1 := fun d os => cell_regrown (cell_past x1 (by omega) (.cells #[.string f.1, .string f.2] 83)) d os
          have qx2 := fun d os => cell_regrown (cell_past x2 (by omega) (.cells #[.string f.1, .string f.2] 83)) d os
          have qx3 := fun d os => cell_regrown (cell_past x3 (by omega) (.cells #[.string f.1, .string f.2] 83)) d os
          have qx4 := fun d os => cell_regrown (cell_past x4 (by omega) (.cells #[.string f.1, .string f.2] 83)) d os
          have qe0 := fun d os => cell_regrown (cell_past e0 (by omega) (.cells #[.string f.1, .string f.2] 83)) d os
          have qe1 := fun d os => cell_regrown (cell_past e1 (by omega) (.cells #[.string f.1, .string f.2] 83)) d os
          have qm0 := fun d os => cell_regrown (cell_past m0 (by omega) (.cells #[.string f.1, .string f.2] 83)) d os
          have qm1 := fun d os => cell_regrown (cell_past m1 (by omega) (.cells #[.string f.1, .string f.2] 83)) d os
          cases c0 : (nameB f.1)
          · have hp : foeTC (prevO l ((m + 1))) (l[(m + 1)]'(by omega)) = false := by
              rw [prev_succ l m (by omega), ef, eg]
              simp [foeTC, ltB, eqB, c0]
            go_wp2
            refine wp_region_quiet_below (by kernel_rfl) (by kernel_rfl) ?_
            repeat (first | go_big_quiet_step (first | (with_reducible exact nameC_q _ _ ez0 _ c0 _ _) | (with_reducible exact nameC_q _ _ ez1 _ c1 _ _)) | quiet_step (first | (with_reducible exact nameC_q _ _ ez0 _ c0 _ _) | (with_reducible exact nameC_q _ _ ez1 _ c1 _ _)))
            refine wpQuiet_nil ?_
            intro _ hw'
            obtain ⟨⟨dq, osq⟩, hw''⟩ := hw'
            subst hw''
            go_wp2
            go_ret
            rw [ok_no (lim := 12) (T := foeTC) (k := (m + 1)) (by omega) hp]
            exact ⟨rfl, below_end (below_of hW.out (below_regrown _ dq osq))⟩
          · cases c1 : (nameB f.2)
            · have hp : foeTC (prevO l ((m + 1))) (l[(m + 1)]'(by omega)) = false := by
                rw [prev_succ l m (by omega), ef, eg]
                simp [foeTC, ltB, eqB, c0, c1]
              go_wp2
              refine wp_region_quiet_below (by kernel_rfl) (by kernel_rfl) ?_
              repeat (first | go_big_quiet_step (first | (with_reducible exact nameC_q _ _ ez0 _ c0 _ _) | (with_reducible exact nameC_q _ _ ez1 _ c1 _ _)) | quiet_step (first | (with_reducible exact nameC_q _ _ ez0 _ c0 _ _) | (with_reducible exact nameC_q _ _ ez1 _ c1 _ _)))
              refine wpQuiet_nil ?_
              intro _ hw'
              obtain ⟨⟨dq, osq⟩, hw''⟩ := hw'
              subst hw''
              go_wp2
              go_ret
              rw [ok_no (lim := 12) (T := foeTC) (k := (m + 1)) (by omega) hp]
              exact ⟨rfl, below_end (below_of hW.out (below_regrown _ dq osq))⟩
            · cases c2 : (Op.bytesLess f.1.toList f.2.toList)
              · have hp : foeTC (prevO l ((m + 1))) (l[(m + 1)]'(by omega)) = false := by
                  rw [prev_succ l m (by omega), ef, eg]
                  simp [foeTC, ltB, eqB, c0, c1, c2]
                go_wp2
                refine wp_region_quiet_below (by kernel_rfl) (by kernel_rfl) ?_
                repeat (first | go_big_quiet_step (first | (with_reducible exact nameC_q _ _ ez0 _ c0 _ _) | (with_reducible exact nameC_q _ _ ez1 _ c1 _ _)) | quiet_step (first | (with_reducible exact nameC_q _ _ ez0 _ c0 _ _) | (with_reducible exact nameC_q _ _ ez1 _ c1 _ _)))
                refine wpQuiet_nil ?_
                intro _ hw'
                obtain ⟨⟨dq, osq⟩, hw''⟩ := hw'
                subst hw''
                go_wp2
                go_ret
                rw [ok_no (lim := 12) (T := foeTC) (k := (m + 1)) (by omega) hp]
                exact ⟨rfl, below_end (below_of hW.out (below_regrown _ dq osq))⟩
              · cases c3 : (g.1.toList == f.1.toList)
                · cases c4 : (Op.bytesLess g.1.toList f.1.toList)
                  · have hp : foeTC (prevO l ((m + 1))) (l[(m + 1)]'(by omega)) = false := by
                      rw [prev_succ l m (by omega), ef, eg]
                      simp [foeTC, ltB, eqB, c0, c1, c2, c3, c4]
                    go_wp2
                    refine wp_region_quiet_below (by kernel_rfl) (by kernel_rfl) ?_
                    repeat (first | go_big_quiet_step (first | (with_reducible exact nameC_q _ _ ez0 _ c0 _ _) | (with_reducible exact nameC_q _ _ ez1 _ c1 _ _)) | quiet_step (first | (with_reducible exact nameC_q _ _ ez0 _ c0 _ _) | (with_reducible exact nameC_q _ _ ez1 _ c1 _ _)))
                    refine wpQuiet_nil ?_
                    intro _ hw'
                    obtain ⟨⟨dq, osq⟩, hw''⟩ := hw'
                    subst hw''
                    go_wp2
                    go_ret
                    rw [ok_no (lim := 12) (T := foeTC) (k := (m + 1)) (by omega) hp]
                    exact ⟨rfl, below_end (below_of hW.out (below_regrown _ dq osq))⟩
                  · have hp : foeTC (prevO l ((m + 1))) (l[(m + 1)]'(by omega)) = true := by
                      rw [prev_succ l m (by omega), ef, eg]
                      simp [foeTC, ltB, eqB, c0, c1, c2, c3, c4]
                    go_wp2
                    refine wp_region_quiet_below (by kernel_rfl) (by kernel_rfl) ?_
                    repeat (first | go_big_quiet_step (first | (with_reducible exact nameC_q _ _ ez0 _ c0 _ _) | (with_reducible exact nameC_q _ _ ez1 _ c1 _ _)) | quiet_step (first | (with_reducible exact nameC_q _ _ ez0 _ c0 _ _) | (with_reducible exact nameC_q _ _ ez1 _ c1 _ _)))
                    refine wpQuiet_nil ?_
                    intro _ hw'
                    obtain ⟨⟨dq, osq⟩, hw''⟩ := hw'
                    subst hw''
                    go_wp2
                    go_roundw
                    case rel => exact ⟨(m + 1) + 1, by omega, by go_num, fun j hj hjk => by
                      by_cases e : j = (m + 1)
                      · subst e; exact hp
                      · exact hall.out j hj (by omega), below_of hW.out (below_regrown _ dq osq)⟩
                    case measure => simp [intOf]; omega
                · cases c4 : (Op.bytesLess g.2.toList f.2.toList)
                  · have hp : foeTC (prevO l ((m + 1))) (l[(m + 1)]'(by omega)) = false := by
                      rw [prev_succ l m (by omega), ef, eg]
                      simp [foeTC, ltB, eqB, c0, c1, c2, c3, c4]
                    go_wp2
                    refine wp_region_quiet_below (by kernel_rfl) (by kernel_rfl) ?_
                    repeat (first | go_big_quiet_step (first | (with_reducible exact nameC_q _ _ ez0 _ c0 _ _) | (with_reducible exact nameC_q _ _ ez1 _ c1 _ _)) | quiet_step (first | (with_reducible exact nameC_q _ _ ez0 _ c0 _ _) | (with_reducible exact nameC_q _ _ ez1 _ c1 _ _)))
                    refine wpQuiet_nil ?_
                    intro _ hw'
                    obtain ⟨⟨dq, osq⟩, hw''⟩ := hw'
                    subst hw''
                    go_wp2
                    go_ret
                    rw [ok_no (lim := 12) (T := foeTC) (k := (m + 1)) (by omega) hp]
                    exact ⟨rfl, below_end (below_of hW.out (below_regrown _ dq osq))⟩
                  · have hp : foeTC (prevO l ((m + 1))) (l[(m + 1)]'(by omega)) = true := by
                      rw [prev_succ l m (by omega), ef, eg]
                      simp [foeTC, ltB, eqB, c0, c1, c2, c3, c4]
                    go_wp2
                    refine wp_region_quiet_below (by kernel_rfl) (by kernel_rfl) ?_
                    repeat (first | go_big_quiet_step (first | (with_reducible exact nameC_q _ _ ez0 _ c0 _ _) | (with_reducible exact nameC_q _ _ ez1 _ c1 _ _)) | quiet_step (first | (with_reducible exact nameC_q _ _ ez0 _ c0 _ _) | (with_reducible exact nameC_q _ _ ez1 _ c1 _ _)))
                    refine wpQuiet_nil ?_
                    intro _ hw'
                    obtain ⟨⟨dq, osq⟩, hw''⟩ := hw'
                    subst hw''
                    go_wp2
                    go_roundw
                    case rel => exact ⟨(m + 1) + 1, by omega, by go_num, fun j hj hjk => by
                      by_cases e : j = (m + 1)
                      · subst e; exact hp
                      · exact hall.out j hj (by omega), below_of hW.out (below_regrown _ dq osq)⟩
                    case measure => simp [intOf]; omega
      · have hqn : q = n := by omega
        subst hqn
        go_wp2
        go_ret
        rw [ok_yes (lim := 12) (T := foeTC) (by omega) (fun i hi => hall.out i hi (by omega))]
        exact ⟨rfl, hbw⟩
  · have d0 : decide ((12 : Int) < (n : Int)) = true := by simp; omega
    go_enter Tryz.func40, Tryz.ntmps40
    go_wp2
    go_ret
    rw [ok_long (lim := 12) (T := foeTC) (by omega)]
    exact ⟨rfl, (Below.refl _ _).alloc (Nat.le_refl _) _⟩

end Go.Proofs.YticojnepejboaacGreat
