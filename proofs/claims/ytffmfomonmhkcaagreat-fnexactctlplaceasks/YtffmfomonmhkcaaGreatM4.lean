/-
  Several texts in one.
-/
import Derived.Test.YtffmfomonmhkcaaGreatYd
/-
  The model's test of valves, and of a whole plant.
-/
namespace Go.Proofs.YtffmfomonmhkcaaGreat
open Go.RowKit

set_option maxRecDepth 100000 in
set_option maxHeartbeats 16000000 in
theorem valvesS_any (B : Nat) (v0 v1 v2 v3 : Value) (nf : Nat) (ff : Nat → ByteArray × ByteArray × ByteArray × ByteArray) (np : Nat) (fp : Nat → ByteArray × Int × ByteArray) (w : World) (h1 : Lst B w v3 nf 4 (cV ff)) (hB : B ≤ w.heap.size) (h0 : Lst B w v2 np 3 (cP fp)) (hz : ∀ i, i < nf → (ff i).1.size ≤ maxLen ∧ (ff i).2.2.2.size ≤ maxLen) :
    Calls Tryz.prog 48 #[.agg #[v0, v1, v2, v3]] w fun e w' => ∃ b, e = .returned (.bool b) ∧ (b = true ↔ nf ≤ 18 ∧ ∀ i, i < nf → valveP np fp ff i) ∧ Below w.heap.size w w' := by
  have H0 : Hid (Lst B w v2 np 3 (cP fp)) := h0
  clear h0
  obtain ⟨o1, cap1, rfl, hn1, hc1⟩ := h1
  unfold maxLen at hn1
  have HC1 : Hid _ := hc1
  have HZ : Hid _ := hz
  clear hc1 hz
  by_cases hl : nf ≤ 18
  · have d0 : decide ((18 : Int) < (nf : Int)) = false := by simp; omega
    go_enter Tryz.func48, Tryz.ntmps48
    go_wp2
    go_loopw [3] (fun i wr => ∃ q : Nat, q ≤ nf ∧ i = .int .i64 q ∧ Hid (∀ j, j < q → valveP np fp ff j) ∧ Hid (Below (w.heap.size + 1) (w.alloc (.cells #[v0, v1, v2, .slice o1 nf cap1] 36)) wr)) (fun i _ => nf - (intOf i).toNat)
    case atStart => exact ⟨0, Nat.zero_le _, rfl, fun _ h => by omega, Below.refl _ _⟩
    case round =>
      obtain ⟨q, hq, rfl, hallf, hbel⟩ := hrel
      have b0 := box_in hbel.out 0 _ rfl
      have b1 := box_in hbel.out 1 _ rfl
      have b2 := box_in hbel.out 2 _ rfl
      have b3 := box_in hbel.out 3 _ rfl
      simp only [List.getElem_toArray, List.getElem_cons_zero, List.getElem_cons_succ] at b0 b1 b2 b3
      by_cases hlq : q < nf
      · obtain ⟨b, off, rfl, hbB, hcell⟩ := HC1.out q hlq
        have hsz : w.heap.size + 1 ≤ wr.heap.size := by have := hbel.out.size; simpa using this
        obtain ⟨hz1, hz2⟩ := HZ.out q hlq
        have e0 : wr.cell? ⟨b, off + q * 4, none⟩ = some (.string (ff q).1) := old_in hbel.out (by omega) (by simpa [cV] using hcell 0 (by omega))
        have e1 : wr.cell? ⟨b, off + q * 4 + 1, none⟩ = some (.string (ff q).2.1) := old_in hbel.out (by omega) (by simpa [cV] using hcell 1 (by omega))
        have e2 : wr.cell? ⟨b, off + q * 4 + 2, none⟩ = some (.string (ff q).2.2.1) := old_in hbel.out (by omega) (by simpa [cV] using hcell 2 (by omega))
        have e3 : wr.cell? ⟨b, off + q * 4 + 3, none⟩ = some (.string (ff q).2.2.2) := old_in hbel.out (by omega) (by simpa [cV] using hcell 3 (by omega))
        have hW1 : Hid (Below (w.heap.size + 1) (w.alloc (.cells #[v0, v1, v2, .slice (some ⟨b, off, none⟩) nf cap1] 36)) (wr.alloc (.cells #[.string (ff q).1, .string (ff q).2.1, .string (ff q).2.2.1, .string (ff q).2.2.2] 85))) := hbel.out.alloc (by omega) _
        have HL : Hid (Lst B (wr.alloc (.cells #[.string (ff q).1, .string (ff q).2.1, .string (ff q).2.2.1, .string (ff q).2.2.2] 85)) v2 np 3 (cP fp)) := H0.out.kept (below_end hW1.out) hB
        have hBW : B ≤ (wr.alloc (.cells #[.string (ff q).1, .string (ff q).2.1, .string (ff q).2.2.1, .string (ff q).2.2.2] 85)).heap.size := by simp; omega
        have p0 := fun d os => cell_regrown (cell_past b0 (by omega) (.cells #[.string (ff q).1, .string (ff q).2.1, .string (ff q).2.2.1, .string (ff q).2.2.2] 85)) d os
        have p1 := fun d os => cell_regrown (cell_past b1 (by omega) (.cells #[.string (ff q).1, .string (ff q).2.1, .string (ff q).2.2.1, .string (ff q).2.2.2] 85)) d os
        have p2 := fun d os => cell_regrown (cell_past b2 (by omega) (.cells #[.string (ff q).1, .string (ff q).2.1, .string (ff q).2.2.1, .string (ff q).2.2.2] 85)) d os
        have p3 := fun d os => cell_regrown (cell_past b3 (by omega) (.cells #[.string (ff q).1, .string (ff q).2.1, .string (ff q).2.2.1, .string (ff q).2.2.2] 85)) d os
        have n0 := fun d os => cell_regrown (new_cell wr #[.string (ff q).1, .string (ff q).2.1, .string (ff q).2.2.1, .string (ff q).2.2.2] 85 0 _ rfl) d os
        have n1 := fun d os => cell_regrown (new_cell wr #[.string (ff q).1, .string (ff q).2.1, .string (ff q).2.2.1, .string (ff q).2.2.2] 85 1 _ rfl) d os
        have n2 := fun d os => cell_regrown (new_cell wr #[.string (ff q).1, .string (ff q).2.1, .string (ff q).2.2.1, .string (ff q).2.2.2] 85 2 _ rfl) d os
        have n3 := fun d os => cell_regrown (new_cell wr #[.string (ff q).1, .string (ff q).2.1, .string (ff q).2.2.1, .string (ff q).2.2.2] 85 3 _ rfl) d os
        by_cases hq0 : q = 0
        · have gt0 : decide (0 < q) = false := by simp; omega
          have HK : Hid (q = 0) := hq0
          clear hq0
          cases hnm : nameB (ff q).1
          · go_wp2
            refine wp_region_quiet_below (by kernel_rfl) (by kernel_rfl) ?_
            repeat (first | go_big_quiet_step (first | (with_reducible exact name_q _ _ hz1 _ hnm _ _) | (with_reducible exact name_q _ _ hz2 _ hst _ _) | (with_reducible exact place_q B _ _ _ _ np fp _ _ HL.out hBW _ _)) | quiet_step (first | (with_reducible exact name_q _ _ hz1 _ hnm _ _) | (with_reducible exact name_q _ _ hz2 _ hst _ _) | (with_reducible exact place_q B _ _ _ _ np fp _ _ HL.out hBW _ _)))
            refine wpQuiet_nil ?_
            intro _ hw'
            obtain ⟨⟨dq, osq⟩, hw''⟩ := hw'
            subst hw''
            go_wp2
            go_ret
            exact ⟨false, rfl, ⟨(fun h => by cases h), fun h => absurd (h.2 q hlq) (by intro h; have := h.1; rw [hnm] at this; cases this)⟩, below_end (below_of hW1.out (below_regrown _ dq osq))⟩
          · cases hab : Op.bytesLess (ff q).2.1.toList (ff q).2.2.1.toList
            · go_wp2
              refine wp_region_quiet_below (by kernel_rfl) (by kernel_rfl) ?_
              repeat (first | go_big_quiet_step (first | (with_reducible exact name_q _ _ hz1 _ hnm _ _) | (with_reducible exact name_q _ _ hz2 _ hst _ _) | (with_reducible exact place_q B _ _ _ _ np fp _ _ HL.out hBW _ _)) | quiet_step (first | (with_reducible exact name_q _ _ hz1 _ hnm _ _) | (with_reducible exact name_q _ _ hz2 _ hst _ _) | (with_reducible exact place_q B _ _ _ _ np fp _ _ HL.out hBW _ _)))
              refine wpQuiet_nil ?_
              intro _ hw'
              obtain ⟨⟨dq, osq⟩, hw''⟩ := hw'
              subst hw''
              go_wp2
              go_ret
              exact ⟨false, rfl, ⟨(fun h => by cases h), fun h => absurd (h.2 q hlq) (by intro h; have := h.2.2.1; rw [ltB, hab] at this; cases this)⟩, below_end (below_of hW1.out (below_regrown _ dq osq))⟩
            · cases hpa : decide (placeI np fp (ff q).2.1 < 0)
              · cases hpb : decide (placeI np fp (ff q).2.2.1 < 0)
                · cases hst : nameB (ff q).2.2.2
                  · go_wp2
                    refine wp_region_quiet_below (by kernel_rfl) (by kernel_rfl) ?_
                    repeat (first | go_big_quiet_step (first | (with_reducible exact name_q _ _ hz1 _ hnm _ _) | (with_reducible exact name_q _ _ hz2 _ hst _ _) | (with_reducible exact place_q B _ _ _ _ np fp _ _ HL.out hBW _ _)) | quiet_step (first | (with_reducible exact name_q _ _ hz1 _ hnm _ _) | (with_reducible exact name_q _ _ hz2 _ hst _ _) | (with_reducible exact place_q B _ _ _ _ np fp _ _ HL.out hBW _ _)))
                    refine wpQuiet_nil ?_
                    intro _ hw'
                    obtain ⟨⟨dq, osq⟩, hw''⟩ := hw'
                    subst hw''
                    go_wp2
                    go_ret
                    exact ⟨false, rfl, ⟨(fun h => by cases h), fun h => absurd (h.2 q hlq) (by intro h; have := h.2.2.2.2.2; rw [hst] at this; cases this)⟩, below_end (below_of hW1.out (below_regrown _ dq osq))⟩
                  · go_wp2
                    refine wp_region_quiet_below (by kernel_rfl) (by kernel_rfl) ?_
                    repeat (first | go_big_quiet_step (first | (with_reducible exact name_q _ _ hz1 _ hnm _ _) | (with_reducible exact name_q _ _ hz2 _ hst _ _) | (with_reducible exact place_q B _ _ _ _ np fp _ _ HL.out hBW _ _)) | quiet_step (first | (with_reducible exact name_q _ _ hz1 _ hnm _ _) | (with_reducible exact name_q _ _ hz2 _ hst _ _) | (with_reducible exact place_q B _ _ _ _ np fp _ _ HL.out hBW _ _)))
                    refine wpQuiet_nil ?_
                    intro _ hw'
                    obtain ⟨⟨dq, osq⟩, hw''⟩ := hw'
                    subst hw''
                    go_wp2
                    go_roundw
                    case rel => exact ⟨q + 1, by omega, by go_num, fun j hj => by
                      by_cases e : j = q
                      · subst e; exact ⟨hnm, fun h => by have := HK.out; omega, hab, hpa, hpb, hst⟩
                      · exact hallf.out j (by omega), below_of hW1.out (below_regrown _ dq osq)⟩
                    case measure => simp [intOf]; omega
                · go_wp2
                  refine wp_region_quiet_below (by kernel_rfl) (by kernel_rfl) ?_
                  repeat (first | go_big_quiet_step (first | (with_reducible exact name_q _ _ hz1 _ hnm _ _) | (with_reducible exact name_q _ _ hz2 _ hst _ _) | (with_reducible exact place_q B _ _ _ _ np fp _ _ HL.out hBW _ _)) | quiet_step (first | (with_reducible exact name_q _ _ hz1 _ hnm _ _) | (with_reducible exact name_q _ _ hz2 _ hst _ _) | (with_reducible exact place_q B _ _ _ _ np fp _ _ HL.out hBW _ _)))
                  refine wpQuiet_nil ?_
                  intro _ hw'
                  obtain ⟨⟨dq, osq⟩, hw''⟩ := hw'
                  subst hw''
                  go_wp2
                  go_ret
                  exact ⟨false, rfl, ⟨(fun h => by cases h), fun h => absurd (h.2 q hlq) (by intro h; have := h.2.2.2.2.1; rw [hpb] at this; cases this)⟩, below_end (below_of hW1.out (below_regrown _ dq osq))⟩
              · go_wp2
                refine wp_region_quiet_below (by kernel_rfl) (by kernel_rfl) ?_
                repeat (first | go_big_quiet_step (first | (with_reducible exact name_q _ _ hz1 _ hnm _ _) | (with_reducible exact name_q _ _ hz2 _ hst _ _) | (with_reducible exact place_q B _ _ _ _ np fp _ _ HL.out hBW _ _)) | quiet_step (first | (with_reducible exact name_q _ _ hz1 _ hnm _ _) | (with_reducible exact name_q _ _ hz2 _ hst _ _) | (with_reducible exact place_q B _ _ _ _ np fp _ _ HL.out hBW _ _)))
                refine wpQuiet_nil ?_
                intro _ hw'
                obtain ⟨⟨dq, osq⟩, hw''⟩ := hw'
                subst hw''
                go_wp2
                go_ret
                exact ⟨false, rfl, ⟨(fun h => by cases h), fun h => absurd (h.2 q hlq) (by intro h; have := h.2.2.2.1; rw [hpa] at this; cases this)⟩, below_end (below_of hW1.out (below_regrown _ dq osq))⟩
        · obtain ⟨m, rfl⟩ : ∃ m, q = m + 1 := ⟨q - 1, by omega⟩
          obtain ⟨b', off', e', hbB', hcellm⟩ := HC1.out m (by omega)
          cases e'
          have m0 : wr.cell? ⟨b, off + m * 4, none⟩ = some (.string (ff m).1) := old_in hbel.out (by omega) (by simpa [cV] using hcellm 0 (by omega))
          have p4 := fun d os => cell_regrown (cell_past m0 (by omega) (.cells #[.string (ff (m + 1)).1, .string (ff (m + 1)).2.1, .string (ff (m + 1)).2.2.1, .string (ff (m + 1)).2.2.2] 85)) d os
          have gt0 : decide ((0 : Int) < ((m : Int) + 1)) = true := by rw [decide_eq_true_eq]; omega
          cases hnm : nameB (ff (m + 1)).1
          · go_wp2
            refine wp_region_quiet_below (by kernel_rfl) (by kernel_rfl) ?_
            repeat (first | go_big_quiet_step (first | (with_reducible exact name_q _ _ hz1 _ hnm _ _) | (with_reducible exact name_q _ _ hz2 _ hst _ _) | (with_reducible exact place_q B _ _ _ _ np fp _ _ HL.out hBW _ _)) | quiet_step (first | (with_reducible exact name_q _ _ hz1 _ hnm _ _) | (with_reducible exact name_q _ _ hz2 _ hst _ _) | (with_reducible exact place_q B _ _ _ _ np fp _ _ HL.out hBW _ _)))
            refine wpQuiet_nil ?_
            intro _ hw'
            obtain ⟨⟨dq, osq⟩, hw''⟩ := hw'
            subst hw''
            go_wp2
            go_ret
            exact ⟨false, rfl, ⟨(fun h => by cases h), fun h => absurd (h.2 (m + 1) hlq) (by intro h; have := h.1; rw [hnm] at this; cases this)⟩, below_end (below_of hW1.out (below_regrown _ dq osq))⟩
          · cases hlt : Op.bytesLess (ff m).1.toList (ff (m + 1)).1.toList
            · go_wp2
              refine wp_region_quiet_below (by kernel_rfl) (by kernel_rfl) ?_
              repeat (first | go_big_quiet_step (first | (with_reducible exact name_q _ _ hz1 _ hnm _ _) | (with_reducible exact name_q _ _ hz2 _ hst _ _) | (with_reducible exact place_q B _ _ _ _ np fp _ _ HL.out hBW _ _)) | quiet_step (first | (with_reducible exact name_q _ _ hz1 _ hnm _ _) | (with_reducible exact name_q _ _ hz2 _ hst _ _) | (with_reducible exact place_q B _ _ _ _ np fp _ _ HL.out hBW _ _)))
              refine wpQuiet_nil ?_
              intro _ hw'
              obtain ⟨⟨dq, osq⟩, hw''⟩ := hw'
              subst hw''
              go_wp2
              go_ret
              exact ⟨false, rfl, ⟨(fun h => by cases h), fun h => absurd (h.2 (m + 1) hlq) (by intro h; have := h.2.1 (by omega); rw [Nat.add_sub_cancel, ltB, hlt] at this; cases this)⟩, below_end (below_of hW1.out (below_regrown _ dq osq))⟩
            · cases hab : Op.bytesLess (ff (m + 1)).2.1.toList (ff (m + 1)).2.2.1.toList
              · go_wp2
                refine wp_region_quiet_below (by kernel_rfl) (by kernel_rfl) ?_
                repeat (first | go_big_quiet_step (first | (with_reducible exact name_q _ _ hz1 _ hnm _ _) | (with_reducible exact name_q _ _ hz2 _ hst _ _) | (with_reducible exact place_q B _ _ _ _ np fp _ _ HL.out hBW _ _)) | quiet_step (first | (with_reducible exact name_q _ _ hz1 _ hnm _ _) | (with_reducible exact name_q _ _ hz2 _ hst _ _) | (with_reducible exact place_q B _ _ _ _ np fp _ _ HL.out hBW _ _)))
                refine wpQuiet_nil ?_
                intro _ hw'
                obtain ⟨⟨dq, osq⟩, hw''⟩ := hw'
                subst hw''
                go_wp2
                go_ret
                exact ⟨false, rfl, ⟨(fun h => by cases h), fun h => absurd (h.2 (m + 1) hlq) (by intro h; have := h.2.2.1; rw [ltB, hab] at this; cases this)⟩, below_end (below_of hW1.out (below_regrown _ dq osq))⟩
              · cases hpa : decide (placeI np fp (ff (m + 1)).2.1 < 0)
                · cases hpb : decide (placeI np fp (ff (m + 1)).2.2.1 < 0)
                  · cases hst : nameB (ff (m + 1)).2.2.2
                    · go_wp2
                      refine wp_region_quiet_below (by kernel_rfl) (by kernel_rfl) ?_
                      repeat (first | go_big_quiet_step (first | (with_reducible exact name_q _ _ hz1 _ hnm _ _) | (with_reducible exact name_q _ _ hz2 _ hst _ _) | (with_reducible exact place_q B _ _ _ _ np fp _ _ HL.out hBW _ _)) | quiet_step (first | (with_reducible exact name_q _ _ hz1 _ hnm _ _) | (with_reducible exact name_q _ _ hz2 _ hst _ _) | (with_reducible exact place_q B _ _ _ _ np fp _ _ HL.out hBW _ _)))
                      refine wpQuiet_nil ?_
                      intro _ hw'
                      obtain ⟨⟨dq, osq⟩, hw''⟩ := hw'
                      subst hw''
                      go_wp2
                      go_ret
                      exact ⟨false, rfl, ⟨(fun h => by cases h), fun h => absurd (h.2 (m + 1) hlq) (by intro h; have := h.2.2.2.2.2; rw [hst] at this; cases this)⟩, below_end (below_of hW1.out (below_regrown _ dq osq))⟩
                    · go_wp2
                      refine wp_region_quiet_below (by kernel_rfl) (by kernel_rfl) ?_
                      repeat (first | go_big_quiet_step (first | (with_reducible exact name_q _ _ hz1 _ hnm _ _) | (with_reducible exact name_q _ _ hz2 _ hst _ _) | (with_reducible exact place_q B _ _ _ _ np fp _ _ HL.out hBW _ _)) | quiet_step (first | (with_reducible exact name_q _ _ hz1 _ hnm _ _) | (with_reducible exact name_q _ _ hz2 _ hst _ _) | (with_reducible exact place_q B _ _ _ _ np fp _ _ HL.out hBW _ _)))
                      refine wpQuiet_nil ?_
                      intro _ hw'
                      obtain ⟨⟨dq, osq⟩, hw''⟩ := hw'
                      subst hw''
                      go_wp2
                      go_roundw
                      case rel => exact ⟨(m + 1) + 1, by omega, by go_num, fun j hj => by
                        by_cases e : j = (m + 1)
                        · subst e; exact ⟨hnm, fun _ => by rw [Nat.add_sub_cancel]; exact hlt, hab, hpa, hpb, hst⟩
                        · exact hallf.out j (by omega), below_of hW1.out (below_regrown _ dq osq)⟩
                      case measure => simp [intOf]; omega
                  · go_wp2
                    refine wp_region_quiet_below (by kernel_rfl) (by kernel_rfl) ?_
                    repeat (first | go_big_quiet_step (first | (with_reducible exact name_q _ _ hz1 _ hnm _ _) | (with_reducible exact name_q _ _ hz2 _ hst _ _) | (with_reducible exact place_q B _ _ _ _ np fp _ _ HL.out hBW _ _)) | quiet_step (first | (with_reducible exact name_q _ _ hz1 _ hnm _ _) | (with_reducible exact name_q _ _ hz2 _ hst _ _) | (with_reducible exact place_q B _ _ _ _ np fp _ _ HL.out hBW _ _)))
                    refine wpQuiet_nil ?_
                    intro _ hw'
                    obtain ⟨⟨dq, osq⟩, hw''⟩ := hw'
                    subst hw''
                    go_wp2
                    go_ret
                    exact ⟨false, rfl, ⟨(fun h => by cases h), fun h => absurd (h.2 (m + 1) hlq) (by intro h; have := h.2.2.2.2.1; rw [hpb] at this; cases this)⟩, below_end (below_of hW1.out (below_regrown _ dq osq))⟩
                · go_wp2
                  refine wp_region_quiet_below (by kernel_rfl) (by kernel_rfl) ?_
                  repeat (first | go_big_quiet_step (first | (with_reducible exact name_q _ _ hz1 _ hnm _ _) | (with_reducible exact name_q _ _ hz2 _ hst _ _) | (with_reducible exact place_q B _ _ _ _ np fp _ _ HL.out hBW _ _)) | quiet_step (first | (with_reducible exact name_q _ _ hz1 _ hnm _ _) | (with_reducible exact name_q _ _ hz2 _ hst _ _) | (with_reducible exact place_q B _ _ _ _ np fp _ _ HL.out hBW _ _)))
                  refine wpQuiet_nil ?_
                  intro _ hw'
                  obtain ⟨⟨dq, osq⟩, hw''⟩ := hw'
                  subst hw''
                  go_wp2
                  go_ret
                  exact ⟨false, rfl, ⟨(fun h => by cases h), fun h => absurd (h.2 (m + 1) hlq) (by intro h; have := h.2.2.2.1; rw [hpa] at this; cases this)⟩, below_end (below_of hW1.out (below_regrown _ dq osq))⟩
      · have hqn : q = nf := by omega
        subst hqn
        go_wp2
        go_ret
        exact ⟨true, rfl, ⟨fun _ => ⟨hl, hallf.out⟩, fun _ => rfl⟩, below_end hbel.out⟩
  · have d0 : decide ((18 : Int) < (nf : Int)) = true := by simp; omega
    go_enter Tryz.func48, Tryz.ntmps48
    go_wp2
    go_ret
    exact ⟨false, rfl, ⟨(fun h => by cases h), fun h => absurd h.1 hl⟩, (Below.refl _ _).alloc (Nat.le_refl _) _⟩

end Go.Proofs.YtffmfomonmhkcaaGreat

/-
  What a plant's four lists hold, and a contract of the model's test whether a plant is valid.
-/
namespace Go.Proofs.YtffmfomonmhkcaaGreat
open Go.RowKit

/-- What a plant's four lists hold. -/
structure PD where
  ns : Nat
  fs : Nat → ByteArray
  nf : Nat
  ff : Nat → ByteArray × ByteArray
  np : Nat
  fp : Nat → ByteArray × Int × ByteArray
  nv : Nat
  fv : Nat → ByteArray × ByteArray × ByteArray × ByteArray

/-- A plant's value in memory. -/
structure PAt (B : Nat) (w : World) (v0 v1 v2 v3 : Value) (D : PD) : Prop where
  s : Lst B w v0 D.ns 1 (cS D.fs)
  f : Lst B w v1 D.nf 2 (cF D.ff)
  p : Lst B w v2 D.np 3 (cP D.fp)
  v : Lst B w v3 D.nv 4 (cV D.fv)

theorem PAt.kept {B B' : Nat} {w w' : World} {v0 v1 v2 v3 : Value} {D : PD} (h : PAt B w v0 v1 v2 v3 D) (hb : Below B' w w') (hB : B ≤ B') : PAt B w' v0 v1 v2 v3 D :=
  ⟨h.s.kept hb hB, h.f.kept hb hB, h.p.kept hb hB, h.v.kept hb hB⟩

/-- No text is longer than any can be. -/
structure PD.Sz (D : PD) : Prop where
  s : ∀ i, i < D.ns → (D.fs i).size ≤ maxLen
  p : ∀ i, i < D.np → (D.fp i).1.size ≤ maxLen ∧ (D.fp i).2.2.size ≤ maxLen
  v : ∀ i, i < D.nv → (D.fv i).1.size ≤ maxLen ∧ (D.fv i).2.2.2.size ≤ maxLen

/-- A valid plant, by the model's text. -/
def PD.V (D : PD) : Prop := (D.ns ≤ 8 ∧ D.nf ≤ 12 ∧ (∀ i, i < D.ns → stuffP D.fs i) ∧ ∀ i, i < D.nf → foeP D.ns D.fs D.ff i) ∧ (D.np ≤ 14 ∧ ∀ i, i < D.np → placeP D.fp i) ∧ (D.nv ≤ 18 ∧ ∀ i, i < D.nv → valveP D.np D.fp D.fv i)

set_option maxRecDepth 100000 in
set_option maxHeartbeats 1000000 in
theorem validS_any (B : Nat) (v0 v1 v2 v3 : Value) (D : PD) (w : World) (h : PAt B w v0 v1 v2 v3 D) (hB : B ≤ w.heap.size) (hz : D.Sz) :
    Calls Tryz.prog 20 #[.agg #[v0, v1, v2, v3]] w fun e w' => ∃ b, e = .returned (.bool b) ∧ (b = true ↔ D.V) ∧ Below w.heap.size w w' := by
  have H : Hid (∀ w', Below w.heap.size w w' → PAt B w' v0 v1 v2 v3 D) := fun w' hb => h.kept hb hB
  have hb0 : Hid (Below w.heap.size w (w.alloc (.cells #[v0, v1, v2, v3] 36))) := (Below.refl _ _).alloc (Nat.le_refl _) _
  clear h
  go_enter Tryz.func20, Tryz.ntmps20
  go_wp2_with fail
  refine (stuffsS_any B v0 v1 v2 v3 D.ns D.nf D.fs D.ff _ (H.out _ hb0.out).s (H.out _ hb0.out).f (by simp; omega) hz.s).mono ?_
  rintro e w1 ⟨b1, rfl, i1, hb1⟩
  have k1 : Hid (Below w.heap.size w w1) := hb0.out.trans (hb1.mono (by simp))
  have I1 : Hid _ := i1
  clear i1
  cases b1
  · go_wp2_with fail
    go_ret
    exact ⟨false, rfl, ⟨(fun h => by cases h), fun h => I1.out.2 h.1⟩, k1.out⟩
  · have x0 := (hb1.cell (p := ⟨w.heap.size, 0, none⟩) (by simp)).trans (new_cell w #[v0, v1, v2, v3] 36 0 _ rfl)
    have x1 := (hb1.cell (p := ⟨w.heap.size, 1, none⟩) (by simp)).trans (new_cell w #[v0, v1, v2, v3] 36 1 _ rfl)
    have x2 := (hb1.cell (p := ⟨w.heap.size, 2, none⟩) (by simp)).trans (new_cell w #[v0, v1, v2, v3] 36 2 _ rfl)
    have x3 := (hb1.cell (p := ⟨w.heap.size, 3, none⟩) (by simp)).trans (new_cell w #[v0, v1, v2, v3] 36 3 _ rfl)
    have s1 : w.heap.size + 1 ≤ w1.heap.size := by have := hb1.size; simpa using this
    go_wp2_with fail
    refine (placesS_any B v0 v1 v2 v3 D.np D.fp _ (H.out _ k1.out).p (by omega) hz.p).mono ?_
    rintro e w2 ⟨b2, rfl, i2, hb2⟩
    have k2 : Hid (Below w.heap.size w w2) := k1.out.trans (hb2.mono (by omega))
    have I2 : Hid _ := i2
    clear i2
    cases b2
    · go_wp2_with fail
      go_ret
      exact ⟨false, rfl, ⟨(fun h => by cases h), fun h => I2.out.2 h.2.1⟩, k2.out⟩
    · have y0 := (hb2.cell (p := ⟨w.heap.size, 0, none⟩) (by show w.heap.size < _; omega)).trans x0
      have y1 := (hb2.cell (p := ⟨w.heap.size, 1, none⟩) (by show w.heap.size < _; omega)).trans x1
      have y2 := (hb2.cell (p := ⟨w.heap.size, 2, none⟩) (by show w.heap.size < _; omega)).trans x2
      have y3 := (hb2.cell (p := ⟨w.heap.size, 3, none⟩) (by show w.heap.size < _; omega)).trans x3
      have s2 := hb2.size
      go_wp2_with fail
      refine (valvesS_any B v0 v1 v2 v3 D.nv D.fv D.np D.fp _ (H.out _ k2.out).v (by omega) (H.out _ k2.out).p hz.v).mono ?_
      rintro e w3 ⟨b3, rfl, i3, hb3⟩
      go_wp2_with fail
      go_ret
      exact ⟨b3, rfl, ⟨fun h => ⟨by have := I1.out; simpa using this, by have := I2.out; simpa using this, i3.1 h⟩, fun h => i3.2 h.2.2⟩, k2.out.trans (hb3.mono (by omega))⟩

end Go.Proofs.YtffmfomonmhkcaaGreat
