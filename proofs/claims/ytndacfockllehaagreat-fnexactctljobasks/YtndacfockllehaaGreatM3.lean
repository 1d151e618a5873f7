/-
  Several texts in one.
-/
import Derived.Test.YtndacfockllehaaGreatM2
import Derived.Lib.Bytealg
import Derived.Lib.Strings
import Derived.Deep.RegionWith
/-
  The model's test of valves, and of a whole plant.
-/
namespace Go.Proofs.YtndacfockllehaaGreat
open Go.RowKit

set_option maxRecDepth 100000 in
set_option maxHeartbeats 16000000 in
theorem valvesS_any (B : Nat) (v0 v1 v2 v3 : Value) (nf : Nat) (ff : Nat → ByteArray × ByteArray × ByteArray × ByteArray) (np : Nat) (fp : Nat → ByteArray × Int × ByteArray) (w : World) (h1 : Lst B w v3 nf 4 (cV ff)) (hB : B ≤ w.heap.size) (h0 : Lst B w v2 np 3 (cP fp)) (hz : ∀ i, i < nf → (ff i).1.size ≤ maxLen ∧ (ff i).2.2.2.size ≤ maxLen) :
    Calls Tryz.prog 72 #[.agg #[v0, v1, v2, v3]] w fun e w' => ∃ b, e = .returned (.bool b) ∧ (b = true ↔ nf ≤ 18 ∧ ∀ i, i < nf → valveP np fp ff i) ∧ Below w.heap.size w w' := by
  have H0 : Hid (Lst B w v2 np 3 (cP fp)) := h0
  clear h0
  obtain ⟨o1, cap1, rfl, hn1, hc1⟩ := h1
  unfold maxLen at hn1
  have HC1 : Hid _ := hc1
  have HZ : Hid _ := hz
  clear hc1 hz
  by_cases hl : nf ≤ 18
  · have d0 : decide ((18 : Int) < (nf : Int)) = false := by simp; omega
    go_enter Tryz.func72, Tryz.ntmps72
    go_wp2
    go_loopw [3] (fun i wr => ∃ q : Nat, q ≤ nf ∧ i = .int .i64 q ∧ Hid (∀ j, j < q → valveP np fp ff j) ∧ Hid (Below (w.heap.size + 1) (w.alloc (.cells #[v0, v1, v2, .slice o1 nf cap1] 40)) wr)) (fun i _ => nf - (intOf i).toNat)
    case atStart => exact ⟨0, Nat.zero_le _, rfl, fun _ h => by omega, Below.refl _ _⟩
    case round =>
      obtain ⟨q, hq, rfl, hallf, hbel⟩ := hrel
      have b0 := box_in hbel.out 0 _ rfl
      have b1 := box_in hbel.out 1 _ rfl
      have b2 := box_in hbel.out 2 _ rfl
      have b3 := box_in hbel.out 3 _ rfl
      simp only [List.getElem_toArray, List.getElem_cons_zero, List.getElem_cons_succ] at b0 b1 b2 b3
      by_cases hlq : q < nf
      · obtain ⟨b, off, rfl, hbB, hcell⟩ := HC1.out q hlq
        have hsz : w.heap.size + 1 ≤ wr.heap.size := by have := hbel.out.size; simpa using this
        obtain ⟨hz1, hz2⟩ := HZ.out q hlq
        have e0 : wr.cell? ⟨b, off + q * 4, none⟩ = some (.string (ff q).1) := old_in hbel.out (by omega) (by simpa [cV] using hcell 0 (by omega))
        have e1 : wr.cell? ⟨b, off + q * 4 + 1, none⟩ = some (.string (ff q).2.1) := old_in hbel.out (by omega) (by simpa [cV] using hcell 1 (by omega))
        have e2 : wr.cell? ⟨b, off + q * 4 + 2, none⟩ = some (.string (ff q).2.2.1) := old_in hbel.out (by omega) (by simpa [cV] using hcell 2 (by omega))
        have e3 : wr.cell? ⟨b, off + q * 4 + 3, none⟩ = some (.string (ff q).2.2.2) := old_in hbel.out (by omega) (by simpa [cV] using hcell 3 (by omega))
        have hW1 : Hid (Below (w.heap.size + 1) (w.alloc (.cells #[v0, v1, v2, .slice (some ⟨b, off, none⟩) nf cap1] 40)) (wr.alloc (.cells #[.string (ff q).1, .string (ff q).2.1, .string (ff q).2.2.1, .string (ff q).2.2.2] 105))) := hbel.out.alloc (by omega) _
        have HL : Hid (Lst B (wr.alloc (.cells #[.string (ff q).1, .string (ff q).2.1, .string (ff q).2.2.1, .string (ff q).2.2.2] 105)) v2 np 3 (cP fp)) := H0.out.kept (below_end hW1.out) hB
        have hBW : B ≤ (wr.alloc (.cells #[.string (ff q).1, .string (ff q).2.1, .string (ff q).2.2.1, .string (ff q).2.2.2] 105)).heap.size := by simp; omega
        have p0 := fun d os => cell_regrown (cell_past b0 (by omega) (.cells #[.string (ff q).1, .string (ff q).2.1, .string (ff q).2.2.1, .string (ff q).2.2.2] 105)) d os
        have p1 := fun d os => cell_regrown (cell_past b1 (by omega) (.cells #[.string (ff q).1, .string (ff q).2.1, .string (ff q).2.2.1, .string (ff q).2.2.2] 105)) d os
        have p2 := fun d os => cell_regrown (cell_past b2 (by omega) (.cells #[.string (ff q).1, .string (ff q).2.1, .string (ff q).2.2.1, .string (ff q).2.2.2] 105)) d os
        have p3 := fun d os => cell_regrown (cell_past b3 (by omega) (.cells #[.string (ff q).1, .string (ff q).2.1, .string (ff q).2.2.1, .string (ff q).2.2.2] 105)) d os
        have n0 := fun d os => cell_regrown (new_cell wr #[.string (ff q).1, .string (ff q).2.1, .string (ff q).2.2.1, .string (ff q).2.2.2] 105 0 _ rfl) d os
        have n1 := fun d os => cell_regrown (new_cell wr #[.string (ff q).1, .string (ff q).2.1, .string (ff q).2.2.1, .string (ff q).2.2.2] 105 1 _ rfl) d os
        have n2 := fun d os => cell_regrown (new_cell wr #[.string (ff q).1, .string (ff q).2.1, .string (ff q).2.2.1, .string (ff q).2.2.2] 105 2 _ rfl) d os
        have n3 := fun d os => cell_regrown (new_cell wr #[.string (ff q).1, .string (ff q).2.1, .string (ff q).2.2.1, .string (ff q).2.2.2] 105 3 _ rfl) d os
        by_cases hq0 : q = 0
        · have gt0 : decide (0 < q) = false := by simp; omega
          have HK : Hid (q = 0) := hq0
          clear hq0
          cases hnm : nameB (ff q).1
          · go_wp2
            refine wp_region_quiet_below (by kernel_rfl) (by kernel_rfl) ?_
            repeat (first | go_big_quiet_step (first | (with_reducible exact name_q _ _ hz1 _ hnm _ _) | (with_reducible exact name_q _ _ hz2 _ hst _ _) | (with_reducible exact place_q B _ _ _ _ np fp _ _ HL.out hBW _ _)) | quiet_step (first | (with_reducible exact name_q _ _ hz1 _ hnm _ _) | (with_reducible exact name_q _ _ hz2 _ hst _ _) | (with_reducible exact place_q B _ _ _ _ np fp _ _ HL.out hBW _ _)))
            refine wpQuiet_nil ?_
            intro _ hw'
            obtain ⟨⟨dq, osq⟩, hw''⟩ := hw'
            subst hw''
            go_wp2
            go_ret
            exact ⟨false, rfl, ⟨(fun h => by cases h), fun h => absurd (h.2 q hlq) (by intro h; have := h.1; rw [hnm] at this; cases this)⟩, below_end (below_of hW1.out (below_regrown _ dq osq))⟩
          · cases hab : Op.bytesLess (ff q).2.1.toList (ff q).2.2.1.toList
            · go_wp2
              refine wp_region_quiet_below (by kernel_rfl) (by kernel_rfl) ?_
              repeat (first | go_big_quiet_step (first | (with_reducible exact name_q _ _ hz1 _ hnm _ _) | (with_reducible exact name_q _ _ hz2 _ hst _ _) | (with_reducible exact place_q B _ _ _ _ np fp _ _ HL.out hBW _ _)) | quiet_step (first | (with_reducible exact name_q _ _ hz1 _ hnm _ _) | (with_reducible exact name_q _ _ hz2 _ hst _ _) | (with_reducible exact place_q B _ _ _ _ np fp _ _ HL.out hBW _ _)))
              refine wpQuiet_nil ?_
              intro _ hw'
              obtain ⟨⟨dq, osq⟩, hw''⟩ := hw'
              subst hw''
              go_wp2
              go_ret
              exact ⟨false, rfl, ⟨(fun h => by cases h), fun h => absurd (h.2 q hlq) (by intro h; have := h.2.2.1; rw [ltB, hab] at this; cases this)⟩, below_end (below_of hW1.out (below_regrown _ dq osq))⟩
            · cases hpa : decide (placeI np fp (ff q).2.1 < 0)
              · cases hpb : decide (placeI np fp (ff q).2.2.1 < 0)
                · cases hst : nameB (ff q).2.2.2
                  · go_wp2
                    refine wp_region_quiet_below (by kernel_rfl) (by kernel_rfl) ?_
                    repeat (first | go_big_quiet_step (first | (with_reducible exact name_q _ _ hz1 _ hnm _ _) | (with_reducible exact name_q _ _ hz2 _ hst _ _) | (with_reducible exact place_q B _ _ _ _ np fp _ _ HL.out hBW _ _)) | quiet_step (first | (with_reducible exact name_q _ _ hz1 _ hnm _ _) | (with_reducible exact name_q _ _ hz2 _ hst _ _) | (with_reducible exact place_q B _ _ _ _ np fp _ _ HL.out hBW _ _)))
                    refine wpQuiet_nil ?_
                    intro _ hw'
                    obtain ⟨⟨dq, osq⟩, hw''⟩ := hw'
                    subst hw''
                    go_wp2
                    go_ret
                    exact ⟨false, rfl, ⟨(fun h => by cases h), fun h => absurd (h.2 q hlq) (by intro h; have := h.2.2.2.2.2; rw [hst] at this; cases this)⟩, below_end (below_of hW1.out (below_regrown _ dq osq))⟩
                  · go_wp2
                    refine wp_region_quiet_below (by kernel_rfl) (by kernel_rfl) ?_
                    repeat (first | go_big_quiet_step (first | (with_reducible exact name_q _ _ hz1 _ hnm _ _) | (with_reducible exact name_q _ _ hz2 _ hst _ _) | (with_reducible exact place_q B _ _ _ _ np fp _ _ HL.out hBW _ _)) | quiet_step (first | (with_reducible exact name_q _ _ hz1 _ hnm _ _) | (with_reducible exact name_q _ _ hz2 _ hst _ _) | (with_reducible exact place_q B _ _ _ _ np fp _ _ HL.out hBW _ _)))
                    refine wpQuiet_nil ?_
                    intro _ hw'
                    obtain ⟨⟨dq, osq⟩, hw''⟩ := hw'
                    subst hw''
                    go_wp2
                    go_roundw
                    case rel => exact ⟨q + 1, by omega, by go_num, fun j hj => by
                      by_cases e : j = q
                      · subst e; exact ⟨hnm, fun h => by have := HK.out; omega, hab, hpa, hpb, hst⟩
                      · exact hallf.out j (by omega), below_of hW1.out (below_regrown _ dq osq)⟩
                    case measure => simp [intOf]; omega
                · go_wp2
                  refine wp_region_quiet_below (by kernel_rfl) (by kernel_rfl) ?_
                  repeat (first | go_big_quiet_step (first | (with_reducible exact name_q _ _ hz1 _ hnm _ _) | (with_reducible exact name_q _ _ hz2 _ hst _ _) | (with_reducible exact place_q B _ _ _ _ np fp _ _ HL.out hBW _ _)) | quiet_step (first | (with_reducible exact name_q _ _ hz1 _ hnm _ _) | (with_reducible exact name_q _ _ hz2 _ hst _ _) | (with_reducible exact place_q B _ _ _ _ np fp _ _ HL.out hBW _ _)))
                  refine wpQuiet_nil ?_
                  intro _ hw'
                  obtain ⟨⟨dq, osq⟩, hw''⟩ := hw'
                  subst hw''
                  go_wp2
                  go_ret
                  exact ⟨false, rfl, ⟨(fun h => by cases h), fun h => absurd (h.2 q hlq) (by intro h; have := h.2.2.2.2.1; rw [hpb] at this; cases this)⟩, below_end (below_of hW1.out (below_regrown _ dq osq))⟩
              · go_wp2
                refine wp_region_quiet_below (by kernel_rfl) (by kernel_rfl) ?_
                repeat (first | go_big_quiet_step (first | (with_reducible exact name_q _ _ hz1 _ hnm _ _) | (with_reducible exact name_q _ _ hz2 _ hst _ _) | (with_reducible exact place_q B _ _ _ _ np fp _ _ HL.out hBW _ _)) | quiet_step (first | (with_reducible exact name_q _ _ hz1 _ hnm _ _) | (with_reducible exact name_q _ _ hz2 _ hst _ _) | (with_reducible exact place_q B _ _ _ _ np fp _ _ HL.out hBW _ _)))
                refine wpQuiet_nil ?_
                intro _ hw'
                obtain ⟨⟨dq, osq⟩, hw''⟩ := hw'
                subst hw''
                go_wp2
                go_ret
                exact ⟨false, rfl, ⟨(fun h => by cases h), fun h => absurd (h.2 q hlq) (by intro h; have := h.2.2.2.1; rw [hpa] at this; cases this)⟩, below_end (below_of hW1.out (below_regrown _ dq osq))⟩
        · obtain ⟨m, rfl⟩ : ∃ m, q = m + 1 := ⟨q - 1, by omega⟩
          obtain ⟨b', off', e', hbB', hcellm⟩ := HC1.out m (by omega)
          cases e'
          have m0 : wr.cell? ⟨b, off + m * 4, none⟩ = some (.string (ff m).1) := old_in hbel.out (by omega) (by simpa [cV] using hcellm 0 (by omega))
          have p4 := fun d os => cell_regrown (cell_past m0 (by omega) (.cells #[.string (ff (m + 1)).1, .string (ff (m + 1)).2.1, .string (ff (m + 1)).2.2.1, .string (ff (m + 1)).2.2.2] 105)) d os
          have gt0 : decide ((0 : Int) < ((m : Int) + 1)) = true := by rw [decide_eq_true_eq]; omega
          cases hnm : nameB (ff (m + 1)).1
          · go_wp2
            refine wp_region_quiet_below (by kernel_rfl) (by kernel_rfl) ?_
            repeat (first | go_big_quiet_step (first | (with_reducible exact name_q _ _ hz1 _ hnm _ _) | (with_reducible exact name_q _ _ hz2 _ hst _ _) | (with_reducible exact place_q B _ _ _ _ np fp _ _ HL.out hBW _ _)) | quiet_step (first | (with_reducible exact name_q _ _ hz1 _ hnm _ _) | (with_reducible exact name_q _ _ hz2 _ hst _ _) | (with_reducible exact place_q B _ _ _ _ np fp _ _ HL.out hBW _ _)))
            refine wpQuiet_nil ?_
            intro _ hw'
            obtain ⟨⟨dq, osq⟩, hw''⟩ := hw'
            subst hw''
            go_wp2
            go_ret
            exact ⟨false, rfl, ⟨(fun h => by cases h), fun h => absurd (h.2 (m + 1) hlq) (by intro h; have := h.1; rw [hnm] at this; cases this)⟩, below_end (below_of hW1.out (below_regrown _ dq osq))⟩
          · cases hlt : Op.bytesLess (ff m).1.toList (ff (m + 1)).1.toList
            · go_wp2
              refine wp_region_quiet_below (by kernel_rfl) (by kernel_rfl) ?_
              repeat (first | go_big_quiet_step (first | (with_reducible exact name_q _ _ hz1 _ hnm _ _) | (with_reducible exact name_q _ _ hz2 _ hst _ _) | (with_reducible exact place_q B _ _ _ _ np fp _ _ HL.out hBW _ _)) | quiet_step (first | (with_reducible exact name_q _ _ hz1 _ hnm _ _) | (with_reducible exact name_q _ _ hz2 _ hst _ _) | (with_reducible exact place_q B _ _ _ _ np fp _ _ HL.out hBW _ _)))
              refine wpQuiet_nil ?_
              intro _ hw'
              obtain ⟨⟨dq, osq⟩, hw''⟩ := hw'
              subst hw''
              go_wp2
              go_ret
              exact ⟨false, rfl, ⟨(fun h => by cases h), fun h => absurd (h.2 (m + 1) hlq) (by intro h; have := h.2.1 (by omega); rw [Nat.add_sub_cancel, ltB, hlt] at this; cases this)⟩, below_end (below_of hW1.out (below_regrown _ dq osq))⟩
            · cases hab : Op.bytesLess (ff (m + 1)).2.1.toList (ff (m + 1)).2.2.1.toList
              · go_wp2
                refine wp_region_quiet_below (by kernel_rfl) (by kernel_rfl) ?_
                repeat (first | go_big_quiet_step (first | (with_reducible exact name_q _ _ hz1 _ hnm _ _) | (with_reducible exact name_q _ _ hz2 _ hst _ _) | (with_reducible exact place_q B _ _ _ _ np fp _ _ HL.out hBW _ _)) | quiet_step (first | (with_reducible exact name_q _ _ hz1 _ hnm _ _) | (with_reducible exact name_q _ _ hz2 _ hst _ _) | (with_reducible exact place_q B _ _ _ _ np fp _ _ HL.out hBW _ _)))
                refine wpQuiet_nil ?_
                intro _ hw'
                obtain ⟨⟨dq, osq⟩, hw''⟩ := hw'
                subst hw''
                go_wp2
                go_ret
                exact ⟨false, rfl, ⟨(fun h => by cases h), fun h => absurd (h.2 (m + 1) hlq) (by intro h; have := h.2.2.1; rw [ltB, hab] at this; cases this)⟩, below_end (below_of hW1.out (below_regrown _ dq osq))⟩
              · cases hpa : decide (placeI np fp (ff (m + 1)).2.1 < 0)
                · cases hpb : decide (placeI np fp (ff (m + 1)).2.2.1 < 0)
                  · cases hst : nameB (ff (m + 1)).2.2.2
                    · go_wp2
                      refine wp_region_quiet_below (by kernel_rfl) (by kernel_rfl) ?_
                      repeat (first | go_big_quiet_step (first | (with_reducible exact name_q _ _ hz1 _ hnm _ _) | (with_reducible exact name_q _ _ hz2 _ hst _ _) | (with_reducible exact place_q B _ _ _ _ np fp _ _ HL.out hBW _ _)) | quiet_step (first | (with_reducible exact name_q _ _ hz1 _ hnm _ _) | (with_reducible exact name_q _ _ hz2 _ hst _ _) | (with_reducible exact place_q B _ _ _ _ np fp _ _ HL.out hBW _ _)))
                      refine wpQuiet_nil ?_
                      intro _ hw'
                      obtain ⟨⟨dq, osq⟩, hw''⟩ := hw'
                      subst hw''
                      go_wp2
                      go_ret
                      exact ⟨false, rfl, ⟨(fun h => by cases h), fun h => absurd (h.2 (m + 1) hlq) (by intro h; have := h.2.2.2.2.2; rw [hst] at this; cases this)⟩, below_end (below_of hW1.out (below_regrown _ dq osq))⟩
                    · go_wp2
                      refine wp_region_quiet_below (by kernel_rfl) (by kernel_rfl) ?_
                      repeat (first | go_big_quiet_step (first | (with_reducible exact name_q _ _ hz1 _ hnm _ _) | (with_reducible exact name_q _ _ hz2 _ hst _ _) | (with_reducible exact place_q B _ _ _ _ np fp _ _ HL.out hBW _ _)) | quiet_step (first | (with_reducible exact name_q _ _ hz1 _ hnm _ _) | (with_reducible exact name_q _ _ hz2 _ hst _ _) | (with_reducible exact place_q B _ _ _ _ np fp _ _ HL.out hBW _ _)))
                      refine wpQuiet_nil ?_
                      intro _ hw'
                      obtain ⟨⟨dq, osq⟩, hw''⟩ := hw'
                      subst hw''
                      go_wp2
                      go_roundw
                      case rel => exact ⟨(m + 1) + 1, by omega, by go_num, fun j hj => by
                        by_cases e : j = (m + 1)
                        · subst e; exact ⟨hnm, fun _ => by rw [Nat.add_sub_cancel]; exact hlt, hab, hpa, hpb, hst⟩
                        · exact hallf.out j (by omega), below_of hW1.out (below_regrown _ dq osq)⟩
                      case measure => simp [intOf]; omega
                  · go_wp2
                    refine wp_region_quiet_below (by kernel_rfl) (by kernel_rfl) ?_
                    repeat (first | go_big_quiet_step (first | (with_reducible exact name_q _ _ hz1 _ hnm _ _) | (with_reducible exact name_q _ _ hz2 _ hst _ _) | (with_reducible exact place_q B _ _ _ _ np fp _ _ HL.out hBW _ _)) | quiet_step (first | (with_reducible exact name_q _ _ hz1 _ hnm _ _) | (with_reducible exact name_q _ _ hz2 _ hst _ _) | (with_reducible exact place_q B _ _ _ _ np fp _ _ HL.out hBW _ _)))
                    refine wpQuiet_nil ?_
                    intro _ hw'
                    obtain ⟨⟨dq, osq⟩, hw''⟩ := hw'
                    subst hw''
                    go_wp2
                    go_ret
                    exact ⟨false, rfl, ⟨(fun h => by cases h), fun h => absurd (h.2 (m + 1) hlq) (by intro h; have := h.2.2.2.2.1; rw [hpb] at this; cases this)⟩, below_end (below_of hW1.out (below_regrown _ dq osq))⟩
                · go_wp2
                  refine wp_region_quiet_below (by kernel_rfl) (by kernel_rfl) ?_
                  repeat (first | go_big_quiet_step (first | (with_reducible exact name_q _ _ hz1 _ hnm _ _) | (with_reducible exact name_q _ _ hz2 _ hst _ _) | (with_reducible exact place_q B _ _ _ _ np fp _ _ HL.out hBW _ _)) | quiet_step (first | (with_reducible exact name_q _ _ hz1 _ hnm _ _) | (with_reducible exact name_q _ _ hz2 _ hst _ _) | (with_reducible exact place_q B _ _ _ _ np fp _ _ HL.out hBW _ _)))
                  refine wpQuiet_nil ?_
                  intro _ hw'
                  obtain ⟨⟨dq, osq⟩, hw''⟩ := hw'
                  subst hw''
                  go_wp2
                  go_ret
                  exact ⟨false, rfl, ⟨(fun h => by cases h), fun h => absurd (h.2 (m + 1) hlq) (by intro h; have := h.2.2.2.1; rw [hpa] at this; cases this)⟩, below_end (below_of hW1.out (below_regrown _ dq osq))⟩
      · have hqn : q = nf := by omega
        subst hqn
        go_wp2
        go_ret
        exact ⟨true, rfl, ⟨fun _ => ⟨hl, hallf.out⟩, fun _ => rfl⟩, below_end hbel.out⟩
  · have d0 : decide ((18 : Int) < (nf : Int)) = true := by simp; omega
    go_enter Tryz.func72, Tryz.ntmps72
    go_wp2
    go_ret
    exact ⟨false, rfl, ⟨(fun h => by cases h), fun h => absurd h.1 hl⟩, (Below.refl _ _).alloc (Nat.le_refl _) _⟩

end Go.Proofs.YtndacfockllehaaGreat

/-
  What a plant's four lists hold, and a contract of the model's test whether a plant is valid.
-/
namespace Go.Proofs.YtndacfockllehaaGreat
open Go.RowKit

/-- What a plant's four lists hold. -/
structure PD where
  ns : Nat
  fs : Nat → ByteArray
  nf : Nat
  ff : Nat → ByteArray × ByteArray
  np : Nat
  fp : Nat → ByteArray × Int × ByteArray
  nv : Nat
  fv : Nat → ByteArray × ByteArray × ByteArray × ByteArray

/-- A plant's value in memory. -/
structure PAt (B : Nat) (w : World) (v0 v1 v2 v3 : Value) (D : PD) : Prop where
  s : Lst B w v0 D.ns 1 (cS D.fs)
  f : Lst B w v1 D.nf 2 (cF D.ff)
  p : Lst B w v2 D.np 3 (cP D.fp)
  v : Lst B w v3 D.nv 4 (cV D.fv)

theorem PAt.kept {B B' : Nat} {w w' : World} {v0 v1 v2 v3 : Value} {D : PD} (h : PAt B w v0 v1 v2 v3 D) (hb : Below B' w w') (hB : B ≤ B') : PAt B w' v0 v1 v2 v3 D :=
  ⟨h.s.kept hb hB, h.f.kept hb hB, h.p.kept hb hB, h.v.kept hb hB⟩

/-- No text is longer than any can be. -/
structure PD.Sz (D : PD) : Prop where
  s : ∀ i, i < D.ns → (D.fs i).size ≤ maxLen
  p : ∀ i, i < D.np → (D.fp i).1.size ≤ maxLen ∧ (D.fp i).2.2.size ≤ maxLen
  v : ∀ i, i < D.nv → (D.fv i).1.size ≤ maxLen ∧ (D.fv i).2.2.2.size ≤ maxLen

/-- A valid plant, by the model's text. -/
def PD.V (D : PD) : Prop := (D.ns ≤ 8 ∧ D.nf ≤ 12 ∧ (∀ i, i < D.ns → stuffP D.fs i) ∧ ∀ i, i < D.nf → foeP D.ns D.fs D.ff i) ∧ (D.np ≤ 14 ∧ ∀ i, i < D.np → placeP D.fp i) ∧ (D.nv ≤ 18 ∧ ∀ i, i < D.nv → valveP D.np D.fp D.fv i)

set_option maxRecDepth 100000 in
set_option maxHeartbeats 1000000 in
theorem validS_any (B : Nat) (v0 v1 v2 v3 : Value) (D : PD) (w : World) (h : PAt B w v0 v1 v2 v3 D) (hB : B ≤ w.heap.size) (hz : D.Sz) :
    Calls Tryz.prog 49 #[.agg #[v0, v1, v2, v3]] w fun e w' => ∃ b, e = .returned (.bool b) ∧ (b = true ↔ D.V) ∧ Below w.heap.size w w' := by
  have H : Hid (∀ w', Below w.heap.size w w' → PAt B w' v0 v1 v2 v3 D) := fun w' hb => h.kept hb hB
  have hb0 : Hid (Below w.heap.size w (w.alloc (.cells #[v0, v1, v2, v3] 40))) := (Below.refl _ _).alloc (Nat.le_refl _) _
  clear h
  go_enter Tryz.func49, Tryz.ntmps49
  go_wp2_with fail
  refine (stuffsS_any B v0 v1 v2 v3 D.ns D.nf D.fs D.ff _ (H.out _ hb0.out).s (H.out _ hb0.out).f (by simp; omega) hz.s).mono ?_
  rintro e w1 ⟨b1, rfl, i1, hb1⟩
  have k1 : Hid (Below w.heap.size w w1) := hb0.out.trans (hb1.mono (by simp))
  have I1 : Hid _ := i1
  clear i1
  cases b1
  · go_wp2_with fail
    go_ret
    exact ⟨false, rfl, ⟨(fun h => by cases h), fun h => I1.out.2 h.1⟩, k1.out⟩
  · have x0 := (hb1.cell (p := ⟨w.heap.size, 0, none⟩) (by simp)).trans (new_cell w #[v0, v1, v2, v3] 40 0 _ rfl)
    have x1 := (hb1.cell (p := ⟨w.heap.size, 1, none⟩) (by simp)).trans (new_cell w #[v0, v1, v2, v3] 40 1 _ rfl)
    have x2 := (hb1.cell (p := ⟨w.heap.size, 2, none⟩) (by simp)).trans (new_cell w #[v0, v1, v2, v3] 40 2 _ rfl)
    have x3 := (hb1.cell (p := ⟨w.heap.size, 3, none⟩) (by simp)).trans (new_cell w #[v0, v1, v2, v3] 40 3 _ rfl)
    have s1 : w.heap.size + 1 ≤ w1.heap.size := by have := hb1.size; simpa using this
    go_wp2_with fail
    refine (placesS_any B v0 v1 v2 v3 D.np D.fp _ (H.out _ k1.out).p (by omega) hz.p).mono ?_
    rintro e w2 ⟨b2, rfl, i2, hb2⟩
    have k2 : Hid (Below w.heap.size w w2) := k1.out.trans (hb2.mono (by omega))
    have I2 : Hid _ := i2
    clear i2
    cases b2
    · go_wp2_with fail
      go_ret
      exact ⟨false, rfl, ⟨(fun h => by cases h), fun h => I2.out.2 h.2.1⟩, k2.out⟩
    · have y0 := (hb2.cell (p := ⟨w.heap.size, 0, none⟩) (by show w.heap.size < _; omega)).trans x0
      have y1 := (hb2.cell (p := ⟨w.heap.size, 1, none⟩) (by show w.heap.size < _; omega)).trans x1
      have y2 := (hb2.cell (p := ⟨w.heap.size, 2, none⟩) (by show w.heap.size < _; omega)).trans x2
      have y3 := (hb2.cell (p := ⟨w.heap.size, 3, none⟩) (by show w.heap.size < _; omega)).trans x3
      have s2 := hb2.size
      go_wp2_with fail
      refine (valvesS_any B v0 v1 v2 v3 D.nv D.fv D.np D.fp _ (H.out _ k2.out).v (by omega) (H.out _ k2.out).p hz.v).mono ?_
      rintro e w3 ⟨b3, rfl, i3, hb3⟩
      go_wp2_with fail
      go_ret
      exact ⟨b3, rfl, ⟨fun h => ⟨by have := I1.out; simpa using this, by have := I2.out; simpa using this, i3.1 h⟩, fun h => i3.2 h.2.2⟩, k2.out.trans (hb3.mono (by omega))⟩

end Go.Proofs.YtndacfockllehaaGreat

/-
  Contracts of the program's small tests: what a name is, and how two are compared.
-/
namespace Go.Proofs.YtndacfockllehaaGreat
open Go.RowKit

theorem okn_cases (r : Int) : (r < 45 ∧ okn r = false) ∨ (r = 45 ∧ okn r = true) ∨ ((45 < r ∧ r < 48) ∧ okn r = false) ∨ ((48 ≤ r ∧ r ≤ 57) ∧ okn r = true) ∨ ((57 < r ∧ r < 97) ∧ okn r = false) ∨ ((97 ≤ r ∧ r ≤ 122) ∧ okn r = true) ∨ (122 < r ∧ okn r = false) := by
  simp only [okn, decide_eq_true_eq, decide_eq_false_iff_not]; omega

set_option maxHeartbeats 1000000 in
theorem okn_any (r : Int) (w : World) : Calls Tryz.prog 134 #[.int .i32 r] w fun e w' => e = .returned (.bool (okn r)) ∧ w' = w := by
  rcases okn_cases r with ⟨h, ho⟩ | ⟨h, ho⟩ | ⟨⟨h, h'⟩, ho⟩ | ⟨⟨h, h'⟩, ho⟩ | ⟨⟨h, h'⟩, ho⟩ | ⟨⟨h, h'⟩, ho⟩ | ⟨h, ho⟩
  · have h45 : (r == 45) = false := by simp; omega
    rw [ho]
    go_enter Tryz.func134, Tryz.ntmps134
    go_wp2
    go_ret
    exact ⟨rfl, rfl⟩
  · subst h
    rw [ho]
    go_enter Tryz.func134, Tryz.ntmps134
    go_wp2
    go_ret
    exact ⟨rfl, rfl⟩
  · have h45 : (r == 45) = false := by simp; omega
    rw [ho]
    go_enter Tryz.func134, Tryz.ntmps134
    go_wp2
    go_ret
    exact ⟨rfl, rfl⟩
  · have h45 : (r == 45) = false := by simp; omega
    rw [ho]
    go_enter Tryz.func134, Tryz.ntmps134
    go_wp2
    go_ret
    exact ⟨rfl, rfl⟩
  · have h45 : (r == 45) = false := by simp; omega
    have d57 : decide (r ≤ 57) = false := by simp; omega
    rw [ho]
    go_enter Tryz.func134, Tryz.ntmps134
    go_wp2
    go_ret
    exact ⟨rfl, rfl⟩
  · have h45 : (r == 45) = false := by simp; omega
    rw [ho]
    go_enter Tryz.func134, Tryz.ntmps134
    go_wp2
    go_ret
    exact ⟨rfl, rfl⟩
  · have h45 : (r == 45) = false := by simp; omega
    have d57 : decide (r ≤ 57) = false := by simp; omega
    have d122 : decide (r ≤ 122) = false := by simp; omega
    rw [ho]
    go_enter Tryz.func134, Tryz.ntmps134
    go_wp2
    go_ret
    exact ⟨rfl, rfl⟩

theorem rune_okn (t : ByteArray) (pos : Nat) (h : pos < t.size) : ∃ (r : Int) (wd : Nat), ((Utf8.decode t pos).1 : Int) = r ∧ (Utf8.decode t pos).2 = wd ∧ okn r = okn (t[pos].toNat : Int) ∧ (okn r = true → wd = 1) := by
  by_cases ha : (t[pos]'h).toNat < 128
  · refine ⟨_, _, rfl, rfl, ?_, fun _ => ?_⟩
    · rw [decode_ascii t pos h ha]
    · rw [decode_ascii t pos h ha]
  · have hh := decode_high t pos h (by omega)
    have e1 : okn ((Utf8.decode t pos).1 : Int) = false := by simp [okn]; omega
    have e2 : okn (t[pos].toNat : Int) = false := by simp [okn]; omega
    exact ⟨_, _, rfl, rfl, e1.trans e2.symm, fun h => by rw [e1] at h; cases h⟩

set_option maxRecDepth 100000 in
set_option maxHeartbeats 1000000 in
theorem nameI_any (s : ByteArray) (w : World) (hs : s.size ≤ maxLen) : Calls Tryz.prog 110 #[.string s] w fun e w' => e = .returned (.bool (nameB s)) ∧ Below w.heap.size w w' := by
  unfold maxLen at hs
  by_cases hl : 1 ≤ s.size ∧ s.size ≤ 8
  · have d1 : decide ((s.size : Int) < 1) = false := by simp; omega
    have d2 : decide ((8 : Int) < (s.size : Int)) = false := by simp; omega
    go_enter Tryz.func110, Tryz.ntmps110
    go_wp2
    go_loopw [4] (fun _ wr => ∃ pos : Nat, pos ≤ s.size ∧ wr = w.iter s pos ∧ Hid (∀ j (hj : j < s.size), j < pos → okn s[j].toNat = true)) (fun _ wr => s.size - wr.iterPos w.heap.size)
    case atStart => exact ⟨0, Nat.zero_le _, rfl, fun _ _ h => by omega⟩
    case round =>
      obtain ⟨pos, hpos, rfl, hno⟩ := hrel
      by_cases hp : pos < s.size
      · obtain ⟨r, wd, hr1, hr2, hr3, hr4⟩ := rune_okn s pos hp
        have hnx : ∀ ty, (Instr.next (.pointer (some ⟨w.heap.size, 0, none⟩)) true ty).run Tryz.prog (w.iter s pos) = .ok (.tuple #[.bool true, .int .i64 pos, .int .i32 r]) (w.iter s (pos + wd)) := fun ty => by
          rw [run_next_any w s pos ty hp, hr1, hr2]
        clear hr1 hr2
        have H3 : Hid _ := hr3
        have H4 : Hid _ := hr4
        clear hr3 hr4
        cases hok : okn r
        · have hnb := name_bad hp (by rw [← H3.out]; exact hok)
          have HN : Hid _ := hnb
          clear hnb
          go_wp2_with (go_at_call 134; refine (okn_any _ _).mono ?_; rintro e w1 ⟨rfl, rfl⟩; rw [hok])
          rw [HN.out]
          go_ret
          exact ⟨rfl, (Below.refl _ w).alloc (Nat.le_refl _) _⟩
        · have hw1 := H4.out hok
          subst hw1
          go_wp2_with (go_at_call 134; refine (okn_any _ _).mono ?_; rintro e w1 ⟨rfl, rfl⟩; rw [hok])
          go_roundw
          case rel => exact ⟨pos + 1, by omega, rfl, fun j hj hjp => by
            by_cases e : j = pos
            · subst e; rw [← H3.out]; exact hok
            · exact hno.out j hj (by omega)⟩
          case measure => simp; omega
      · have hnx : ∀ ty, (Instr.next (.pointer (some ⟨w.heap.size, 0, none⟩)) true ty).run Tryz.prog (w.iter s pos) = .ok (.tuple #[.bool false]) (w.iter s pos) := fun ty => run_next_end w s pos ty hp
        have hnm := name_all hl (fun j hj => hno.out j hj (by omega))
        have HN : Hid _ := hnm
        clear hnm
        go_wp2
        rw [HN.out]
        go_ret
        exact ⟨rfl, (Below.refl _ w).alloc (Nat.le_refl _) _⟩
  · rw [name_short hl]
    by_cases h1 : s.size < 1
    · have d1 : decide ((s.size : Int) < 1) = true := by simp; omega
      go_enter Tryz.func110, Tryz.ntmps110
      go_wp2
      go_ret
      exact ⟨rfl, Below.refl _ _⟩
    · have d1 : decide ((s.size : Int) < 1) = false := by simp; omega
      have d2 : decide ((8 : Int) < (s.size : Int)) = true := by simp; omega
      go_enter Tryz.func110, Tryz.ntmps110
      go_wp2
      go_ret
      exact ⟨rfl, Below.refl _ _⟩

/-- How two texts are compared: below 0, 0, or above. -/
def cmpB (a b : ByteArray) : Int := Lib.compareBytes a.data.toList b.data.toList
/-- And two pairs of texts. -/
def cmpF (a b : ByteArray × ByteArray) : Int := if cmpB a.1 b.1 = 0 then cmpB a.2 b.2 else cmpB a.1 b.1

theorem cmp_list : ∀ a b : List UInt8, (Lib.compareBytes a b < 0 ↔ Op.bytesLess a b = true) ∧ (Lib.compareBytes a b = 0 ↔ a = b)
  | [], [] => by simp [Lib.compareBytes, Op.bytesLess]
  | [], _ :: _ => by simp [Lib.compareBytes, Op.bytesLess]
  | _ :: _, [] => by simp [Lib.compareBytes, Op.bytesLess]
  | x :: a, y :: b => by
    obtain ⟨h1, h2⟩ := cmp_list a b
    unfold Lib.compareBytes Op.bytesLess
    by_cases hxy : x = y
    · subst hxy
      have hlt : ¬ x < x := UInt8.lt_irrefl x
      simp [hlt, h1, h2]
    · by_cases hlt : x < y
      · simp [hlt, hxy]
      · have hgt : y < x := UInt8.lt_of_le_of_ne (UInt8.not_lt.1 hlt) (Ne.symm hxy)
        simp [hlt, hgt, hxy]

theorem cmpB_lt (a b : ByteArray) : cmpB a b < 0 ↔ ltB a b = true := by
  rw [cmpB, ltB, ByteArray.toList_eq, ByteArray.toList_eq]; exact (cmp_list _ _).1
theorem cmpB_eq (a b : ByteArray) : cmpB a b = 0 ↔ eqB a b = true := by
  rw [cmpB, eqB, ByteArray.toList_eq, ByteArray.toList_eq, beq_iff_eq]; exact (cmp_list _ _).2
theorem cmpB_ge (a b : ByteArray) : decide (0 ≤ cmpB a b) = !ltB a b := by
  rw [Bool.eq_iff_iff]
  have := cmpB_lt a b
  cases h : ltB a b <;> simp [h] at this ⊢ <;> omega
theorem cmpF_ge (a b : ByteArray × ByteArray) : decide (0 ≤ cmpF a b) = !befB a b := by
  have h1 := cmpB_lt a.1 b.1
  have h2 := cmpB_eq a.1 b.1
  have h3 := cmpB_lt a.2 b.2
  rw [Bool.eq_iff_iff]
  unfold cmpF befB
  by_cases he : cmpB a.1 b.1 = 0
  · have e1 : eqB a.1 b.1 = true := h2.1 he
    have e2 : ltB a.1 b.1 = false := by
      cases h : ltB a.1 b.1
      · rfl
      · have := h1.2 h; omega
    cases h : ltB a.2 b.2 <;> simp [he, e1, e2, h] at h3 ⊢ <;> omega
  · have e1 : eqB a.1 b.1 = false := by
      cases h : eqB a.1 b.1
      · rfl
      · exact absurd (h2.2 h) he
    cases h : ltB a.1 b.1 <;> simp [he, e1, h] at h1 ⊢ <;> omega

set_option maxRecDepth 100000 in
set_option maxHeartbeats 1000000 in
theorem cmpS0_any (a b : ByteArray) (w : World) : Calls Tryz.prog 131 #[.string a, .string b] w fun e w' => e = .returned (.int .i64 (cmpB a b)) ∧ w' = w := by
  go_enter Tryz.func131, Tryz.ntmps131
  go_wp2
  rw [run_callFunc_extern Tryz.func141 (by kernel_rfl) (by kernel_rfl) (by kernel_rfl) (e := Extern.BytealgCompare.compare) (by kernel_rfl), Lib.run_compareString]
  simp only [Result.andThen]
  rw [Oper.upon_value]
  go_wp2
  go_ret
  exact ⟨rfl, rfl⟩

set_option maxRecDepth 100000 in
set_option maxHeartbeats 1000000 in
theorem cmpS_any (a b : ByteArray) (w : World) : Calls Tryz.prog 100 #[.string a, .string b] w fun e w' => e = .returned (.int .i64 (cmpB a b)) ∧ w' = w := by
  go_enter Tryz.func100, Tryz.ntmps100
  go_wp2_with (go_at_call 131; refine (cmpS0_any _ _ _).mono ?_; rintro e w1 ⟨rfl, rfl⟩)
  go_ret
  exact ⟨rfl, rfl⟩

set_option maxRecDepth 100000 in
set_option maxHeartbeats 1000000 in
theorem cmpP_any (a s b u : ByteArray) (c d : Int) (w : World) : Calls Tryz.prog 115 #[.agg #[.string a, .int .i64 c, .string s], .agg #[.string b, .int .i64 d, .string u]] w fun e w' => e = .returned (.int .i64 (cmpB a b)) ∧ Below w.heap.size w w' := by
  go_enter Tryz.func115, Tryz.ntmps115
  go_wp2_with (go_at_call 100; refine (cmpS_any _ _ _).mono ?_; rintro e w1 ⟨rfl, rfl⟩)
  go_ret
  exact ⟨rfl, ((Below.refl _ _).alloc (Nat.le_refl _) _).alloc (by simp) _⟩

set_option maxRecDepth 100000 in
set_option maxHeartbeats 1000000 in
theorem cmpV_any (a a1 a2 a3 b b1 b2 b3 : ByteArray) (w : World) : Calls Tryz.prog 117 #[.agg #[.string a, .string a1, .string a2, .string a3], .agg #[.string b, .string b1, .string b2, .string b3]] w fun e w' => e = .returned (.int .i64 (cmpB a b)) ∧ Below w.heap.size w w' := by
  go_enter Tryz.func117, Tryz.ntmps117
  go_wp2_with (go_at_call 100; refine (cmpS_any _ _ _).mono ?_; rintro e w1 ⟨rfl, rfl⟩)
  go_ret
  exact ⟨rfl, ((Below.refl _ _).alloc (Nat.le_refl _) _).alloc (by simp) _⟩

set_option maxRecDepth 100000 in
set_option maxHeartbeats 1000000 in
theorem or_any (x y : Int) (g : Nat) (w : World) (h0 : w.cell? ⟨g, 0, none⟩ = some (.int .i64 x)) (h1 : w.cell? ⟨g, 1, none⟩ = some (.int .i64 y)) :
    Calls Tryz.prog 135 #[.slice (some ⟨g, 0, none⟩) 2 2] w fun e w' => e = .returned (.int .i64 (if x = 0 then y else x)) ∧ w' = w := by
  obtain ⟨r, hr⟩ : ∃ r : Int, r = if x = 0 then y else x := ⟨_, rfl⟩
  rw [← hr]
  have HR : Hid (r = if x = 0 then y else x) := hr
  clear hr
  go_enter Tryz.func135, Tryz.ntmps135
  go_wp2
  go_loop [8] (fun i => i = .int .i64 0 ∨ (i = .int .i64 1 ∧ Hid (x = 0)) ∨ (i = .int .i64 2 ∧ Hid (x = 0) ∧ Hid (y = 0))) (fun i => 2 - (intOf i).toNat)
  case atStart => exact Or.inl rfl
  case round =>
    rcases hrel with rfl | ⟨rfl, hx⟩ | ⟨rfl, hx, hy⟩
    · by_cases hx : x = 0
      · have hx0 : (x == 0) = true := by simpa using hx
        go_wp2
        go_round
        case rel => exact Or.inr (Or.inl ⟨by go_num, hx⟩)
        case measure => simp [intOf]
      · have hx' : (x == 0) = false := by simpa using hx
        go_wp2
        go_ret
        exact ⟨by rw [HR.out, if_neg hx]; rfl, rfl⟩
    · by_cases hy : y = 0
      · have hy0 : (y == 0) = true := by simpa using hy
        go_wp2
        go_round
        case rel => exact Or.inr (Or.inr ⟨by go_num, hx.out, hy⟩)
        case measure => simp [intOf]
      · have hy' : (y == 0) = false := by simpa using hy
        go_wp2
        go_ret
        exact ⟨by rw [HR.out, if_pos hx.out]; rfl, rfl⟩
    · go_wp2
      go_ret
      exact ⟨by rw [HR.out, if_pos hx.out, hy.out]; rfl, rfl⟩

theorem pair_cell (w : World) (o1 o2 : Obj) (x y : Value) (k : Nat) (v : Value) (hk : (#[x, y] : Array Value)[k]? = some v) :
    (((w.alloc o1).alloc o2).alloc (.cells #[x, y] 3)).drew.cell? ⟨w.heap.size + 1 + 1, k, none⟩ = some v := by
  have e : ((w.alloc o1).alloc o2).heap.size = w.heap.size + 1 + 1 := by simp
  rw [← e]
  exact new_cell ((w.alloc o1).alloc o2) #[x, y] 3 k v hk

theorem or_at (w : World) (o1 o2 : Obj) (a1 a2 b1 b2 : ByteArray) :
    Calls Tryz.prog 135 #[.slice (some ⟨w.heap.size + 1 + 1, 0, none⟩) 2 2] (((w.alloc o1).alloc o2).alloc (.cells #[.int .i64 (cmpB a1 b1), .int .i64 (cmpB a2 b2)] 3)).drew fun e w' => e = .returned (.int .i64 (cmpF (a1, a2) (b1, b2))) ∧ w' = (((w.alloc o1).alloc o2).alloc (.cells #[.int .i64 (cmpB a1 b1), .int .i64 (cmpB a2 b2)] 3)).drew :=
  or_any (cmpB a1 b1) (cmpB a2 b2) _ _ (pair_cell w o1 o2 _ _ 0 _ rfl) (pair_cell w o1 o2 _ _ 1 _ rfl)

end Go.Proofs.YtndacfockllehaaGreat
