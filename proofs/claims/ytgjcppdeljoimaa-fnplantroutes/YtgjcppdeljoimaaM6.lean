/-
  Several texts in one.
-/
import Derived.Test.YtgjcppdeljoimaaM5
import Derived.Test.YtgjcppdeljoimaaM2
namespace Go.Proofs.Ytgjcppdeljoimaa
open Go.RowKit
set_option maxRecDepth 100000 in
set_option maxHeartbeats 16000000 in
theorem valvesS_any (B : Nat) (v0 v1 v2 v3 : Value) (nf : Nat) (ff : Nat → ByteArray × ByteArray × ByteArray × ByteArray) (np : Nat) (fp : Nat → ByteArray × Int × ByteArray) (w : World) (h1 : Lst B w v3 nf 4 (cV ff)) (hB : B ≤ w.heap.size) (h0 : Lst B w v2 np 3 (cP fp)) (hz : ∀ i, i < nf → (ff i).1.size ≤ maxLen ∧ (ff i).2.2.2.size ≤ maxLen) :
    Calls Try.prog 41 #[.agg #[v0, v1, v2, v3]] w fun e w' => ∃ b, e = .returned (.bool b) ∧ (b = true ↔ nf ≤ 18 ∧ ∀ i, i < nf → valveP np fp ff i) ∧ Below w.heap.size w w' := by
  have H0 : Hid (Lst B w v2 np 3 (cP fp)) := h0
  clear h0
  obtain ⟨o1, cap1, rfl, hn1, hc1⟩ := h1
  unfold maxLen at hn1
  have HC1 : Hid _ := hc1
  have HZ : Hid _ := hz
  clear hc1 hz
  by_cases hl : nf ≤ 18
  · have d0 : decide ((18 : Int) < (nf : Int)) = false := by simp; omega
    go_enter Try.func41, Try.ntmps41
    go_wp2
    go_loopw [3] (fun i wr => ∃ q : Nat, q ≤ nf ∧ i = .int .i64 q ∧ Hid (∀ j, j < q → valveP np fp ff j) ∧ Hid (Below (w.heap.size + 1) (w.alloc (.cells #[v0, v1, v2, .slice o1 nf cap1] 28)) wr)) (fun i _ => nf - (intOf i).toNat)
    case atStart => exact ⟨0, Nat.zero_le _, rfl, fun _ h => by omega, Below.refl _ _⟩
    case round =>
      obtain ⟨q, hq, rfl, hallf, hbel⟩ := hrel
      have b0 := box_in hbel.out 0 _ rfl
      have b1 := box_in hbel.out 1 _ rfl
      have b2 := box_in hbel.out 2 _ rfl
      have b3 := box_in hbel.out 3 _ rfl
      simp only [List.getElem_toArray, List.getElem_cons_zero, List.getElem_cons_succ] at b0 b1 b2 b3
      by_cases hlq : q < nf
      · obtain ⟨b, off, rfl, hbB, hcell⟩ := HC1.out q hlq
        have hsz : w.heap.size + 1 ≤ wr.heap.size := by have := hbel.out.size; simpa using this
        obtain ⟨hz1, hz2⟩ := HZ.out q hlq
        have e0 : wr.cell? ⟨b, off + q * 4, none⟩ = some (.string (ff q).1) := old_in hbel.out (by omega) (by simpa [cV] using hcell 0 (by omega))
        have e1 : wr.cell? ⟨b, off + q * 4 + 1, none⟩ = some (.string (ff q).2.1) := old_in hbel.out (by omega) (by simpa [cV] using hcell 1 (by omega))
        have e2 : wr.cell? ⟨b, off + q * 4 + 2, none⟩ = some (.string (ff q).2.2.1) := old_in hbel.out (by omega) (by simpa [cV] using hcell 2 (by omega))
        have e3 : wr.cell? ⟨b, off + q * 4 + 3, none⟩ = some (.string (ff q).2.2.2) := old_in hbel.out (by omega) (by simpa [cV] using hcell 3 (by omega))
        have hW1 : Hid (Below (w.heap.size + 1) (w.alloc (.cells #[v0, v1, v2, .slice (some ⟨b, off, none⟩) nf cap1] 28)) (wr.alloc (.cells #[.string (ff q).1, .string (ff q).2.1, .string (ff q).2.2.1, .string (ff q).2.2.2] 53))) := hbel.out.alloc (by omega) _
        have HL : Hid (Lst B (wr.alloc (.cells #[.string (ff q).1, .string (ff q).2.1, .string (ff q).2.2.1, .string (ff q).2.2.2] 53)) v2 np 3 (cP fp)) := H0.out.kept (below_end hW1.out) hB
        have hBW : B ≤ (wr.alloc (.cells #[.string (ff q).1, .string (ff q).2.1, .string (ff q).2.2.1, .string (ff q).2.2.2] 53)).heap.size := by simp; omega
        have p0 := fun d os => cell_regrown (cell_past b0 (by omega) (.cells #[.string (ff q).1, .string (ff q).2.1, .string (ff q).2.2.1, .string (ff q).2.2.2] 53)) d os
        have p1 := fun d os => cell_regrown (cell_past b1 (by omega) (.cells #[.string (ff q).1, .string (ff q).2.1, .string (ff q).2.2.1, .string (ff q).2.2.2] 53)) d os
        have p2 := fun d os => cell_regrown (cell_past b2 (by omega) (.cells #[.string (ff q).1, .string (ff q).2.1, .string (ff q).2.2.1, .string (ff q).2.2.2] 53)) d os
        have p3 := fun d os => cell_regrown (cell_past b3 (by omega) (.cells #[.string (ff q).1, .string (ff q).2.1, .string (ff q).2.2.1, .string (ff q).2.2.2] 53)) d os
        have n0 := fun d os => cell_regrown (new_cell wr #[.string (ff q).1, .string (ff q).2.1, .string (ff q).2.2.1, .string (ff q).2.2.2] 53 0 _ rfl) d os
        have n1 := fun d os => cell_regrown (new_cell wr #[.string (ff q).1, .string (ff q).2.1, .string (ff q).2.2.1, .string (ff q).2.2.2] 53 1 _ rfl) d os
        have n2 := fun d os => cell_regrown (new_cell wr #[.string (ff q).1, .string (ff q).2.1, .string (ff q).2.2.1, .string (ff q).2.2.2] 53 2 _ rfl) d os
        have n3 := fun d os => cell_regrown (new_cell wr #[.string (ff q).1, .string (ff q).2.1, .string (ff q).2.2.1, .string (ff q).2.2.2] 53 3 _ rfl) d os
        by_cases hq0 : q = 0
        · have gt0 : decide (0 < q) = false := by simp; omega
          have HK : Hid (q = 0) := hq0
          clear hq0
          cases hnm : nameB (ff q).1
          · go_wp2
            refine wp_region_quiet_below (by kernel_rfl) (by kernel_rfl) ?_
            repeat (first | go_big_quiet_step (first | (with_reducible exact name_q _ _ hz1 _ hnm _ _) | (with_reducible exact name_q _ _ hz2 _ hst _ _) | (with_reducible exact place_q B _ _ _ _ np fp _ _ HL.out hBW _ _)) | quiet_step (first | (with_reducible exact name_q _ _ hz1 _ hnm _ _) | (with_reducible exact name_q _ _ hz2 _ hst _ _) | (with_reducible exact place_q B _ _ _ _ np fp _ _ HL.out hBW _ _)))
            refine wpQuiet_nil ?_
            intro _ hw'
            obtain ⟨⟨dq, osq⟩, hw''⟩ := hw'
            subst hw''
            go_wp2
            go_ret
            exact ⟨false, rfl, ⟨(fun h => by cases h), fun h => absurd (h.2 q hlq) (by intro h; have := h.1; rw [hnm] at this; cases this)⟩, below_end (below_of hW1.out (below_regrown _ dq osq))⟩
          · cases hab : Op.bytesLess (ff q).2.1.toList (ff q).2.2.1.toList
            · go_wp2
              refine wp_region_quiet_below (by kernel_rfl) (by kernel_rfl) ?_
              repeat (first | go_big_quiet_step (first | (with_reducible exact name_q _ _ hz1 _ hnm _ _) | (with_reducible exact name_q _ _ hz2 _ hst _ _) | (with_reducible exact place_q B _ _ _ _ np fp _ _ HL.out hBW _ _)) | quiet_step (first | (with_reducible exact name_q _ _ hz1 _ hnm _ _) | (with_reducible exact name_q _ _ hz2 _ hst _ _) | (with_reducible exact place_q B _ _ _ _ np fp _ _ HL.out hBW _ _)))
              refine wpQuiet_nil ?_
              intro _ hw'
              obtain ⟨⟨dq, osq⟩, hw''⟩ := hw'
              subst hw''
              go_wp2
              go_ret
              exact ⟨false, rfl, ⟨(fun h => by cases h), fun h => absurd (h.2 q hlq) (by intro h; have := h.2.2.1; rw [ltB, hab] at this; cases this)⟩, below_end (below_of hW1.out (below_regrown _ dq osq))⟩
            · cases hpa : decide (placeI np fp (ff q).2.1 < 0)
              · cases hpb : decide (placeI np fp (ff q).2.2.1 < 0)
                · cases hst : nameB (ff q).2.2.2
                  · go_wp2
                    refine wp_region_quiet_below (by kernel_rfl) (by kernel_rfl) ?_
                    repeat (first | go_big_quiet_step (first | (with_reducible exact name_q _ _ hz1 _ hnm _ _) | (with_reducible exact name_q _ _ hz2 _ hst _ _) | (with_reducible exact place_q B _ _ _ _ np fp _ _ HL.out hBW _ _)) | quiet_step (first | (with_reducible exact name_q _ _ hz1 _ hnm _ _) | (with_reducible exact name_q _ _ hz2 _ hst _ _) | (with_reducible exact place_q B _ _ _ _ np fp _ _ HL.out hBW _ _)))
                    refine wpQuiet_nil ?_
                    intro _ hw'
                    obtain ⟨⟨dq, osq⟩, hw''⟩ := hw'
                    subst hw''
                    go_wp2
                    go_ret
                    exact ⟨false, rfl, ⟨(fun h => by cases h), fun h => absurd (h.2 q hlq) (by intro h; have := h.2.2.2.2.2; rw [hst] at this; cases this)⟩, below_end (below_of hW1.out (below_regrown _ dq osq))⟩
                  · go_wp2
                    refine wp_region_quiet_below (by kernel_rfl) (by kernel_rfl) ?_
                    repeat (first | go_big_quiet_step (first | (with_reducible exact name_q _ _ hz1 _ hnm _ _) | (with_reducible exact name_q _ _ hz2 _ hst _ _) | (with_reducible exact place_q B _ _ _ _ np fp _ _ HL.out hBW _ _)) | quiet_step (first | (with_reducible exact name_q _ _ hz1 _ hnm _ _) | (with_reducible exact name_q _ _ hz2 _ hst _ _) | (with_reducible exact place_q B _ _ _ _ np fp _ _ HL.out hBW _ _)))
                    refine wpQuiet_nil ?_
                    intro _ hw'
                    obtain ⟨⟨dq, osq⟩, hw''⟩ := hw'
                    subst hw''
                    go_wp2
                    go_roundw
                    case rel => exact ⟨q + 1, by omega, by go_num, fun j hj => by
                      by_cases e : j = q
                      · subst e; exact ⟨hnm, fun h => by have := HK.out; omega, hab, hpa, hpb, hst⟩
                      · exact hallf.out j (by omega), below_of hW1.out (below_regrown _ dq osq)⟩
                    case measure => simp [intOf]; omega
                · go_wp2
                  refine wp_region_quiet_below (by kernel_rfl) (by kernel_rfl) ?_
                  repeat (first | go_big_quiet_step (first | (with_reducible exact name_q _ _ hz1 _ hnm _ _) | (with_reducible exact name_q _ _ hz2 _ hst _ _) | (with_reducible exact place_q B _ _ _ _ np fp _ _ HL.out hBW _ _)) | quiet_step (first | (with_reducible exact name_q _ _ hz1 _ hnm _ _) | (with_reducible exact name_q _ _ hz2 _ hst _ _) | (with_reducible exact place_q B _ _ _ _ np fp _ _ HL.out hBW _ _)))
                  refine wpQuiet_nil ?_
                  intro _ hw'
                  obtain ⟨⟨dq, osq⟩, hw''⟩ := hw'
                  subst hw''
                  go_wp2
                  go_ret
                  exact ⟨false, rfl, ⟨(fun h => by cases h), fun h => absurd (h.2 q hlq) (by intro h; have := h.2.2.2.2.1; rw [hpb] at this; cases this)⟩, below_end (below_of hW1.out (below_regrown _ dq osq))⟩
              · go_wp2
                refine wp_region_quiet_below (by kernel_rfl) (by kernel_rfl) ?_
                repeat (first | go_big_quiet_step (first | (with_reducible exact name_q _ _ hz1 _ hnm _ _) | (with_reducible exact name_q _ _ hz2 _ hst _ _) | (with_reducible exact place_q B _ _ _ _ np fp _ _ HL.out hBW _ _)) | quiet_step (first | (with_reducible exact name_q _ _ hz1 _ hnm _ _) | (with_reducible exact name_q _ _ hz2 _ hst _ _) | (with_reducible exact place_q B _ _ _ _ np fp _ _ HL.out hBW _ _)))
                refine wpQuiet_nil ?_
                intro _ hw'
                obtain ⟨⟨dq, osq⟩, hw''⟩ := hw'
                subst hw''
                go_wp2
                go_ret
                exact ⟨false, rfl, ⟨(fun h => by cases h), fun h => absurd (h.2 q hlq) (by intro h; have := h.2.2.2.1; rw [hpa] at this; cases this)⟩, below_end (below_of hW1.out (below_regrown _ dq osq))⟩
        · obtain ⟨m, rfl⟩ : ∃ m, q = m + 1 := ⟨q - 1, by omega⟩
          obtain ⟨b', off', e', hbB', hcellm⟩ := HC1.out m (by omega)
          cases e'
          have m0 : wr.cell? ⟨b, off + m * 4, none⟩ = some (.string (ff m).1) := old_in hbel.out (by omega) (by simpa [cV] using hcellm 0 (by omega))
          have p4 := fun d os => cell_regrown (cell_past m0 (by omega) (.cells #[.string (ff (m + 1)).1, .string (ff (m + 1)).2.1, .string (ff (m + 1)).2.2.1, .string (ff (m + 1)).2.2.2] 53)) d os
          have gt0 : decide ((0 : Int) < ((m : Int) + 1)) = true := by rw [decide_eq_true_eq]; omega
          cases hnm : nameB (ff (m + 1)).1
          · go_wp2
            refine wp_region_quiet_below (by kernel_rfl) (by kernel_rfl) ?_
            repeat (first | go_big_quiet_step (first | (with_reducible exact name_q _ _ hz1 _ hnm _ _) | (with_reducible exact name_q _ _ hz2 _ hst _ _) | (with_reducible exact place_q B _ _ _ _ np fp _ _ HL.out hBW _ _)) | quiet_step (first | (with_reducible exact name_q _ _ hz1 _ hnm _ _) | (with_reducible exact name_q _ _ hz2 _ hst _ _) | (with_reducible exact place_q B _ _ _ _ np fp _ _ HL.out hBW _ _)))
            refine wpQuiet_nil ?_
            intro _ hw'
            obtain ⟨⟨dq, osq⟩, hw''⟩ := hw'
            subst hw''
            go_wp2
            go_ret
            exact ⟨false, rfl, ⟨(fun h => by cases h), fun h => absurd (h.2 (m + 1) hlq) (by intro h; have := h.1; rw [hnm] at this; cases this)⟩, below_end (below_of hW1.out (below_regrown _ dq osq))⟩
          · cases hlt : Op.bytesLess (ff m).1.toList (ff (m + 1)).1.toList
            · go_wp2
              refine wp_region_quiet_below (by kernel_rfl) (by kernel_rfl) ?_
              repeat (first | go_big_quiet_step (first | (with_reducible exact name_q _ _ hz1 _ hnm _ _) | (with_reducible exact name_q _ _ hz2 _ hst _ _) | (with_reducible exact place_q B _ _ _ _ np fp _ _ HL.out hBW _ _)) | quiet_step (first | (with_reducible exact name_q _ _ hz1 _ hnm _ _) | (with_reducible exact name_q _ _ hz2 _ hst _ _) | (with_reducible exact place_q B _ _ _ _ np fp _ _ HL.out hBW _ _)))
              refine wpQuiet_nil ?_
              intro _ hw'
              obtain ⟨⟨dq, osq⟩, hw''⟩ := hw'
              subst hw''
              go_wp2
              go_ret
              exact ⟨false, rfl, ⟨(fun h => by cases h), fun h => absurd (h.2 (m + 1) hlq) (by intro h; have := h.2.1 (by omega); rw [Nat.add_sub_cancel, ltB, hlt] at this; cases this)⟩, below_end (below_of hW1.out (below_regrown _ dq osq))⟩
            · cases hab : Op.bytesLess (ff (m + 1)).2.1.toList (ff (m + 1)).2.2.1.toList
              · go_wp2
                refine wp_region_quiet_below (by kernel_rfl) (by kernel_rfl) ?_
                repeat (first | go_big_quiet_step (first | (with_reducible exact name_q _ _ hz1 _ hnm _ _) | (with_reducible exact name_q _ _ hz2 _ hst _ _) | (with_reducible exact place_q B _ _ _ _ np fp _ _ HL.out hBW _ _)) | quiet_step (first | (with_reducible exact name_q _ _ hz1 _ hnm _ _) | (with_reducible exact name_q _ _ hz2 _ hst _ _) | (with_reducible exact place_q B _ _ _ _ np fp _ _ HL.out hBW _ _)))
                refine wpQuiet_nil ?_
                intro _ hw'
                obtain ⟨⟨dq, osq⟩, hw''⟩ := hw'
                subst hw''
                go_wp2
                go_ret
                exact ⟨false, rfl, ⟨(fun h => by cases h), fun h => absurd (h.2 (m + 1) hlq) (by intro h; have := h.2.2.1; rw [ltB, hab] at this; cases this)⟩, below_end (below_of hW1.out (below_regrown _ dq osq))⟩
              · cases hpa : decide (placeI np fp (ff (m + 1)).2.1 < 0)
                · cases hpb : decide (placeI np fp (ff (m + 1)).2.2.1 < 0)
                  · cases hst : nameB (ff (m + 1)).2.2.2
                    · go_wp2
                      refine wp_region_quiet_below (by kernel_rfl) (by kernel_rfl) ?_
                      repeat (first | go_big_quiet_step (first | (with_reducible exact name_q _ _ hz1 _ hnm _ _) | (with_reducible exact name_q _ _ hz2 _ hst _ _) | (with_reducible exact place_q B _ _ _ _ np fp _ _ HL.out hBW _ _)) | quiet_step (first | (with_reducible exact name_q _ _ hz1 _ hnm _ _) | (with_reducible exact name_q _ _ hz2 _ hst _ _) | (with_reducible exact place_q B _ _ _ _ np fp _ _ HL.out hBW _ _)))
                      refine wpQuiet_nil ?_
                      intro _ hw'
                      obtain ⟨⟨dq, osq⟩, hw''⟩ := hw'
                      subst hw''
                      go_wp2
                      go_ret
                      exact ⟨false, rfl, ⟨(fun h => by cases h), fun h => absurd (h.2 (m + 1) hlq) (by intro h; have := h.2.2.2.2.2; rw [hst] at this; cases this)⟩, below_end (below_of hW1.out (below_regrown _ dq osq))⟩
                    · go_wp2
                      refine wp_region_quiet_below (by kernel_rfl) (by kernel_rfl) ?_
                      repeat (first | go_big_quiet_step (first | (with_reducible exact name_q _ _ hz1 _ hnm _ _) | (with_reducible exact name_q _ _ hz2 _ hst _ _) | (with_reducible exact place_q B _ _ _ _ np fp _ _ HL.out hBW _ _)) | quiet_step (first | (with_reducible exact name_q _ _ hz1 _ hnm _ _) | (with_reducible exact name_q _ _ hz2 _ hst _ _) | (with_reducible exact place_q B _ _ _ _ np fp _ _ HL.out hBW _ _)))
                      refine wpQuiet_nil ?_
                      intro _ hw'
                      obtain ⟨⟨dq, osq⟩, hw''⟩ := hw'
                      subst hw''
                      go_wp2
                      go_roundw
                      case rel => exact ⟨(m + 1) + 1, by omega, by go_num, fun j hj => by
                        by_cases e : j = (m + 1)
                        · subst e; exact ⟨hnm, fun _ => by rw [Nat.add_sub_cancel]; exact hlt, hab, hpa, hpb, hst⟩
                        · exact hallf.out j (by omega), below_of hW1.out (below_regrown _ dq osq)⟩
                      case measure => simp [intOf]; omega
                  · go_wp2
                    refine wp_region_quiet_below (by kernel_rfl) (by kernel_rfl) ?_
                    repeat (first | go_big_quiet_step (first | (with_reducible exact name_q _ _ hz1 _ hnm _ _) | (with_reducible exact name_q _ _ hz2 _ hst _ _) | (with_reducible exact place_q B _ _ _ _ np fp _ _ HL.out hBW _ _)) | quiet_step (first | (with_reducible exact name_q _ _ hz1 _ hnm _ _) | (with_reducible exact name_q _ _ hz2 _ hst _ _) | (with_reducible exact place_q B _ _ _ _ np fp _ _ HL.out hBW _ _)))
                    refine wpQuiet_nil ?_
                    intro _ hw'
                    obtain ⟨⟨dq, osq⟩, hw''⟩ := hw'
                    subst hw''
                    go_wp2
                    go_ret
                    exact ⟨false, rfl, ⟨(fun h => by cases h), fun h => absurd (h.2 (m + 1) hlq) (by intro h; have := h.2.2.2.2.1; rw [hpb] at this; cases this)⟩, below_end (below_of hW1.out (below_regrown _ dq osq))⟩
                · go_wp2
                  refine wp_region_quiet_below (by kernel_rfl) (by kernel_rfl) ?_
                  repeat (first | go_big_quiet_step (first | (with_reducible exact name_q _ _ hz1 _ hnm _ _) | (with_reducible exact name_q _ _ hz2 _ hst _ _) | (with_reducible exact place_q B _ _ _ _ np fp _ _ HL.out hBW _ _)) | quiet_step (first | (with_reducible exact name_q _ _ hz1 _ hnm _ _) | (with_reducible exact name_q _ _ hz2 _ hst _ _) | (with_reducible exact place_q B _ _ _ _ np fp _ _ HL.out hBW _ _)))
                  refine wpQuiet_nil ?_
                  intro _ hw'
                  obtain ⟨⟨dq, osq⟩, hw''⟩ := hw'
                  subst hw''
                  go_wp2
                  go_ret
                  exact ⟨false, rfl, ⟨(fun h => by cases h), fun h => absurd (h.2 (m + 1) hlq) (by intro h; have := h.2.2.2.1; rw [hpa] at this; cases this)⟩, below_end (below_of hW1.out (below_regrown _ dq osq))⟩
      · have hqn : q = nf := by omega
        subst hqn
        go_wp2
        go_ret
        exact ⟨true, rfl, ⟨fun _ => ⟨hl, hallf.out⟩, fun _ => rfl⟩, below_end hbel.out⟩
  · have d0 : decide ((18 : Int) < (nf : Int)) = true := by simp; omega
    go_enter Try.func41, Try.ntmps41
    go_wp2
    go_ret
    exact ⟨false, rfl, ⟨(fun h => by cases h), fun h => absurd h.1 hl⟩, (Below.refl _ _).alloc (Nat.le_refl _) _⟩
end Go.Proofs.Ytgjcppdeljoimaa

namespace Go.Proofs.Ytgjcppdeljoimaa
open Go.RowKit
structure PD where
  ns : Nat
  fs : Nat → ByteArray
  nf : Nat
  ff : Nat → ByteArray × ByteArray
  np : Nat
  fp : Nat → ByteArray × Int × ByteArray
  nv : Nat
  fv : Nat → ByteArray × ByteArray × ByteArray × ByteArray
structure PAt (B : Nat) (w : World) (v0 v1 v2 v3 : Value) (D : PD) : Prop where
  s : Lst B w v0 D.ns 1 (cS D.fs)
  f : Lst B w v1 D.nf 2 (cF D.ff)
  p : Lst B w v2 D.np 3 (cP D.fp)
  v : Lst B w v3 D.nv 4 (cV D.fv)
theorem PAt.kept {B B' : Nat} {w w' : World} {v0 v1 v2 v3 : Value} {D : PD} (h : PAt B w v0 v1 v2 v3 D) (hb : Below B' w w') (hB : B ≤ B') : PAt B w' v0 v1 v2 v3 D :=
  ⟨h.s.kept hb hB, h.f.kept hb hB, h.p.kept hb hB, h.v.kept hb hB⟩
structure PD.Sz (D : PD) : Prop where
  s : ∀ i, i < D.ns → (D.fs i).size ≤ maxLen
  p : ∀ i, i < D.np → (D.fp i).1.size ≤ maxLen ∧ (D.fp i).2.2.size ≤ maxLen
  v : ∀ i, i < D.nv → (D.fv i).1.size ≤ maxLen ∧ (D.fv i).2.2.2.size ≤ maxLen
def PD.V (D : PD) : Prop := (D.ns ≤ 8 ∧ D.nf ≤ 12 ∧ (∀ i, i < D.ns → stuffP D.fs i) ∧ ∀ i, i < D.nf → foeP D.ns D.fs D.ff i) ∧ (D.np ≤ 14 ∧ ∀ i, i < D.np → placeP D.fp i) ∧ (D.nv ≤ 18 ∧ ∀ i, i < D.nv → valveP D.np D.fp D.fv i)
set_option maxRecDepth 100000 in
set_option maxHeartbeats 1000000 in
theorem validS_any (B : Nat) (v0 v1 v2 v3 : Value) (D : PD) (w : World) (h : PAt B w v0 v1 v2 v3 D) (hB : B ≤ w.heap.size) (hz : D.Sz) :
    Calls Try.prog 18 #[.agg #[v0, v1, v2, v3]] w fun e w' => ∃ b, e = .returned (.bool b) ∧ (b = true ↔ D.V) ∧ Below w.heap.size w w' := by
  have H : Hid (∀ w', Below w.heap.size w w' → PAt B w' v0 v1 v2 v3 D) := fun w' hb => h.kept hb hB
  have hb0 : Hid (Below w.heap.size w (w.alloc (.cells #[v0, v1, v2, v3] 28))) := (Below.refl _ _).alloc (Nat.le_refl _) _
  clear h
  go_enter Try.func18, Try.ntmps18
  go_wp2_with fail
  refine (stuffsS_any B v0 v1 v2 v3 D.ns D.nf D.fs D.ff _ (H.out _ hb0.out).s (H.out _ hb0.out).f (by simp; omega) hz.s).mono ?_
  rintro e w1 ⟨b1, rfl, i1, hb1⟩
  have k1 : Hid (Below w.heap.size w w1) := hb0.out.trans (hb1.mono (by simp))
  have I1 : Hid _ := i1
  clear i1
  cases b1
  · go_wp2_with fail
    go_ret
    exact ⟨false, rfl, ⟨(fun h => by cases h), fun h => I1.out.2 h.1⟩, k1.out⟩
  · have x0 := (hb1.cell (p := ⟨w.heap.size, 0, none⟩) (by simp)).trans (new_cell w #[v0, v1, v2, v3] 28 0 _ rfl)
    have x1 := (hb1.cell (p := ⟨w.heap.size, 1, none⟩) (by simp)).trans (new_cell w #[v0, v1, v2, v3] 28 1 _ rfl)
    have x2 := (hb1.cell (p := ⟨w.heap.size, 2, none⟩) (by simp)).trans (new_cell w #[v0, v1, v2, v3] 28 2 _ rfl)
    have x3 := (hb1.cell (p := ⟨w.heap.size, 3, none⟩) (by simp)).trans (new_cell w #[v0, v1, v2, v3] 28 3 _ rfl)
    have s1 : w.heap.size + 1 ≤ w1.heap.size := by have := hb1.size; simpa using this
    go_wp2_with fail
    refine (placesS_any B v0 v1 v2 v3 D.np D.fp _ (H.out _ k1.out).p (by omega) hz.p).mono ?_
    rintro e w2 ⟨b2, rfl, i2, hb2⟩
    have k2 : Hid (Below w.heap.size w w2) := k1.out.trans (hb2.mono (by omega))
    have I2 : Hid _ := i2
    clear i2
    cases b2
    · go_wp2_with fail
      go_ret
      exact ⟨false, rfl, ⟨(fun h => by cases h), fun h => I2.out.2 h.2.1⟩, k2.out⟩
    · have y0 := (hb2.cell (p := ⟨w.heap.size, 0, none⟩) (by show w.heap.size < _; omega)).trans x0
      have y1 := (hb2.cell (p := ⟨w.heap.size, 1, none⟩) (by show w.heap.size < _; omega)).trans x1
      have y2 := (hb2.cell (p := ⟨w.heap.size, 2, none⟩) (by show w.heap.size < _; omega)).trans x2
      have y3 := (hb2.cell (p := ⟨w.heap.size, 3, none⟩) (by show w.heap.size < _; omega)).trans x3
      have s2 := hb2.size
      go_wp2_with fail
      refine (valvesS_any B v0 v1 v2 v3 D.nv D.fv D.np D.fp _ (H.out _ k2.out).v (by omega) (H.out _ k2.out).p hz.v).mono ?_
      rintro e w3 ⟨b3, rfl, i3, hb3⟩
      go_wp2_with fail
      go_ret
      exact ⟨b3, rfl, ⟨fun h => ⟨by have := I1.out; simpa using this, by have := I2.out; simpa using this, i3.1 h⟩, fun h => i3.2 h.2.2⟩, k2.out.trans (hb3.mono (by omega))⟩
end Go.Proofs.Ytgjcppdeljoimaa

namespace Go.Proofs.Ytgjcppdeljoimaa
open Go.RowKit
def isF (g : ByteArray × ByteArray) (a b : ByteArray) : Bool := eqB g.1 a && eqB g.2 b || eqB g.1 b && eqB g.2 a
def foeB (n : Nat) (f : Nat → ByteArray × ByteArray) (a b : ByteArray) : Bool := (List.range n).any fun i => isF (f i) a b
theorem foe_yes {n : Nat} {f : Nat → ByteArray × ByteArray} {a b : ByteArray} {k : Nat} (hk : k < n) (h : isF (f k) a b = true) : foeB n f a b = true := by
  simp only [foeB, List.any_eq_true]
  exact ⟨k, List.mem_range.2 hk, h⟩
theorem foe_no {n : Nat} {f : Nat → ByteArray × ByteArray} {a b : ByteArray} (h : ∀ j, j < n → isF (f j) a b = false) : foeB n f a b = false := by
  simp only [foeB, List.any_eq_false]
  intro i hi
  simp [h i (List.mem_range.1 hi)]
set_option maxRecDepth 100000 in
set_option maxHeartbeats 4000000 in
theorem foes_any (B : Nat) (v0 v1 v2 v3 : Value) (n : Nat) (f : Nat → ByteArray × ByteArray) (a b : ByteArray) (w : World) (h : Lst B w v1 n 2 (cF f)) (hB : B ≤ w.heap.size) :
    Calls Try.prog 83 #[.agg #[v0, v1, v2, v3], .string a, .string b] w fun e w' => e = .returned (.bool (foeB n f a b)) ∧ Below w.heap.size w w' := by
  obtain ⟨oa, cap, rfl, hn, hc⟩ := h
  unfold maxLen at hn
  have HC : Hid _ := hc
  clear hc
  go_enter Try.func83, Try.ntmps83
  go_wp2
  go_loop [7] (fun i => ∃ k : Nat, k ≤ n ∧ i = .int .i64 k ∧ Hid (∀ j, j < k → isF (f j) a b = false)) (fun i => n - (intOf i).toNat)
  case atStart => exact ⟨0, Nat.zero_le _, rfl, fun _ h => by omega⟩
  case round =>
    obtain ⟨k, hk, rfl, hno⟩ := hrel
    by_cases hlt : k < n
    · obtain ⟨bb, off, rfl, hbB, hcell⟩ := HC.out k hlt
      have c0 := cell_past (hcell 0 (by omega)) (by omega) (.cells #[v0, .slice (some ⟨bb, off, none⟩) n cap, v2, v3] 28)
      have c1 := cell_past (hcell 1 (by omega)) (by omega) (.cells #[v0, .slice (some ⟨bb, off, none⟩) n cap, v2, v3] 28)
      rw [Nat.add_zero] at c0
      simp only [cF, if_true] at c0
      simp only [cF, Nat.one_ne_zero, if_false] at c1
      clear hcell
      cases ht : isF (f k) a b
      · cases h1 : ((f k).1.toList == a.toList) <;> cases h2 : ((f k).2.toList == b.toList) <;> cases h3 : ((f k).1.toList == b.toList) <;> cases h4 : ((f k).2.toList == a.toList) <;>
          first
          | (exfalso; simp only [isF, eqB, h1, h2, h3, h4] at ht; cases ht; done)
          | (go_wp2
             go_round
             case rel => exact ⟨k + 1, by omega, by go_num, fun j hj => by
               by_cases e : j = k
               · subst e; exact ht
               · exact hno.out j (by omega)⟩
             case measure => simp [intOf]; omega)
      · have hfy := foe_yes hlt ht
        cases h1 : ((f k).1.toList == a.toList) <;> cases h2 : ((f k).2.toList == b.toList) <;> cases h3 : ((f k).1.toList == b.toList) <;> cases h4 : ((f k).2.toList == a.toList) <;>
          first
          | (exfalso; simp only [isF, eqB, h1, h2, h3, h4] at ht; cases ht; done)
          | (go_wp2
             go_ret
             first
             | exact ⟨rfl, (Below.refl _ _).alloc (Nat.le_refl _) _⟩
             | exact ⟨by rw [hfy], (Below.refl _ _).alloc (Nat.le_refl _) _⟩)
    · go_wp2
      go_ret
      have hkn : k = n := by omega
      subst hkn
      rw [foe_no hno.out]
      exact ⟨rfl, (Below.refl _ _).alloc (Nat.le_refl _) _⟩
end Go.Proofs.Ytgjcppdeljoimaa

namespace Go.Proofs.Ytgjcppdeljoimaa
open Go.RowKit
abbrev P3 := ByteArray × Int × ByteArray
abbrev V4 := ByteArray × ByteArray × ByteArray × ByteArray
def e1S (a : ByteArray) (_ : Nat) : Value := .string a
def e2F (p : ByteArray × ByteArray) (j : Nat) : Value := if j = 0 then .string p.1 else .string p.2
def e3P (p : P3) (j : Nat) : Value := if j = 0 then .string p.1 else if j = 1 then .int .i64 p.2.1 else .string p.2.2
def e4V (p : V4) (j : Nat) : Value := if j = 0 then .string p.1 else if j = 1 then .string p.2.1 else if j = 2 then .string p.2.2.1 else .string p.2.2.2
theorem one_F (a : ByteArray × ByteArray) (j : Nat) : (e2F a j).oneCell' = true := by unfold e2F; split <;> rfl
theorem one_P (a : P3) (j : Nat) : (e3P a j).oneCell' = true := by unfold e3P; split; rfl; split <;> rfl
theorem one_V (a : V4) (j : Nat) : (e4V a j).oneCell' = true := by unfold e4V; split; rfl; split; rfl; split <;> rfl
theorem enc_one' {α : Type} {k : Nat} {e : α → Nat → Value} (he : ∀ a j, (e a j).oneCell' = true) (l : List α) : ∀ u ∈ enc k e l, u.oneCell' = true := fun u hu => by
  obtain ⟨a, _, j, _, rfl⟩ := enc_mem hu
  exact he a j
theorem infS1 : (Try.prog.info? 9).map (fun i => (i.zero, i.size, i.bytes)) = some (some (.string ByteArray.empty), 1, 16) := by kernel_rfl
theorem infF2 : (Try.prog.info? 81).map (fun i => (i.zero, i.size, i.bytes)) = some (some (.agg #[.string ByteArray.empty, .string ByteArray.empty]), 2, 32) := by kernel_rfl
theorem infP3 : (Try.prog.info? 63).map (fun i => (i.zero, i.size, i.bytes)) = some (some (.agg #[.string ByteArray.empty, .int .i64 0, .string ByteArray.empty]), 3, 40) := by kernel_rfl
theorem infV4 : (Try.prog.info? 53).map (fun i => (i.zero, i.size, i.bytes)) = some (some (.agg #[.string ByteArray.empty, .string ByteArray.empty, .string ByteArray.empty, .string ByteArray.empty]), 4, 64) := by kernel_rfl
theorem elS1 : ElT Try.prog 23 9 1 16 := by
  obtain ⟨i0, hi, hz0, hz1, hz2⟩ := info_parts infS1
  exact ⟨by kernel_rfl, ⟨i0, _, hi, hz0, hz1, hz2, rfl⟩, by decide⟩
theorem elF2 : ElT Try.prog 24 81 2 32 := by
  obtain ⟨i0, hi, hz0, hz1, hz2⟩ := info_parts infF2
  exact ⟨by kernel_rfl, ⟨i0, _, hi, hz0, hz1, hz2, rfl⟩, by decide⟩
theorem elP3 : ElT Try.prog 25 63 3 40 := by
  obtain ⟨i0, hi, hz0, hz1, hz2⟩ := info_parts infP3
  exact ⟨by kernel_rfl, ⟨i0, _, hi, hz0, hz1, hz2, rfl⟩, by decide⟩
theorem elV4 : ElT Try.prog 26 53 4 64 := by
  obtain ⟨i0, hi, hz0, hz1, hz2⟩ := info_parts infV4
  exact ⟨by kernel_rfl, ⟨i0, _, hi, hz0, hz1, hz2, rfl⟩, by decide⟩
theorem row_lst {α : Type} {w : World} {B : Nat} {t : TypeId} {k : Nat} {e : α → Nat → Value} {v : Value} {l : List α} (h : Row w B t k e v l) (d : α) : Lst w.heap.size w v l.length k (fun i j => e (l.getD i d) j) := by
  obtain ⟨oa, cap, rfl⟩ := Row.form h
  refine ⟨oa, cap, rfl, Row.len h, fun i hi => ?_⟩
  obtain ⟨g, cap', e', hb, hlt, hc⟩ := Row.cell h hi
  cases e'
  refine ⟨g, 0, rfl, hlt, fun j hj => ?_⟩
  have := (hc j hj).1
  rw [Nat.zero_add, this]
  show some (e l[i] j) = some (e (l.getD i d) j)
  rw [List.getD_eq_getElem?_getD, List.getElem?_eq_getElem hi, Option.getD_some]
theorem row_src {α : Type} {w : World} {B : Nat} {t : TypeId} {k : Nat} {e : α → Nat → Value} {v : Value} {l : List α} (h : Row w B t k e v l) : Src w v l.length k (enc k e l) := by
  refine ⟨enc_len _ _ _, ?_⟩
  rcases h.2 with ⟨hv, hn⟩ | ⟨g, cap, cur, rfl, _⟩
  · exact .inl ⟨hv, hn⟩
  · exact .inr ⟨_, _, rfl, fun j u hj => World.ownsRow.cells h (g := g) rfl j u hj⟩
structure PlL where
  ss : List ByteArray
  ff : List (ByteArray × ByteArray)
  pp : List P3
  vv : List V4
def PlL.D (X : PlL) : PD := ⟨X.ss.length, fun i => X.ss.getD i ByteArray.empty, X.ff.length, fun i => X.ff.getD i (ByteArray.empty, ByteArray.empty), X.pp.length, fun i => X.pp.getD i (ByteArray.empty, 0, ByteArray.empty), X.vv.length, fun i => X.vv.getD i (ByteArray.empty, ByteArray.empty, ByteArray.empty, ByteArray.empty)⟩
abbrev TxP (p : P3) : Prop := p.1.size ≤ maxLen ∧ p.2.2.size ≤ maxLen
abbrev TxV (p : V4) : Prop := p.1.size ≤ maxLen ∧ p.2.1.size ≤ maxLen ∧ p.2.2.1.size ≤ maxLen ∧ p.2.2.2.size ≤ maxLen
structure PlL.OkN (m : Nat) (X : PlL) : Prop where
  ns : X.ss.length ≤ m
  nf : X.ff.length ≤ m
  np : X.pp.length ≤ m
  nv : X.vv.length ≤ m
  s : ∀ x ∈ X.ss, x.size ≤ maxLen
  f : ∀ x ∈ X.ff, x.1.size ≤ maxLen ∧ x.2.size ≤ maxLen
  p : ∀ x ∈ X.pp, TxP x
  v : ∀ x ∈ X.vv, TxV x
abbrev PlL.Ok (X : PlL) : Prop := PlL.OkN 18 X
theorem PlL.OkN.up {m k : Nat} {X : PlL} (h : PlL.OkN m X) (hk : m ≤ k) : PlL.OkN k X := ⟨Nat.le_trans h.ns hk, Nat.le_trans h.nf hk, Nat.le_trans h.np hk, Nat.le_trans h.nv hk, h.s, h.f, h.p, h.v⟩
theorem getD_ok {α : Type} {l : List α} {d : α} {P : α → Prop} (h : ∀ x ∈ l, P x) {i : Nat} (hi : i < l.length) : P (l.getD i d) := by
  rw [List.getD_eq_getElem?_getD, List.getElem?_eq_getElem hi, Option.getD_some]
  exact h _ (List.getElem_mem hi)
theorem PlL.OkN.sz {m : Nat} {X : PlL} (h : PlL.OkN m X) : X.D.Sz :=
  ⟨fun _ hi => getD_ok h.s hi, fun _ hi => getD_ok h.p hi, fun _ hi => by
    have := getD_ok (d := ((ByteArray.empty, ByteArray.empty, ByteArray.empty, ByteArray.empty) : V4)) h.v hi
    exact ⟨this.1, this.2.2.2⟩⟩
structure PlR (B : Nat) (w : World) (v0 v1 v2 v3 : Value) (X : PlL) : Prop where
  s : Row w B 9 1 e1S v0 X.ss
  f : Row w B 81 2 e2F v1 X.ff
  p : Row w B 63 3 e3P v2 X.pp
  v : Row w B 53 4 e4V v3 X.vv
theorem PlR.below {B : Nat} {w w' : World} {v0 v1 v2 v3 : Value} {X : PlL} (h : PlR B w v0 v1 v2 v3 X) (hb : Below w.heap.size w w') : PlR B w' v0 v1 v2 v3 X := ⟨h.s.below hb, h.f.below hb, h.p.below hb, h.v.below hb⟩
theorem PlR.at_ {B : Nat} {w : World} {v0 v1 v2 v3 : Value} {X : PlL} (h : PlR B w v0 v1 v2 v3 X) : PAt w.heap.size w v0 v1 v2 v3 X.D := ⟨row_lst h.s _, row_lst h.f _, row_lst h.p _, row_lst h.v _⟩
theorem row_not {α : Type} {w : World} {B : Nat} {t t' : TypeId} {k : Nat} {e : α → Nat → Value} {v : Value} {l : List α} (h : Row w B t k e v l) {g : Nat} (hg : v.ownBlock = some g) {c : Array Value} (hr : w.heap[g]? = some (.cells c t' (0, 0))) (ht : t ≠ t') : False := by
  obtain ⟨cur, hc⟩ := Row.typed h g hg
  rw [hc] at hr
  exact ht (by injection hr with h1; injection h1)
theorem hidZ {p : Prop} (h : p) : Hid p := h
theorem ins_rowP {α : Type} {w : World} {B : Nat} {t : TypeId} {K : Nat} {e : α → Nat → Value} {v : Value} {l l' : List α} {x : α} {k n m : Nat} (hn : l.length = n) (hk : k ≤ n) (hm : n - k = m) (hl : l' = l.take k ++ x :: l.drop k) {X : List Value} (hX : X = (List.range K).map (e x)) (h : w.ownsRow B t K v (k + 1 + m) (enc K e (l.take k) ++ X ++ enc K e (l.drop k))) : Row w B t K e v l' := by
  subst hl
  subst hX
  subst hm
  show World.ownsRow _ _ _ _ _ _ _
  have e1 : (l.take k ++ x :: l.drop k).length = k + 1 + (n - k) := by simp; omega
  rw [e1, enc_append, enc_cons, ← List.append_assoc]
  exact h
def PutP (B : Nat) (w : World) (e : Ending) (w' : World) : Prop := ∃ v0' v1' v2' v3' X' c, e = .returned (.tuple #[.agg #[v0', v1', v2', v3'], .int .i64 c]) ∧ PlR B w' v0' v1' v2' v3' X' ∧ X'.Ok ∧ Below w.heap.size w w'
theorem putP {B : Nat} {w w' : World} {v0 v1 v2 v3 : Value} {X : PlL} {c : Int} (h : PlR B w' v0 v1 v2 v3 X) (ho : X.Ok) (hb : Below w.heap.size w w') : PutP B w (.returned (.tuple #[.agg #[v0, v1, v2, v3], .int .i64 c])) w' := ⟨_, _, _, _, X, c, rfl, h, ho, hb⟩
end Go.Proofs.Ytgjcppdeljoimaa
