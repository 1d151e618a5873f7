/-
  The model's tests of places and valves, and of a whole plant.
-/
import Derived.Test.YtffmfomonmhkcaaGreatYc
namespace Go.Proofs.YtffmfomonmhkcaaGreat
open Go.RowKit

/-- One place that is as it is to be. -/
def placeP (f : Nat → ByteArray × Int × ByteArray) (i : Nat) : Prop := nameB (f i).1 = true ∧ (0 < i → ltB (f (i - 1)).1 (f i).1 = true) ∧ inB (f i).2.1 0 1000 = true ∧ nameB (f i).2.2 = true
/-- One valve that is as it is to be. -/
def valveP (n : Nat) (g : Nat → ByteArray × Int × ByteArray) (f : Nat → ByteArray × ByteArray × ByteArray × ByteArray) (i : Nat) : Prop :=
  nameB (f i).1 = true ∧ (0 < i → ltB (f (i - 1)).1 (f i).1 = true) ∧ ltB (f i).2.1 (f i).2.2.1 = true ∧ decide (placeI n g (f i).2.1 < 0) = false ∧ decide (placeI n g (f i).2.2.1 < 0) = false ∧ nameB (f i).2.2.2 = true

open Go.Sort in
theorem in_q (n lo hi : Int) (wr : World) (b : Bool) (hb : inB n lo hi = b) (d : Nat) (os : Array Obj) : Calls Tryz.prog 80 #[.int .i64 n, .int .i64 lo, .int .i64 hi] (grow (redrawn wr d) os) fun e w'' => e = .returned (.bool b) ∧ ∃ p : Regrown, w'' = grow (redrawn wr p.d) p.os :=
  Calls.regrown_of ((inB_any n lo hi _).mono fun _ _ ⟨he, hw⟩ => ⟨by subst hb; exact he, by subst hw; exact Below.refl _ _⟩)
open Go.Sort in
theorem place_q (B : Nat) (v0 v1 v2 v3 : Value) (n : Nat) (f : Nat → ByteArray × Int × ByteArray) (x : ByteArray) (wr : World) (h : Lst B wr v2 n 3 (cP f)) (hB : B ≤ wr.heap.size) (d : Nat) (os : Array Obj) : Calls Tryz.prog 49 #[.agg #[v0, v1, v2, v3], .string x] (grow (redrawn wr d) os) fun e w'' => e = .returned (.int .i64 (placeI n f x)) ∧ ∃ p : Regrown, w'' = grow (redrawn wr p.d) p.os :=
  Calls.regrown_of (place_any B v0 v1 v2 v3 n f x _ (h.kept (below_regrown wr d os) hB) (Nat.le_trans hB (below_regrown wr d os).size))

set_option maxRecDepth 100000 in
set_option maxHeartbeats 16000000 in
theorem placesS_any (B : Nat) (v0 v1 v2 v3 : Value) (nf : Nat) (ff : Nat → ByteArray × Int × ByteArray) (w : World) (h1 : Lst B w v2 nf 3 (cP ff)) (hB : B ≤ w.heap.size) (hz : ∀ i, i < nf → (ff i).1.size ≤ maxLen ∧ (ff i).2.2.size ≤ maxLen) :
    Calls Tryz.prog 47 #[.agg #[v0, v1, v2, v3]] w fun e w' => ∃ b, e = .returned (.bool b) ∧ (b = true ↔ nf ≤ 14 ∧ ∀ i, i < nf → placeP ff i) ∧ Below w.heap.size w w' := by
  obtain ⟨o1, cap1, rfl, hn1, hc1⟩ := h1
  unfold maxLen at hn1
  have HC1 : Hid _ := hc1
  have HZ : Hid _ := hz
  clear hc1 hz
  by_cases hl : nf ≤ 14
  · have d0 : decide ((14 : Int) < (nf : Int)) = false := by simp; omega
    go_enter Tryz.func47, Tryz.ntmps47
    go_wp2
    go_loopw [3] (fun i wr => ∃ q : Nat, q ≤ nf ∧ i = .int .i64 q ∧ Hid (∀ j, j < q → placeP ff j) ∧ Hid (Below (w.heap.size + 1) (w.alloc (.cells #[v0, v1, .slice o1 nf cap1, v3] 36)) wr)) (fun i _ => nf - (intOf i).toNat)
    case atStart => exact ⟨0, Nat.zero_le _, rfl, fun _ h => by omega, Below.refl _ _⟩
    case round =>
      obtain ⟨q, hq, rfl, hallf, hbel⟩ := hrel
      have b0 := box_in hbel.out 0 _ rfl
      have b1 := box_in hbel.out 1 _ rfl
      have b2 := box_in hbel.out 2 _ rfl
      have b3 := box_in hbel.out 3 _ rfl
      simp only [List.getElem_toArray, List.getElem_cons_zero, List.getElem_cons_succ] at b0 b1 b2 b3
      by_cases hlq : q < nf
      · obtain ⟨b, off, rfl, hbB, hcell⟩ := HC1.out q hlq
        have hsz : w.heap.size + 1 ≤ wr.heap.size := by have := hbel.out.size; simpa using this
        obtain ⟨hz1, hz2⟩ := HZ.out q hlq
        have e0 : wr.cell? ⟨b, off + q * 3, none⟩ = some (.string (ff q).1) := old_in hbel.out (by omega) (by simpa [cP] using hcell 0 (by omega))
        have e1 : wr.cell? ⟨b, off + q * 3 + 1, none⟩ = some (.int .i64 (ff q).2.1) := old_in hbel.out (by omega) (by simpa [cP] using hcell 1 (by omega))
        have e2 : wr.cell? ⟨b, off + q * 3 + 2, none⟩ = some (.string (ff q).2.2) := old_in hbel.out (by omega) (by simpa [cP] using hcell 2 (by omega))
        have hW1 : Hid (Below (w.heap.size + 1) (w.alloc (.cells #[v0, v1, .slice (some ⟨b, off, none⟩) nf cap1, v3] 36)) (wr.alloc (.cells #[.string (ff q).1, .int .i64 (ff q).2.1, .string (ff q).2.2] 90))) := hbel.out.alloc (by omega) _
        have p0 := fun d os => cell_regrown (cell_past b0 (by omega) (.cells #[.string (ff q).1, .int .i64 (ff q).2.1, .string (ff q).2.2] 90)) d os
        have p1 := fun d os => cell_regrown (cell_past b1 (by omega) (.cells #[.string (ff q).1, .int .i64 (ff q).2.1, .string (ff q).2.2] 90)) d os
        have p2 := fun d os => cell_regrown (cell_past b2 (by omega) (.cells #[.string (ff q).1, .int .i64 (ff q).2.1, .string (ff q).2.2] 90)) d os
        have p3 := fun d os => cell_regrown (cell_past b3 (by omega) (.cells #[.string (ff q).1, .int .i64 (ff q).2.1, .string (ff q).2.2] 90)) d os
        have n0 := fun d os => cell_regrown (new_cell wr #[.string (ff q).1, .int .i64 (ff q).2.1, .string (ff q).2.2] 90 0 _ rfl) d os
        have n1 := fun d os => cell_regrown (new_cell wr #[.string (ff q).1, .int .i64 (ff q).2.1, .string (ff q).2.2] 90 1 _ rfl) d os
        have n2 := fun d os => cell_regrown (new_cell wr #[.string (ff q).1, .int .i64 (ff q).2.1, .string (ff q).2.2] 90 2 _ rfl) d os
        by_cases hq0 : q = 0
        · have gt0 : decide (0 < q) = false := by simp; omega
          have HK : Hid (q = 0) := hq0
          clear hq0
          cases hnm : nameB (ff q).1
          · go_wp2
            refine wp_region_quiet_below (by kernel_rfl) (by kernel_rfl) ?_
            repeat (first | go_big_quiet_step (first | (with_reducible exact name_q _ _ hz1 _ hnm _ _) | (with_reducible exact name_q _ _ hz2 _ hst _ _) | (with_reducible exact in_q _ _ _ _ _ hin _ _)) | quiet_step (first | (with_reducible exact name_q _ _ hz1 _ hnm _ _) | (with_reducible exact name_q _ _ hz2 _ hst _ _) | (with_reducible exact in_q _ _ _ _ _ hin _ _)))
            refine wpQuiet_nil ?_
            intro _ hw'
            obtain ⟨⟨dq, osq⟩, hw''⟩ := hw'
            subst hw''
            go_wp2
            go_ret
            exact ⟨false, rfl, ⟨(fun h => by cases h), fun h => absurd (h.2 q hlq) (by intro h; have := h.1; rw [hnm] at this; cases this)⟩, below_end (below_of hW1.out (below_regrown _ dq osq))⟩
          · cases hin : inB (ff q).2.1 0 1000
            · go_wp2
              refine wp_region_quiet_below (by kernel_rfl) (by kernel_rfl) ?_
              repeat (first | go_big_quiet_step (first | (with_reducible exact name_q _ _ hz1 _ hnm _ _) | (with_reducible exact name_q _ _ hz2 _ hst _ _) | (with_reducible exact in_q _ _ _ _ _ hin _ _)) | quiet_step (first | (with_reducible exact name_q _ _ hz1 _ hnm _ _) | (with_reducible exact name_q _ _ hz2 _ hst _ _) | (with_reducible exact in_q _ _ _ _ _ hin _ _)))
              refine wpQuiet_nil ?_
              intro _ hw'
              obtain ⟨⟨dq, osq⟩, hw''⟩ := hw'
              subst hw''
              go_wp2
              go_ret
              exact ⟨false, rfl, ⟨(fun h => by cases h), fun h => absurd (h.2 q hlq) (by intro h; have := h.2.2.1; rw [hin] at this; cases this)⟩, below_end (below_of hW1.out (below_regrown _ dq osq))⟩
            · cases hst : nameB (ff q).2.2
              · go_wp2
                refine wp_region_quiet_below (by kernel_rfl) (by kernel_rfl) ?_
                repeat (first | go_big_quiet_step (first | (with_reducible exact name_q _ _ hz1 _ hnm _ _) | (with_reducible exact name_q _ _ hz2 _ hst _ _) | (with_reducible exact in_q _ _ _ _ _ hin _ _)) | quiet_step (first | (with_reducible exact name_q _ _ hz1 _ hnm _ _) | (with_reducible exact name_q _ _ hz2 _ hst _ _) | (with_reducible exact in_q _ _ _ _ _ hin _ _)))
                refine wpQuiet_nil ?_
                intro _ hw'
                obtain ⟨⟨dq, osq⟩, hw''⟩ := hw'
                subst hw''
                go_wp2
                go_ret
                exact ⟨false, rfl, ⟨(fun h => by cases h), fun h => absurd (h.2 q hlq) (by intro h; have := h.2.2.2; rw [hst] at this; cases this)⟩, below_end (below_of hW1.out (below_regrown _ dq osq))⟩
              · go_wp2
                refine wp_region_quiet_below (by kernel_rfl) (by kernel_rfl) ?_
                repeat (first | go_big_quiet_step (first | (with_reducible exact name_q _ _ hz1 _ hnm _ _) | (with_reducible exact name_q _ _ hz2 _ hst _ _) | (with_reducible exact in_q _ _ _ _ _ hin _ _)) | quiet_step (first | (with_reducible exact name_q _ _ hz1 _ hnm _ _) | (with_reducible exact name_q _ _ hz2 _ hst _ _) | (with_reducible exact in_q _ _ _ _ _ hin _ _)))
                refine wpQuiet_nil ?_
                intro _ hw'
                obtain ⟨⟨dq, osq⟩, hw''⟩ := hw'
                subst hw''
                go_wp2
                go_roundw
                case rel => exact ⟨q + 1, by omega, by go_num, fun j hj => by
                  by_cases e : j = q
                  · subst e; exact ⟨hnm, fun h => by have := HK.out; omega, hin, hst⟩
                  · exact hallf.out j (by omega), below_of hW1.out (below_regrown _ dq osq)⟩
                case measure => simp [intOf]; omega
        · obtain ⟨m, rfl⟩ : ∃ m, q = m + 1 := ⟨q - 1, by omega⟩
          obtain ⟨b', off', e', hbB', hcellm⟩ := HC1.out m (by omega)
          cases e'
          have m0 : wr.cell? ⟨b, off + m * 3, none⟩ = some (.string (ff m).1) := old_in hbel.out (by omega) (by simpa [cP] using hcellm 0 (by omega))
          have p4 := fun d os => cell_regrown (cell_past m0 (by omega) (.cells #[.string (ff (m + 1)).1, .int .i64 (ff (m + 1)).2.1, .string (ff (m + 1)).2.2] 90)) d os
          have gt0 : decide ((0 : Int) < ((m : Int) + 1)) = true := by rw [decide_eq_true_eq]; omega
          cases hnm : nameB (ff (m + 1)).1
          · go_wp2
            refine wp_region_quiet_below (by kernel_rfl) (by kernel_rfl) ?_
            repeat (first | go_big_quiet_step (first | (with_reducible exact name_q _ _ hz1 _ hnm _ _) | (with_reducible exact name_q _ _ hz2 _ hst _ _) | (with_reducible exact in_q _ _ _ _ _ hin _ _)) | quiet_step (first | (with_reducible exact name_q _ _ hz1 _ hnm _ _) | (with_reducible exact name_q _ _ hz2 _ hst _ _) | (with_reducible exact in_q _ _ _ _ _ hin _ _)))
            refine wpQuiet_nil ?_
            intro _ hw'
            obtain ⟨⟨dq, osq⟩, hw''⟩ := hw'
            subst hw''
            go_wp2
            go_ret
            exact ⟨false, rfl, ⟨(fun h => by cases h), fun h => absurd (h.2 (m + 1) hlq) (by intro h; have := h.1; rw [hnm] at this; cases this)⟩, below_end (below_of hW1.out (below_regrown _ dq osq))⟩
          · cases hlt : Op.bytesLess (ff m).1.toList (ff (m + 1)).1.toList
            · go_wp2
              refine wp_region_quiet_below (by kernel_rfl) (by kernel_rfl) ?_
              repeat (first | go_big_quiet_step (first | (with_reducible exact name_q _ _ hz1 _ hnm _ _) | (with_reducible exact name_q _ _ hz2 _ hst _ _) | (with_reducible exact in_q _ _ _ _ _ hin _ _)) | quiet_step (first | (with_reducible exact name_q _ _ hz1 _ hnm _ _) | (with_reducible exact name_q _ _ hz2 _ hst _ _) | (with_reducible exact in_q _ _ _ _ _ hin _ _)))
              refine wpQuiet_nil ?_
              intro _ hw'
              obtain ⟨⟨dq, osq⟩, hw''⟩ := hw'
              subst hw''
              go_wp2
              go_ret
              exact ⟨false, rfl, ⟨(fun h => by cases h), fun h => absurd (h.2 (m + 1) hlq) (by intro h; have := h.2.1 (by omega); rw [Nat.add_sub_cancel, ltB, hlt] at this; cases this)⟩, below_end (below_of hW1.out (below_regrown _ dq osq))⟩
            · cases hin : inB (ff (m + 1)).2.1 0 1000
              · go_wp2
                refine wp_region_quiet_below (by kernel_rfl) (by kernel_rfl) ?_
                repeat (first | go_big_quiet_step (first | (with_reducible exact name_q _ _ hz1 _ hnm _ _) | (with_reducible exact name_q _ _ hz2 _ hst _ _) | (with_reducible exact in_q _ _ _ _ _ hin _ _)) | quiet_step (first | (with_reducible exact name_q _ _ hz1 _ hnm _ _) | (with_reducible exact name_q _ _ hz2 _ hst _ _) | (with_reducible exact in_q _ _ _ _ _ hin _ _)))
                refine wpQuiet_nil ?_
                intro _ hw'
                obtain ⟨⟨dq, osq⟩, hw''⟩ := hw'
                subst hw''
                go_wp2
                go_ret
                exact ⟨false, rfl, ⟨(fun h => by cases h), fun h => absurd (h.2 (m + 1) hlq) (by intro h; have := h.2.2.1; rw [hin] at this; cases this)⟩, below_end (below_of hW1.out (below_regrown _ dq osq))⟩
              · cases hst : nameB (ff (m + 1)).2.2
                · go_wp2
                  refine wp_region_quiet_below (by kernel_rfl) (by kernel_rfl) ?_
                  repeat (first | go_big_quiet_step (first | (with_reducible exact name_q _ _ hz1 _ hnm _ _) | (with_reducible exact name_q _ _ hz2 _ hst _ _) | (with_reducible exact in_q _ _ _ _ _ hin _ _)) | quiet_step (first | (with_reducible exact name_q _ _ hz1 _ hnm _ _) | (with_reducible exact name_q _ _ hz2 _ hst _ _) | (with_reducible exact in_q _ _ _ _ _ hin _ _)))
                  refine wpQuiet_nil ?_
                  intro _ hw'
                  obtain ⟨⟨dq, osq⟩, hw''⟩ := hw'
                  subst hw''
                  go_wp2
                  go_ret
                  exact ⟨false, rfl, ⟨(fun h => by cases h), fun h => absurd (h.2 (m + 1) hlq) (by intro h; have := h.2.2.2; rw [hst] at this; cases this)⟩, below_end (below_of hW1.out (below_regrown _ dq osq))⟩
                · go_wp2
                  refine wp_region_quiet_below (by kernel_rfl) (by kernel_rfl) ?_
                  repeat (first | go_big_quiet_step (first | (with_reducible exact name_q _ _ hz1 _ hnm _ _) | (with_reducible exact name_q _ _ hz2 _ hst _ _) | (with_reducible exact in_q _ _ _ _ _ hin _ _)) | quiet_step (first | (with_reducible exact name_q _ _ hz1 _ hnm _ _) | (with_reducible exact name_q _ _ hz2 _ hst _ _) | (with_reducible exact in_q _ _ _ _ _ hin _ _)))
                  refine wpQuiet_nil ?_
                  intro _ hw'
                  obtain ⟨⟨dq, osq⟩, hw''⟩ := hw'
                  subst hw''
                  go_wp2
                  go_roundw
                  case rel => exact ⟨(m + 1) + 1, by omega, by go_num, fun j hj => by
                    by_cases e : j = (m + 1)
                    · subst e; exact ⟨hnm, fun _ => by rw [Nat.add_sub_cancel]; exact hlt, hin, hst⟩
                    · exact hallf.out j (by omega), below_of hW1.out (below_regrown _ dq osq)⟩
                  case measure => simp [intOf]; omega
      · have hqn : q = nf := by omega
        subst hqn
        go_wp2
        go_ret
        exact ⟨true, rfl, ⟨fun _ => ⟨hl, hallf.out⟩, fun _ => rfl⟩, below_end hbel.out⟩
  · have d0 : decide ((14 : Int) < (nf : Int)) = true := by simp; omega
    go_enter Tryz.func47, Tryz.ntmps47
    go_wp2
    go_ret
    exact ⟨false, rfl, ⟨(fun h => by cases h), fun h => absurd h.1 hl⟩, (Below.refl _ _).alloc (Nat.le_refl _) _⟩

end Go.Proofs.YtffmfomonmhkcaaGreat
