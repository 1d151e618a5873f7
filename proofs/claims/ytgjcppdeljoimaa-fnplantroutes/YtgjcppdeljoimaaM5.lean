/-
  Several texts in one.
-/
import Derived.Test.YtgjcppdeljoimaaYb
namespace Go.Proofs.Ytgjcppdeljoimaa
open Go.RowKit
theorem nameS_b (s : ByteArray) (w : World) (hs : s.size ≤ maxLen) : Calls Try.prog 67 #[.string s] w fun e w' => e = .returned (.bool (nameB s)) ∧ Below w.heap.size w w' :=
  (nameS_any s w hs).mono fun _ _ ⟨he, hw⟩ => ⟨he, by subst hw; exact Below.refl _ _⟩
theorem hasS_b (B : Nat) (v : Value) (n : Nat) (f : Nat → ByteArray) (x : ByteArray) (w : World) (h : Lst B w v n 1 (cS f)) :
    Calls Try.prog 44 #[v, .string x] w fun e w' => e = .returned (.bool (hasB n f x)) ∧ Below w.heap.size w w' :=
  (hasS_any B v n f x w h).mono fun _ _ ⟨he, hw⟩ => ⟨he, by subst hw; exact Below.refl _ _⟩
theorem box_in {w wr : World} {c : Array Value} {t : TypeId} (hb : Below (w.heap.size + 1) (w.alloc (.cells c t)) wr) (j : Nat) (v : Value) (h : c[j]? = some v) : wr.cell? ⟨w.heap.size, j, none⟩ = some v := by
  refine (hb.cell (p := ⟨w.heap.size, j, none⟩) (by show w.heap.size < _; omega)).trans ?_
  simp only [World.cell?, heap_alloc_new, h]; rfl
theorem old_in {w wr : World} {o : Obj} (hb : Below (w.heap.size + 1) (w.alloc o) wr) {b i : Nat} {v : Value} (hB : b < w.heap.size) (h : w.cell? ⟨b, i, none⟩ = some v) : wr.cell? ⟨b, i, none⟩ = some v :=
  (hb.cell (p := ⟨b, i, none⟩) (by show b < _; omega)).trans (cell_past h hB o)
theorem below_of {w wr wr' : World} {o : Obj} (hb : Below (w.heap.size + 1) (w.alloc o) wr) (h : Below wr.heap.size wr wr') : Below (w.heap.size + 1) (w.alloc o) wr' :=
  hb.trans (h.mono (by have := hb.size; simp at this; exact this))
theorem below_end {w wr : World} {o : Obj} (hb : Below (w.heap.size + 1) (w.alloc o) wr) : Below w.heap.size w wr :=
  ((Below.refl _ _).alloc (Nat.le_refl _) o).trans (hb.mono (by omega))
open Go.Sort in
theorem name_q (s : ByteArray) (wr : World) (hs : s.size ≤ maxLen) (b : Bool) (h : nameB s = b) (d : Nat) (os : Array Obj) : Calls Try.prog 67 #[.string s] (grow (redrawn wr d) os) fun e w'' => e = .returned (.bool b) ∧ ∃ p : Regrown, w'' = grow (redrawn wr p.d) p.os :=
  Calls.regrown_of (by subst h; exact nameS_b _ _ hs)
open Go.Sort in
theorem has_q (B : Nat) (v : Value) (n : Nat) (f : Nat → ByteArray) (x : ByteArray) (wr : World) (h : Lst B wr v n 1 (cS f)) (hB : B ≤ wr.heap.size) (b : Bool) (hb : hasB n f x = b) (d : Nat) (os : Array Obj) : Calls Try.prog 44 #[v, .string x] (grow (redrawn wr d) os) fun e w'' => e = .returned (.bool b) ∧ ∃ p : Regrown, w'' = grow (redrawn wr p.d) p.os :=
  Calls.regrown_of (by subst hb; exact hasS_b B v n f x _ (h.kept (below_regrown wr d os) hB))
open Go.Sort in
theorem bef_q (a1 a2 b1 b2 : ByteArray) (wr : World) (b : Bool) (hb : befB (a1, a2) (b1, b2) = b) (d : Nat) (os : Array Obj) : Calls Try.prog 68 #[.agg #[.string a1, .string a2], .agg #[.string b1, .string b2]] (grow (redrawn wr d) os) fun e w'' => e = .returned (.bool b) ∧ ∃ p : Regrown, w'' = grow (redrawn wr p.d) p.os :=
  Calls.regrown_of (by subst hb; exact bef_any a1 a2 b1 b2 _)
theorem new_cell (w : World) (c : Array Value) (t : TypeId) (j : Nat) (v : Value) (h : c[j]? = some v) : (w.alloc (.cells c t)).cell? ⟨w.heap.size, j, none⟩ = some v := by
  simp only [World.cell?, heap_alloc_new, h]; rfl
def stuffP (f : Nat → ByteArray) (i : Nat) : Prop := nameB (f i) = true ∧ (0 < i → ltB (f (i - 1)) (f i) = true)
def foeP (n : Nat) (f : Nat → ByteArray) (g : Nat → ByteArray × ByteArray) (i : Nat) : Prop := ltB (g i).1 (g i).2 = true ∧ hasB n f (g i).1 = true ∧ hasB n f (g i).2 = true ∧ (0 < i → befB (g (i - 1)) (g i) = true)
set_option maxRecDepth 100000 in
set_option maxHeartbeats 8000000 in
theorem stuffsS_any (B : Nat) (v0 v1 v2 v3 : Value) (ns nf : Nat) (fs : Nat → ByteArray) (ff : Nat → ByteArray × ByteArray) (w : World) (h0 : Lst B w v0 ns 1 (cS fs)) (h1 : Lst B w v1 nf 2 (cF ff)) (hB : B ≤ w.heap.size)
    (hz : ∀ i, i < ns → (fs i).size ≤ maxLen) :
    Calls Try.prog 39 #[.agg #[v0, v1, v2, v3]] w fun e w' => ∃ b, e = .returned (.bool b) ∧ (b = true ↔ ns ≤ 8 ∧ nf ≤ 12 ∧ (∀ i, i < ns → stuffP fs i) ∧ ∀ i, i < nf → foeP ns fs ff i) ∧ Below w.heap.size w w' := by
  have H0 : Hid (Lst B w v0 ns 1 (cS fs)) := h0
  obtain ⟨o0, cap0, rfl, hn0, hc0⟩ := h0
  obtain ⟨o1, cap1, rfl, hn1, hc1⟩ := h1
  unfold maxLen at hn0 hn1
  have HC0 : Hid _ := hc0
  have HC1 : Hid _ := hc1
  have HZ : Hid _ := hz
  clear hc0 hc1 hz
  by_cases hlen : ns ≤ 8 ∧ nf ≤ 12
  · obtain ⟨hl0, hl1⟩ := hlen
    have d0 : decide ((8 : Int) < (ns : Int)) = false := by simp; omega
    have d1 : decide ((12 : Int) < (nf : Int)) = false := by simp; omega
    go_enter Try.func39, Try.ntmps39
    go_wp2
    go_loopw [3] (fun i wr => ∃ k : Nat, k ≤ ns ∧ i = .int .i64 k ∧ Hid (∀ j, j < k → stuffP fs j) ∧ Hid (Below (w.heap.size + 1) (w.alloc (.cells #[.slice o0 ns cap0, .slice o1 nf cap1, v2, v3] 28)) wr)) (fun i _ => ns - (intOf i).toNat)
    case atStart => exact ⟨0, Nat.zero_le _, rfl, fun _ h => by omega, Below.refl _ _⟩
    case round =>
      obtain ⟨k, hk, rfl, hall, hbel⟩ := hrel
      have b0 := box_in hbel.out 0 _ rfl
      have b1 := box_in hbel.out 1 _ rfl
      by_cases hlt : k < ns
      · obtain ⟨b, off, rfl, hbB, hcell⟩ := HC0.out k hlt
        have hck : wr.cell? ⟨b, off + k, none⟩ = some (.string (fs k)) := old_in hbel.out (by omega) (by simpa [cS] using hcell 0 (by omega))
        have q0 := fun d os => cell_regrown b0 d os
        have qk := fun d os => cell_regrown hck d os
        have hzk := HZ.out k hlt
        cases hnm : nameB (fs k)
        · go_wp2
          refine wp_region_quiet_below (by kernel_rfl) (by kernel_rfl) ?_
          repeat (first | go_big_quiet_step (exact name_q _ _ hzk _ hnm _ _) | quiet_step (exact name_q _ _ hzk _ hnm _ _))
          refine wpQuiet_nil ?_
          intro _ hw'
          obtain ⟨⟨dq, osq⟩, hw''⟩ := hw'
          subst hw''
          go_wp2
          go_ret
          exact ⟨false, rfl, ⟨(fun h => by cases h), fun h => by have := (h.2.2.1 k hlt).1; rw [hnm] at this; cases this⟩, below_end (below_of hbel.out (below_regrown _ dq osq))⟩
        · by_cases hk0 : k = 0
          · have gt0 : decide (0 < k) = false := by simp; omega
            have HK : Hid (k = 0) := hk0
            clear hk0
            go_wp2
            refine wp_region_quiet_below (by kernel_rfl) (by kernel_rfl) ?_
            repeat (first | go_big_quiet_step (exact name_q _ _ hzk _ hnm _ _) | quiet_step (exact name_q _ _ hzk _ hnm _ _))
            refine wpQuiet_nil ?_
            intro _ hw'
            obtain ⟨⟨dq, osq⟩, hw''⟩ := hw'
            subst hw''
            go_wp2
            go_roundw
            case rel => exact ⟨k + 1, by omega, by go_num, fun j hj => by
              have e0 := HK.out
              have e : j = k := by omega
              subst e; exact ⟨hnm, fun h => by omega⟩, below_of hbel.out (below_regrown _ dq osq)⟩
            case measure => simp [intOf]; omega
          · obtain ⟨m, rfl⟩ : ∃ m, k = m + 1 := ⟨k - 1, by omega⟩
            obtain ⟨b', off', e', hbB', hcellm⟩ := HC0.out m (by omega)
            cases e'
            have hcm : wr.cell? ⟨b, off + m, none⟩ = some (.string (fs m)) := old_in hbel.out (by omega) (by simpa [cS] using hcellm 0 (by omega))
            have qm := fun d os => cell_regrown hcm d os
            have gt0 : decide ((0 : Int) < ((m : Int) + 1)) = true := by rw [decide_eq_true_eq]; omega
            cases hlb : Op.bytesLess (fs m).toList (fs (m + 1)).toList
            · go_wp2
              refine wp_region_quiet_below (by kernel_rfl) (by kernel_rfl) ?_
              repeat (first | go_big_quiet_step (exact name_q _ _ hzk _ hnm _ _) | quiet_step (exact name_q _ _ hzk _ hnm _ _))
              refine wpQuiet_nil ?_
              intro _ hw'
              obtain ⟨⟨dq, osq⟩, hw''⟩ := hw'
              subst hw''
              go_wp2
              go_ret
              exact ⟨false, rfl, ⟨(fun h => by cases h), fun h => by have := (h.2.2.1 (m + 1) hlt).2 (by omega); rw [Nat.add_sub_cancel, ltB, hlb] at this; cases this⟩, below_end (below_of hbel.out (below_regrown _ dq osq))⟩
            · go_wp2
              refine wp_region_quiet_below (by kernel_rfl) (by kernel_rfl) ?_
              repeat (first | go_big_quiet_step (exact name_q _ _ hzk _ hnm _ _) | quiet_step (exact name_q _ _ hzk _ hnm _ _))
              refine wpQuiet_nil ?_
              intro _ hw'
              obtain ⟨⟨dq, osq⟩, hw''⟩ := hw'
              subst hw''
              go_wp2
              go_roundw
              case rel => exact ⟨m + 1 + 1, by omega, by go_num, fun j hj => by
                by_cases e : j = m + 1
                · subst e; exact ⟨hnm, fun _ => by rw [Nat.add_sub_cancel]; exact hlb⟩
                · exact hall.out j (by omega), below_of hbel.out (below_regrown _ dq osq)⟩
              case measure => simp [intOf]; omega
      · have hkn : k = ns := by omega
        subst hkn
        go_wp2
        go_loopw [4] (fun i wr => ∃ q : Nat, q ≤ nf ∧ i = .int .i64 q ∧ Hid (∀ j, j < q → foeP k fs ff j) ∧ Hid (Below (w.heap.size + 1) (w.alloc (.cells #[.slice o0 k cap0, .slice o1 nf cap1, v2, v3] 28)) wr)) (fun i _ => nf - (intOf i).toNat)
        case atStart => exact ⟨0, Nat.zero_le _, rfl, fun _ h => by omega, hbel⟩
        case round =>
          clear b0 b1 hbel
          obtain ⟨q, hq, rfl, hallf, hbel⟩ := hrel
          have b0 := box_in hbel.out 0 _ rfl
          have b1 := box_in hbel.out 1 _ rfl
          by_cases hlq : q < nf
          · obtain ⟨b, off, rfl, hbB, hcell⟩ := HC1.out q hlq
            have hsz : w.heap.size + 1 ≤ wr.heap.size := by have := hbel.out.size; simpa using this
            have hA0 : wr.cell? ⟨b, off + q * 2, none⟩ = some (.string (ff q).1) := old_in hbel.out (by omega) (by simpa [cF] using hcell 0 (by omega))
            have hA1 : wr.cell? ⟨b, off + q * 2 + 1, none⟩ = some (.string (ff q).2) := old_in hbel.out (by omega) (by simpa [cF] using hcell 1 (by omega))
            have hW1 : Hid (Below (w.heap.size + 1) (w.alloc (.cells #[.slice o0 k cap0, .slice (some ⟨b, off, none⟩) nf cap1, v2, v3] 28)) (wr.alloc (.cells #[.string (ff q).1, .string (ff q).2] 81))) := hbel.out.alloc (by omega) _
            have HL : Hid (Lst B (wr.alloc (.cells #[.string (ff q).1, .string (ff q).2] 81)) (.slice o0 k cap0) k 1 (cS fs)) := (H0.out.kept (below_end hW1.out) hB)
            have hBW : B ≤ (wr.alloc (.cells #[.string (ff q).1, .string (ff q).2] 81)).heap.size := by simp; omega
            have q0 := fun d os => cell_regrown (cell_past b0 (by omega) (.cells #[.string (ff q).1, .string (ff q).2] 81)) d os
            have q1 := fun d os => cell_regrown (cell_past b1 (by omega) (.cells #[.string (ff q).1, .string (ff q).2] 81)) d os
            have q2 := fun d os => cell_regrown (new_cell wr #[.string (ff q).1, .string (ff q).2] 81 0 _ rfl) d os
            have q3 := fun d os => cell_regrown (new_cell wr #[.string (ff q).1, .string (ff q).2] 81 1 _ rfl) d os
            cases hAB : Op.bytesLess (ff q).1.toList (ff q).2.toList
            · go_wp2
              refine wp_region_quiet_below (by kernel_rfl) (by kernel_rfl) ?_
              repeat (first | go_big_quiet_step (first | (with_reducible exact has_q B _ k fs _ _ HL.out hBW _ hA _ _) | (with_reducible exact has_q B _ k fs _ _ HL.out hBW _ hA2 _ _) | (with_reducible exact bef_q _ _ _ _ _ _ hbf _ _)) | quiet_step (first | (with_reducible exact has_q B _ k fs _ _ HL.out hBW _ hA _ _) | (with_reducible exact has_q B _ k fs _ _ HL.out hBW _ hA2 _ _) | (with_reducible exact bef_q _ _ _ _ _ _ hbf _ _)))
              refine wpQuiet_nil ?_
              intro _ hw'
              obtain ⟨⟨dq, osq⟩, hw''⟩ := hw'
              subst hw''
              go_wp2
              go_ret
              exact ⟨false, rfl, ⟨(fun h => by cases h), fun h => by have := h.2.2.2 q hlq; have h2 := this.1; rw [ltB, hAB] at h2; cases h2⟩, below_end (below_of hW1.out (below_regrown _ dq osq))⟩
            · cases hA : hasB k fs (ff q).1
              · go_wp2
                refine wp_region_quiet_below (by kernel_rfl) (by kernel_rfl) ?_
                repeat (first | go_big_quiet_step (first | (with_reducible exact has_q B _ k fs _ _ HL.out hBW _ hA _ _) | (with_reducible exact has_q B _ k fs _ _ HL.out hBW _ hA2 _ _) | (with_reducible exact bef_q _ _ _ _ _ _ hbf _ _)) | quiet_step (first | (with_reducible exact has_q B _ k fs _ _ HL.out hBW _ hA _ _) | (with_reducible exact has_q B _ k fs _ _ HL.out hBW _ hA2 _ _) | (with_reducible exact bef_q _ _ _ _ _ _ hbf _ _)))
                refine wpQuiet_nil ?_
                intro _ hw'
                obtain ⟨⟨dq, osq⟩, hw''⟩ := hw'
                subst hw''
                go_wp2
                go_ret
                exact ⟨false, rfl, ⟨(fun h => by cases h), fun h => by have := h.2.2.2 q hlq; have h2 := this.2.1; rw [hA] at h2; cases h2⟩, below_end (below_of hW1.out (below_regrown _ dq osq))⟩
              · cases hA2 : hasB k fs (ff q).2
                · go_wp2
                  refine wp_region_quiet_below (by kernel_rfl) (by kernel_rfl) ?_
                  repeat (first | go_big_quiet_step (first | (with_reducible exact has_q B _ k fs _ _ HL.out hBW _ hA _ _) | (with_reducible exact has_q B _ k fs _ _ HL.out hBW _ hA2 _ _) | (with_reducible exact bef_q _ _ _ _ _ _ hbf _ _)) | quiet_step (first | (with_reducible exact has_q B _ k fs _ _ HL.out hBW _ hA _ _) | (with_reducible exact has_q B _ k fs _ _ HL.out hBW _ hA2 _ _) | (with_reducible exact bef_q _ _ _ _ _ _ hbf _ _)))
                  refine wpQuiet_nil ?_
                  intro _ hw'
                  obtain ⟨⟨dq, osq⟩, hw''⟩ := hw'
                  subst hw''
                  go_wp2
                  go_ret
                  exact ⟨false, rfl, ⟨(fun h => by cases h), fun h => by have := h.2.2.2 q hlq; have h2 := this.2.2.1; rw [hA2] at h2; cases h2⟩, below_end (below_of hW1.out (below_regrown _ dq osq))⟩
                · have HAB : Hid (ltB (ff q).1 (ff q).2 = true) := hAB
                  have HA : Hid (hasB k fs (ff q).1 = true) := hA
                  have HA2 : Hid (hasB k fs (ff q).2 = true) := hA2
                  by_cases hq0 : q = 0
                  · have gt0 : decide (0 < q) = false := by simp; omega
                    have HK : Hid (q = 0) := hq0
                    clear hq0
                    go_wp2
                    refine wp_region_quiet_below (by kernel_rfl) (by kernel_rfl) ?_
                    repeat (first | go_big_quiet_step (first | (with_reducible exact has_q B _ k fs _ _ HL.out hBW _ hA _ _) | (with_reducible exact has_q B _ k fs _ _ HL.out hBW _ hA2 _ _) | (with_reducible exact bef_q _ _ _ _ _ _ hbf _ _)) | quiet_step (first | (with_reducible exact has_q B _ k fs _ _ HL.out hBW _ hA _ _) | (with_reducible exact has_q B _ k fs _ _ HL.out hBW _ hA2 _ _) | (with_reducible exact bef_q _ _ _ _ _ _ hbf _ _)))
                    refine wpQuiet_nil ?_
                    intro _ hw'
                    obtain ⟨⟨dq, osq⟩, hw''⟩ := hw'
                    subst hw''
                    go_wp2
                    go_roundw
                    case rel => exact ⟨q + 1, by omega, by go_num, fun j hj => by
                      by_cases e : j = q
                      · subst e; exact ⟨HAB.out, HA.out, HA2.out, fun h => by have := HK.out; omega⟩
                      · exact hallf.out j (by omega), below_of hW1.out (below_regrown _ dq osq)⟩
                    case measure => simp [intOf]; omega
                  · obtain ⟨m, rfl⟩ : ∃ m, q = m + 1 := ⟨q - 1, by omega⟩
                    obtain ⟨b', off', e', hbB', hcellm⟩ := HC1.out m (by omega)
                    cases e'
                    have m0 : wr.cell? ⟨b, off + m * 2, none⟩ = some (.string (ff m).1) := old_in hbel.out (by omega) (by simpa [cF] using hcellm 0 (by omega))
                    have m1 : wr.cell? ⟨b, off + m * 2 + 1, none⟩ = some (.string (ff m).2) := old_in hbel.out (by omega) (by simpa [cF] using hcellm 1 (by omega))
                    have q4 := fun d os => cell_regrown (cell_past m0 (by omega) (.cells #[.string (ff (m + 1)).1, .string (ff (m + 1)).2] 81)) d os
                    have q5 := fun d os => cell_regrown (cell_past m1 (by omega) (.cells #[.string (ff (m + 1)).1, .string (ff (m + 1)).2] 81)) d os
                    have gt0 : decide ((0 : Int) < ((m : Int) + 1)) = true := by rw [decide_eq_true_eq]; omega
                    cases hbf : befB ((ff m).1, (ff m).2) ((ff (m + 1)).1, (ff (m + 1)).2)
                    · go_wp2
                      refine wp_region_quiet_below (by kernel_rfl) (by kernel_rfl) ?_
                      repeat (first | go_big_quiet_step (first | (with_reducible exact has_q B _ k fs _ _ HL.out hBW _ hA _ _) | (with_reducible exact has_q B _ k fs _ _ HL.out hBW _ hA2 _ _) | (with_reducible exact bef_q _ _ _ _ _ _ hbf _ _)) | quiet_step (first | (with_reducible exact has_q B _ k fs _ _ HL.out hBW _ hA _ _) | (with_reducible exact has_q B _ k fs _ _ HL.out hBW _ hA2 _ _) | (with_reducible exact bef_q _ _ _ _ _ _ hbf _ _)))
                      refine wpQuiet_nil ?_
                      intro _ hw'
                      obtain ⟨⟨dq, osq⟩, hw''⟩ := hw'
                      subst hw''
                      go_wp2
                      go_ret
                      exact ⟨false, rfl, ⟨(fun h => by cases h), fun h => by have := h.2.2.2 (m + 1) hlq; have h2 := this.2.2.2 (by omega); rw [Nat.add_sub_cancel] at h2; exact absurd (hbf.symm.trans h2) (by decide)⟩, below_end (below_of hW1.out (below_regrown _ dq osq))⟩
                    · go_wp2
                      refine wp_region_quiet_below (by kernel_rfl) (by kernel_rfl) ?_
                      repeat (first | go_big_quiet_step (first | (with_reducible exact has_q B _ k fs _ _ HL.out hBW _ hA _ _) | (with_reducible exact has_q B _ k fs _ _ HL.out hBW _ hA2 _ _) | (with_reducible exact bef_q _ _ _ _ _ _ hbf _ _)) | quiet_step (first | (with_reducible exact has_q B _ k fs _ _ HL.out hBW _ hA _ _) | (with_reducible exact has_q B _ k fs _ _ HL.out hBW _ hA2 _ _) | (with_reducible exact bef_q _ _ _ _ _ _ hbf _ _)))
                      refine wpQuiet_nil ?_
                      intro _ hw'
                      obtain ⟨⟨dq, osq⟩, hw''⟩ := hw'
                      subst hw''
                      go_wp2
                      go_roundw
                      case rel => exact ⟨m + 1 + 1, by omega, by go_num, fun j hj => by
                        by_cases e : j = m + 1
                        · subst e; exact ⟨HAB.out, HA.out, HA2.out, fun _ => by rw [Nat.add_sub_cancel]; exact hbf⟩
                        · exact hallf.out j (by omega), below_of hW1.out (below_regrown _ dq osq)⟩
                      case measure => simp [intOf]; omega
          · have hqn : q = nf := by omega
            subst hqn
            go_wp2
            go_ret
            exact ⟨true, rfl, ⟨fun _ => ⟨hl0, hl1, hall.out, hallf.out⟩, fun _ => rfl⟩, below_end hbel.out⟩
  · by_cases hs8 : ns ≤ 8
    · have d0 : decide ((8 : Int) < (ns : Int)) = false := by simp; omega
      have d1 : decide ((12 : Int) < (nf : Int)) = true := by simp; omega
      go_enter Try.func39, Try.ntmps39
      go_wp2
      go_ret
      exact ⟨false, rfl, ⟨(fun h => by cases h), fun h => absurd ⟨h.1, h.2.1⟩ hlen⟩, (Below.refl _ _).alloc (Nat.le_refl _) _⟩
    · have d0 : decide ((8 : Int) < (ns : Int)) = true := by simp; omega
      go_enter Try.func39, Try.ntmps39
      go_wp2
      go_ret
      exact ⟨false, rfl, ⟨(fun h => by cases h), fun h => absurd ⟨h.1, h.2.1⟩ hlen⟩, (Below.refl _ _).alloc (Nat.le_refl _) _⟩
end Go.Proofs.Ytgjcppdeljoimaa

namespace Go.Proofs.Ytgjcppdeljoimaa
open Go.RowKit
def placeP (f : Nat → ByteArray × Int × ByteArray) (i : Nat) : Prop := nameB (f i).1 = true ∧ (0 < i → ltB (f (i - 1)).1 (f i).1 = true) ∧ inB (f i).2.1 0 1000 = true ∧ nameB (f i).2.2 = true
def valveP (n : Nat) (g : Nat → ByteArray × Int × ByteArray) (f : Nat → ByteArray × ByteArray × ByteArray × ByteArray) (i : Nat) : Prop :=
  nameB (f i).1 = true ∧ (0 < i → ltB (f (i - 1)).1 (f i).1 = true) ∧ ltB (f i).2.1 (f i).2.2.1 = true ∧ decide (placeI n g (f i).2.1 < 0) = false ∧ decide (placeI n g (f i).2.2.1 < 0) = false ∧ nameB (f i).2.2.2 = true
open Go.Sort in
theorem in_q (n lo hi : Int) (wr : World) (b : Bool) (hb : inB n lo hi = b) (d : Nat) (os : Array Obj) : Calls Try.prog 69 #[.int .i64 n, .int .i64 lo, .int .i64 hi] (grow (redrawn wr d) os) fun e w'' => e = .returned (.bool b) ∧ ∃ p : Regrown, w'' = grow (redrawn wr p.d) p.os :=
  Calls.regrown_of ((inB_any n lo hi _).mono fun _ _ ⟨he, hw⟩ => ⟨by subst hb; exact he, by subst hw; exact Below.refl _ _⟩)
open Go.Sort in
theorem place_q (B : Nat) (v0 v1 v2 v3 : Value) (n : Nat) (f : Nat → ByteArray × Int × ByteArray) (x : ByteArray) (wr : World) (h : Lst B wr v2 n 3 (cP f)) (hB : B ≤ wr.heap.size) (d : Nat) (os : Array Obj) : Calls Try.prog 42 #[.agg #[v0, v1, v2, v3], .string x] (grow (redrawn wr d) os) fun e w'' => e = .returned (.int .i64 (placeI n f x)) ∧ ∃ p : Regrown, w'' = grow (redrawn wr p.d) p.os :=
  Calls.regrown_of (place_any B v0 v1 v2 v3 n f x _ (h.kept (below_regrown wr d os) hB) (Nat.le_trans hB (below_regrown wr d os).size))
set_option maxRecDepth 100000 in
set_option maxHeartbeats 16000000 in
theorem placesS_any (B : Nat) (v0 v1 v2 v3 : Value) (nf : Nat) (ff : Nat → ByteArray × Int × ByteArray) (w : World) (h1 : Lst B w v2 nf 3 (cP ff)) (hB : B ≤ w.heap.size) (hz : ∀ i, i < nf → (ff i).1.size ≤ maxLen ∧ (ff i).2.2.size ≤ maxLen) :
    Calls Try.prog 40 #[.agg #[v0, v1, v2, v3]] w fun e w' => ∃ b, e = .returned (.bool b) ∧ (b = true ↔ nf ≤ 14 ∧ ∀ i, i < nf → placeP ff i) ∧ Below w.heap.size w w' := by
  obtain ⟨o1, cap1, rfl, hn1, hc1⟩ := h1
  unfold maxLen at hn1
  have HC1 : Hid _ := hc1
  have HZ : Hid _ := hz
  clear hc1 hz
  by_cases hl : nf ≤ 14
  · have d0 : decide ((14 : Int) < (nf : Int)) = false := by simp; omega
    go_enter Try.func40, Try.ntmps40
    go_wp2
    go_loopw [3] (fun i wr => ∃ q : Nat, q ≤ nf ∧ i = .int .i64 q ∧ Hid (∀ j, j < q → placeP ff j) ∧ Hid (Below (w.heap.size + 1) (w.alloc (.cells #[v0, v1, .slice o1 nf cap1, v3] 28)) wr)) (fun i _ => nf - (intOf i).toNat)
    case atStart => exact ⟨0, Nat.zero_le _, rfl, fun _ h => by omega, Below.refl _ _⟩
    case round =>
      obtain ⟨q, hq, rfl, hallf, hbel⟩ := hrel
      have b0 := box_in hbel.out 0 _ rfl
      have b1 := box_in hbel.out 1 _ rfl
      have b2 := box_in hbel.out 2 _ rfl
      have b3 := box_in hbel.out 3 _ rfl
      simp only [List.getElem_toArray, List.getElem_cons_zero, List.getElem_cons_succ] at b0 b1 b2 b3
      by_cases hlq : q < nf
      · obtain ⟨b, off, rfl, hbB, hcell⟩ := HC1.out q hlq
        have hsz : w.heap.size + 1 ≤ wr.heap.size := by have := hbel.out.size; simpa using this
        obtain ⟨hz1, hz2⟩ := HZ.out q hlq
        have e0 : wr.cell? ⟨b, off + q * 3, none⟩ = some (.string (ff q).1) := old_in hbel.out (by omega) (by simpa [cP] using hcell 0 (by omega))
        have e1 : wr.cell? ⟨b, off + q * 3 + 1, none⟩ = some (.int .i64 (ff q).2.1) := old_in hbel.out (by omega) (by simpa [cP] using hcell 1 (by omega))
        have e2 : wr.cell? ⟨b, off + q * 3 + 2, none⟩ = some (.string (ff q).2.2) := old_in hbel.out (by omega) (by simpa [cP] using hcell 2 (by omega))
        have hW1 : Hid (Below (w.heap.size + 1) (w.alloc (.cells #[v0, v1, .slice (some ⟨b, off, none⟩) nf cap1, v3] 28)) (wr.alloc (.cells #[.string (ff q).1, .int .i64 (ff q).2.1, .string (ff q).2.2] 63))) := hbel.out.alloc (by omega) _
        have p0 := fun d os => cell_regrown (cell_past b0 (by omega) (.cells #[.string (ff q).1, .int .i64 (ff q).2.1, .string (ff q).2.2] 63)) d os
        have p1 := fun d os => cell_regrown (cell_past b1 (by omega) (.cells #[.string (ff q).1, .int .i64 (ff q).2.1, .string (ff q).2.2] 63)) d os
        have p2 := fun d os => cell_regrown (cell_past b2 (by omega) (.cells #[.string (ff q).1, .int .i64 (ff q).2.1, .string (ff q).2.2] 63)) d os
        have p3 := fun d os => cell_regrown (cell_past b3 (by omega) (.cells #[.string (ff q).1, .int .i64 (ff q).2.1, .string (ff q).2.2] 63)) d os
        have n0 := fun d os => cell_regrown (new_cell wr #[.string (ff q).1, .int .i64 (ff q).2.1, .string (ff q).2.2] 63 0 _ rfl) d os
        have n1 := fun d os => cell_regrown (new_cell wr #[.string (ff q).1, .int .i64 (ff q).2.1, .string (ff q).2.2] 63 1 _ rfl) d os
        have n2 := fun d os => cell_regrown (new_cell wr #[.string (ff q).1, .int .i64 (ff q).2.1, .string (ff q).2.2] 63 2 _ rfl) d os
        by_cases hq0 : q = 0
        · have gt0 : decide (0 < q) = false := by simp; omega
          have HK : Hid (q = 0) := hq0
          clear hq0
          cases hnm : nameB (ff q).1
          · go_wp2
            refine wp_region_quiet_below (by kernel_rfl) (by kernel_rfl) ?_
            repeat (first | go_big_quiet_step (first | (with_reducible exact name_q _ _ hz1 _ hnm _ _) | (with_reducible exact name_q _ _ hz2 _ hst _ _) | (with_reducible exact in_q _ _ _ _ _ hin _ _)) | quiet_step (first | (with_reducible exact name_q _ _ hz1 _ hnm _ _) | (with_reducible exact name_q _ _ hz2 _ hst _ _) | (with_reducible exact in_q _ _ _ _ _ hin _ _)))
            refine wpQuiet_nil ?_
            intro _ hw'
            obtain ⟨⟨dq, osq⟩, hw''⟩ := hw'
            subst hw''
            go_wp2
            go_ret
            exact ⟨false, rfl, ⟨(fun h => by cases h), fun h => absurd (h.2 q hlq) (by intro h; have := h.1; rw [hnm] at this; cases this)⟩, below_end (below_of hW1.out (below_regrown _ dq osq))⟩
          · cases hin : inB (ff q).2.1 0 1000
            · go_wp2
              refine wp_region_quiet_below (by kernel_rfl) (by kernel_rfl) ?_
              repeat (first | go_big_quiet_step (first | (with_reducible exact name_q _ _ hz1 _ hnm _ _) | (with_reducible exact name_q _ _ hz2 _ hst _ _) | (with_reducible exact in_q _ _ _ _ _ hin _ _)) | quiet_step (first | (with_reducible exact name_q _ _ hz1 _ hnm _ _) | (with_reducible exact name_q _ _ hz2 _ hst _ _) | (with_reducible exact in_q _ _ _ _ _ hin _ _)))
              refine wpQuiet_nil ?_
              intro _ hw'
              obtain ⟨⟨dq, osq⟩, hw''⟩ := hw'
              subst hw''
              go_wp2
              go_ret
              exact ⟨false, rfl, ⟨(fun h => by cases h), fun h => absurd (h.2 q hlq) (by intro h; have := h.2.2.1; rw [hin] at this; cases this)⟩, below_end (below_of hW1.out (below_regrown _ dq osq))⟩
            · cases hst : nameB (ff q).2.2
              · go_wp2
                refine wp_region_quiet_below (by kernel_rfl) (by kernel_rfl) ?_
                repeat (first | go_big_quiet_step (first | (with_reducible exact name_q _ _ hz1 _ hnm _ _) | (with_reducible exact name_q _ _ hz2 _ hst _ _) | (with_reducible exact in_q _ _ _ _ _ hin _ _)) | quiet_step (first | (with_reducible exact name_q _ _ hz1 _ hnm _ _) | (with_reducible exact name_q _ _ hz2 _ hst _ _) | (with_reducible exact in_q _ _ _ _ _ hin _ _)))
                refine wpQuiet_nil ?_
                intro _ hw'
                obtain ⟨⟨dq, osq⟩, hw''⟩ := hw'
                subst hw''
                go_wp2
                go_ret
                exact ⟨false, rfl, ⟨(fun h => by cases h), fun h => absurd (h.2 q hlq) (by intro h; have := h.2.2.2; rw [hst] at this; cases this)⟩, below_end (below_of hW1.out (below_regrown _ dq osq))⟩
              · go_wp2
                refine wp_region_quiet_below (by kernel_rfl) (by kernel_rfl) ?_
                repeat (first | go_big_quiet_step (first | (with_reducible exact name_q _ _ hz1 _ hnm _ _) | (with_reducible exact name_q _ _ hz2 _ hst _ _) | (with_reducible exact in_q _ _ _ _ _ hin _ _)) | quiet_step (first | (with_reducible exact name_q _ _ hz1 _ hnm _ _) | (with_reducible exact name_q _ _ hz2 _ hst _ _) | (with_reducible exact in_q _ _ _ _ _ hin _ _)))
                refine wpQuiet_nil ?_
                intro _ hw'
                obtain ⟨⟨dq, osq⟩, hw''⟩ := hw'
                subst hw''
                go_wp2
                go_roundw
                case rel => exact ⟨q + 1, by omega, by go_num, fun j hj => by
                  by_cases e : j = q
                  · subst e; exact ⟨hnm, fun h => by have := HK.out; omega, hin, hst⟩
                  · exact hallf.out j (by omega), below_of hW1.out (below_regrown _ dq osq)⟩
                case measure => simp [intOf]; omega
        · obtain ⟨m, rfl⟩ : ∃ m, q = m + 1 := ⟨q - 1, by omega⟩
          obtain ⟨b', off', e', hbB', hcellm⟩ := HC1.out m (by omega)
          cases e'
          have m0 : wr.cell? ⟨b, off + m * 3, none⟩ = some (.string (ff m).1) := old_in hbel.out (by omega) (by simpa [cP] using hcellm 0 (by omega))
          have p4 := fun d os => cell_regrown (cell_past m0 (by omega) (.cells #[.string (ff (m + 1)).1, .int .i64 (ff (m + 1)).2.1, .string (ff (m + 1)).2.2] 63)) d os
          have gt0 : decide ((0 : Int) < ((m : Int) + 1)) = true := by rw [decide_eq_true_eq]; omega
          cases hnm : nameB (ff (m + 1)).1
          · go_wp2
            refine wp_region_quiet_below (by kernel_rfl) (by kernel_rfl) ?_
            repeat (first | go_big_quiet_step (first | (with_reducible exact name_q _ _ hz1 _ hnm _ _) | (with_reducible exact name_q _ _ hz2 _ hst _ _) | (with_reducible exact in_q _ _ _ _ _ hin _ _)) | quiet_step (first | (with_reducible exact name_q _ _ hz1 _ hnm _ _) | (with_reducible exact name_q _ _ hz2 _ hst _ _) | (with_reducible exact in_q _ _ _ _ _ hin _ _)))
            refine wpQuiet_nil ?_
            intro _ hw'
            obtain ⟨⟨dq, osq⟩, hw''⟩ := hw'
            subst hw''
            go_wp2
            go_ret
            exact ⟨false, rfl, ⟨(fun h => by cases h), fun h => absurd (h.2 (m + 1) hlq) (by intro h; have := h.1; rw [hnm] at this; cases this)⟩, below_end (below_of hW1.out (below_regrown _ dq osq))⟩
          · cases hlt : Op.bytesLess (ff m).1.toList (ff (m + 1)).1.toList
            · go_wp2
              refine wp_region_quiet_below (by kernel_rfl) (by kernel_rfl) ?_
              repeat (first | go_big_quiet_step (first | (with_reducible exact name_q _ _ hz1 _ hnm _ _) | (with_reducible exact name_q _ _ hz2 _ hst _ _) | (with_reducible exact in_q _ _ _ _ _ hin _ _)) | quiet_step (first | (with_reducible exact name_q _ _ hz1 _ hnm _ _) | (with_reducible exact name_q _ _ hz2 _ hst _ _) | (with_reducible exact in_q _ _ _ _ _ hin _ _)))
              refine wpQuiet_nil ?_
              intro _ hw'
              obtain ⟨⟨dq, osq⟩, hw''⟩ := hw'
              subst hw''
              go_wp2
              go_ret
              exact ⟨false, rfl, ⟨(fun h => by cases h), fun h => absurd (h.2 (m + 1) hlq) (by intro h; have := h.2.1 (by omega); rw [Nat.add_sub_cancel, ltB, hlt] at this; cases this)⟩, below_end (below_of hW1.out (below_regrown _ dq osq))⟩
            · cases hin : inB (ff (m + 1)).2.1 0 1000
              · go_wp2
                refine wp_region_quiet_below (by kernel_rfl) (by kernel_rfl) ?_
                repeat (first | go_big_quiet_step (first | (with_reducible exact name_q _ _ hz1 _ hnm _ _) | (with_reducible exact name_q _ _ hz2 _ hst _ _) | (with_reducible exact in_q _ _ _ _ _ hin _ _)) | quiet_step (first | (with_reducible exact name_q _ _ hz1 _ hnm _ _) | (with_reducible exact name_q _ _ hz2 _ hst _ _) | (with_reducible exact in_q _ _ _ _ _ hin _ _)))
                refine wpQuiet_nil ?_
                intro _ hw'
                obtain ⟨⟨dq, osq⟩, hw''⟩ := hw'
                subst hw''
                go_wp2
                go_ret
                exact ⟨false, rfl, ⟨(fun h => by cases h), fun h => absurd (h.2 (m + 1) hlq) (by intro h; have := h.2.2.1; rw [hin] at this; cases this)⟩, below_end (below_of hW1.out (below_regrown _ dq osq))⟩
              · cases hst : nameB (ff (m + 1)).2.2
                · go_wp2
                  refine wp_region_quiet_below (by kernel_rfl) (by kernel_rfl) ?_
                  repeat (first | go_big_quiet_step (first | (with_reducible exact name_q _ _ hz1 _ hnm _ _) | (with_reducible exact name_q _ _ hz2 _ hst _ _) | (with_reducible exact in_q _ _ _ _ _ hin _ _)) | quiet_step (first | (with_reducible exact name_q _ _ hz1 _ hnm _ _) | (with_reducible exact name_q _ _ hz2 _ hst _ _) | (with_reducible exact in_q _ _ _ _ _ hin _ _)))
                  refine wpQuiet_nil ?_
                  intro _ hw'
                  obtain ⟨⟨dq, osq⟩, hw''⟩ := hw'
                  subst hw''
                  go_wp2
                  go_ret
                  exact ⟨false, rfl, ⟨(fun h => by cases h), fun h => absurd (h.2 (m + 1) hlq) (by intro h; have := h.2.2.2; rw [hst] at this; cases this)⟩, below_end (below_of hW1.out (below_regrown _ dq osq))⟩
                · go_wp2
                  refine wp_region_quiet_below (by kernel_rfl) (by kernel_rfl) ?_
                  repeat (first | go_big_quiet_step (first | (with_reducible exact name_q _ _ hz1 _ hnm _ _) | (with_reducible exact name_q _ _ hz2 _ hst _ _) | (with_reducible exact in_q _ _ _ _ _ hin _ _)) | quiet_step (first | (with_reducible exact name_q _ _ hz1 _ hnm _ _) | (with_reducible exact name_q _ _ hz2 _ hst _ _) | (with_reducible exact in_q _ _ _ _ _ hin _ _)))
                  refine wpQuiet_nil ?_
                  intro _ hw'
                  obtain ⟨⟨dq, osq⟩, hw''⟩ := hw'
                  subst hw''
                  go_wp2
                  go_roundw
                  case rel => exact ⟨(m + 1) + 1, by omega, by go_num, fun j hj => by
                    by_cases e : j = (m + 1)
                    · subst e; exact ⟨hnm, fun _ => by rw [Nat.add_sub_cancel]; exact hlt, hin, hst⟩
                    · exact hallf.out j (by omega), below_of hW1.out (below_regrown _ dq osq)⟩
                  case measure => simp [intOf]; omega
      · have hqn : q = nf := by omega
        subst hqn
        go_wp2
        go_ret
        exact ⟨true, rfl, ⟨fun _ => ⟨hl, hallf.out⟩, fun _ => rfl⟩, below_end hbel.out⟩
  · have d0 : decide ((14 : Int) < (nf : Int)) = true := by simp; omega
    go_enter Try.func40, Try.ntmps40
    go_wp2
    go_ret
    exact ⟨false, rfl, ⟨(fun h => by cases h), fun h => absurd h.1 hl⟩, (Below.refl _ _).alloc (Nat.le_refl _) _⟩
end Go.Proofs.Ytgjcppdeljoimaa
