/-
  Contracts of the model's PlantPrint: the text of a valid plant, and the empty text of any other.
-/
import Derived.Test.YtbdhlcfcmennjabDoorGb
namespace Go.Proofs.YtbdhlcfcmennjabDoor
open Go.RowKit

set_option maxRecDepth 100000 in
set_option maxHeartbeats 1000000 in
theorem printS_no (B : Nat) (v0 v1 v2 v3 : Value) (D : PD) (w : World) (h : PAt B w v0 v1 v2 v3 D) (hB : B ≤ w.heap.size) (hz : D.Sz) (hV : ¬ D.V) :
    Calls Tryd.prog 5 #[.agg #[v0, v1, v2, v3]] w fun e w' => e = .returned (.string (tx [])) ∧ Below w.heap.size w w' := by
  have H : Hid (∀ w', Below w.heap.size w w' → PAt B w' v0 v1 v2 v3 D) := fun w' hb => h.kept hb hB
  have hb0 : Hid (Below w.heap.size w (w.alloc (.cells #[v0, v1, v2, v3] 34))) := (Below.refl _ _).alloc (Nat.le_refl _) _
  clear h
  go_enter Tryd.func5, Tryd.ntmps5
  go_wp2_with fail
  refine (validS_any B v0 v1 v2 v3 D _ (H.out _ hb0.out) (by simp; omega) hz).mono ?_; rintro e w1 ⟨b, rfl, hi, hb1⟩
  have hb : b = false := by
    cases b
    · rfl
    · exact absurd (hi.1 rfl) hV
  subst hb
  go_wp2_with fail
  go_ret
  exact ⟨rfl, hb0.out.trans (hb1.mono (by simp))⟩

open Go.Sort in
theorem dec_q (j : Int) (wr : World) (h0 : 0 ≤ j) (h1 : j ≤ 9999) (d : Nat) (os : Array Obj) : Calls Tryd.prog 14 #[.int .i64 j] (grow (redrawn wr d) os) fun e w'' => e = .returned (.string (tx (Lib.decDigits j.toNat))) ∧ ∃ p : Regrown, w'' = grow (redrawn wr p.d) p.os :=
  Calls.regrown_of (dec_any (j.toNat + 1) j _ (by omega) h0 h1)

theorem put1 (l a : List UInt8) (x : ByteArray) : tx l ++ ⟨a.toArray⟩ ++ x = tx (l ++ (a ++ x.data.toList)) := by
  apply ByteArray.ext; simp [tx, ByteArray.data_append]

set_option maxRecDepth 100000 in
set_option maxHeartbeats 4000000 in
theorem printS_yes (B : Nat) (v0 v1 v2 v3 : Value) (D : PD) (w : World) (h : PAt B w v0 v1 v2 v3 D) (hB : B ≤ w.heap.size) (hz : D.Sz) (hV : D.V) :
    Calls Tryd.prog 5 #[.agg #[v0, v1, v2, v3]] w fun e w' => e = .returned (.string (tx D.text)) ∧ Below w.heap.size w w' := by
  have H : Hid (∀ w', Below w.heap.size w w' → PAt B w' v0 v1 v2 v3 D) := fun w' hb => h.kept hb hB
  obtain ⟨hs, hf, hp, hv⟩ := h
  obtain ⟨o0, c0, rfl, hn0, hc0⟩ := hs
  obtain ⟨o1, c1, rfl, hn1, hc1⟩ := hf
  obtain ⟨o2, c2, rfl, hn2, hc2⟩ := hp
  obtain ⟨o3, c3, rfl, hn3, hc3⟩ := hv
  have HC0 : Hid _ := hc0
  have HC1 : Hid _ := hc1
  have HC2 : Hid _ := hc2
  have HC3 : Hid _ := hc3
  have HN : Hid D.Nm := hV.nm
  have HV : Hid D.V := hV
  have m0 := HN.out.ns
  have m1 := HN.out.nf
  have m2 := HN.out.np
  have m3 := HN.out.nv
  clear hc0 hc1 hc2 hc3 hn0 hn1 hn2 hn3 hV
  have hb0 : Hid (Below w.heap.size w (w.alloc (.cells #[.slice o0 D.ns c0, .slice o1 D.nf c1, .slice o2 D.np c2, .slice o3 D.nv c3] 34))) := (Below.refl _ _).alloc (Nat.le_refl _) _
  go_enter Tryd.func5, Tryd.ntmps5
  go_wp2_with fail
  refine (validS_any B _ _ _ _ D _ (H.out _ hb0.out) (by simp; omega) hz).mono ?_; rintro e w1 ⟨b, rfl, hi, hb1⟩
  have hb : b = true := hi.2 HV.out
  subst hb
  have HB1 : Hid (Below (w.heap.size + 1) (w.alloc (.cells #[.slice o0 D.ns c0, .slice o1 D.nf c1, .slice o2 D.np c2, .slice o3 D.nv c3] 34)) w1) := hb1.mono (by simp)
  clear hi hb1 hz
  go_wp2_with fail
  go_loopw [3, 4] (fun out i wr => ∃ k : Nat, k ≤ D.ns ∧ i = .int .i64 k ∧ out = .string (tx (D.l1 k)) ∧ Hid (Below (w.heap.size + 1) (w.alloc (.cells #[.slice o0 D.ns c0, .slice o1 D.nf c1, .slice o2 D.np c2, .slice o3 D.nv c3] 34)) wr)) (fun _ i _ => D.ns - (intOf i).toNat)
  case atStart => exact ⟨0, Nat.zero_le _, rfl, by rw [PD.l1, acc_zero]; rfl, HB1⟩
  case round =>
    obtain ⟨k, hk, rfl, rfl, hbel⟩ := hrel
    have b0 := box_in hbel.out 0 _ rfl
    have b1 := box_in hbel.out 1 _ rfl
    have b2 := box_in hbel.out 2 _ rfl
    have b3 := box_in hbel.out 3 _ rfl
    simp only [List.getElem_toArray, List.getElem_cons_zero, List.getElem_cons_succ] at b0 b1 b2 b3
    have hsz : w.heap.size + 1 ≤ wr.heap.size := by have := hbel.out.size; simpa using this
    have hL : (tx (D.l1 k)).size ≤ 5000 := by rw [tx_size]; exact Nat.le_trans (HN.out.l1 hk) (by omega)
    by_cases hlt : k < D.ns
    · obtain ⟨b, off, rfl, hbB, hcell⟩ := HC0.out k hlt
      have e0 : wr.cell? ⟨b, off + k, none⟩ = some (.string (D.fs k)) := old_in hbel.out (by omega) (by simpa [cS] using hcell 0 (by omega))
      have z0 := HN.out.s k hlt
      go_wp2_with fail
      go_roundw
      case rel => exact ⟨k + 1, by omega, by go_num, congrArg Value.string (st1 D k), hbel⟩
      case measure => simp [intOf]; omega
    · have hkn : k = D.ns := by omega
      subst hkn
      go_wp2_with fail
      go_loopw [3, 5] (fun out i wr => ∃ k : Nat, k ≤ D.nf ∧ i = .int .i64 k ∧ out = .string (tx (D.l2 k)) ∧ Hid (Below (w.heap.size + 1) (w.alloc (.cells #[.slice o0 D.ns c0, .slice o1 D.nf c1, .slice o2 D.np c2, .slice o3 D.nv c3] 34)) wr)) (fun _ i _ => D.nf - (intOf i).toNat)
      case atStart => exact ⟨0, Nat.zero_le _, rfl, by rw [PD.l2, acc_zero], hbel⟩
      case round =>
        obtain ⟨k, hk, rfl, rfl, hbel⟩ := hrel
        have b0 := box_in hbel.out 0 _ rfl
        have b1 := box_in hbel.out 1 _ rfl
        have b2 := box_in hbel.out 2 _ rfl
        have b3 := box_in hbel.out 3 _ rfl
        simp only [List.getElem_toArray, List.getElem_cons_zero, List.getElem_cons_succ] at b0 b1 b2 b3
        have hsz : w.heap.size + 1 ≤ wr.heap.size := by have := hbel.out.size; simpa using this
        have hL : (tx (D.l2 k)).size ≤ 5000 := by rw [tx_size]; exact Nat.le_trans (HN.out.l2 hk) (by omega)
        by_cases hlt : k < D.nf
        · obtain ⟨b, off, rfl, hbB, hcell⟩ := HC1.out k hlt
          have e0 : wr.cell? ⟨b, off + k * 2, none⟩ = some (.string (D.ff k).1) := old_in hbel.out (by omega) (by simpa [cF] using hcell 0 (by omega))
          have e1 : wr.cell? ⟨b, off + k * 2 + 1, none⟩ = some (.string (D.ff k).2) := old_in hbel.out (by omega) (by simpa [cF] using hcell 1 (by omega))
          obtain ⟨z0, z1⟩ := HN.out.f k hlt
          have q_b1 := fun d os => cell_regrown b1 d os
          have q_e0 := fun d os => cell_regrown e0 d os
          have q_e1 := fun d os => cell_regrown e1 d os
          go_wp2_with fail
          refine wp_region_quiet_below (by kernel_rfl) (by kernel_rfl) ?_
          repeat (first | go_big_quiet_step (fail) | quiet_step (fail))
          refine wpQuiet_nil ?_
          intro _ hw'
          obtain ⟨⟨dq, osq⟩, hw''⟩ := hw'
          subst hw''
          go_wp2_with fail
          go_roundw
          case rel => exact ⟨k + 1, by omega, by go_num, congrArg Value.string (st2 D k), below_of hbel.out (below_regrown _ dq osq)⟩
          case measure => simp [intOf]; omega
        · have hkn : k = D.nf := by omega
          subst hkn
          go_wp2_with fail
          go_loopw [3, 6] (fun out i wr => ∃ k : Nat, k ≤ D.np ∧ i = .int .i64 k ∧ out = .string (tx (D.l3 k)) ∧ Hid (Below (w.heap.size + 1) (w.alloc (.cells #[.slice o0 D.ns c0, .slice o1 D.nf c1, .slice o2 D.np c2, .slice o3 D.nv c3] 34)) wr)) (fun _ i _ => D.np - (intOf i).toNat)
          case atStart => exact ⟨0, Nat.zero_le _, rfl, by rw [PD.l3, acc_zero], hbel⟩
          case round =>
            obtain ⟨k, hk, rfl, rfl, hbel⟩ := hrel
            have b0 := box_in hbel.out 0 _ rfl
            have b1 := box_in hbel.out 1 _ rfl
            have b2 := box_in hbel.out 2 _ rfl
            have b3 := box_in hbel.out 3 _ rfl
            simp only [List.getElem_toArray, List.getElem_cons_zero, List.getElem_cons_succ] at b0 b1 b2 b3
            have hsz : w.heap.size + 1 ≤ wr.heap.size := by have := hbel.out.size; simpa using this
            have hL : (tx (D.l3 k)).size ≤ 5000 := by rw [tx_size]; exact Nat.le_trans (HN.out.l3 hk) (by omega)
            by_cases hlt : k < D.np
            · obtain ⟨b, off, rfl, hbB, hcell⟩ := HC2.out k hlt
              have e0 : wr.cell? ⟨b, off + k * 3, none⟩ = some (.string (D.fp k).1) := old_in hbel.out (by omega) (by simpa [cP] using hcell 0 (by omega))
              have e1 : wr.cell? ⟨b, off + k * 3 + 1, none⟩ = some (.int .i64 (D.fp k).2.1) := old_in hbel.out (by omega) (by simpa [cP] using hcell 1 (by omega))
              have e2 : wr.cell? ⟨b, off + k * 3 + 2, none⟩ = some (.string (D.fp k).2.2) := old_in hbel.out (by omega) (by simpa [cP] using hcell 2 (by omega))
              obtain ⟨z0, z1, z2, z3⟩ := HN.out.p k hlt
              have zd : (tx (Lib.decDigits (D.fp k).2.1.toNat)).size ≤ 4 := by rw [tx_size]; exact dec_len _ (by omega)
              have x0 := new_cell wr #[.string (D.fp k).1, .int .i64 (D.fp k).2.1, .string (D.fp k).2.2] 46 0 _ rfl
              have x1 := new_cell wr #[.string (D.fp k).1, .int .i64 (D.fp k).2.1, .string (D.fp k).2.2] 46 1 _ rfl
              have x2 := new_cell wr #[.string (D.fp k).1, .int .i64 (D.fp k).2.1, .string (D.fp k).2.2] 46 2 _ rfl
              simp only [List.getElem_toArray, List.getElem_cons_zero, List.getElem_cons_succ] at x0 x1 x2
              have hW : Hid (Below (w.heap.size + 1) (w.alloc (.cells #[.slice o0 D.ns c0, .slice o1 D.nf c1, .slice (some ⟨b, off, none⟩) D.np c2, .slice o3 D.nv c3] 34)) (wr.alloc (.cells #[.string (D.fp k).1, .int .i64 (D.fp k).2.1, .string (D.fp k).2.2] 46))) := hbel.out.alloc (by omega) _
              by_cases hcap : 0 < (D.fp k).2.1
              · have q_x0 := fun d os => cell_regrown x0 d os
                have q_x1 := fun d os => cell_regrown x1 d os
                have q_x2 := fun d os => cell_regrown x2 d os
                go_wp2_with fail
                refine wp_region_quiet_below (by kernel_rfl) (by kernel_rfl) ?_
                repeat (first | go_big_quiet_step (with_reducible exact dec_q _ _ z1 (by omega) _ _) | quiet_step (with_reducible exact dec_q _ _ z1 (by omega) _ _))
                refine wpQuiet_nil ?_
                intro _ hw'
                obtain ⟨⟨dq, osq⟩, hw''⟩ := hw'
                subst hw''
                go_wp2_with fail
                go_roundw
                case rel => exact ⟨k + 1, by omega, by go_num, congrArg Value.string (st3 D k hcap), below_of hW.out (below_regrown _ dq osq)⟩
                case measure => simp [intOf]; omega
              · go_wp2_with fail
                go_roundw
                case rel => exact ⟨k + 1, by omega, by go_num, congrArg Value.string (st3' D k hcap), hW⟩
                case measure => simp [intOf]; omega
            · have hkn : k = D.np := by omega
              subst hkn
              go_wp2_with fail
              go_loopw [3, 8] (fun out i wr => ∃ k : Nat, k ≤ D.nv ∧ i = .int .i64 k ∧ out = .string (tx (D.l4 k)) ∧ Hid (Below (w.heap.size + 1) (w.alloc (.cells #[.slice o0 D.ns c0, .slice o1 D.nf c1, .slice o2 D.np c2, .slice o3 D.nv c3] 34)) wr)) (fun _ i _ => D.nv - (intOf i).toNat)
              case atStart => exact ⟨0, Nat.zero_le _, rfl, by rw [PD.l4, acc_zero], hbel⟩
              case round =>
                obtain ⟨k, hk, rfl, rfl, hbel⟩ := hrel
                have b0 := box_in hbel.out 0 _ rfl
                have b1 := box_in hbel.out 1 _ rfl
                have b2 := box_in hbel.out 2 _ rfl
                have b3 := box_in hbel.out 3 _ rfl
                simp only [List.getElem_toArray, List.getElem_cons_zero, List.getElem_cons_succ] at b0 b1 b2 b3
                have hsz : w.heap.size + 1 ≤ wr.heap.size := by have := hbel.out.size; simpa using this
                have hL : (tx (D.l4 k)).size ≤ 5000 := by rw [tx_size]; exact Nat.le_trans (HN.out.l4 hk) (by omega)
                by_cases hlt : k < D.nv
                · obtain ⟨b, off, rfl, hbB, hcell⟩ := HC3.out k hlt
                  have e0 : wr.cell? ⟨b, off + k * 4, none⟩ = some (.string (D.fv k).1) := old_in hbel.out (by omega) (by simpa [cV] using hcell 0 (by omega))
                  have e1 : wr.cell? ⟨b, off + k * 4 + 1, none⟩ = some (.string (D.fv k).2.1) := old_in hbel.out (by omega) (by simpa [cV] using hcell 1 (by omega))
                  have e2 : wr.cell? ⟨b, off + k * 4 + 2, none⟩ = some (.string (D.fv k).2.2.1) := old_in hbel.out (by omega) (by simpa [cV] using hcell 2 (by omega))
                  have e3 : wr.cell? ⟨b, off + k * 4 + 3, none⟩ = some (.string (D.fv k).2.2.2) := old_in hbel.out (by omega) (by simpa [cV] using hcell 3 (by omega))
                  obtain ⟨z0, z1, z2, z3⟩ := HN.out.v k hlt
                  go_wp2_with fail
                  go_roundw
                  case rel => exact ⟨k + 1, by omega, by go_num, congrArg Value.string (st4 D k), hbel.out.alloc (by omega) _⟩
                  case measure => simp [intOf]; omega
                · have hkn : k = D.nv := by omega
                  subst hkn
                  go_wp2_with fail
                  go_ret
                  exact ⟨rfl, below_end hbel.out⟩

end Go.Proofs.YtbdhlcfcmennjabDoor
