/-
  A contract of one of the program's tests of the parts of a plant.
-/
import Derived.Test.YtciembgenlcogacZd
namespace Go.Proofs.Ytciembgenlcogac
open Go.RowKit

set_option maxRecDepth 100000 in
set_option maxHeartbeats 4000000 in
theorem placesI_any (B : Nat) (v0 v1 v2 v3 : Value) (nf : Nat) (ff : Nat → ByteArray × Int × ByteArray) (w : World) (h1 : Lst B w v2 nf 3 (cP ff)) (hB : B ≤ w.heap.size) (hz : ∀ i, i < nf → (ff i).1.size ≤ maxLen ∧ (ff i).2.2.size ≤ maxLen) :
    Calls Try.prog 55 #[.agg #[v0, v1, v2, v3]] w fun e w' => ∃ b, e = .returned (.bool b) ∧ (b = true ↔ nf ≤ 14 ∧ (∀ i, i < nf → placeQ ff i) ∧ ∀ i, 0 < i → i < nf → ltB (ff (i - 1)).1 (ff i).1 = true) ∧ Below w.heap.size w w' := by
  have H1 : Hid (Lst B w v2 nf 3 (cP ff)) := h1
  obtain ⟨o1, cap1, rfl, hn1, hc1⟩ := h1
  unfold maxLen at hn1
  have HC1 : Hid _ := hc1
  have HZ : Hid _ := hz
  clear hc1 hz
  by_cases hl : nf ≤ 14
  · have d0 : decide ((14 : Int) < (nf : Int)) = false := by simp; omega
    go_enter Try.func55, Try.ntmps55
    go_wp2
    go_loopw [12] (fun i wr => ∃ q : Nat, q ≤ nf ∧ i = .int .i64 q ∧ Hid (∀ j, j < q → placeQ ff j) ∧ Hid (Below (w.heap.size + 1) (w.alloc (.cells #[v0, v1, .slice o1 nf cap1, v3] 39)) wr)) (fun i _ => nf - (intOf i).toNat)
    case atStart => exact ⟨0, Nat.zero_le _, rfl, fun _ h => by omega, Below.refl _ _⟩
    case round =>
      obtain ⟨q, hq, rfl, hallf, hbel⟩ := hrel
      have b0 := box_in hbel.out 0 _ rfl
      have b1 := box_in hbel.out 1 _ rfl
      have b2 := box_in hbel.out 2 _ rfl
      have b3 := box_in hbel.out 3 _ rfl
      simp only [List.getElem_toArray, List.getElem_cons_zero, List.getElem_cons_succ] at b0 b1 b2 b3
      have hsz : w.heap.size + 1 ≤ wr.heap.size := by have := hbel.out.size; simpa using this
      by_cases hlq : q < nf
      · obtain ⟨b, off, rfl, hbB, hcell⟩ := HC1.out q hlq
        obtain ⟨hz1, hz2⟩ := HZ.out q hlq
        have e0 : wr.cell? ⟨b, off + q * 3, none⟩ = some (.string (ff q).1) := old_in hbel.out (by omega) (by simpa [cP] using hcell 0 (by omega))
        have e1 : wr.cell? ⟨b, off + q * 3 + 1, none⟩ = some (.int .i64 (ff q).2.1) := old_in hbel.out (by omega) (by simpa [cP] using hcell 1 (by omega))
        have e2 : wr.cell? ⟨b, off + q * 3 + 2, none⟩ = some (.string (ff q).2.2) := old_in hbel.out (by omega) (by simpa [cP] using hcell 2 (by omega))
        have hW : Hid (Below (w.heap.size + 1) (w.alloc (.cells #[v0, v1, .slice (some ⟨b, off, none⟩) nf cap1, v3] 39)) (wr.alloc (.cells #[.string (ff q).1, .int .i64 (ff q).2.1, .string (ff q).2.2] 55))) := hbel.out.alloc (by omega) _
        have x0 := cell_past b0 (by omega) (.cells #[.string (ff q).1, .int .i64 (ff q).2.1, .string (ff q).2.2] 55)
        have x1 := cell_past b1 (by omega) (.cells #[.string (ff q).1, .int .i64 (ff q).2.1, .string (ff q).2.2] 55)
        have x2 := cell_past b2 (by omega) (.cells #[.string (ff q).1, .int .i64 (ff q).2.1, .string (ff q).2.2] 55)
        have x3 := cell_past b3 (by omega) (.cells #[.string (ff q).1, .int .i64 (ff q).2.1, .string (ff q).2.2] 55)
        have c0 := new_cell wr #[.string (ff q).1, .int .i64 (ff q).2.1, .string (ff q).2.2] 55 0 _ rfl
        have c1 := new_cell wr #[.string (ff q).1, .int .i64 (ff q).2.1, .string (ff q).2.2] 55 1 _ rfl
        have c2 := new_cell wr #[.string (ff q).1, .int .i64 (ff q).2.1, .string (ff q).2.2] 55 2 _ rfl
        simp only [List.getElem_toArray, List.getElem_cons_zero, List.getElem_cons_succ] at c0 c1 c2
        have hsw : wr.heap.size + 1 ≤ (wr.alloc (.cells #[.string (ff q).1, .int .i64 (ff q).2.1, .string (ff q).2.2] 55)).heap.size := by simp
        cases hnm : nameB (ff q).1
        · go_wp2_with fail
          refine (nameI_any _ _ hz1).mono ?_; rintro e u' ⟨rfl, hb'⟩
          rw [hnm]
          have hW' : Hid (Below (w.heap.size + 1) _ u') := below_of hW.out hb'
          go_wp2_with fail
          go_ret
          exact ⟨false, rfl, ⟨(fun h => by cases h), fun h => absurd (h.2.1 q hlq) (by intro h; have := h.1; rw [hnm] at this; cases this)⟩, below_end hW'.out⟩
        · go_wp2_with fail
          refine (nameI_any _ _ hz1).mono ?_; rintro e u' ⟨rfl, hb'⟩
          rw [hnm]
          have hW' : Hid (Below (w.heap.size + 1) _ u') := below_of hW.out hb'
          have hsw' : wr.heap.size + 1 ≤ u'.heap.size := Nat.le_trans hsw hb'.size
          have x0' := (hb'.cell (p := ⟨w.heap.size, 0, none⟩) (by show w.heap.size < _; omega)).trans x0
          have x1' := (hb'.cell (p := ⟨w.heap.size, 1, none⟩) (by show w.heap.size < _; omega)).trans x1
          have x2' := (hb'.cell (p := ⟨w.heap.size, 2, none⟩) (by show w.heap.size < _; omega)).trans x2
          have x3' := (hb'.cell (p := ⟨w.heap.size, 3, none⟩) (by show w.heap.size < _; omega)).trans x3
          have c0' := (hb'.cell (p := ⟨wr.heap.size, 0, none⟩) (by show wr.heap.size < _; omega)).trans c0
          have c1' := (hb'.cell (p := ⟨wr.heap.size, 1, none⟩) (by show wr.heap.size < _; omega)).trans c1
          have c2' := (hb'.cell (p := ⟨wr.heap.size, 2, none⟩) (by show wr.heap.size < _; omega)).trans c2
          cases hc0 : decide ((ff q).2.1 < 0)
          · cases hc1 : decide (1000 < (ff q).2.1)
            · cases hst : nameB (ff q).2.2
              · go_wp2_with fail
                refine (nameI_any _ _ hz2).mono ?_; rintro e u'' ⟨rfl, hb''⟩
                rw [hst]
                have hW'' : Hid (Below (w.heap.size + 1) _ u'') := below_of hW'.out hb''
                go_wp2_with fail
                go_ret
                exact ⟨false, rfl, ⟨(fun h => by cases h), fun h => absurd (h.2.1 q hlq) (by intro h; have := h.2.2.2; rw [hst] at this; cases this)⟩, below_end hW''.out⟩
              · go_wp2_with fail
                refine (nameI_any _ _ hz2).mono ?_; rintro e u'' ⟨rfl, hb''⟩
                rw [hst]
                have hW'' : Hid (Below (w.heap.size + 1) _ u'') := below_of hW'.out hb''
                have hsw'' : wr.heap.size + 1 ≤ u''.heap.size := Nat.le_trans hsw' hb''.size
                have x0'' := (hb''.cell (p := ⟨w.heap.size, 0, none⟩) (by show w.heap.size < _; omega)).trans x0'
                have x1'' := (hb''.cell (p := ⟨w.heap.size, 1, none⟩) (by show w.heap.size < _; omega)).trans x1'
                have x2'' := (hb''.cell (p := ⟨w.heap.size, 2, none⟩) (by show w.heap.size < _; omega)).trans x2'
                have x3'' := (hb''.cell (p := ⟨w.heap.size, 3, none⟩) (by show w.heap.size < _; omega)).trans x3'
                have c0'' := (hb''.cell (p := ⟨wr.heap.size, 0, none⟩) (by show wr.heap.size < _; omega)).trans c0'
                have c1'' := (hb''.cell (p := ⟨wr.heap.size, 1, none⟩) (by show wr.heap.size < _; omega)).trans c1'
                have c2'' := (hb''.cell (p := ⟨wr.heap.size, 2, none⟩) (by show wr.heap.size < _; omega)).trans c2'
                go_wp2_with fail
                go_roundw
                case rel => exact ⟨q + 1, by omega, by go_num, fun j hj => by
                  by_cases e : j = q
                  · subst e; exact ⟨hnm, hc0, hc1, hst⟩
                  · exact hallf.out j (by omega), hW''⟩
                case measure => simp [intOf]; omega
            · go_wp2_with fail
              go_ret
              exact ⟨false, rfl, ⟨(fun h => by cases h), fun h => absurd (h.2.1 q hlq) (by intro h; have := h.2.2.1; rw [hc1] at this; cases this)⟩, below_end hW'.out⟩
          · go_wp2_with fail
            go_ret
            exact ⟨false, rfl, ⟨(fun h => by cases h), fun h => absurd (h.2.1 q hlq) (by intro h; have := h.2.1; rw [hc0] at this; cases this)⟩, below_end hW'.out⟩
      · have hqn : q = nf := by omega
        subst hqn
        have HL := H1.out.kept (below_end hbel.out) hB
        go_wp2_with fail
        refine (ascP_any B _ q ff _ HL (by omega)).mono ?_; rintro e u ⟨bb, rfl, hiff, hbu⟩
        go_wp2_with fail
        go_ret
        refine ⟨bb, rfl, ⟨fun h => ⟨hl, hallf.out, hiff.1 h⟩, fun h => hiff.2 h.2.2⟩, below_end (below_of hbel.out hbu)⟩
  · have d0 : decide ((14 : Int) < (nf : Int)) = true := by simp; omega
    go_enter Try.func55, Try.ntmps55
    go_wp2
    go_ret
    exact ⟨false, rfl, ⟨(fun h => by cases h), fun h => absurd h.1 hl⟩, (Below.refl _ _).alloc (Nat.le_refl _) _⟩

end Go.Proofs.Ytciembgenlcogac
