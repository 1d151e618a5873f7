/-
  Several texts in one.
-/
import Derived.Test.YtgjcppdeljoimaaM29
import Derived.Test.YtgjcppdeljoimaaM6
namespace Go.Proofs.Ytgjcppdeljoimaa
open Go.RowKit
set_option maxRecDepth 100000 in
set_option maxHeartbeats 4000000 in
theorem placesI_any (B : Nat) (v0 v1 v2 v3 : Value) (nf : Nat) (ff : Nat → ByteArray × Int × ByteArray) (w : World) (h1 : Lst B w v2 nf 3 (cP ff)) (hB : B ≤ w.heap.size) (hz : ∀ i, i < nf → (ff i).1.size ≤ maxLen ∧ (ff i).2.2.size ≤ maxLen) :
    Calls Try.prog 32 #[.agg #[v0, v1, v2, v3]] w fun e w' => ∃ b, e = .returned (.bool b) ∧ (b = true ↔ nf ≤ 14 ∧ (∀ i, i < nf → placeQ ff i) ∧ ∀ i, 0 < i → i < nf → ltB (ff (i - 1)).1 (ff i).1 = true) ∧ Below w.heap.size w w' := by
  have H1 : Hid (Lst B w v2 nf 3 (cP ff)) := h1
  obtain ⟨o1, cap1, rfl, hn1, hc1⟩ := h1
  unfold maxLen at hn1
  have HC1 : Hid _ := hc1
  have HZ : Hid _ := hz
  clear hc1 hz
  by_cases hl : nf ≤ 14
  · have d0 : decide ((14 : Int) < (nf : Int)) = false := by simp; omega
    go_enter Try.func32, Try.ntmps32
    go_wp2
    go_loopw [12] (fun i wr => ∃ q : Nat, q ≤ nf ∧ i = .int .i64 q ∧ Hid (∀ j, j < q → placeQ ff j) ∧ Hid (Below (w.heap.size + 1) (w.alloc (.cells #[v0, v1, .slice o1 nf cap1, v3] 28)) wr)) (fun i _ => nf - (intOf i).toNat)
    case atStart => exact ⟨0, Nat.zero_le _, rfl, fun _ h => by omega, Below.refl _ _⟩
    case round =>
      obtain ⟨q, hq, rfl, hallf, hbel⟩ := hrel
      have b0 := box_in hbel.out 0 _ rfl
      have b1 := box_in hbel.out 1 _ rfl
      have b2 := box_in hbel.out 2 _ rfl
      have b3 := box_in hbel.out 3 _ rfl
      simp only [List.getElem_toArray, List.getElem_cons_zero, List.getElem_cons_succ] at b0 b1 b2 b3
      have hsz : w.heap.size + 1 ≤ wr.heap.size := by have := hbel.out.size; simpa using this
      by_cases hlq : q < nf
      · obtain ⟨b, off, rfl, hbB, hcell⟩ := HC1.out q hlq
        obtain ⟨hz1, hz2⟩ := HZ.out q hlq
        have e0 : wr.cell? ⟨b, off + q * 3, none⟩ = some (.string (ff q).1) := old_in hbel.out (by omega) (by simpa [cP] using hcell 0 (by omega))
        have e1 : wr.cell? ⟨b, off + q * 3 + 1, none⟩ = some (.int .i64 (ff q).2.1) := old_in hbel.out (by omega) (by simpa [cP] using hcell 1 (by omega))
        have e2 : wr.cell? ⟨b, off + q * 3 + 2, none⟩ = some (.string (ff q).2.2) := old_in hbel.out (by omega) (by simpa [cP] using hcell 2 (by omega))
        have hW : Hid (Below (w.heap.size + 1) (w.alloc (.cells #[v0, v1, .slice (some ⟨b, off, none⟩) nf cap1, v3] 28)) (wr.alloc (.cells #[.string (ff q).1, .int .i64 (ff q).2.1, .string (ff q).2.2] 63))) := hbel.out.alloc (by omega) _
        have x0 := cell_past b0 (by omega) (.cells #[.string (ff q).1, .int .i64 (ff q).2.1, .string (ff q).2.2] 63)
        have x1 := cell_past b1 (by omega) (.cells #[.string (ff q).1, .int .i64 (ff q).2.1, .string (ff q).2.2] 63)
        have x2 := cell_past b2 (by omega) (.cells #[.string (ff q).1, .int .i64 (ff q).2.1, .string (ff q).2.2] 63)
        have x3 := cell_past b3 (by omega) (.cells #[.string (ff q).1, .int .i64 (ff q).2.1, .string (ff q).2.2] 63)
        have c0 := new_cell wr #[.string (ff q).1, .int .i64 (ff q).2.1, .string (ff q).2.2] 63 0 _ rfl
        have c1 := new_cell wr #[.string (ff q).1, .int .i64 (ff q).2.1, .string (ff q).2.2] 63 1 _ rfl
        have c2 := new_cell wr #[.string (ff q).1, .int .i64 (ff q).2.1, .string (ff q).2.2] 63 2 _ rfl
        simp only [List.getElem_toArray, List.getElem_cons_zero, List.getElem_cons_succ] at c0 c1 c2
        have hsw : wr.heap.size + 1 ≤ (wr.alloc (.cells #[.string (ff q).1, .int .i64 (ff q).2.1, .string (ff q).2.2] 63)).heap.size := by simp
        cases hnm : nameB (ff q).1
        · go_wp2_with fail
          refine (nameI_any _ _ hz1).mono ?_; rintro e u' ⟨rfl, hb'⟩
          rw [hnm]
          have hW' : Hid (Below (w.heap.size + 1) _ u') := below_of hW.out hb'
          go_wp2_with fail
          go_ret
          exact ⟨false, rfl, ⟨(fun h => by cases h), fun h => absurd (h.2.1 q hlq) (by intro h; have := h.1; rw [hnm] at this; cases this)⟩, below_end hW'.out⟩
        · go_wp2_with fail
          refine (nameI_any _ _ hz1).mono ?_; rintro e u' ⟨rfl, hb'⟩
          rw [hnm]
          have hW' : Hid (Below (w.heap.size + 1) _ u') := below_of hW.out hb'
          have hsw' : wr.heap.size + 1 ≤ u'.heap.size := Nat.le_trans hsw hb'.size
          have x0' := (hb'.cell (p := ⟨w.heap.size, 0, none⟩) (by show w.heap.size < _; omega)).trans x0
          have x1' := (hb'.cell (p := ⟨w.heap.size, 1, none⟩) (by show w.heap.size < _; omega)).trans x1
          have x2' := (hb'.cell (p := ⟨w.heap.size, 2, none⟩) (by show w.heap.size < _; omega)).trans x2
          have x3' := (hb'.cell (p := ⟨w.heap.size, 3, none⟩) (by show w.heap.size < _; omega)).trans x3
          have c0' := (hb'.cell (p := ⟨wr.heap.size, 0, none⟩) (by show wr.heap.size < _; omega)).trans c0
          have c1' := (hb'.cell (p := ⟨wr.heap.size, 1, none⟩) (by show wr.heap.size < _; omega)).trans c1
          have c2' := (hb'.cell (p := ⟨wr.heap.size, 2, none⟩) (by show wr.heap.size < _; omega)).trans c2
          cases hc0 : decide ((ff q).2.1 < 0)
          · cases hc1 : decide (1000 < (ff q).2.1)
            · cases hst : nameB (ff q).2.2
              · go_wp2_with fail
                refine (nameI_any _ _ hz2).mono ?_; rintro e u'' ⟨rfl, hb''⟩
                rw [hst]
                have hW'' : Hid (Below (w.heap.size + 1) _ u'') := below_of hW'.out hb''
                go_wp2_with fail
                go_ret
                exact ⟨false, rfl, ⟨(fun h => by cases h), fun h => absurd (h.2.1 q hlq) (by intro h; have := h.2.2.2; rw [hst] at this; cases this)⟩, below_end hW''.out⟩
              · go_wp2_with fail
                refine (nameI_any _ _ hz2).mono ?_; rintro e u'' ⟨rfl, hb''⟩
                rw [hst]
                have hW'' : Hid (Below (w.heap.size + 1) _ u'') := below_of hW'.out hb''
                have hsw'' : wr.heap.size + 1 ≤ u''.heap.size := Nat.le_trans hsw' hb''.size
                have x0'' := (hb''.cell (p := ⟨w.heap.size, 0, none⟩) (by show w.heap.size < _; omega)).trans x0'
                have x1'' := (hb''.cell (p := ⟨w.heap.size, 1, none⟩) (by show w.heap.size < _; omega)).trans x1'
                have x2'' := (hb''.cell (p := ⟨w.heap.size, 2, none⟩) (by show w.heap.size < _; omega)).trans x2'
                have x3'' := (hb''.cell (p := ⟨w.heap.size, 3, none⟩) (by show w.heap.size < _; omega)).trans x3'
                have c0'' := (hb''.cell (p := ⟨wr.heap.size, 0, none⟩) (by show wr.heap.size < _; omega)).trans c0'
                have c1'' := (hb''.cell (p := ⟨wr.heap.size, 1, none⟩) (by show wr.heap.size < _; omega)).trans c1'
                have c2'' := (hb''.cell (p := ⟨wr.heap.size, 2, none⟩) (by show wr.heap.size < _; omega)).trans c2'
                go_wp2_with fail
                go_roundw
                case rel => exact ⟨q + 1, by omega, by go_num, fun j hj => by
                  by_cases e : j = q
                  · subst e; exact ⟨hnm, hc0, hc1, hst⟩
                  · exact hallf.out j (by omega), hW''⟩
                case measure => simp [intOf]; omega
            · go_wp2_with fail
              go_ret
              exact ⟨false, rfl, ⟨(fun h => by cases h), fun h => absurd (h.2.1 q hlq) (by intro h; have := h.2.2.1; rw [hc1] at this; cases this)⟩, below_end hW'.out⟩
          · go_wp2_with fail
            go_ret
            exact ⟨false, rfl, ⟨(fun h => by cases h), fun h => absurd (h.2.1 q hlq) (by intro h; have := h.2.1; rw [hc0] at this; cases this)⟩, below_end hW'.out⟩
      · have hqn : q = nf := by omega
        subst hqn
        have HL := H1.out.kept (below_end hbel.out) hB
        go_wp2_with fail
        refine (ascP_any B _ q ff _ HL (by omega)).mono ?_; rintro e u ⟨bb, rfl, hiff, hbu⟩
        go_wp2_with fail
        go_ret
        refine ⟨bb, rfl, ⟨fun h => ⟨hl, hallf.out, hiff.1 h⟩, fun h => hiff.2 h.2.2⟩, below_end (below_of hbel.out hbu)⟩
  · have d0 : decide ((14 : Int) < (nf : Int)) = true := by simp; omega
    go_enter Try.func32, Try.ntmps32
    go_wp2
    go_ret
    exact ⟨false, rfl, ⟨(fun h => by cases h), fun h => absurd h.1 hl⟩, (Below.refl _ _).alloc (Nat.le_refl _) _⟩
end Go.Proofs.Ytgjcppdeljoimaa

namespace Go.Proofs.Ytgjcppdeljoimaa
open Go.RowKit
set_option maxRecDepth 100000 in
set_option maxHeartbeats 4000000 in
theorem valvesI_any (B : Nat) (v0 v1 v2 v3 : Value) (nf : Nat) (ff : Nat → ByteArray × ByteArray × ByteArray × ByteArray) (np : Nat) (fp : Nat → ByteArray × Int × ByteArray) (w : World) (h1 : Lst B w v3 nf 4 (cV ff)) (hB : B ≤ w.heap.size) (h0 : Lst B w v2 np 3 (cP fp)) (hz : ∀ i, i < nf → (ff i).1.size ≤ maxLen ∧ (ff i).2.2.2.size ≤ maxLen) :
    Calls Try.prog 33 #[.agg #[v0, v1, v2, v3]] w fun e w' => ∃ b, e = .returned (.bool b) ∧ (b = true ↔ nf ≤ 18 ∧ (∀ i, i < nf → valveQ np fp ff i) ∧ ∀ i, 0 < i → i < nf → ltB (ff (i - 1)).1 (ff i).1 = true) ∧ Below w.heap.size w w' := by
  have H1 : Hid (Lst B w v3 nf 4 (cV ff)) := h1
  have H0 : Hid (Lst B w v2 np 3 (cP fp)) := h0
  clear h0
  obtain ⟨o1, cap1, rfl, hn1, hc1⟩ := h1
  unfold maxLen at hn1
  have HC1 : Hid _ := hc1
  have HZ : Hid _ := hz
  clear hc1 hz
  by_cases hl : nf ≤ 18
  · have d0 : decide ((18 : Int) < (nf : Int)) = false := by simp; omega
    go_enter Try.func33, Try.ntmps33
    go_wp2
    go_loopw [12] (fun i wr => ∃ q : Nat, q ≤ nf ∧ i = .int .i64 q ∧ Hid (∀ j, j < q → valveQ np fp ff j) ∧ Hid (Below (w.heap.size + 1) (w.alloc (.cells #[v0, v1, v2, .slice o1 nf cap1] 28)) wr)) (fun i _ => nf - (intOf i).toNat)
    case atStart => exact ⟨0, Nat.zero_le _, rfl, fun _ h => by omega, Below.refl _ _⟩
    case round =>
      obtain ⟨q, hq, rfl, hallf, hbel⟩ := hrel
      have b0 := box_in hbel.out 0 _ rfl
      have b1 := box_in hbel.out 1 _ rfl
      have b2 := box_in hbel.out 2 _ rfl
      have b3 := box_in hbel.out 3 _ rfl
      simp only [List.getElem_toArray, List.getElem_cons_zero, List.getElem_cons_succ] at b0 b1 b2 b3
      have hsz : w.heap.size + 1 ≤ wr.heap.size := by have := hbel.out.size; simpa using this
      by_cases hlq : q < nf
      · obtain ⟨b, off, rfl, hbB, hcell⟩ := HC1.out q hlq
        obtain ⟨hz1, hz2⟩ := HZ.out q hlq
        have e0 : wr.cell? ⟨b, off + q * 4, none⟩ = some (.string (ff q).1) := old_in hbel.out (by omega) (by simpa [cV] using hcell 0 (by omega))
        have e1 : wr.cell? ⟨b, off + q * 4 + 1, none⟩ = some (.string (ff q).2.1) := old_in hbel.out (by omega) (by simpa [cV] using hcell 1 (by omega))
        have e2 : wr.cell? ⟨b, off + q * 4 + 2, none⟩ = some (.string (ff q).2.2.1) := old_in hbel.out (by omega) (by simpa [cV] using hcell 2 (by omega))
        have e3 : wr.cell? ⟨b, off + q * 4 + 3, none⟩ = some (.string (ff q).2.2.2) := old_in hbel.out (by omega) (by simpa [cV] using hcell 3 (by omega))
        have hW : Hid (Below (w.heap.size + 1) (w.alloc (.cells #[v0, v1, v2, .slice (some ⟨b, off, none⟩) nf cap1] 28)) (wr.alloc (.cells #[.string (ff q).1, .string (ff q).2.1, .string (ff q).2.2.1, .string (ff q).2.2.2] 53))) := hbel.out.alloc (by omega) _
        have x0 := cell_past b0 (by omega) (.cells #[.string (ff q).1, .string (ff q).2.1, .string (ff q).2.2.1, .string (ff q).2.2.2] 53)
        have x1 := cell_past b1 (by omega) (.cells #[.string (ff q).1, .string (ff q).2.1, .string (ff q).2.2.1, .string (ff q).2.2.2] 53)
        have x2 := cell_past b2 (by omega) (.cells #[.string (ff q).1, .string (ff q).2.1, .string (ff q).2.2.1, .string (ff q).2.2.2] 53)
        have x3 := cell_past b3 (by omega) (.cells #[.string (ff q).1, .string (ff q).2.1, .string (ff q).2.2.1, .string (ff q).2.2.2] 53)
        have c0 := new_cell wr #[.string (ff q).1, .string (ff q).2.1, .string (ff q).2.2.1, .string (ff q).2.2.2] 53 0 _ rfl
        have c1 := new_cell wr #[.string (ff q).1, .string (ff q).2.1, .string (ff q).2.2.1, .string (ff q).2.2.2] 53 1 _ rfl
        have c2 := new_cell wr #[.string (ff q).1, .string (ff q).2.1, .string (ff q).2.2.1, .string (ff q).2.2.2] 53 2 _ rfl
        have c3 := new_cell wr #[.string (ff q).1, .string (ff q).2.1, .string (ff q).2.2.1, .string (ff q).2.2.2] 53 3 _ rfl
        simp only [List.getElem_toArray, List.getElem_cons_zero, List.getElem_cons_succ] at c0 c1 c2 c3
        have hsw : wr.heap.size + 1 ≤ (wr.alloc (.cells #[.string (ff q).1, .string (ff q).2.1, .string (ff q).2.2.1, .string (ff q).2.2.2] 53)).heap.size := by simp
        cases hnm : nameB (ff q).1
        · go_wp2_with fail
          refine (nameI_any _ _ hz1).mono ?_; rintro e u' ⟨rfl, hb'⟩
          rw [hnm]
          have hW' : Hid (Below (w.heap.size + 1) _ u') := below_of hW.out hb'
          go_wp2_with fail
          go_ret
          exact ⟨false, rfl, ⟨(fun h => by cases h), fun h => absurd (h.2.1 q hlq) (by intro h; have := h.1; rw [hnm] at this; cases this)⟩, below_end hW'.out⟩
        · go_wp2_with fail
          refine (nameI_any _ _ hz1).mono ?_; rintro e u' ⟨rfl, hb'⟩
          rw [hnm]
          have hW' : Hid (Below (w.heap.size + 1) _ u') := below_of hW.out hb'
          have hsw' : wr.heap.size + 1 ≤ u'.heap.size := Nat.le_trans hsw hb'.size
          have x0' := (hb'.cell (p := ⟨w.heap.size, 0, none⟩) (by show w.heap.size < _; omega)).trans x0
          have x1' := (hb'.cell (p := ⟨w.heap.size, 1, none⟩) (by show w.heap.size < _; omega)).trans x1
          have x2' := (hb'.cell (p := ⟨w.heap.size, 2, none⟩) (by show w.heap.size < _; omega)).trans x2
          have x3' := (hb'.cell (p := ⟨w.heap.size, 3, none⟩) (by show w.heap.size < _; omega)).trans x3
          have c0' := (hb'.cell (p := ⟨wr.heap.size, 0, none⟩) (by show wr.heap.size < _; omega)).trans c0
          have c1' := (hb'.cell (p := ⟨wr.heap.size, 1, none⟩) (by show wr.heap.size < _; omega)).trans c1
          have c2' := (hb'.cell (p := ⟨wr.heap.size, 2, none⟩) (by show wr.heap.size < _; omega)).trans c2
          have c3' := (hb'.cell (p := ⟨wr.heap.size, 3, none⟩) (by show wr.heap.size < _; omega)).trans c3
          cases hab : Op.bytesLess (ff q).2.1.toList (ff q).2.2.1.toList
          · go_wp2_with fail
            go_ret
            exact ⟨false, rfl, ⟨(fun h => by cases h), fun h => absurd (h.2.1 q hlq) (by intro h; have := h.2.1; rw [ltB, hab] at this; cases this)⟩, below_end hW'.out⟩
          · cases hpa : decide (0 ≤ placeI np fp (ff q).2.1)
            · go_wp2_with fail
              refine (hasPlace_any B _ _ v2 _ np fp _ _ (H0.out.kept (below_end hW'.out) hB) (by omega)).mono ?_; rintro e u'' ⟨rfl, hb''⟩
              rw [hpa]
              have hW'' : Hid (Below (w.heap.size + 1) _ u'') := below_of hW'.out hb''
              go_wp2_with fail
              go_ret
              exact ⟨false, rfl, ⟨(fun h => by cases h), fun h => absurd (h.2.1 q hlq) (by intro h; have := h.2.2.1; rw [hpa] at this; cases this)⟩, below_end hW''.out⟩
            · go_wp2_with fail
              refine (hasPlace_any B _ _ v2 _ np fp _ _ (H0.out.kept (below_end hW'.out) hB) (by omega)).mono ?_; rintro e u'' ⟨rfl, hb''⟩
              rw [hpa]
              have hW'' : Hid (Below (w.heap.size + 1) _ u'') := below_of hW'.out hb''
              have hsw'' : wr.heap.size + 1 ≤ u''.heap.size := Nat.le_trans hsw' hb''.size
              have x0'' := (hb''.cell (p := ⟨w.heap.size, 0, none⟩) (by show w.heap.size < _; omega)).trans x0'
              have x1'' := (hb''.cell (p := ⟨w.heap.size, 1, none⟩) (by show w.heap.size < _; omega)).trans x1'
              have x2'' := (hb''.cell (p := ⟨w.heap.size, 2, none⟩) (by show w.heap.size < _; omega)).trans x2'
              have x3'' := (hb''.cell (p := ⟨w.heap.size, 3, none⟩) (by show w.heap.size < _; omega)).trans x3'
              have c0'' := (hb''.cell (p := ⟨wr.heap.size, 0, none⟩) (by show wr.heap.size < _; omega)).trans c0'
              have c1'' := (hb''.cell (p := ⟨wr.heap.size, 1, none⟩) (by show wr.heap.size < _; omega)).trans c1'
              have c2'' := (hb''.cell (p := ⟨wr.heap.size, 2, none⟩) (by show wr.heap.size < _; omega)).trans c2'
              have c3'' := (hb''.cell (p := ⟨wr.heap.size, 3, none⟩) (by show wr.heap.size < _; omega)).trans c3'
              cases hpb : decide (0 ≤ placeI np fp (ff q).2.2.1)
              · go_wp2_with fail
                refine (hasPlace_any B _ _ v2 _ np fp _ _ (H0.out.kept (below_end hW''.out) hB) (by omega)).mono ?_; rintro e u''' ⟨rfl, hb'''⟩
                rw [hpb]
                have hW''' : Hid (Below (w.heap.size + 1) _ u''') := below_of hW''.out hb'''
                go_wp2_with fail
                go_ret
                exact ⟨false, rfl, ⟨(fun h => by cases h), fun h => absurd (h.2.1 q hlq) (by intro h; have := h.2.2.2.1; rw [hpb] at this; cases this)⟩, below_end hW'''.out⟩
              · go_wp2_with fail
                refine (hasPlace_any B _ _ v2 _ np fp _ _ (H0.out.kept (below_end hW''.out) hB) (by omega)).mono ?_; rintro e u''' ⟨rfl, hb'''⟩
                rw [hpb]
                have hW''' : Hid (Below (w.heap.size + 1) _ u''') := below_of hW''.out hb'''
                have hsw''' : wr.heap.size + 1 ≤ u'''.heap.size := Nat.le_trans hsw'' hb'''.size
                have x0''' := (hb'''.cell (p := ⟨w.heap.size, 0, none⟩) (by show w.heap.size < _; omega)).trans x0''
                have x1''' := (hb'''.cell (p := ⟨w.heap.size, 1, none⟩) (by show w.heap.size < _; omega)).trans x1''
                have x2''' := (hb'''.cell (p := ⟨w.heap.size, 2, none⟩) (by show w.heap.size < _; omega)).trans x2''
                have x3''' := (hb'''.cell (p := ⟨w.heap.size, 3, none⟩) (by show w.heap.size < _; omega)).trans x3''
                have c0''' := (hb'''.cell (p := ⟨wr.heap.size, 0, none⟩) (by show wr.heap.size < _; omega)).trans c0''
                have c1''' := (hb'''.cell (p := ⟨wr.heap.size, 1, none⟩) (by show wr.heap.size < _; omega)).trans c1''
                have c2''' := (hb'''.cell (p := ⟨wr.heap.size, 2, none⟩) (by show wr.heap.size < _; omega)).trans c2''
                have c3''' := (hb'''.cell (p := ⟨wr.heap.size, 3, none⟩) (by show wr.heap.size < _; omega)).trans c3''
                cases hst : nameB (ff q).2.2.2
                · go_wp2_with fail
                  refine (nameI_any _ _ hz2).mono ?_; rintro e u'''' ⟨rfl, hb''''⟩
                  rw [hst]
                  have hW'''' : Hid (Below (w.heap.size + 1) _ u'''') := below_of hW'''.out hb''''
                  go_wp2_with fail
                  go_ret
                  exact ⟨false, rfl, ⟨(fun h => by cases h), fun h => absurd (h.2.1 q hlq) (by intro h; have := h.2.2.2.2; rw [hst] at this; cases this)⟩, below_end hW''''.out⟩
                · go_wp2_with fail
                  refine (nameI_any _ _ hz2).mono ?_; rintro e u'''' ⟨rfl, hb''''⟩
                  rw [hst]
                  have hW'''' : Hid (Below (w.heap.size + 1) _ u'''') := below_of hW'''.out hb''''
                  have hsw'''' : wr.heap.size + 1 ≤ u''''.heap.size := Nat.le_trans hsw''' hb''''.size
                  have x0'''' := (hb''''.cell (p := ⟨w.heap.size, 0, none⟩) (by show w.heap.size < _; omega)).trans x0'''
                  have x1'''' := (hb''''.cell (p := ⟨w.heap.size, 1, none⟩) (by show w.heap.size < _; omega)).trans x1'''
                  have x2'''' := (hb''''.cell (p := ⟨w.heap.size, 2, none⟩) (by show w.heap.size < _; omega)).trans x2'''
                  have x3'''' := (hb''''.cell (p := ⟨w.heap.size, 3, none⟩) (by show w.heap.size < _; omega)).trans x3'''
                  have c0'''' := (hb''''.cell (p := ⟨wr.heap.size, 0, none⟩) (by show wr.heap.size < _; omega)).trans c0'''
                  have c1'''' := (hb''''.cell (p := ⟨wr.heap.size, 1, none⟩) (by show wr.heap.size < _; omega)).trans c1'''
                  have c2'''' := (hb''''.cell (p := ⟨wr.heap.size, 2, none⟩) (by show wr.heap.size < _; omega)).trans c2'''
                  have c3'''' := (hb''''.cell (p := ⟨wr.heap.size, 3, none⟩) (by show wr.heap.size < _; omega)).trans c3'''
                  go_wp2_with fail
                  go_roundw
                  case rel => exact ⟨q + 1, by omega, by go_num, fun j hj => by
                    by_cases e : j = q
                    · subst e; exact ⟨hnm, hab, hpa, hpb, hst⟩
                    · exact hallf.out j (by omega), hW''''⟩
                  case measure => simp [intOf]; omega
      · have hqn : q = nf := by omega
        subst hqn
        have HL := H1.out.kept (below_end hbel.out) hB
        go_wp2_with fail
        refine (ascV_any B _ q ff _ HL (by omega)).mono ?_; rintro e u ⟨bb, rfl, hiff, hbu⟩
        go_wp2_with fail
        go_ret
        refine ⟨bb, rfl, ⟨fun h => ⟨hl, hallf.out, hiff.1 h⟩, fun h => hiff.2 h.2.2⟩, below_end (below_of hbel.out hbu)⟩
  · have d0 : decide ((18 : Int) < (nf : Int)) = true := by simp; omega
    go_enter Try.func33, Try.ntmps33
    go_wp2
    go_ret
    exact ⟨false, rfl, ⟨(fun h => by cases h), fun h => absurd h.1 hl⟩, (Below.refl _ _).alloc (Nat.le_refl _) _⟩
end Go.Proofs.Ytgjcppdeljoimaa

namespace Go.Proofs.Ytgjcppdeljoimaa
open Go.RowKit
def PD.Va (D : PD) : Prop := (D.ns ≤ 8 ∧ (∀ i, i < D.ns → stuffQ D.fs i) ∧ ∀ i, 0 < i → i < D.ns → ltB (D.fs (i - 1)) (D.fs i) = true)
def PD.Vb (D : PD) : Prop := (D.nf ≤ 12 ∧ (∀ i, i < D.nf → foeQ D.ns D.fs D.ff i) ∧ ∀ i, 0 < i → i < D.nf → befB ((D.ff (i - 1)).1, (D.ff (i - 1)).2) ((D.ff i).1, (D.ff i).2) = true)
def PD.Vc (D : PD) : Prop := (D.np ≤ 14 ∧ (∀ i, i < D.np → placeQ D.fp i) ∧ ∀ i, 0 < i → i < D.np → ltB (D.fp (i - 1)).1 (D.fp i).1 = true)
def PD.Vd (D : PD) : Prop := (D.nv ≤ 18 ∧ (∀ i, i < D.nv → valveQ D.np D.fp D.fv i) ∧ ∀ i, 0 < i → i < D.nv → ltB (D.fv (i - 1)).1 (D.fv i).1 = true)
def PD.V' (D : PD) : Prop := D.Va ∧ D.Vb ∧ D.Vc ∧ D.Vd
theorem in_iff (n : Int) : inB n 0 1000 = true ↔ decide (n < 0) = false ∧ decide (1000 < n) = false := by simp [inB]
theorem nn_iff (n : Int) : decide (n < 0) = false ↔ decide (0 ≤ n) = true := by simp
theorem V_iff (D : PD) : D.V ↔ D.V' := by
  constructor
  · rintro ⟨⟨a1, a2, a3, a4⟩, ⟨b1, b2⟩, c1, c2⟩
    refine ⟨⟨a1, fun i hi => (a3 i hi).1, fun i h0 hi => (a3 i hi).2 h0⟩, ⟨a2, fun i hi => ⟨(a4 i hi).1, (a4 i hi).2.1, (a4 i hi).2.2.1⟩, fun i h0 hi => (a4 i hi).2.2.2 h0⟩, ⟨b1, fun i hi => ?_, fun i h0 hi => (b2 i hi).2.1 h0⟩, c1, fun i hi => ?_, fun i h0 hi => (c2 i hi).2.1 h0⟩
    · obtain ⟨x1, _, x3, x4⟩ := b2 i hi
      exact ⟨x1, ((in_iff _).1 x3).1, ((in_iff _).1 x3).2, x4⟩
    · obtain ⟨x1, _, x3, x4, x5, x6⟩ := c2 i hi
      exact ⟨x1, x3, (nn_iff _).1 x4, (nn_iff _).1 x5, x6⟩
  · rintro ⟨⟨a1, a2, a3⟩, ⟨b1, b2, b3⟩, ⟨c1, c2, c3⟩, d1, d2, d3⟩
    refine ⟨⟨a1, b1, fun i hi => ⟨a2 i hi, fun h0 => a3 i h0 hi⟩, fun i hi => ⟨(b2 i hi).1, (b2 i hi).2.1, (b2 i hi).2.2, fun h0 => b3 i h0 hi⟩⟩, ⟨c1, fun i hi => ?_⟩, d1, fun i hi => ?_⟩
    · obtain ⟨x1, x2, x3, x4⟩ := c2 i hi
      exact ⟨x1, fun h0 => c3 i h0 hi, (in_iff _).2 ⟨x2, x3⟩, x4⟩
    · obtain ⟨x1, x2, x3, x4, x5⟩ := d2 i hi
      exact ⟨x1, fun h0 => d3 i h0 hi, x2, (nn_iff _).2 x3, (nn_iff _).2 x4, x5⟩
set_option maxRecDepth 100000 in
set_option maxHeartbeats 1000000 in
theorem validI_any (B : Nat) (v0 v1 v2 v3 : Value) (D : PD) (w : World) (h : PAt B w v0 v1 v2 v3 D) (hB : B ≤ w.heap.size) (hz : D.Sz) :
    Calls Try.prog 15 #[.agg #[v0, v1, v2, v3]] w fun e w' => ∃ b, e = .returned (.bool b) ∧ (b = true ↔ D.V) ∧ Below w.heap.size w w' := by
  rw [V_iff]
  have hmf : ∀ (fn : Fn) (first cap : Array Value) (w : World), (Instr.makeFunc fn first cap).run Try.prog w = .ok (.func fn first cap) w := fun _ _ _ _ => rfl
  have H : Hid (∀ w', Below w.heap.size w w' → PAt B w' v0 v1 v2 v3 D) := fun w' hb => h.kept hb hB
  clear h
  go_enter Try.func15, Try.ntmps15
  go_wp2
  go_loopw [15] (fun i wr => ∃ k : Nat, k ≤ 4 ∧ i = .int .i64 k ∧ Hid (Below (w.heap.size + 2) ((w.alloc (.cells #[v0, v1, v2, v3] 28)).alloc (.cells #[.func (.func 30) #[.agg #[v0, v1, v2, v3]] #[], .func (.func 31) #[.agg #[v0, v1, v2, v3]] #[], .func (.func 32) #[.agg #[v0, v1, v2, v3]] #[], .func (.func 33) #[.agg #[v0, v1, v2, v3]] #[]] 64)) wr) ∧ Hid ((1 ≤ k → D.Va) ∧ (2 ≤ k → D.Vb) ∧ (3 ≤ k → D.Vc) ∧ (4 ≤ k → D.Vd))) (fun i _ => 4 - (intOf i).toNat)
  case atStart => exact ⟨0, by omega, rfl, Below.refl _ _, fun h => by omega, fun h => by omega, fun h => by omega, fun h => by omega⟩
  case round =>
    obtain ⟨k, hk4, rfl, hbel, hyes⟩ := hrel
    have hsz : w.heap.size + 2 ≤ wr.heap.size := by have := hbel.out.size; simp at this; omega
    have hk : Hid (Below w.heap.size w wr) := (((Below.refl _ _).alloc (Nat.le_refl _) _).alloc (by simp) _).trans (hbel.out.mono (by omega))
    rcases (show k = 0 ∨ k = 1 ∨ k = 2 ∨ k = 3 ∨ k = 4 by omega) with rfl | rfl | rfl | rfl | rfl
    · have c : wr.cell? ⟨w.heap.size + 1, 0, none⟩ = some (.func (.func 30) #[.agg #[v0, v1, v2, v3]] #[]) := (hbel.out.cell (p := ⟨w.heap.size + 1, 0, none⟩) (by show w.heap.size + 1 < _; omega)).trans (by simp)
      go_wp2_with fail
      refine (stuffsI_any B v0 v1 v2 v3 D.ns D.fs _ (H.out _ hk.out).s (by omega) (fun i hi => ⟨hz.s i hi, trivial⟩)).mono ?_
      rintro e u ⟨b, rfl, hi, hb⟩
      have HI : Hid _ := hi
      clear hi
      cases b
      · go_wp2_with fail
        go_ret
        exact ⟨false, rfl, ⟨(fun h => by cases h), fun h => HI.out.2 h.1⟩, hk.out.trans (hb.mono (by omega))⟩
      · go_wp2_with fail
        go_roundw
        case rel =>
          have hX : D.Va := by have := HI.out; simpa [PD.Va] using this
          exact ⟨0 + 1, by omega, by go_num, hbel.out.trans (hb.mono (by omega)), fun _ => hX, fun h => by omega, fun h => by omega, fun h => by omega⟩
        case measure => simp [intOf]
    · have c : wr.cell? ⟨w.heap.size + 1, 1, none⟩ = some (.func (.func 31) #[.agg #[v0, v1, v2, v3]] #[]) := (hbel.out.cell (p := ⟨w.heap.size + 1, 1, none⟩) (by show w.heap.size + 1 < _; omega)).trans (by simp)
      go_wp2_with fail
      refine (foesI_any B v0 v1 v2 v3 D.nf D.ff D.ns D.fs _ (H.out _ hk.out).f (by omega) (H.out _ hk.out).s (fun i hi => ⟨trivial, trivial⟩)).mono ?_
      rintro e u ⟨b, rfl, hi, hb⟩
      have HI : Hid _ := hi
      clear hi
      cases b
      · go_wp2_with fail
        go_ret
        exact ⟨false, rfl, ⟨(fun h => by cases h), fun h => HI.out.2 h.2.1⟩, hk.out.trans (hb.mono (by omega))⟩
      · go_wp2_with fail
        go_roundw
        case rel =>
          have hX : D.Vb := by have := HI.out; simpa [PD.Vb] using this
          exact ⟨1 + 1, by omega, by go_num, hbel.out.trans (hb.mono (by omega)), fun _ => hyes.out.1 (by omega), fun _ => hX, fun h => by omega, fun h => by omega⟩
        case measure => simp [intOf]
    · have c : wr.cell? ⟨w.heap.size + 1, 2, none⟩ = some (.func (.func 32) #[.agg #[v0, v1, v2, v3]] #[]) := (hbel.out.cell (p := ⟨w.heap.size + 1, 2, none⟩) (by show w.heap.size + 1 < _; omega)).trans (by simp)
      go_wp2_with fail
      refine (placesI_any B v0 v1 v2 v3 D.np D.fp _ (H.out _ hk.out).p (by omega) hz.p).mono ?_
      rintro e u ⟨b, rfl, hi, hb⟩
      have HI : Hid _ := hi
      clear hi
      cases b
      · go_wp2_with fail
        go_ret
        exact ⟨false, rfl, ⟨(fun h => by cases h), fun h => HI.out.2 h.2.2.1⟩, hk.out.trans (hb.mono (by omega))⟩
      · go_wp2_with fail
        go_roundw
        case rel =>
          have hX : D.Vc := by have := HI.out; simpa [PD.Vc] using this
          exact ⟨2 + 1, by omega, by go_num, hbel.out.trans (hb.mono (by omega)), fun _ => hyes.out.1 (by omega), fun _ => hyes.out.2.1 (by omega), fun _ => hX, fun h => by omega⟩
        case measure => simp [intOf]
    · have c : wr.cell? ⟨w.heap.size + 1, 3, none⟩ = some (.func (.func 33) #[.agg #[v0, v1, v2, v3]] #[]) := (hbel.out.cell (p := ⟨w.heap.size + 1, 3, none⟩) (by show w.heap.size + 1 < _; omega)).trans (by simp)
      go_wp2_with fail
      refine (valvesI_any B v0 v1 v2 v3 D.nv D.fv D.np D.fp _ (H.out _ hk.out).v (by omega) (H.out _ hk.out).p hz.v).mono ?_
      rintro e u ⟨b, rfl, hi, hb⟩
      have HI : Hid _ := hi
      clear hi
      cases b
      · go_wp2_with fail
        go_ret
        exact ⟨false, rfl, ⟨(fun h => by cases h), fun h => HI.out.2 h.2.2.2⟩, hk.out.trans (hb.mono (by omega))⟩
      · go_wp2_with fail
        go_roundw
        case rel =>
          have hX : D.Vd := by have := HI.out; simpa [PD.Vd] using this
          exact ⟨3 + 1, by omega, by go_num, hbel.out.trans (hb.mono (by omega)), fun _ => hyes.out.1 (by omega), fun _ => hyes.out.2.1 (by omega), fun _ => hyes.out.2.2.1 (by omega), fun _ => hX⟩
        case measure => simp [intOf]
    · go_wp2_with fail
      go_ret
      exact ⟨true, rfl, ⟨fun _ => ⟨hyes.out.1 (by omega), hyes.out.2.1 (by omega), hyes.out.2.2.1 (by omega), hyes.out.2.2.2 (by omega)⟩, fun _ => rfl⟩, hk.out⟩
end Go.Proofs.Ytgjcppdeljoimaa

namespace Go.Proofs.Ytgjcppdeljoimaa
open Go.RowKit
structure PD.All (D : PD) : Prop where
  s : ∀ i, i < D.ns → (D.fs i).size ≤ maxLen
  f : ∀ i, i < D.nf → (D.ff i).1.size ≤ maxLen ∧ (D.ff i).2.size ≤ maxLen
  p : ∀ i, i < D.np → (D.fp i).1.size ≤ maxLen ∧ (D.fp i).2.2.size ≤ maxLen
  v : ∀ i, i < D.nv → (D.fv i).1.size ≤ maxLen ∧ (D.fv i).2.1.size ≤ maxLen ∧ (D.fv i).2.2.1.size ≤ maxLen ∧ (D.fv i).2.2.2.size ≤ maxLen
end Go.Proofs.Ytgjcppdeljoimaa
