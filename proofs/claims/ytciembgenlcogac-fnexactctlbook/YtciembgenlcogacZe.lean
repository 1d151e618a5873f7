/-
  A contract of one of the program's tests of the parts of a plant.
-/
import Derived.Test.YtciembgenlcogacZd
import Derived.Test.YtciembgenlcogacBmb
namespace Go.Proofs.Ytciembgenlcogac
open Go.RowKit

set_option maxRecDepth 100000 in
set_option maxHeartbeats 4000000 in
theorem foesI_any (B : Nat) (v0 v1 v2 v3 : Value) (nf : Nat) (ff : Nat → ByteArray × ByteArray) (ns : Nat) (fs : Nat → ByteArray) (w : World) (h1 : Lst B w v1 nf 2 (cF ff)) (hB : B ≤ w.heap.size) (h0 : Lst B w v0 ns 1 (cS fs)) (hz : ∀ i, i < nf → True ∧ True) :
    Calls Try.prog 54 #[.agg #[v0, v1, v2, v3]] w fun e w' => ∃ b, e = .returned (.bool b) ∧ (b = true ↔ nf ≤ 12 ∧ (∀ i, i < nf → foeQ ns fs ff i) ∧ ∀ i, 0 < i → i < nf → befB ((ff (i - 1)).1, (ff (i - 1)).2) ((ff i).1, (ff i).2) = true) ∧ Below w.heap.size w w' := by
  have H1 : Hid (Lst B w v1 nf 2 (cF ff)) := h1
  have H0 : Hid (Lst B w v0 ns 1 (cS fs)) := h0
  clear h0
  obtain ⟨o1, cap1, rfl, hn1, hc1⟩ := h1
  unfold maxLen at hn1
  have HC1 : Hid _ := hc1
  have HZ : Hid _ := hz
  clear hc1 hz
  by_cases hl : nf ≤ 12
  · have d0 : decide ((12 : Int) < (nf : Int)) = false := by simp; omega
    go_enter Try.func54, Try.ntmps54
    go_wp2
    go_loopw [12] (fun i wr => ∃ q : Nat, q ≤ nf ∧ i = .int .i64 q ∧ Hid (∀ j, j < q → foeQ ns fs ff j) ∧ Hid (Below (w.heap.size + 1) (w.alloc (.cells #[v0, .slice o1 nf cap1, v2, v3] 39)) wr)) (fun i _ => nf - (intOf i).toNat)
    case atStart => exact ⟨0, Nat.zero_le _, rfl, fun _ h => by omega, Below.refl _ _⟩
    case round =>
      obtain ⟨q, hq, rfl, hallf, hbel⟩ := hrel
      have b0 := box_in hbel.out 0 _ rfl
      have b1 := box_in hbel.out 1 _ rfl
      have b2 := box_in hbel.out 2 _ rfl
      have b3 := box_in hbel.out 3 _ rfl
      simp only [List.getElem_toArray, List.getElem_cons_zero, List.getElem_cons_succ] at b0 b1 b2 b3
      have hsz : w.heap.size + 1 ≤ wr.heap.size := by have := hbel.out.size; simpa using this
      by_cases hlq : q < nf
      · obtain ⟨b, off, rfl, hbB, hcell⟩ := HC1.out q hlq
        obtain ⟨_, _⟩ := HZ.out q hlq
        have e0 : wr.cell? ⟨b, off + q * 2, none⟩ = some (.string (ff q).1) := old_in hbel.out (by omega) (by simpa [cF] using hcell 0 (by omega))
        have e1 : wr.cell? ⟨b, off + q * 2 + 1, none⟩ = some (.string (ff q).2) := old_in hbel.out (by omega) (by simpa [cF] using hcell 1 (by omega))
        have hW : Hid (Below (w.heap.size + 1) (w.alloc (.cells #[v0, .slice (some ⟨b, off, none⟩) nf cap1, v2, v3] 39)) (wr.alloc (.cells #[.string (ff q).1, .string (ff q).2] 52))) := hbel.out.alloc (by omega) _
        have x0 := cell_past b0 (by omega) (.cells #[.string (ff q).1, .string (ff q).2] 52)
        have x1 := cell_past b1 (by omega) (.cells #[.string (ff q).1, .string (ff q).2] 52)
        have x2 := cell_past b2 (by omega) (.cells #[.string (ff q).1, .string (ff q).2] 52)
        have x3 := cell_past b3 (by omega) (.cells #[.string (ff q).1, .string (ff q).2] 52)
        have c0 := new_cell wr #[.string (ff q).1, .string (ff q).2] 52 0 _ rfl
        have c1 := new_cell wr #[.string (ff q).1, .string (ff q).2] 52 1 _ rfl
        simp only [List.getElem_toArray, List.getElem_cons_zero, List.getElem_cons_succ] at c0 c1
        have hsw : wr.heap.size + 1 ≤ (wr.alloc (.cells #[.string (ff q).1, .string (ff q).2] 52)).heap.size := by simp
        cases hab : Op.bytesLess (ff q).1.toList (ff q).2.toList
        · go_wp2_with fail
          go_ret
          exact ⟨false, rfl, ⟨(fun h => by cases h), fun h => absurd (h.2.1 q hlq) (by intro h; have := h.1; rw [ltB, hab] at this; cases this)⟩, below_end hW.out⟩
        · cases hA : hasB ns fs (ff q).1
          · go_wp2_with fail
            refine (hasI_b B v0 ns fs _ _ (H0.out.kept (below_end hW.out) hB)).mono ?_; rintro e u' ⟨rfl, hb'⟩
            rw [hA]
            have hW' : Hid (Below (w.heap.size + 1) _ u') := below_of hW.out hb'
            go_wp2_with fail
            go_ret
            exact ⟨false, rfl, ⟨(fun h => by cases h), fun h => absurd (h.2.1 q hlq) (by intro h; have := h.2.1; rw [hA] at this; cases this)⟩, below_end hW'.out⟩
          · go_wp2_with fail
            refine (hasI_b B v0 ns fs _ _ (H0.out.kept (below_end hW.out) hB)).mono ?_; rintro e u' ⟨rfl, hb'⟩
            rw [hA]
            have hW' : Hid (Below (w.heap.size + 1) _ u') := below_of hW.out hb'
            have hsw' : wr.heap.size + 1 ≤ u'.heap.size := Nat.le_trans hsw hb'.size
            have x0' := (hb'.cell (p := ⟨w.heap.size, 0, none⟩) (by show w.heap.size < _; omega)).trans x0
            have x1' := (hb'.cell (p := ⟨w.heap.size, 1, none⟩) (by show w.heap.size < _; omega)).trans x1
            have x2' := (hb'.cell (p := ⟨w.heap.size, 2, none⟩) (by show w.heap.size < _; omega)).trans x2
            have x3' := (hb'.cell (p := ⟨w.heap.size, 3, none⟩) (by show w.heap.size < _; omega)).trans x3
            have c0' := (hb'.cell (p := ⟨wr.heap.size, 0, none⟩) (by show wr.heap.size < _; omega)).trans c0
            have c1' := (hb'.cell (p := ⟨wr.heap.size, 1, none⟩) (by show wr.heap.size < _; omega)).trans c1
            cases hA2 : hasB ns fs (ff q).2
            · go_wp2_with fail
              refine (hasI_b B v0 ns fs _ _ (H0.out.kept (below_end hW'.out) hB)).mono ?_; rintro e u'' ⟨rfl, hb''⟩
              rw [hA2]
              have hW'' : Hid (Below (w.heap.size + 1) _ u'') := below_of hW'.out hb''
              go_wp2_with fail
              go_ret
              exact ⟨false, rfl, ⟨(fun h => by cases h), fun h => absurd (h.2.1 q hlq) (by intro h; have := h.2.2; rw [hA2] at this; cases this)⟩, below_end hW''.out⟩
            · go_wp2_with fail
              refine (hasI_b B v0 ns fs _ _ (H0.out.kept (below_end hW'.out) hB)).mono ?_; rintro e u'' ⟨rfl, hb''⟩
              rw [hA2]
              have hW'' : Hid (Below (w.heap.size + 1) _ u'') := below_of hW'.out hb''
              have hsw'' : wr.heap.size + 1 ≤ u''.heap.size := Nat.le_trans hsw' hb''.size
              have x0'' := (hb''.cell (p := ⟨w.heap.size, 0, none⟩) (by show w.heap.size < _; omega)).trans x0'
              have x1'' := (hb''.cell (p := ⟨w.heap.size, 1, none⟩) (by show w.heap.size < _; omega)).trans x1'
              have x2'' := (hb''.cell (p := ⟨w.heap.size, 2, none⟩) (by show w.heap.size < _; omega)).trans x2'
              have x3'' := (hb''.cell (p := ⟨w.heap.size, 3, none⟩) (by show w.heap.size < _; omega)).trans x3'
              have c0'' := (hb''.cell (p := ⟨wr.heap.size, 0, none⟩) (by show wr.heap.size < _; omega)).trans c0'
              have c1'' := (hb''.cell (p := ⟨wr.heap.size, 1, none⟩) (by show wr.heap.size < _; omega)).trans c1'
              go_wp2_with fail
              go_roundw
              case rel => exact ⟨q + 1, by omega, by go_num, fun j hj => by
                by_cases e : j = q
                · subst e; exact ⟨hab, hA, hA2⟩
                · exact hallf.out j (by omega), hW''⟩
              case measure => simp [intOf]; omega
      · have hqn : q = nf := by omega
        subst hqn
        have HL := H1.out.kept (below_end hbel.out) hB
        go_wp2_with fail
        refine (ascF_any B _ q ff _ HL (by omega)).mono ?_; rintro e u ⟨bb, rfl, hiff, hbu⟩
        go_wp2_with fail
        go_ret
        refine ⟨bb, rfl, ⟨fun h => ⟨hl, hallf.out, hiff.1 h⟩, fun h => hiff.2 h.2.2⟩, below_end (below_of hbel.out hbu)⟩
  · have d0 : decide ((12 : Int) < (nf : Int)) = true := by simp; omega
    go_enter Try.func54, Try.ntmps54
    go_wp2
    go_ret
    exact ⟨false, rfl, ⟨(fun h => by cases h), fun h => absurd h.1 hl⟩, (Below.refl _ _).alloc (Nat.le_refl _) _⟩

end Go.Proofs.Ytciembgenlcogac
