import Derived.Test.YtobchllaopdchacGreatM34
import Derived.Test.YtobchllaopdchacGreatVrt
import Derived.Test.YtobchllaopdchacGreatZxt
namespace Go.Proofs.YtobchllaopdchacGreat
open Go.RowKit
set_option maxRecDepth 100000 in
set_option maxHeartbeats 4000000 in
theorem toRunDone_any (S : Nat → Prop) (a : DRunDone) (c : Nat → Value) (w : World) (h : Lay.At S w a c) (_hS : ∀ b, S b → b < w.heap.size) (_hm : Lay.tot a ≤ 1048576) :
    Calls Tryz.prog 38 #[.agg #[c 0, c 1, c 2]] w fun e w' => ∃ g : Nat → Value, e = .returned (.agg #[g 0, g 1, g 2]) ∧ Lay.At (fun b => w.heap.size ≤ b ∧ b < w'.heap.size) w' a g ∧ Below w.heap.size w w' := by
  rw [at_DRunDone] at h
  obtain ⟨⟨e0, z0⟩, ⟨e1, z1, y1⟩, ⟨e2, z2, y2⟩⟩ := h
  rw [e0, e1, e2]
  clear e0 e1 e2
  go_enter Tryz.func38, Tryz.ntmps38
  go_wp2
  exact bodyPost_ret (v := .agg #[.string a.1, .int .i64 a.2.1, .int .i64 a.2.2]) (by simp [results, Tryz.results38, go_sem]) rfl ⟨cs [.string a.1, .int .i64 a.2.1, .int .i64 a.2.2], rfl, at_DRunDone.2 ⟨⟨rfl, z0⟩, ⟨rfl, z1, y1⟩, ⟨rfl, z2, y2⟩⟩, by repeat (first | exact Below.refl _ _ | refine Below.alloc ?_ (by simp; try omega) _)⟩
theorem underRunBatchS : Tryz.prog.underlying 35 = some (.slice 49) := by kernel_rfl
theorem infoRunBatchS : (Tryz.prog.info? 49).map (fun i => (i.zero, i.size, i.bytes)) = some (some (.agg #[.string ByteArray.empty, .slice none 0 0, .slice none 0 0, .string ByteArray.empty, .int .i64 0, .int .i64 0]), 6, 96) := by kernel_rfl
set_option maxRecDepth 100000 in
set_option maxHeartbeats 4000000 in
theorem toRunBatchS_any (S : Nat → Prop) (l : List DRunBatch) (v : Value) (w : World) (h : AtL S w l v) (hS : ∀ b, S b → b < w.heap.size) (hm : totL l ≤ 1048576) :
    Calls Tryz.prog 15 #[v] w fun e w' => ∃ r, e = .returned r ∧ AtL (fun b => w.heap.size ≤ b ∧ b < w'.heap.size) w' l r ∧ Below w.heap.size w w' := by
  obtain ⟨oa, cap, rfl, hn, hc⟩ := h
  have hln := totL_len l
  have HTE : Hid (∀ i (h : i < l.length), Lay.tot l[i] ≤ 1048576) := fun i h => Nat.le_trans (totL_el l i h) hm
  obtain ⟨n, en⟩ : ∃ n, l.length = n := ⟨_, rfl⟩
  rw [en] at hn hln
  rw [en]
  have HC : Hid _ := hc
  clear hc hn
  obtain ⟨i0, hi, hz0, hz1, hz2⟩ := info_parts infoRunBatchS
  obtain ⟨M, hM⟩ : ∃ M, M = madeCells (.agg #[.string ByteArray.empty, .slice none 0 0, .slice none 0 0, .string ByteArray.empty, .int .i64 0, .int .i64 0] : Value).cells ((n : Int).toNat * i0.size) := ⟨_, rfl⟩
  have hMs : M.size = n * 6 := by rw [hM, size_madeCells, hz1]; simp
  have hmk : ∀ W : World, (Instr.makeSlice 35 (.int .i64 (n : Int)) (.int .i64 (n : Int))).run Tryz.prog W = .ok (.slice (some ⟨W.heap.size, 0, none⟩) n n) (W.alloc (.cells M 49)) := fun W => by
    have h := run_make (P := Tryz.prog) W 35 49 i0 (.agg #[.string ByteArray.empty, .slice none 0 0, .slice none 0 0, .string ByteArray.empty, .int .i64 0, .int .i64 0]) underRunBatchS hi hz0 .i64 .i64 (n : Int) (n : Int) (by omega) (by omega) (by rw [hz2]; omega) (by omega)
    rw [← hM] at h
    simpa using h
  clear hM
  go_enter Tryz.func15, Tryz.ntmps15
  go_wp2
  go_loopw [4] (fun i wr => ∃ (k : Nat) (c : Array Value), k ≤ n ∧ i = .int .i64 k ∧ Hid (wr.heap[w.heap.size]? = some (.cells c 49 (0, 0))) ∧ c.size = n * 6 ∧ Hid (∀ i (h : i < l.length), i < k → ∃ g : Nat → Value, (∀ j, j < 6 → c[i * 6 + j]? = some (g j)) ∧ Lay.At (fun b => w.heap.size < b ∧ b < wr.heap.size) wr l[i] g) ∧ Hid (Below w.heap.size w wr)) (fun i _ => n - (intOf i).toNat)
  case atStart => exact ⟨0, M, Nat.zero_le _, rfl, heap_alloc_new w _, hMs, fun _ _ h => by omega, (Below.refl _ _).alloc (Nat.le_refl _) _⟩
  case round =>
    obtain ⟨k, c, hk, rfl, hrow, hcs, hall, hbel⟩ := hrel
    have hRw : w.heap.size < wr.heap.size := (Array.getElem?_eq_some_iff.1 hrow.out).1
    by_cases hlt : k < n
    · obtain ⟨b, off, rfl, hbS, cc, hcell, hat⟩ := HC.out k (by omega)
      have hb := hS b hbS
      rw [width_DRunBatch] at hcell
      have e0 : wr.cell? ⟨b, off + k * 6, none⟩ = some (cc 0) := (hbel.out.cell (p := ⟨b, off + k * 6, none⟩) (by show b < _; omega)).trans (by have hq := hcell 0 (by omega); first | exact hq | simpa using hq)
      have e1 : wr.cell? ⟨b, off + k * 6 + 1, none⟩ = some (cc 1) := (hbel.out.cell (p := ⟨b, off + k * 6 + 1, none⟩) (by show b < _; omega)).trans (by have hq := hcell 1 (by omega); first | exact hq | simpa using hq)
      have e2 : wr.cell? ⟨b, off + k * 6 + 2, none⟩ = some (cc 2) := (hbel.out.cell (p := ⟨b, off + k * 6 + 2, none⟩) (by show b < _; omega)).trans (by have hq := hcell 2 (by omega); first | exact hq | simpa using hq)
      have e3 : wr.cell? ⟨b, off + k * 6 + 3, none⟩ = some (cc 3) := (hbel.out.cell (p := ⟨b, off + k * 6 + 3, none⟩) (by show b < _; omega)).trans (by have hq := hcell 3 (by omega); first | exact hq | simpa using hq)
      have e4 : wr.cell? ⟨b, off + k * 6 + 4, none⟩ = some (cc 4) := (hbel.out.cell (p := ⟨b, off + k * 6 + 4, none⟩) (by show b < _; omega)).trans (by have hq := hcell 4 (by omega); first | exact hq | simpa using hq)
      have e5 : wr.cell? ⟨b, off + k * 6 + 5, none⟩ = some (cc 5) := (hbel.out.cell (p := ⟨b, off + k * 6 + 5, none⟩) (by show b < _; omega)).trans (by have hq := hcell 5 (by omega); first | exact hq | simpa using hq)
      clear hcell
      have HAT : Hid _ := hat
      clear hat
      go_wp2_with fail
      refine (toRunBatch_any S _ cc _ (Lay.same HAT.out (Same.of_below hbel.out hS)) (fun b hb => by have := hS b hb; omega) (HTE.out k (by omega))).mono ?_
      rintro e u ⟨g, rfl, hg, hbu⟩
      have HG : Hid _ := hg
      clear hg
      have hus := hbu.size
      have hrow2 : Hid (u.heap[w.heap.size]? = some (.cells c 49 (0, 0))) := (hbu.block _ hRw).trans hrow.out
      have hbel2 : Hid (Below w.heap.size w u) := hbel.out.trans (hbu.mono (by omega))
      obtain ⟨⟨ge0, _⟩, gl1, gl2, ⟨ge3, _⟩, ⟨ge4, _, _⟩, ⟨ge5, _, _⟩⟩ := at_DRunBatch.1 HG.out
      obtain ⟨go1, gc1, ge1, _⟩ := gl1
      obtain ⟨go2, gc2, ge2, _⟩ := gl2
      rw [ge0, ge1, ge2, ge3, ge4, ge5]
      obtain ⟨v0, hv0⟩ : ∃ v, c[k * 6]? = some v := ⟨_, Array.getElem?_eq_getElem (by omega)⟩
      obtain ⟨hcl0, hfr0⟩ := cell_row hrow2.out (k * 6) v0 hv0
      clear hv0
      obtain ⟨v1, hv1⟩ : ∃ v, c[k * 6 + 1]? = some v := ⟨_, Array.getElem?_eq_getElem (by omega)⟩
      obtain ⟨hcl1, hfr1⟩ := cell_row hrow2.out (k * 6 + 1) v1 hv1
      clear hv1
      obtain ⟨v2, hv2⟩ : ∃ v, c[k * 6 + 2]? = some v := ⟨_, Array.getElem?_eq_getElem (by omega)⟩
      obtain ⟨hcl2, hfr2⟩ := cell_row hrow2.out (k * 6 + 2) v2 hv2
      clear hv2
      obtain ⟨v3, hv3⟩ : ∃ v, c[k * 6 + 3]? = some v := ⟨_, Array.getElem?_eq_getElem (by omega)⟩
      obtain ⟨hcl3, hfr3⟩ := cell_row hrow2.out (k * 6 + 3) v3 hv3
      clear hv3
      obtain ⟨v4, hv4⟩ : ∃ v, c[k * 6 + 4]? = some v := ⟨_, Array.getElem?_eq_getElem (by omega)⟩
      obtain ⟨hcl4, hfr4⟩ := cell_row hrow2.out (k * 6 + 4) v4 hv4
      clear hv4
      obtain ⟨v5, hv5⟩ : ∃ v, c[k * 6 + 5]? = some v := ⟨_, Array.getElem?_eq_getElem (by omega)⟩
      obtain ⟨hcl5, hfr5⟩ := cell_row hrow2.out (k * 6 + 5) v5 hv5
      clear hv5
      have HSM : Hid (Same (fun b => w.heap.size < b ∧ b < u.heap.size) u ((((((u.setCell ⟨w.heap.size, k * 6, none⟩ (.string (l[k]'(by omega)).1)).setCell ⟨w.heap.size, k * 6 + 1, none⟩ (.slice go1 (l[k]'(by omega)).2.1.length gc1)).setCell ⟨w.heap.size, k * 6 + 2, none⟩ (.slice go2 (l[k]'(by omega)).2.2.1.length gc2)).setCell ⟨w.heap.size, k * 6 + 3, none⟩ (.string (l[k]'(by omega)).2.2.2.1)).setCell ⟨w.heap.size, k * 6 + 4, none⟩ (.int .i64 (l[k]'(by omega)).2.2.2.2.1)).setCell ⟨w.heap.size, k * 6 + 5, none⟩ (.int .i64 (l[k]'(by omega)).2.2.2.2.2))) := ((((((Same.of_set _ ⟨w.heap.size, k * 6, none⟩ (.string (l[k]'(by omega)).1) (fun h => absurd h.1 (Nat.lt_irrefl _))).trans (Same.of_set _ ⟨w.heap.size, k * 6 + 1, none⟩ (.slice go1 (l[k]'(by omega)).2.1.length gc1) (fun h => absurd h.1 (Nat.lt_irrefl _)))).trans (Same.of_set _ ⟨w.heap.size, k * 6 + 2, none⟩ (.slice go2 (l[k]'(by omega)).2.2.1.length gc2) (fun h => absurd h.1 (Nat.lt_irrefl _)))).trans (Same.of_set _ ⟨w.heap.size, k * 6 + 3, none⟩ (.string (l[k]'(by omega)).2.2.2.1) (fun h => absurd h.1 (Nat.lt_irrefl _)))).trans (Same.of_set _ ⟨w.heap.size, k * 6 + 4, none⟩ (.int .i64 (l[k]'(by omega)).2.2.2.2.1) (fun h => absurd h.1 (Nat.lt_irrefl _)))).trans (Same.of_set _ ⟨w.heap.size, k * 6 + 5, none⟩ (.int .i64 (l[k]'(by omega)).2.2.2.2.2) (fun h => absurd h.1 (Nat.lt_irrefl _))))
      have HSZ : Hid (((((((u.setCell ⟨w.heap.size, k * 6, none⟩ (.string (l[k]'(by omega)).1)).setCell ⟨w.heap.size, k * 6 + 1, none⟩ (.slice go1 (l[k]'(by omega)).2.1.length gc1)).setCell ⟨w.heap.size, k * 6 + 2, none⟩ (.slice go2 (l[k]'(by omega)).2.2.1.length gc2)).setCell ⟨w.heap.size, k * 6 + 3, none⟩ (.string (l[k]'(by omega)).2.2.2.1)).setCell ⟨w.heap.size, k * 6 + 4, none⟩ (.int .i64 (l[k]'(by omega)).2.2.2.2.1)).setCell ⟨w.heap.size, k * 6 + 5, none⟩ (.int .i64 (l[k]'(by omega)).2.2.2.2.2)).heap.size = u.heap.size) := by simp [Hid]
      go_wp2_with fail
      go_roundw
      case rel =>
        refine ⟨k + 1, ((((((c.setIfInBounds (k * 6) (.string (l[k]'(by omega)).1)).setIfInBounds (k * 6 + 1) (.slice go1 (l[k]'(by omega)).2.1.length gc1)).setIfInBounds (k * 6 + 2) (.slice go2 (l[k]'(by omega)).2.2.1.length gc2)).setIfInBounds (k * 6 + 3) (.string (l[k]'(by omega)).2.2.2.1)).setIfInBounds (k * 6 + 4) (.int .i64 (l[k]'(by omega)).2.2.2.2.1)).setIfInBounds (k * 6 + 5) (.int .i64 (l[k]'(by omega)).2.2.2.2.2)), by omega, by go_num, (set_row (set_row (set_row (set_row (set_row (set_row hrow2.out (k * 6) _) (k * 6 + 1) _) (k * 6 + 2) _) (k * 6 + 3) _) (k * 6 + 4) _) (k * 6 + 5) _), by simpa using hcs, ?_, ((((((hbel2.out.setCell (Nat.le_refl _) _).setCell (Nat.le_refl _) _).setCell (Nat.le_refl _) _).setCell (Nat.le_refl _) _).setCell (Nat.le_refl _) _).setCell (Nat.le_refl _) _)⟩
        intro i hi hik
        by_cases e : i = k
        · subst e
          refine ⟨g, ?_, ?_⟩
          · intro j hj
            rcases (show j = 0 ∨ j = 1 ∨ j = 2 ∨ j = 3 ∨ j = 4 ∨ j = 5 by omega) with rfl | rfl | rfl | rfl | rfl | rfl
            · rw [ge0]
              simp only [Array.getElem?_setIfInBounds, Array.size_setIfInBounds, hcs]
              repeat (first | rw [if_pos True.intro] | rw [if_pos (by omega)] | rw [if_neg (by omega)])
            · rw [ge1]
              simp only [Array.getElem?_setIfInBounds, Array.size_setIfInBounds, hcs]
              repeat (first | rw [if_pos True.intro] | rw [if_pos (by omega)] | rw [if_neg (by omega)])
            · rw [ge2]
              simp only [Array.getElem?_setIfInBounds, Array.size_setIfInBounds, hcs]
              repeat (first | rw [if_pos True.intro] | rw [if_pos (by omega)] | rw [if_neg (by omega)])
            · rw [ge3]
              simp only [Array.getElem?_setIfInBounds, Array.size_setIfInBounds, hcs]
              repeat (first | rw [if_pos True.intro] | rw [if_pos (by omega)] | rw [if_neg (by omega)])
            · rw [ge4]
              simp only [Array.getElem?_setIfInBounds, Array.size_setIfInBounds, hcs]
              repeat (first | rw [if_pos True.intro] | rw [if_pos (by omega)] | rw [if_neg (by omega)])
            · rw [ge5]
              simp only [Array.getElem?_setIfInBounds, Array.size_setIfInBounds, hcs]
              repeat (first | rw [if_pos True.intro] | rw [if_pos (by omega)] | rw [if_neg (by omega)])
          · refine Lay.up (S := fun b => w.heap.size < b ∧ b < u.heap.size) (Lay.same (Lay.up HG.out ?_) HSM.out) ?_
            · intro b hb; exact ⟨by omega, hb.2⟩
            · intro b hb; exact ⟨hb.1, by rw [HSZ.out]; exact hb.2⟩
        · obtain ⟨g', h1, h2⟩ := hall.out i hi (by omega)
          refine ⟨g', fun j hj => ?_, ?_⟩
          · simp only [Array.getElem?_setIfInBounds]
            repeat rw [if_neg (by omega)]
            exact h1 j hj
          · refine Lay.up (S := fun b => w.heap.size < b ∧ b < u.heap.size) (Lay.same (Lay.up (Lay.same h2 (Same.of_below hbu (fun b hb => hb.2))) ?_) HSM.out) ?_
            · intro b hb; exact ⟨hb.1, by have := hb.2; omega⟩
            · intro b hb; exact ⟨hb.1, by rw [HSZ.out]; exact hb.2⟩
      case measure => simp [intOf]; omega
    · have hkn : k = n := by omega
      subst hkn
      go_wp2_with fail
      go_ret
      refine ⟨.slice (some ⟨w.heap.size, 0, none⟩) k k, rfl, ⟨_, _, by rw [en], by rw [en]; exact ⟨by unfold maxLen; omega, Nat.le_refl _, fun h => nomatch h⟩, fun i hi => ⟨w.heap.size, 0, rfl, ⟨Nat.le_refl _, hRw⟩, ?_⟩⟩, hbel.out⟩
      obtain ⟨g', h1, h2⟩ := hall.out i hi (by omega)
      refine ⟨g', fun j hj => ?_, Lay.up h2 (fun b hb => ⟨by omega, hb.2⟩)⟩
      rw [width_DRunBatch] at hj ⊢
      have e : 0 + i * 6 + j = i * 6 + j := by omega
      rw [e]
      exact (cell_row hrow.out _ _ (h1 j hj)).1
theorem underRunDoneS : Tryz.prog.underlying 36 = some (.slice 79) := by kernel_rfl
theorem infoRunDoneS : (Tryz.prog.info? 79).map (fun i => (i.zero, i.size, i.bytes)) = some (some (.agg #[.string ByteArray.empty, .int .i64 0, .int .i64 0]), 3, 32) := by kernel_rfl
set_option maxRecDepth 100000 in
set_option maxHeartbeats 4000000 in
theorem toRunDoneS_any (S : Nat → Prop) (l : List DRunDone) (v : Value) (w : World) (h : AtL S w l v) (hS : ∀ b, S b → b < w.heap.size) (hm : totL l ≤ 1048576) :
    Calls Tryz.prog 16 #[v] w fun e w' => ∃ r, e = .returned r ∧ AtL (fun b => w.heap.size ≤ b ∧ b < w'.heap.size) w' l r ∧ Below w.heap.size w w' := by
  obtain ⟨oa, cap, rfl, hn, hc⟩ := h
  have hln := totL_len l
  have HTE : Hid (∀ i (h : i < l.length), Lay.tot l[i] ≤ 1048576) := fun i h => Nat.le_trans (totL_el l i h) hm
  obtain ⟨n, en⟩ : ∃ n, l.length = n := ⟨_, rfl⟩
  rw [en] at hn hln
  rw [en]
  have HC : Hid _ := hc
  clear hc hn
  obtain ⟨i0, hi, hz0, hz1, hz2⟩ := info_parts infoRunDoneS
  obtain ⟨M, hM⟩ : ∃ M, M = madeCells (.agg #[.string ByteArray.empty, .int .i64 0, .int .i64 0] : Value).cells ((n : Int).toNat * i0.size) := ⟨_, rfl⟩
  have hMs : M.size = n * 3 := by rw [hM, size_madeCells, hz1]; simp
  have hmk : ∀ W : World, (Instr.makeSlice 36 (.int .i64 (n : Int)) (.int .i64 (n : Int))).run Tryz.prog W = .ok (.slice (some ⟨W.heap.size, 0, none⟩) n n) (W.alloc (.cells M 79)) := fun W => by
    have h := run_make (P := Tryz.prog) W 36 79 i0 (.agg #[.string ByteArray.empty, .int .i64 0, .int .i64 0]) underRunDoneS hi hz0 .i64 .i64 (n : Int) (n : Int) (by omega) (by omega) (by rw [hz2]; omega) (by omega)
    rw [← hM] at h
    simpa using h
  clear hM
  go_enter Tryz.func16, Tryz.ntmps16
  go_wp2
  go_loopw [4] (fun i wr => ∃ (k : Nat) (c : Array Value), k ≤ n ∧ i = .int .i64 k ∧ Hid (wr.heap[w.heap.size]? = some (.cells c 79 (0, 0))) ∧ c.size = n * 3 ∧ Hid (∀ i (h : i < l.length), i < k → ∃ g : Nat → Value, (∀ j, j < 3 → c[i * 3 + j]? = some (g j)) ∧ Lay.At (fun b => w.heap.size < b ∧ b < wr.heap.size) wr l[i] g) ∧ Hid (Below w.heap.size w wr)) (fun i _ => n - (intOf i).toNat)
  case atStart => exact ⟨0, M, Nat.zero_le _, rfl, heap_alloc_new w _, hMs, fun _ _ h => by omega, (Below.refl _ _).alloc (Nat.le_refl _) _⟩
  case round =>
    obtain ⟨k, c, hk, rfl, hrow, hcs, hall, hbel⟩ := hrel
    have hRw : w.heap.size < wr.heap.size := (Array.getElem?_eq_some_iff.1 hrow.out).1
    by_cases hlt : k < n
    · obtain ⟨b, off, rfl, hbS, cc, hcell, hat⟩ := HC.out k (by omega)
      have hb := hS b hbS
      rw [width_DRunDone] at hcell
      have e0 : wr.cell? ⟨b, off + k * 3, none⟩ = some (cc 0) := (hbel.out.cell (p := ⟨b, off + k * 3, none⟩) (by show b < _; omega)).trans (by have hq := hcell 0 (by omega); first | exact hq | simpa using hq)
      have e1 : wr.cell? ⟨b, off + k * 3 + 1, none⟩ = some (cc 1) := (hbel.out.cell (p := ⟨b, off + k * 3 + 1, none⟩) (by show b < _; omega)).trans (by have hq := hcell 1 (by omega); first | exact hq | simpa using hq)
      have e2 : wr.cell? ⟨b, off + k * 3 + 2, none⟩ = some (cc 2) := (hbel.out.cell (p := ⟨b, off + k * 3 + 2, none⟩) (by show b < _; omega)).trans (by have hq := hcell 2 (by omega); first | exact hq | simpa using hq)
      clear hcell
      have HAT : Hid _ := hat
      clear hat
      go_wp2_with fail
      refine (toRunDone_any S _ cc _ (Lay.same HAT.out (Same.of_below hbel.out hS)) (fun b hb => by have := hS b hb; omega) (HTE.out k (by omega))).mono ?_
      rintro e u ⟨g, rfl, hg, hbu⟩
      have HG : Hid _ := hg
      clear hg
      have hus := hbu.size
      have hrow2 : Hid (u.heap[w.heap.size]? = some (.cells c 79 (0, 0))) := (hbu.block _ hRw).trans hrow.out
      have hbel2 : Hid (Below w.heap.size w u) := hbel.out.trans (hbu.mono (by omega))
      obtain ⟨⟨ge0, _⟩, ⟨ge1, _, _⟩, ⟨ge2, _, _⟩⟩ := at_DRunDone.1 HG.out
      rw [ge0, ge1, ge2]
      obtain ⟨v0, hv0⟩ : ∃ v, c[k * 3]? = some v := ⟨_, Array.getElem?_eq_getElem (by omega)⟩
      obtain ⟨hcl0, hfr0⟩ := cell_row hrow2.out (k * 3) v0 hv0
      clear hv0
      obtain ⟨v1, hv1⟩ : ∃ v, c[k * 3 + 1]? = some v := ⟨_, Array.getElem?_eq_getElem (by omega)⟩
      obtain ⟨hcl1, hfr1⟩ := cell_row hrow2.out (k * 3 + 1) v1 hv1
      clear hv1
      obtain ⟨v2, hv2⟩ : ∃ v, c[k * 3 + 2]? = some v := ⟨_, Array.getElem?_eq_getElem (by omega)⟩
      obtain ⟨hcl2, hfr2⟩ := cell_row hrow2.out (k * 3 + 2) v2 hv2
      clear hv2
      have HSM : Hid (Same (fun b => w.heap.size < b ∧ b < u.heap.size) u (((u.setCell ⟨w.heap.size, k * 3, none⟩ (.string (l[k]'(by omega)).1)).setCell ⟨w.heap.size, k * 3 + 1, none⟩ (.int .i64 (l[k]'(by omega)).2.1)).setCell ⟨w.heap.size, k * 3 + 2, none⟩ (.int .i64 (l[k]'(by omega)).2.2))) := (((Same.of_set _ ⟨w.heap.size, k * 3, none⟩ (.string (l[k]'(by omega)).1) (fun h => absurd h.1 (Nat.lt_irrefl _))).trans (Same.of_set _ ⟨w.heap.size, k * 3 + 1, none⟩ (.int .i64 (l[k]'(by omega)).2.1) (fun h => absurd h.1 (Nat.lt_irrefl _)))).trans (Same.of_set _ ⟨w.heap.size, k * 3 + 2, none⟩ (.int .i64 (l[k]'(by omega)).2.2) (fun h => absurd h.1 (Nat.lt_irrefl _))))
      have HSZ : Hid ((((u.setCell ⟨w.heap.size, k * 3, none⟩ (.string (l[k]'(by omega)).1)).setCell ⟨w.heap.size, k * 3 + 1, none⟩ (.int .i64 (l[k]'(by omega)).2.1)).setCell ⟨w.heap.size, k * 3 + 2, none⟩ (.int .i64 (l[k]'(by omega)).2.2)).heap.size = u.heap.size) := by simp [Hid]
      go_wp2_with fail
      go_roundw
      case rel =>
        refine ⟨k + 1, (((c.setIfInBounds (k * 3) (.string (l[k]'(by omega)).1)).setIfInBounds (k * 3 + 1) (.int .i64 (l[k]'(by omega)).2.1)).setIfInBounds (k * 3 + 2) (.int .i64 (l[k]'(by omega)).2.2)), by omega, by go_num, (set_row (set_row (set_row hrow2.out (k * 3) _) (k * 3 + 1) _) (k * 3 + 2) _), by simpa using hcs, ?_, (((hbel2.out.setCell (Nat.le_refl _) _).setCell (Nat.le_refl _) _).setCell (Nat.le_refl _) _)⟩
        intro i hi hik
        by_cases e : i = k
        · subst e
          refine ⟨g, ?_, ?_⟩
          · intro j hj
            rcases (show j = 0 ∨ j = 1 ∨ j = 2 by omega) with rfl | rfl | rfl
            · rw [ge0]
              simp only [Array.getElem?_setIfInBounds, Array.size_setIfInBounds, hcs]
              repeat (first | rw [if_pos True.intro] | rw [if_pos (by omega)] | rw [if_neg (by omega)])
            · rw [ge1]
              simp only [Array.getElem?_setIfInBounds, Array.size_setIfInBounds, hcs]
              repeat (first | rw [if_pos True.intro] | rw [if_pos (by omega)] | rw [if_neg (by omega)])
            · rw [ge2]
              simp only [Array.getElem?_setIfInBounds, Array.size_setIfInBounds, hcs]
              repeat (first | rw [if_pos True.intro] | rw [if_pos (by omega)] | rw [if_neg (by omega)])
          · refine Lay.up (S := fun b => w.heap.size < b ∧ b < u.heap.size) (Lay.same (Lay.up HG.out ?_) HSM.out) ?_
            · intro b hb; exact ⟨by omega, hb.2⟩
            · intro b hb; exact ⟨hb.1, by rw [HSZ.out]; exact hb.2⟩
        · obtain ⟨g', h1, h2⟩ := hall.out i hi (by omega)
          refine ⟨g', fun j hj => ?_, ?_⟩
          · simp only [Array.getElem?_setIfInBounds]
            repeat rw [if_neg (by omega)]
            exact h1 j hj
          · refine Lay.up (S := fun b => w.heap.size < b ∧ b < u.heap.size) (Lay.same (Lay.up (Lay.same h2 (Same.of_below hbu (fun b hb => hb.2))) ?_) HSM.out) ?_
            · intro b hb; exact ⟨hb.1, by have := hb.2; omega⟩
            · intro b hb; exact ⟨hb.1, by rw [HSZ.out]; exact hb.2⟩
      case measure => simp [intOf]; omega
    · have hkn : k = n := by omega
      subst hkn
      go_wp2_with fail
      go_ret
      refine ⟨.slice (some ⟨w.heap.size, 0, none⟩) k k, rfl, ⟨_, _, by rw [en], by rw [en]; exact ⟨by unfold maxLen; omega, Nat.le_refl _, fun h => nomatch h⟩, fun i hi => ⟨w.heap.size, 0, rfl, ⟨Nat.le_refl _, hRw⟩, ?_⟩⟩, hbel.out⟩
      obtain ⟨g', h1, h2⟩ := hall.out i hi (by omega)
      refine ⟨g', fun j hj => ?_, Lay.up h2 (fun b hb => ⟨by omega, hb.2⟩)⟩
      rw [width_DRunDone] at hj ⊢
      have e : 0 + i * 3 + j = i * 3 + j := by omega
      rw [e]
      exact (cell_row hrow.out _ _ (h1 j hj)).1
set_option maxRecDepth 100000 in
set_option maxHeartbeats 8000000 in
theorem toRunHouse_any (S : Nat → Prop) (a : DRunHouse) (c : Nat → Value) (w : World) (h : Lay.At S w a c) (hS : ∀ b, S b → b < w.heap.size) (hm : Lay.tot a ≤ 1048576) :
    Calls Tryz.prog 6 #[.agg #[c 0, c 1, c 2, c 3, c 4, c 5]] w fun e w' => ∃ g : Nat → Value, e = .returned (.agg #[g 0, g 1, g 2, g 3, g 4, g 5]) ∧ Lay.At (fun b => w.heap.size ≤ b ∧ b < w'.heap.size) w' a g ∧ Below w.heap.size w w' := by
  rw [tot_DRunHouse] at hm
  rw [at_DRunHouse] at h
  obtain ⟨⟨e0, z0, y0⟩, ⟨e1, z1, y1⟩, H2, H3, H4, H5⟩ := h
  obtain ⟨v2, e2⟩ : ∃ v, c 2 = v := ⟨_, rfl⟩
  rw [e2] at H2
  obtain ⟨v3, e3⟩ : ∃ v, c 3 = v := ⟨_, rfl⟩
  rw [e3] at H3
  obtain ⟨v4, e4⟩ : ∃ v, c 4 = v := ⟨_, rfl⟩
  rw [e4] at H4
  obtain ⟨v5, e5⟩ : ∃ v, c 5 = v := ⟨_, rfl⟩
  rw [e5] at H5
  rw [e0, e1, e2, e3, e4, e5]
  clear e0 e1 e2 e3 e4 e5
  have C0 : Hid (Cp 29 38 w (((w.alloc (.cells #[.int .i64 a.1, .int .i64 a.2.1, v2, v3, v4, v5] 29)).alloc (.cells #[.int .i64 0, .int .i64 0, .slice none 0 0, .slice none 0 0, .slice none 0 0, .slice none 0 0] 38)).alloc (.cells #[.int .i64 a.1, .int .i64 a.2.1, .slice none 0 0, .slice none 0 0, .slice none 0 0, .slice none 0 0] 38)) #[.int .i64 a.1, .int .i64 a.2.1, v2, v3, v4, v5] #[.int .i64 0, .int .i64 0, .slice none 0 0, .slice none 0 0, .slice none 0 0, .slice none 0 0] _) := cp_init 29 38 w #[.int .i64 a.1, .int .i64 a.2.1, v2, v3, v4, v5] #[.int .i64 0, .int .i64 0, .slice none 0 0, .slice none 0 0, .slice none 0 0, .slice none 0 0] #[.int .i64 a.1, .int .i64 a.2.1, .slice none 0 0, .slice none 0 0, .slice none 0 0, .slice none 0 0]
  have HI : Hid (Lay.At S (((w.alloc (.cells #[.int .i64 a.1, .int .i64 a.2.1, v2, v3, v4, v5] 29)).alloc (.cells #[.int .i64 0, .int .i64 0, .slice none 0 0, .slice none 0 0, .slice none 0 0, .slice none 0 0] 38)).alloc (.cells #[.int .i64 a.1, .int .i64 a.2.1, .slice none 0 0, .slice none 0 0, .slice none 0 0, .slice none 0 0] 38)) ((a.2.2.1, a.2.2.2.1) : DShareBook) (cs [v2, v3])) := at_DShareBook.2 ⟨H2.same (Same.of_below C0.out.bel hS), H3.same (Same.of_below C0.out.bel hS)⟩
  have hm2 : Lay.tot ((a.2.2.1, a.2.2.2.1) : DShareBook) ≤ 1048576 := by rw [tot_DShareBook]; show totL a.2.2.1 + totL a.2.2.2.1 ≤ 1048576; omega
  clear H2 H3
  go_enter Tryz.func6, Tryz.ntmps6
  go_wp2_with fail
  refine (toShareBook_any S (a.2.2.1, a.2.2.2.1) (cs [v2, v3]) _ HI.out (fun b hb => by have := hS b hb; have := C0.out.bel.size; omega) hm2).mono ?_
  rintro e w1 ⟨g, rfl, hg, hb1⟩
  obtain ⟨gl2, gl3⟩ := at_DShareBook.1 hg
  obtain ⟨so2, sc2, ge2, _⟩ := id gl2
  have ge2 : g 0 = .slice so2 a.2.2.1.length sc2 := ge2
  rw [ge2] at gl2
  obtain ⟨so3, sc3, ge3, _⟩ := id gl3
  have ge3 : g 1 = .slice so3 a.2.2.2.1.length sc3 := ge3
  rw [ge3] at gl3
  rw [ge2, ge3]
  have l1 : w.heap.size + 1 + 1 + 1 ≤ w1.heap.size := by have := hb1.size; simpa using this
  have M2 : Hid (AtL (fun b => w.heap.size + 1 + 1 < b ∧ b < w1.heap.size) w1 a.2.2.1 (.slice so2 a.2.2.1.length sc2)) := gl2.up (fun b hb => ⟨by have := hb.1; simp at this; omega, hb.2⟩)
  have M3 : Hid (AtL (fun b => w.heap.size + 1 + 1 < b ∧ b < w1.heap.size) w1 a.2.2.2.1 (.slice so3 a.2.2.2.1.length sc3)) := gl3.up (fun b hb => ⟨by have := hb.1; simp at this; omega, hb.2⟩)
  clear gl2 gl3 hg HI
  have C1 : Hid (Cp 29 38 w w1 #[.int .i64 a.1, .int .i64 a.2.1, v2, v3, v4, v5] #[.int .i64 0, .int .i64 0, .slice none 0 0, .slice none 0 0, .slice none 0 0, .slice none 0 0] #[.int .i64 a.1, .int .i64 a.2.1, .slice none 0 0, .slice none 0 0, .slice none 0 0, .slice none 0 0]) := C0.out.next hb1
  obtain ⟨p2, q2⟩ := cell_row C1.out.out 2 _ rfl
  obtain ⟨p3, q3⟩ := cell_row C1.out.out 3 _ rfl
  have C2 : Hid (Cp 29 38 w (w1.setCell ⟨w.heap.size + 1 + 1, 2, none⟩ (.slice so2 a.2.2.1.length sc2)) #[.int .i64 a.1, .int .i64 a.2.1, v2, v3, v4, v5] #[.int .i64 0, .int .i64 0, .slice none 0 0, .slice none 0 0, .slice none 0 0, .slice none 0 0] #[.int .i64 a.1, .int .i64 a.2.1, .slice so2 a.2.2.1.length sc2, .slice none 0 0, .slice none 0 0, .slice none 0 0]) := C1.out.put 2 (.slice so2 a.2.2.1.length sc2)
  have C3 : Hid (Cp 29 38 w ((w1.setCell ⟨w.heap.size + 1 + 1, 2, none⟩ (.slice so2 a.2.2.1.length sc2)).setCell ⟨w.heap.size + 1 + 1, 3, none⟩ (.slice so3 a.2.2.2.1.length sc3)) #[.int .i64 a.1, .int .i64 a.2.1, v2, v3, v4, v5] #[.int .i64 0, .int .i64 0, .slice none 0 0, .slice none 0 0, .slice none 0 0, .slice none 0 0] #[.int .i64 a.1, .int .i64 a.2.1, .slice so2 a.2.2.1.length sc2, .slice so3 a.2.2.2.1.length sc3, .slice none 0 0, .slice none 0 0]) := C2.out.put 3 (.slice so3 a.2.2.2.1.length sc3)
  obtain ⟨ar4, _⟩ := cell_row C3.out.arg 4 v4 rfl
  go_wp2_with fail
  refine (toRunBatchS_any S a.2.2.2.2.1 v4 _ (H4.same (Same.of_below C3.out.bel hS)) (fun b hb => by have := hS b hb; have := C3.out.bel.size; omega) (by omega)).mono ?_
  rintro e w2 ⟨r2, rfl, L4, hb2⟩
  obtain ⟨so4, sc4, er4, _⟩ := id L4
  subst er4
  have l2 : w1.heap.size ≤ w2.heap.size := by have := hb2.size; simpa using this
  have M4 : Hid (AtL (fun b => w.heap.size + 1 + 1 < b ∧ b < w2.heap.size) w2 a.2.2.2.2.1 (.slice so4 a.2.2.2.2.1.length sc4)) := L4.up (fun b hb => ⟨by have := hb.1; simp at this; omega, hb.2⟩)
  clear L4
  have C4 : Hid (Cp 29 38 w w2 #[.int .i64 a.1, .int .i64 a.2.1, v2, v3, v4, v5] #[.int .i64 0, .int .i64 0, .slice none 0 0, .slice none 0 0, .slice none 0 0, .slice none 0 0] #[.int .i64 a.1, .int .i64 a.2.1, .slice so2 a.2.2.1.length sc2, .slice so3 a.2.2.2.1.length sc3, .slice none 0 0, .slice none 0 0]) := C3.out.next hb2
  obtain ⟨p4, q4⟩ := cell_row C4.out.out 4 _ rfl
  have C4b : Hid (Cp 29 38 w (w2.setCell ⟨w.heap.size + 1 + 1, 4, none⟩ (.slice so4 a.2.2.2.2.1.length sc4)) #[.int .i64 a.1, .int .i64 a.2.1, v2, v3, v4, v5] #[.int .i64 0, .int .i64 0, .slice none 0 0, .slice none 0 0, .slice none 0 0, .slice none 0 0] #[.int .i64 a.1, .int .i64 a.2.1, .slice so2 a.2.2.1.length sc2, .slice so3 a.2.2.2.1.length sc3, .slice so4 a.2.2.2.2.1.length sc4, .slice none 0 0]) := C4.out.put 4 (.slice so4 a.2.2.2.2.1.length sc4)
  obtain ⟨ar5, _⟩ := cell_row C4b.out.arg 5 v5 rfl
  go_wp2_with fail
  refine (toRunDoneS_any S a.2.2.2.2.2 v5 _ (H5.same (Same.of_below C4b.out.bel hS)) (fun b hb => by have := hS b hb; have := C4b.out.bel.size; omega) (by omega)).mono ?_
  rintro e w3 ⟨r3, rfl, L5, hb3⟩
  obtain ⟨so5, sc5, er5, _⟩ := id L5
  subst er5
  have l3 : w2.heap.size ≤ w3.heap.size := by have := hb3.size; simpa using this
  have M5 : Hid (AtL (fun b => w.heap.size + 1 + 1 < b ∧ b < w3.heap.size) w3 a.2.2.2.2.2 (.slice so5 a.2.2.2.2.2.length sc5)) := L5.up (fun b hb => ⟨by have := hb.1; simp at this; omega, hb.2⟩)
  clear L5
  have C5 : Hid (Cp 29 38 w w3 #[.int .i64 a.1, .int .i64 a.2.1, v2, v3, v4, v5] #[.int .i64 0, .int .i64 0, .slice none 0 0, .slice none 0 0, .slice none 0 0, .slice none 0 0] #[.int .i64 a.1, .int .i64 a.2.1, .slice so2 a.2.2.1.length sc2, .slice so3 a.2.2.2.1.length sc3, .slice so4 a.2.2.2.2.1.length sc4, .slice none 0 0]) := C4b.out.next hb3
  obtain ⟨p5, q5⟩ := cell_row C5.out.out 5 _ rfl
  have C5b : Hid (Cp 29 38 w (w3.setCell ⟨w.heap.size + 1 + 1, 5, none⟩ (.slice so5 a.2.2.2.2.2.length sc5)) #[.int .i64 a.1, .int .i64 a.2.1, v2, v3, v4, v5] #[.int .i64 0, .int .i64 0, .slice none 0 0, .slice none 0 0, .slice none 0 0, .slice none 0 0] #[.int .i64 a.1, .int .i64 a.2.1, .slice so2 a.2.2.1.length sc2, .slice so3 a.2.2.2.1.length sc3, .slice so4 a.2.2.2.2.1.length sc4, .slice so5 a.2.2.2.2.2.length sc5]) := C5.out.put 5 (.slice so5 a.2.2.2.2.2.length sc5)
  obtain ⟨o0, _⟩ := cell_row C5b.out.out 0 (.int .i64 a.1) rfl
  obtain ⟨rr0, rf0⟩ := cell_row C5b.out.res 0 _ rfl
  obtain ⟨o1, _⟩ := cell_row C5b.out.out 1 (.int .i64 a.2.1) rfl
  obtain ⟨rr1, rf1⟩ := cell_row C5b.out.res 1 _ rfl
  obtain ⟨o2, _⟩ := cell_row C5b.out.out 2 (.slice so2 a.2.2.1.length sc2) rfl
  obtain ⟨rr2, rf2⟩ := cell_row C5b.out.res 2 _ rfl
  obtain ⟨o3, _⟩ := cell_row C5b.out.out 3 (.slice so3 a.2.2.2.1.length sc3) rfl
  obtain ⟨rr3, rf3⟩ := cell_row C5b.out.res 3 _ rfl
  obtain ⟨o4, _⟩ := cell_row C5b.out.out 4 (.slice so4 a.2.2.2.2.1.length sc4) rfl
  obtain ⟨rr4, rf4⟩ := cell_row C5b.out.res 4 _ rfl
  obtain ⟨o5, _⟩ := cell_row C5b.out.out 5 (.slice so5 a.2.2.2.2.2.length sc5) rfl
  obtain ⟨rr5, rf5⟩ := cell_row C5b.out.res 5 _ rfl
  have R0 : Hid (Cp 29 38 w ((w3.setCell ⟨w.heap.size + 1 + 1, 5, none⟩ (.slice so5 a.2.2.2.2.2.length sc5)).setCell ⟨w.heap.size + 1, 0, none⟩ (.int .i64 a.1)) #[.int .i64 a.1, .int .i64 a.2.1, v2, v3, v4, v5] #[.int .i64 a.1, .int .i64 0, .slice none 0 0, .slice none 0 0, .slice none 0 0, .slice none 0 0] #[.int .i64 a.1, .int .i64 a.2.1, .slice so2 a.2.2.1.length sc2, .slice so3 a.2.2.2.1.length sc3, .slice so4 a.2.2.2.2.1.length sc4, .slice so5 a.2.2.2.2.2.length sc5]) := C5b.out.ret 0 (.int .i64 a.1)
  have R1 : Hid (Cp 29 38 w (((w3.setCell ⟨w.heap.size + 1 + 1, 5, none⟩ (.slice so5 a.2.2.2.2.2.length sc5)).setCell ⟨w.heap.size + 1, 0, none⟩ (.int .i64 a.1)).setCell ⟨w.heap.size + 1, 1, none⟩ (.int .i64 a.2.1)) #[.int .i64 a.1, .int .i64 a.2.1, v2, v3, v4, v5] #[.int .i64 a.1, .int .i64 a.2.1, .slice none 0 0, .slice none 0 0, .slice none 0 0, .slice none 0 0] #[.int .i64 a.1, .int .i64 a.2.1, .slice so2 a.2.2.1.length sc2, .slice so3 a.2.2.2.1.length sc3, .slice so4 a.2.2.2.2.1.length sc4, .slice so5 a.2.2.2.2.2.length sc5]) := R0.out.ret 1 (.int .i64 a.2.1)
  have R2 : Hid (Cp 29 38 w ((((w3.setCell ⟨w.heap.size + 1 + 1, 5, none⟩ (.slice so5 a.2.2.2.2.2.length sc5)).setCell ⟨w.heap.size + 1, 0, none⟩ (.int .i64 a.1)).setCell ⟨w.heap.size + 1, 1, none⟩ (.int .i64 a.2.1)).setCell ⟨w.heap.size + 1, 2, none⟩ (.slice so2 a.2.2.1.length sc2)) #[.int .i64 a.1, .int .i64 a.2.1, v2, v3, v4, v5] #[.int .i64 a.1, .int .i64 a.2.1, .slice so2 a.2.2.1.length sc2, .slice none 0 0, .slice none 0 0, .slice none 0 0] #[.int .i64 a.1, .int .i64 a.2.1, .slice so2 a.2.2.1.length sc2, .slice so3 a.2.2.2.1.length sc3, .slice so4 a.2.2.2.2.1.length sc4, .slice so5 a.2.2.2.2.2.length sc5]) := R1.out.ret 2 (.slice so2 a.2.2.1.length sc2)
  have R3 : Hid (Cp 29 38 w (((((w3.setCell ⟨w.heap.size + 1 + 1, 5, none⟩ (.slice so5 a.2.2.2.2.2.length sc5)).setCell ⟨w.heap.size + 1, 0, none⟩ (.int .i64 a.1)).setCell ⟨w.heap.size + 1, 1, none⟩ (.int .i64 a.2.1)).setCell ⟨w.heap.size + 1, 2, none⟩ (.slice so2 a.2.2.1.length sc2)).setCell ⟨w.heap.size + 1, 3, none⟩ (.slice so3 a.2.2.2.1.length sc3)) #[.int .i64 a.1, .int .i64 a.2.1, v2, v3, v4, v5] #[.int .i64 a.1, .int .i64 a.2.1, .slice so2 a.2.2.1.length sc2, .slice so3 a.2.2.2.1.length sc3, .slice none 0 0, .slice none 0 0] #[.int .i64 a.1, .int .i64 a.2.1, .slice so2 a.2.2.1.length sc2, .slice so3 a.2.2.2.1.length sc3, .slice so4 a.2.2.2.2.1.length sc4, .slice so5 a.2.2.2.2.2.length sc5]) := R2.out.ret 3 (.slice so3 a.2.2.2.1.length sc3)
  have R4 : Hid (Cp 29 38 w ((((((w3.setCell ⟨w.heap.size + 1 + 1, 5, none⟩ (.slice so5 a.2.2.2.2.2.length sc5)).setCell ⟨w.heap.size + 1, 0, none⟩ (.int .i64 a.1)).setCell ⟨w.heap.size + 1, 1, none⟩ (.int .i64 a.2.1)).setCell ⟨w.heap.size + 1, 2, none⟩ (.slice so2 a.2.2.1.length sc2)).setCell ⟨w.heap.size + 1, 3, none⟩ (.slice so3 a.2.2.2.1.length sc3)).setCell ⟨w.heap.size + 1, 4, none⟩ (.slice so4 a.2.2.2.2.1.length sc4)) #[.int .i64 a.1, .int .i64 a.2.1, v2, v3, v4, v5] #[.int .i64 a.1, .int .i64 a.2.1, .slice so2 a.2.2.1.length sc2, .slice so3 a.2.2.2.1.length sc3, .slice so4 a.2.2.2.2.1.length sc4, .slice none 0 0] #[.int .i64 a.1, .int .i64 a.2.1, .slice so2 a.2.2.1.length sc2, .slice so3 a.2.2.2.1.length sc3, .slice so4 a.2.2.2.2.1.length sc4, .slice so5 a.2.2.2.2.2.length sc5]) := R3.out.ret 4 (.slice so4 a.2.2.2.2.1.length sc4)
  have CF : Hid (Cp 29 38 w (((((((w3.setCell ⟨w.heap.size + 1 + 1, 5, none⟩ (.slice so5 a.2.2.2.2.2.length sc5)).setCell ⟨w.heap.size + 1, 0, none⟩ (.int .i64 a.1)).setCell ⟨w.heap.size + 1, 1, none⟩ (.int .i64 a.2.1)).setCell ⟨w.heap.size + 1, 2, none⟩ (.slice so2 a.2.2.1.length sc2)).setCell ⟨w.heap.size + 1, 3, none⟩ (.slice so3 a.2.2.2.1.length sc3)).setCell ⟨w.heap.size + 1, 4, none⟩ (.slice so4 a.2.2.2.2.1.length sc4)).setCell ⟨w.heap.size + 1, 5, none⟩ (.slice so5 a.2.2.2.2.2.length sc5)) #[.int .i64 a.1, .int .i64 a.2.1, v2, v3, v4, v5] #[.int .i64 a.1, .int .i64 a.2.1, .slice so2 a.2.2.1.length sc2, .slice so3 a.2.2.2.1.length sc3, .slice so4 a.2.2.2.2.1.length sc4, .slice so5 a.2.2.2.2.2.length sc5] #[.int .i64 a.1, .int .i64 a.2.1, .slice so2 a.2.2.1.length sc2, .slice so3 a.2.2.2.1.length sc3, .slice so4 a.2.2.2.2.1.length sc4, .slice so5 a.2.2.2.2.2.length sc5]) := R4.out.ret 5 (.slice so5 a.2.2.2.2.2.length sc5)
  have f0 := (cell_row CF.out.res 0 (.int .i64 a.1) rfl).1
  have f1 := (cell_row CF.out.res 1 (.int .i64 a.2.1) rfl).1
  have f2 := (cell_row CF.out.res 2 (.slice so2 a.2.2.1.length sc2) rfl).1
  have f3 := (cell_row CF.out.res 3 (.slice so3 a.2.2.2.1.length sc3) rfl).1
  have f4 := (cell_row CF.out.res 4 (.slice so4 a.2.2.2.2.1.length sc4) rfl).1
  have f5 := (cell_row CF.out.res 5 (.slice so5 a.2.2.2.2.2.length sc5) rfl).1
  have hsz : Hid ((((((((w3.setCell ⟨w.heap.size + 1 + 1, 5, none⟩ (.slice so5 a.2.2.2.2.2.length sc5)).setCell ⟨w.heap.size + 1, 0, none⟩ (.int .i64 a.1)).setCell ⟨w.heap.size + 1, 1, none⟩ (.int .i64 a.2.1)).setCell ⟨w.heap.size + 1, 2, none⟩ (.slice so2 a.2.2.1.length sc2)).setCell ⟨w.heap.size + 1, 3, none⟩ (.slice so3 a.2.2.2.1.length sc3)).setCell ⟨w.heap.size + 1, 4, none⟩ (.slice so4 a.2.2.2.2.1.length sc4)).setCell ⟨w.heap.size + 1, 5, none⟩ (.slice so5 a.2.2.2.2.2.length sc5)).heap.size = w3.heap.size) := by simp [Hid]
  have S1 : Same (fun b => w.heap.size + 1 + 1 < b ∧ b < w1.heap.size) w1 (((((((w3.setCell ⟨w.heap.size + 1 + 1, 5, none⟩ (.slice so5 a.2.2.2.2.2.length sc5)).setCell ⟨w.heap.size + 1, 0, none⟩ (.int .i64 a.1)).setCell ⟨w.heap.size + 1, 1, none⟩ (.int .i64 a.2.1)).setCell ⟨w.heap.size + 1, 2, none⟩ (.slice so2 a.2.2.1.length sc2)).setCell ⟨w.heap.size + 1, 3, none⟩ (.slice so3 a.2.2.2.1.length sc3)).setCell ⟨w.heap.size + 1, 4, none⟩ (.slice so4 a.2.2.2.2.1.length sc4)).setCell ⟨w.heap.size + 1, 5, none⟩ (.slice so5 a.2.2.2.2.2.length sc5)) := ((((((((((((Same.of_set _ ⟨w.heap.size + 1 + 1, 2, none⟩ (.slice so2 a.2.2.1.length sc2) (fun h => absurd h.1 (Nat.lt_irrefl _))).trans (Same.of_set _ ⟨w.heap.size + 1 + 1, 3, none⟩ (.slice so3 a.2.2.2.1.length sc3) (fun h => absurd h.1 (Nat.lt_irrefl _)))).trans (Same.of_below hb2 (fun b hb => by have := hb.2; simp; omega))).trans (Same.of_set _ ⟨w.heap.size + 1 + 1, 4, none⟩ (.slice so4 a.2.2.2.2.1.length sc4) (fun h => absurd h.1 (Nat.lt_irrefl _)))).trans (Same.of_below hb3 (fun b hb => by have := hb.2; simp; omega))).trans (Same.of_set _ ⟨w.heap.size + 1 + 1, 5, none⟩ (.slice so5 a.2.2.2.2.2.length sc5) (fun h => absurd h.1 (Nat.lt_irrefl _)))).trans (Same.of_set _ ⟨w.heap.size + 1, 0, none⟩ (.int .i64 a.1) (fun h => by have := h.1; simp at this; omega))).trans (Same.of_set _ ⟨w.heap.size + 1, 1, none⟩ (.int .i64 a.2.1) (fun h => by have := h.1; simp at this; omega))).trans (Same.of_set _ ⟨w.heap.size + 1, 2, none⟩ (.slice so2 a.2.2.1.length sc2) (fun h => by have := h.1; simp at this; omega))).trans (Same.of_set _ ⟨w.heap.size + 1, 3, none⟩ (.slice so3 a.2.2.2.1.length sc3) (fun h => by have := h.1; simp at this; omega))).trans (Same.of_set _ ⟨w.heap.size + 1, 4, none⟩ (.slice so4 a.2.2.2.2.1.length sc4) (fun h => by have := h.1; simp at this; omega))).trans (Same.of_set _ ⟨w.heap.size + 1, 5, none⟩ (.slice so5 a.2.2.2.2.2.length sc5) (fun h => by have := h.1; simp at this; omega)))
  have S2 : Same (fun b => w.heap.size + 1 + 1 < b ∧ b < w2.heap.size) w2 (((((((w3.setCell ⟨w.heap.size + 1 + 1, 5, none⟩ (.slice so5 a.2.2.2.2.2.length sc5)).setCell ⟨w.heap.size + 1, 0, none⟩ (.int .i64 a.1)).setCell ⟨w.heap.size + 1, 1, none⟩ (.int .i64 a.2.1)).setCell ⟨w.heap.size + 1, 2, none⟩ (.slice so2 a.2.2.1.length sc2)).setCell ⟨w.heap.size + 1, 3, none⟩ (.slice so3 a.2.2.2.1.length sc3)).setCell ⟨w.heap.size + 1, 4, none⟩ (.slice so4 a.2.2.2.2.1.length sc4)).setCell ⟨w.heap.size + 1, 5, none⟩ (.slice so5 a.2.2.2.2.2.length sc5)) := (((((((((Same.of_set _ ⟨w.heap.size + 1 + 1, 4, none⟩ (.slice so4 a.2.2.2.2.1.length sc4) (fun h => absurd h.1 (Nat.lt_irrefl _))).trans (Same.of_below hb3 (fun b hb => by have := hb.2; simp; omega))).trans (Same.of_set _ ⟨w.heap.size + 1 + 1, 5, none⟩ (.slice so5 a.2.2.2.2.2.length sc5) (fun h => absurd h.1 (Nat.lt_irrefl _)))).trans (Same.of_set _ ⟨w.heap.size + 1, 0, none⟩ (.int .i64 a.1) (fun h => by have := h.1; simp at this; omega))).trans (Same.of_set _ ⟨w.heap.size + 1, 1, none⟩ (.int .i64 a.2.1) (fun h => by have := h.1; simp at this; omega))).trans (Same.of_set _ ⟨w.heap.size + 1, 2, none⟩ (.slice so2 a.2.2.1.length sc2) (fun h => by have := h.1; simp at this; omega))).trans (Same.of_set _ ⟨w.heap.size + 1, 3, none⟩ (.slice so3 a.2.2.2.1.length sc3) (fun h => by have := h.1; simp at this; omega))).trans (Same.of_set _ ⟨w.heap.size + 1, 4, none⟩ (.slice so4 a.2.2.2.2.1.length sc4) (fun h => by have := h.1; simp at this; omega))).trans (Same.of_set _ ⟨w.heap.size + 1, 5, none⟩ (.slice so5 a.2.2.2.2.2.length sc5) (fun h => by have := h.1; simp at this; omega)))
  have S3 : Same (fun b => w.heap.size + 1 + 1 < b ∧ b < w3.heap.size) w3 (((((((w3.setCell ⟨w.heap.size + 1 + 1, 5, none⟩ (.slice so5 a.2.2.2.2.2.length sc5)).setCell ⟨w.heap.size + 1, 0, none⟩ (.int .i64 a.1)).setCell ⟨w.heap.size + 1, 1, none⟩ (.int .i64 a.2.1)).setCell ⟨w.heap.size + 1, 2, none⟩ (.slice so2 a.2.2.1.length sc2)).setCell ⟨w.heap.size + 1, 3, none⟩ (.slice so3 a.2.2.2.1.length sc3)).setCell ⟨w.heap.size + 1, 4, none⟩ (.slice so4 a.2.2.2.2.1.length sc4)).setCell ⟨w.heap.size + 1, 5, none⟩ (.slice so5 a.2.2.2.2.2.length sc5)) := (((((((Same.of_set _ ⟨w.heap.size + 1 + 1, 5, none⟩ (.slice so5 a.2.2.2.2.2.length sc5) (fun h => absurd h.1 (Nat.lt_irrefl _))).trans (Same.of_set _ ⟨w.heap.size + 1, 0, none⟩ (.int .i64 a.1) (fun h => by have := h.1; simp at this; omega))).trans (Same.of_set _ ⟨w.heap.size + 1, 1, none⟩ (.int .i64 a.2.1) (fun h => by have := h.1; simp at this; omega))).trans (Same.of_set _ ⟨w.heap.size + 1, 2, none⟩ (.slice so2 a.2.2.1.length sc2) (fun h => by have := h.1; simp at this; omega))).trans (Same.of_set _ ⟨w.heap.size + 1, 3, none⟩ (.slice so3 a.2.2.2.1.length sc3) (fun h => by have := h.1; simp at this; omega))).trans (Same.of_set _ ⟨w.heap.size + 1, 4, none⟩ (.slice so4 a.2.2.2.2.1.length sc4) (fun h => by have := h.1; simp at this; omega))).trans (Same.of_set _ ⟨w.heap.size + 1, 5, none⟩ (.slice so5 a.2.2.2.2.2.length sc5) (fun h => by have := h.1; simp at this; omega)))
  have G2 := (M2.out.same S1).up (S' := fun b => w.heap.size ≤ b ∧ b < (((((((w3.setCell ⟨w.heap.size + 1 + 1, 5, none⟩ (.slice so5 a.2.2.2.2.2.length sc5)).setCell ⟨w.heap.size + 1, 0, none⟩ (.int .i64 a.1)).setCell ⟨w.heap.size + 1, 1, none⟩ (.int .i64 a.2.1)).setCell ⟨w.heap.size + 1, 2, none⟩ (.slice so2 a.2.2.1.length sc2)).setCell ⟨w.heap.size + 1, 3, none⟩ (.slice so3 a.2.2.2.1.length sc3)).setCell ⟨w.heap.size + 1, 4, none⟩ (.slice so4 a.2.2.2.2.1.length sc4)).setCell ⟨w.heap.size + 1, 5, none⟩ (.slice so5 a.2.2.2.2.2.length sc5)).heap.size) (fun b hb => ⟨by have := hb.1; omega, by rw [hsz.out]; have := hb.2; omega⟩)
  have G3 := (M3.out.same S1).up (S' := fun b => w.heap.size ≤ b ∧ b < (((((((w3.setCell ⟨w.heap.size + 1 + 1, 5, none⟩ (.slice so5 a.2.2.2.2.2.length sc5)).setCell ⟨w.heap.size + 1, 0, none⟩ (.int .i64 a.1)).setCell ⟨w.heap.size + 1, 1, none⟩ (.int .i64 a.2.1)).setCell ⟨w.heap.size + 1, 2, none⟩ (.slice so2 a.2.2.1.length sc2)).setCell ⟨w.heap.size + 1, 3, none⟩ (.slice so3 a.2.2.2.1.length sc3)).setCell ⟨w.heap.size + 1, 4, none⟩ (.slice so4 a.2.2.2.2.1.length sc4)).setCell ⟨w.heap.size + 1, 5, none⟩ (.slice so5 a.2.2.2.2.2.length sc5)).heap.size) (fun b hb => ⟨by have := hb.1; omega, by rw [hsz.out]; have := hb.2; omega⟩)
  have G4 := (M4.out.same S2).up (S' := fun b => w.heap.size ≤ b ∧ b < (((((((w3.setCell ⟨w.heap.size + 1 + 1, 5, none⟩ (.slice so5 a.2.2.2.2.2.length sc5)).setCell ⟨w.heap.size + 1, 0, none⟩ (.int .i64 a.1)).setCell ⟨w.heap.size + 1, 1, none⟩ (.int .i64 a.2.1)).setCell ⟨w.heap.size + 1, 2, none⟩ (.slice so2 a.2.2.1.length sc2)).setCell ⟨w.heap.size + 1, 3, none⟩ (.slice so3 a.2.2.2.1.length sc3)).setCell ⟨w.heap.size + 1, 4, none⟩ (.slice so4 a.2.2.2.2.1.length sc4)).setCell ⟨w.heap.size + 1, 5, none⟩ (.slice so5 a.2.2.2.2.2.length sc5)).heap.size) (fun b hb => ⟨by have := hb.1; omega, by rw [hsz.out]; have := hb.2; omega⟩)
  have G5 := (M5.out.same S3).up (S' := fun b => w.heap.size ≤ b ∧ b < (((((((w3.setCell ⟨w.heap.size + 1 + 1, 5, none⟩ (.slice so5 a.2.2.2.2.2.length sc5)).setCell ⟨w.heap.size + 1, 0, none⟩ (.int .i64 a.1)).setCell ⟨w.heap.size + 1, 1, none⟩ (.int .i64 a.2.1)).setCell ⟨w.heap.size + 1, 2, none⟩ (.slice so2 a.2.2.1.length sc2)).setCell ⟨w.heap.size + 1, 3, none⟩ (.slice so3 a.2.2.2.1.length sc3)).setCell ⟨w.heap.size + 1, 4, none⟩ (.slice so4 a.2.2.2.2.1.length sc4)).setCell ⟨w.heap.size + 1, 5, none⟩ (.slice so5 a.2.2.2.2.2.length sc5)).heap.size) (fun b hb => ⟨by have := hb.1; omega, by rw [hsz.out]; have := hb.2; omega⟩)
  go_wp2_with fail
  exact bodyPost_ret (v := .agg #[.int .i64 a.1, .int .i64 a.2.1, .slice so2 a.2.2.1.length sc2, .slice so3 a.2.2.2.1.length sc3, .slice so4 a.2.2.2.2.1.length sc4, .slice so5 a.2.2.2.2.2.length sc5]) (by simp [results, Tryz.results6, go_sem, f0, f1, f2, f3, f4, f5]) rfl ⟨cs [.int .i64 a.1, .int .i64 a.2.1, .slice so2 a.2.2.1.length sc2, .slice so3 a.2.2.2.1.length sc3, .slice so4 a.2.2.2.2.1.length sc4, .slice so5 a.2.2.2.2.2.length sc5], rfl, at_DRunHouse.2 ⟨⟨rfl, z0, y0⟩, ⟨rfl, z1, y1⟩, G2, G3, G4, G5⟩, CF.out.bel⟩
end Go.Proofs.YtobchllaopdchacGreat
