import Derived.Test.YtobchllaopdchacGreatM33
namespace Go.Proofs.YtobchllaopdchacGreat
open Go.RowKit
theorem underStringS : Tryz.prog.underlying 22 = some (.slice 9) := by kernel_rfl
theorem infoStringS : (Tryz.prog.info? 9).map (fun i => (i.zero, i.size, i.bytes)) = some (some (.string ByteArray.empty), 1, 16) := by kernel_rfl
set_option maxRecDepth 100000 in
set_option maxHeartbeats 4000000 in
theorem toStringS_any (S : Nat → Prop) (l : List ByteArray) (v : Value) (w : World) (h : AtL S w l v) (hS : ∀ b, S b → b < w.heap.size) (hm : totL l ≤ 1048576) :
    Calls Tryz.prog 35 #[v] w fun e w' => ∃ r, e = .returned r ∧ AtL (fun b => w.heap.size ≤ b ∧ b < w'.heap.size) w' l r ∧ Below w.heap.size w w' := by
  obtain ⟨oa, cap, rfl, hn, hc⟩ := h
  have hln := totL_len l
  have HTE : Hid (∀ i (h : i < l.length), Lay.tot l[i] ≤ 1048576) := fun i h => Nat.le_trans (totL_el l i h) hm
  obtain ⟨n, en⟩ : ∃ n, l.length = n := ⟨_, rfl⟩
  rw [en] at hn hln
  rw [en]
  have HC : Hid _ := hc
  clear hc hn
  obtain ⟨i0, hi, hz0, hz1, hz2⟩ := info_parts infoStringS
  obtain ⟨M, hM⟩ : ∃ M, M = madeCells (.string ByteArray.empty : Value).cells ((n : Int).toNat * i0.size) := ⟨_, rfl⟩
  have hMs : M.size = n * 1 := by rw [hM, size_madeCells, hz1]; simp
  have hmk : ∀ W : World, (Instr.makeSlice 22 (.int .i64 (n : Int)) (.int .i64 (n : Int))).run Tryz.prog W = .ok (.slice (some ⟨W.heap.size, 0, none⟩) n n) (W.alloc (.cells M 9)) := fun W => by
    have h := run_make (P := Tryz.prog) W 22 9 i0 (.string ByteArray.empty) underStringS hi hz0 .i64 .i64 (n : Int) (n : Int) (by omega) (by omega) (by rw [hz2]; omega) (by omega)
    rw [← hM] at h
    simpa using h
  clear hM
  go_enter Tryz.func35, Tryz.ntmps35
  go_wp2
  go_loopw [4] (fun i wr => ∃ (k : Nat) (c : Array Value), k ≤ n ∧ i = .int .i64 k ∧ Hid (wr.heap[w.heap.size]? = some (.cells c 9 (0, 0))) ∧ c.size = n * 1 ∧ Hid (∀ i (h : i < l.length), i < k → ∃ g : Nat → Value, (∀ j, j < 1 → c[i * 1 + j]? = some (g j)) ∧ Lay.At (fun b => w.heap.size < b ∧ b < wr.heap.size) wr l[i] g) ∧ Hid (Below w.heap.size w wr)) (fun i _ => n - (intOf i).toNat)
  case atStart => exact ⟨0, M, Nat.zero_le _, rfl, heap_alloc_new w _, hMs, fun _ _ h => by omega, (Below.refl _ _).alloc (Nat.le_refl _) _⟩
  case round =>
    obtain ⟨k, c, hk, rfl, hrow, hcs, hall, hbel⟩ := hrel
    have hRw : w.heap.size < wr.heap.size := (Array.getElem?_eq_some_iff.1 hrow.out).1
    by_cases hlt : k < n
    · obtain ⟨b, off, rfl, hbS, cc, hcell, hat⟩ := HC.out k (by omega)
      have hb := hS b hbS
      rw [width_str] at hcell
      have e0 : wr.cell? ⟨b, off + k, none⟩ = some (cc 0) := (hbel.out.cell (p := ⟨b, off + k, none⟩) (by show b < _; omega)).trans (by have hq := hcell 0 (by omega); first | exact hq | simpa using hq)
      clear hcell
      have HAT : Hid _ := hat
      clear hat
      have hrow2 : Hid (wr.heap[w.heap.size]? = some (.cells c 9 (0, 0))) := hrow.out
      have hbel2 : Hid (Below w.heap.size w wr) := hbel.out
      obtain ⟨ge0, _⟩ := at_str.1 HAT.out
      rw [ge0] at e0
      obtain ⟨v0, hv0⟩ : ∃ v, c[k]? = some v := ⟨_, Array.getElem?_eq_getElem (by omega)⟩
      obtain ⟨hcl0, hfr0⟩ := cell_row hrow2.out (k) v0 hv0
      clear hv0
      have HSM : Hid (Same (fun b => w.heap.size < b ∧ b < wr.heap.size) wr (wr.setCell ⟨w.heap.size, k, none⟩ (.string (l[k]'(by omega))))) := (Same.of_set _ ⟨w.heap.size, k, none⟩ (.string (l[k]'(by omega))) (fun h => absurd h.1 (Nat.lt_irrefl _)))
      have HSZ : Hid ((wr.setCell ⟨w.heap.size, k, none⟩ (.string (l[k]'(by omega)))).heap.size = wr.heap.size) := by simp [Hid]
      go_wp2_with fail
      go_roundw
      case rel =>
        refine ⟨k + 1, (c.setIfInBounds (k) (.string (l[k]'(by omega)))), by omega, by go_num, (set_row hrow2.out (k) _), by simpa using hcs, ?_, (hbel2.out.setCell (Nat.le_refl _) _)⟩
        intro i hi hik
        by_cases e : i = k
        · subst e
          refine ⟨cc, ?_, ?_⟩
          · intro j hj
            rcases (show j = 0 by omega) with rfl
            · rw [ge0]
              simp only [Array.getElem?_setIfInBounds, hcs]
              repeat (first | rw [if_pos True.intro] | rw [if_pos (by omega)] | rw [if_neg (by omega)])
          · exact HAT.out
        · obtain ⟨g', h1, h2⟩ := hall.out i hi (by omega)
          refine ⟨g', fun j hj => ?_, ?_⟩
          · simp only [Array.getElem?_setIfInBounds]
            repeat rw [if_neg (by omega)]
            exact h1 j hj
          · refine Lay.up (S := fun b => w.heap.size < b ∧ b < wr.heap.size) (Lay.same (Lay.up h2 ?_) HSM.out) ?_
            · intro b hb; exact ⟨hb.1, by have := hb.2; omega⟩
            · intro b hb; exact ⟨hb.1, by rw [HSZ.out]; exact hb.2⟩
      case measure => simp [intOf]; omega
    · have hkn : k = n := by omega
      subst hkn
      go_wp2_with fail
      go_ret
      refine ⟨.slice (some ⟨w.heap.size, 0, none⟩) k k, rfl, ⟨_, _, by rw [en], by rw [en]; exact ⟨by unfold maxLen; omega, Nat.le_refl _, fun h => nomatch h⟩, fun i hi => ⟨w.heap.size, 0, rfl, ⟨Nat.le_refl _, hRw⟩, ?_⟩⟩, hbel.out⟩
      obtain ⟨g', h1, h2⟩ := hall.out i hi (by omega)
      refine ⟨g', fun j hj => ?_, Lay.up h2 (fun b hb => ⟨by omega, hb.2⟩)⟩
      rw [width_str] at hj ⊢
      have e : 0 + i * 1 + j = i * 1 + j := by omega
      rw [e]
      exact (cell_row hrow.out _ _ (h1 j hj)).1
set_option maxRecDepth 100000 in
set_option maxHeartbeats 4000000 in
theorem toShareBatch_any (S : Nat → Prop) (a : DShareBatch) (c : Nat → Value) (w : World) (h : Lay.At S w a c) (hS : ∀ b, S b → b < w.heap.size) (hm : Lay.tot a ≤ 1048576) :
    Calls Tryz.prog 63 #[.agg #[c 0, c 1, c 2]] w fun e w' => ∃ g : Nat → Value, e = .returned (.agg #[g 0, g 1, g 2]) ∧ Lay.At (fun b => w.heap.size ≤ b ∧ b < w'.heap.size) w' a g ∧ Below w.heap.size w w' := by
  rw [tot_DShareBatch] at hm
  rw [at_DShareBatch] at h
  obtain ⟨⟨e0, z0⟩, H1, H2⟩ := h
  obtain ⟨v1, e1⟩ : ∃ v, c 1 = v := ⟨_, rfl⟩
  rw [e1] at H1
  obtain ⟨v2, e2⟩ : ∃ v, c 2 = v := ⟨_, rfl⟩
  rw [e2] at H2
  rw [e0, e1, e2]
  clear e0 e1 e2
  have C0 : Hid (Cp 94 103 w (((w.alloc (.cells #[.string a.1, v1, v2] 94)).alloc (.cells #[.string ⟨#[]⟩, .slice none 0 0, .slice none 0 0] 103)).alloc (.cells #[.string a.1, .slice none 0 0, .slice none 0 0] 103)) #[.string a.1, v1, v2] #[.string ⟨#[]⟩, .slice none 0 0, .slice none 0 0] _) := cp_init 94 103 w #[.string a.1, v1, v2] #[.string ⟨#[]⟩, .slice none 0 0, .slice none 0 0] #[.string a.1, .slice none 0 0, .slice none 0 0]
  go_enter Tryz.func63, Tryz.ntmps63
  go_wp2_with fail
  refine (toStringS_any S _ v1 _ (H1.same (Same.of_below C0.out.bel hS)) (fun b hb => by have := hS b hb; simp; omega) (by omega)).mono ?_
  rintro e w1 ⟨r1, rfl, L1, hb1⟩
  obtain ⟨so1, sc1, er1, _⟩ := id L1
  subst er1
  have l1 : w.heap.size + 1 + 1 + 1 ≤ w1.heap.size := by have := hb1.size; simpa using this
  have M1 : Hid (AtL (fun b => w.heap.size + 1 + 1 < b ∧ b < w1.heap.size) w1 a.2.1 (.slice so1 a.2.1.length sc1)) := L1.up (fun b hb => ⟨by have := hb.1; simp at this; omega, hb.2⟩)
  clear L1
  have C1 : Hid (Cp 94 103 w w1 #[.string a.1, v1, v2] #[.string ⟨#[]⟩, .slice none 0 0, .slice none 0 0] _) := C0.out.next hb1
  obtain ⟨p1, q1⟩ := cell_row C1.out.out 1 _ rfl
  have C2 : Hid (Cp 94 103 w (w1.setCell ⟨w.heap.size + 1 + 1, 1, none⟩ (.slice so1 a.2.1.length sc1)) #[.string a.1, v1, v2] #[.string ⟨#[]⟩, .slice none 0 0, .slice none 0 0] _) := C1.out.put 1 (.slice so1 a.2.1.length sc1)
  obtain ⟨ar2, _⟩ := cell_row C2.out.arg 2 (v2) rfl
  go_wp2_with fail
  refine (toStringS_any S _ v2 _ (H2.same (Same.of_below C2.out.bel hS)) (fun b hb => by have := hS b hb; simp; omega) (by omega)).mono ?_
  rintro e w2 ⟨r2, rfl, L2, hb2⟩
  obtain ⟨so2, sc2, er2, _⟩ := id L2
  subst er2
  have l2 : w1.heap.size ≤ w2.heap.size := by have := hb2.size; simpa using this
  have M2 : Hid (AtL (fun b => w.heap.size + 1 + 1 < b ∧ b < w2.heap.size) w2 a.2.2 (.slice so2 a.2.2.length sc2)) := L2.up (fun b hb => ⟨by have := hb.1; simp at this; omega, hb.2⟩)
  clear L2
  have C3 : Hid (Cp 94 103 w w2 #[.string a.1, v1, v2] #[.string ⟨#[]⟩, .slice none 0 0, .slice none 0 0] _) := C2.out.next hb2
  obtain ⟨p2, q2⟩ := cell_row C3.out.out 2 _ rfl
  have C4 : Hid (Cp 94 103 w (w2.setCell ⟨w.heap.size + 1 + 1, 2, none⟩ (.slice so2 a.2.2.length sc2)) #[.string a.1, v1, v2] #[.string ⟨#[]⟩, .slice none 0 0, .slice none 0 0] _) := C3.out.put 2 (.slice so2 a.2.2.length sc2)
  obtain ⟨o0, _⟩ := cell_row C4.out.out 0 (.string a.1) rfl
  obtain ⟨rr0, rf0⟩ := cell_row C4.out.res 0 _ rfl
  obtain ⟨o1, _⟩ := cell_row C4.out.out 1 (.slice so1 a.2.1.length sc1) rfl
  obtain ⟨rr1, rf1⟩ := cell_row C4.out.res 1 _ rfl
  obtain ⟨o2, _⟩ := cell_row C4.out.out 2 (.slice so2 a.2.2.length sc2) rfl
  obtain ⟨rr2, rf2⟩ := cell_row C4.out.res 2 _ rfl
  have CF : Hid (Cp 94 103 w ((((w2.setCell ⟨w.heap.size + 1 + 1, 2, none⟩ (.slice so2 a.2.2.length sc2)).setCell ⟨w.heap.size + 1, 0, none⟩ (.string a.1)).setCell ⟨w.heap.size + 1, 1, none⟩ (.slice so1 a.2.1.length sc1)).setCell ⟨w.heap.size + 1, 2, none⟩ (.slice so2 a.2.2.length sc2)) #[.string a.1, v1, v2] _ _) := (((C4.out.ret 0 (.string a.1)).ret 1 (.slice so1 a.2.1.length sc1)).ret 2 (.slice so2 a.2.2.length sc2))
  have f0 := (cell_row CF.out.res 0 (.string a.1) rfl).1
  have f1 := (cell_row CF.out.res 1 (.slice so1 a.2.1.length sc1) rfl).1
  have f2 := (cell_row CF.out.res 2 (.slice so2 a.2.2.length sc2) rfl).1
  have hsz : Hid (((((w2.setCell ⟨w.heap.size + 1 + 1, 2, none⟩ (.slice so2 a.2.2.length sc2)).setCell ⟨w.heap.size + 1, 0, none⟩ (.string a.1)).setCell ⟨w.heap.size + 1, 1, none⟩ (.slice so1 a.2.1.length sc1)).setCell ⟨w.heap.size + 1, 2, none⟩ (.slice so2 a.2.2.length sc2)).heap.size = w2.heap.size) := by simp [Hid]
  have S1 : Same (fun b => w.heap.size + 1 + 1 < b ∧ b < w1.heap.size) w1 ((((w2.setCell ⟨w.heap.size + 1 + 1, 2, none⟩ (.slice so2 a.2.2.length sc2)).setCell ⟨w.heap.size + 1, 0, none⟩ (.string a.1)).setCell ⟨w.heap.size + 1, 1, none⟩ (.slice so1 a.2.1.length sc1)).setCell ⟨w.heap.size + 1, 2, none⟩ (.slice so2 a.2.2.length sc2)) := ((((((Same.of_set _ ⟨w.heap.size + 1 + 1, 1, none⟩ (.slice so1 a.2.1.length sc1) (fun h => absurd h.1 (Nat.lt_irrefl _))).trans (Same.of_below hb2 (fun b hb => by have := hb.2; simp; omega))).trans (Same.of_set _ ⟨w.heap.size + 1 + 1, 2, none⟩ (.slice so2 a.2.2.length sc2) (fun h => absurd h.1 (Nat.lt_irrefl _)))).trans (Same.of_set _ ⟨w.heap.size + 1, 0, none⟩ (.string a.1) (fun h => by have := h.1; simp at this; omega))).trans (Same.of_set _ ⟨w.heap.size + 1, 1, none⟩ (.slice so1 a.2.1.length sc1) (fun h => by have := h.1; simp at this; omega))).trans (Same.of_set _ ⟨w.heap.size + 1, 2, none⟩ (.slice so2 a.2.2.length sc2) (fun h => by have := h.1; simp at this; omega)))
  have G1 := (M1.out.same S1).up (S' := fun b => w.heap.size ≤ b ∧ b < ((((w2.setCell ⟨w.heap.size + 1 + 1, 2, none⟩ (.slice so2 a.2.2.length sc2)).setCell ⟨w.heap.size + 1, 0, none⟩ (.string a.1)).setCell ⟨w.heap.size + 1, 1, none⟩ (.slice so1 a.2.1.length sc1)).setCell ⟨w.heap.size + 1, 2, none⟩ (.slice so2 a.2.2.length sc2)).heap.size) (fun b hb => ⟨by have := hb.1; omega, by rw [hsz.out]; have := hb.2; omega⟩)
  have S2 : Same (fun b => w.heap.size + 1 + 1 < b ∧ b < w2.heap.size) w2 ((((w2.setCell ⟨w.heap.size + 1 + 1, 2, none⟩ (.slice so2 a.2.2.length sc2)).setCell ⟨w.heap.size + 1, 0, none⟩ (.string a.1)).setCell ⟨w.heap.size + 1, 1, none⟩ (.slice so1 a.2.1.length sc1)).setCell ⟨w.heap.size + 1, 2, none⟩ (.slice so2 a.2.2.length sc2)) := ((((Same.of_set _ ⟨w.heap.size + 1 + 1, 2, none⟩ (.slice so2 a.2.2.length sc2) (fun h => absurd h.1 (Nat.lt_irrefl _))).trans (Same.of_set _ ⟨w.heap.size + 1, 0, none⟩ (.string a.1) (fun h => by have := h.1; simp at this; omega))).trans (Same.of_set _ ⟨w.heap.size + 1, 1, none⟩ (.slice so1 a.2.1.length sc1) (fun h => by have := h.1; simp at this; omega))).trans (Same.of_set _ ⟨w.heap.size + 1, 2, none⟩ (.slice so2 a.2.2.length sc2) (fun h => by have := h.1; simp at this; omega)))
  have G2 := (M2.out.same S2).up (S' := fun b => w.heap.size ≤ b ∧ b < ((((w2.setCell ⟨w.heap.size + 1 + 1, 2, none⟩ (.slice so2 a.2.2.length sc2)).setCell ⟨w.heap.size + 1, 0, none⟩ (.string a.1)).setCell ⟨w.heap.size + 1, 1, none⟩ (.slice so1 a.2.1.length sc1)).setCell ⟨w.heap.size + 1, 2, none⟩ (.slice so2 a.2.2.length sc2)).heap.size) (fun b hb => ⟨by have := hb.1; omega, by rw [hsz.out]; have := hb.2; omega⟩)
  go_wp2_with fail
  exact bodyPost_ret (v := .agg #[.string a.1, .slice so1 a.2.1.length sc1, .slice so2 a.2.2.length sc2]) (by simp [results, Tryz.results63, go_sem, f0, f1, f2]) rfl ⟨cs [.string a.1, .slice so1 a.2.1.length sc1, .slice so2 a.2.2.length sc2], rfl, at_DShareBatch.2 ⟨⟨rfl, z0⟩, G1, G2⟩, CF.out.bel⟩
theorem underShareBatchS : Tryz.prog.underlying 32 = some (.slice 103) := by kernel_rfl
theorem infoShareBatchS : (Tryz.prog.info? 103).map (fun i => (i.zero, i.size, i.bytes)) = some (some (.agg #[.string ByteArray.empty, .slice none 0 0, .slice none 0 0]), 3, 64) := by kernel_rfl
set_option maxRecDepth 100000 in
set_option maxHeartbeats 4000000 in
theorem toShareBatchS_any (S : Nat → Prop) (l : List DShareBatch) (v : Value) (w : World) (h : AtL S w l v) (hS : ∀ b, S b → b < w.heap.size) (hm : totL l ≤ 1048576) :
    Calls Tryz.prog 36 #[v] w fun e w' => ∃ r, e = .returned r ∧ AtL (fun b => w.heap.size ≤ b ∧ b < w'.heap.size) w' l r ∧ Below w.heap.size w w' := by
  obtain ⟨oa, cap, rfl, hn, hc⟩ := h
  have hln := totL_len l
  have HTE : Hid (∀ i (h : i < l.length), Lay.tot l[i] ≤ 1048576) := fun i h => Nat.le_trans (totL_el l i h) hm
  obtain ⟨n, en⟩ : ∃ n, l.length = n := ⟨_, rfl⟩
  rw [en] at hn hln
  rw [en]
  have HC : Hid _ := hc
  clear hc hn
  obtain ⟨i0, hi, hz0, hz1, hz2⟩ := info_parts infoShareBatchS
  obtain ⟨M, hM⟩ : ∃ M, M = madeCells (.agg #[.string ByteArray.empty, .slice none 0 0, .slice none 0 0] : Value).cells ((n : Int).toNat * i0.size) := ⟨_, rfl⟩
  have hMs : M.size = n * 3 := by rw [hM, size_madeCells, hz1]; simp
  have hmk : ∀ W : World, (Instr.makeSlice 32 (.int .i64 (n : Int)) (.int .i64 (n : Int))).run Tryz.prog W = .ok (.slice (some ⟨W.heap.size, 0, none⟩) n n) (W.alloc (.cells M 103)) := fun W => by
    have h := run_make (P := Tryz.prog) W 32 103 i0 (.agg #[.string ByteArray.empty, .slice none 0 0, .slice none 0 0]) underShareBatchS hi hz0 .i64 .i64 (n : Int) (n : Int) (by omega) (by omega) (by rw [hz2]; omega) (by omega)
    rw [← hM] at h
    simpa using h
  clear hM
  go_enter Tryz.func36, Tryz.ntmps36
  go_wp2
  go_loopw [4] (fun i wr => ∃ (k : Nat) (c : Array Value), k ≤ n ∧ i = .int .i64 k ∧ Hid (wr.heap[w.heap.size]? = some (.cells c 103 (0, 0))) ∧ c.size = n * 3 ∧ Hid (∀ i (h : i < l.length), i < k → ∃ g : Nat → Value, (∀ j, j < 3 → c[i * 3 + j]? = some (g j)) ∧ Lay.At (fun b => w.heap.size < b ∧ b < wr.heap.size) wr l[i] g) ∧ Hid (Below w.heap.size w wr)) (fun i _ => n - (intOf i).toNat)
  case atStart => exact ⟨0, M, Nat.zero_le _, rfl, heap_alloc_new w _, hMs, fun _ _ h => by omega, (Below.refl _ _).alloc (Nat.le_refl _) _⟩
  case round =>
    obtain ⟨k, c, hk, rfl, hrow, hcs, hall, hbel⟩ := hrel
    have hRw : w.heap.size < wr.heap.size := (Array.getElem?_eq_some_iff.1 hrow.out).1
    by_cases hlt : k < n
    · obtain ⟨b, off, rfl, hbS, cc, hcell, hat⟩ := HC.out k (by omega)
      have hb := hS b hbS
      rw [width_DShareBatch] at hcell
      have e0 : wr.cell? ⟨b, off + k * 3, none⟩ = some (cc 0) := (hbel.out.cell (p := ⟨b, off + k * 3, none⟩) (by show b < _; omega)).trans (by have hq := hcell 0 (by omega); first | exact hq | simpa using hq)
      have e1 : wr.cell? ⟨b, off + k * 3 + 1, none⟩ = some (cc 1) := (hbel.out.cell (p := ⟨b, off + k * 3 + 1, none⟩) (by show b < _; omega)).trans (by have hq := hcell 1 (by omega); first | exact hq | simpa using hq)
      have e2 : wr.cell? ⟨b, off + k * 3 + 2, none⟩ = some (cc 2) := (hbel.out.cell (p := ⟨b, off + k * 3 + 2, none⟩) (by show b < _; omega)).trans (by have hq := hcell 2 (by omega); first | exact hq | simpa using hq)
      clear hcell
      have HAT : Hid _ := hat
      clear hat
      go_wp2_with fail
      refine (toShareBatch_any S _ cc _ (Lay.same HAT.out (Same.of_below hbel.out hS)) (fun b hb => by have := hS b hb; omega) (HTE.out k (by omega))).mono ?_
      rintro e u ⟨g, rfl, hg, hbu⟩
      have HG : Hid _ := hg
      clear hg
      have hus := hbu.size
      have hrow2 : Hid (u.heap[w.heap.size]? = some (.cells c 103 (0, 0))) := (hbu.block _ hRw).trans hrow.out
      have hbel2 : Hid (Below w.heap.size w u) := hbel.out.trans (hbu.mono (by omega))
      obtain ⟨⟨ge0, _⟩, gl1, gl2⟩ := at_DShareBatch.1 HG.out
      obtain ⟨go1, gc1, ge1, _⟩ := gl1
      obtain ⟨go2, gc2, ge2, _⟩ := gl2
      rw [ge0, ge1, ge2]
      obtain ⟨v0, hv0⟩ : ∃ v, c[k * 3]? = some v := ⟨_, Array.getElem?_eq_getElem (by omega)⟩
      obtain ⟨hcl0, hfr0⟩ := cell_row hrow2.out (k * 3) v0 hv0
      clear hv0
      obtain ⟨v1, hv1⟩ : ∃ v, c[k * 3 + 1]? = some v := ⟨_, Array.getElem?_eq_getElem (by omega)⟩
      obtain ⟨hcl1, hfr1⟩ := cell_row hrow2.out (k * 3 + 1) v1 hv1
      clear hv1
      obtain ⟨v2, hv2⟩ : ∃ v, c[k * 3 + 2]? = some v := ⟨_, Array.getElem?_eq_getElem (by omega)⟩
      obtain ⟨hcl2, hfr2⟩ := cell_row hrow2.out (k * 3 + 2) v2 hv2
      clear hv2
      have HSM : Hid (Same (fun b => w.heap.size < b ∧ b < u.heap.size) u (((u.setCell ⟨w.heap.size, k * 3, none⟩ (.string (l[k]'(by omega)).1)).setCell ⟨w.heap.size, k * 3 + 1, none⟩ (.slice go1 (l[k]'(by omega)).2.1.length gc1)).setCell ⟨w.heap.size, k * 3 + 2, none⟩ (.slice go2 (l[k]'(by omega)).2.2.length gc2))) := (((Same.of_set _ ⟨w.heap.size, k * 3, none⟩ (.string (l[k]'(by omega)).1) (fun h => absurd h.1 (Nat.lt_irrefl _))).trans (Same.of_set _ ⟨w.heap.size, k * 3 + 1, none⟩ (.slice go1 (l[k]'(by omega)).2.1.length gc1) (fun h => absurd h.1 (Nat.lt_irrefl _)))).trans (Same.of_set _ ⟨w.heap.size, k * 3 + 2, none⟩ (.slice go2 (l[k]'(by omega)).2.2.length gc2) (fun h => absurd h.1 (Nat.lt_irrefl _))))
      have HSZ : Hid ((((u.setCell ⟨w.heap.size, k * 3, none⟩ (.string (l[k]'(by omega)).1)).setCell ⟨w.heap.size, k * 3 + 1, none⟩ (.slice go1 (l[k]'(by omega)).2.1.length gc1)).setCell ⟨w.heap.size, k * 3 + 2, none⟩ (.slice go2 (l[k]'(by omega)).2.2.length gc2)).heap.size = u.heap.size) := by simp [Hid]
      go_wp2_with fail
      go_roundw
      case rel =>
        refine ⟨k + 1, (((c.setIfInBounds (k * 3) (.string (l[k]'(by omega)).1)).setIfInBounds (k * 3 + 1) (.slice go1 (l[k]'(by omega)).2.1.length gc1)).setIfInBounds (k * 3 + 2) (.slice go2 (l[k]'(by omega)).2.2.length gc2)), by omega, by go_num, (set_row (set_row (set_row hrow2.out (k * 3) _) (k * 3 + 1) _) (k * 3 + 2) _), by simpa using hcs, ?_, (((hbel2.out.setCell (Nat.le_refl _) _).setCell (Nat.le_refl _) _).setCell (Nat.le_refl _) _)⟩
        intro i hi hik
        by_cases e : i = k
        · subst e
          refine ⟨g, ?_, ?_⟩
          · intro j hj
            rcases (show j = 0 ∨ j = 1 ∨ j = 2 by omega) with rfl | rfl | rfl
            · rw [ge0]
              simp only [Array.getElem?_setIfInBounds, Array.size_setIfInBounds, hcs]
              repeat (first | rw [if_pos True.intro] | rw [if_pos (by omega)] | rw [if_neg (by omega)])
            · rw [ge1]
              simp only [Array.getElem?_setIfInBounds, Array.size_setIfInBounds, hcs]
              repeat (first | rw [if_pos True.intro] | rw [if_pos (by omega)] | rw [if_neg (by omega)])
            · rw [ge2]
              simp only [Array.getElem?_setIfInBounds, Array.size_setIfInBounds, hcs]
              repeat (first | rw [if_pos True.intro] | rw [if_pos (by omega)] | rw [if_neg (by omega)])
          · refine Lay.up (S := fun b => w.heap.size < b ∧ b < u.heap.size) (Lay.same (Lay.up HG.out ?_) HSM.out) ?_
            · intro b hb; exact ⟨by omega, hb.2⟩
            · intro b hb; exact ⟨hb.1, by rw [HSZ.out]; exact hb.2⟩
        · obtain ⟨g', h1, h2⟩ := hall.out i hi (by omega)
          refine ⟨g', fun j hj => ?_, ?_⟩
          · simp only [Array.getElem?_setIfInBounds]
            repeat rw [if_neg (by omega)]
            exact h1 j hj
          · refine Lay.up (S := fun b => w.heap.size < b ∧ b < u.heap.size) (Lay.same (Lay.up (Lay.same h2 (Same.of_below hbu (fun b hb => hb.2))) ?_) HSM.out) ?_
            · intro b hb; exact ⟨hb.1, by have := hb.2; omega⟩
            · intro b hb; exact ⟨hb.1, by rw [HSZ.out]; exact hb.2⟩
      case measure => simp [intOf]; omega
    · have hkn : k = n := by omega
      subst hkn
      go_wp2_with fail
      go_ret
      refine ⟨.slice (some ⟨w.heap.size, 0, none⟩) k k, rfl, ⟨_, _, by rw [en], by rw [en]; exact ⟨by unfold maxLen; omega, Nat.le_refl _, fun h => nomatch h⟩, fun i hi => ⟨w.heap.size, 0, rfl, ⟨Nat.le_refl _, hRw⟩, ?_⟩⟩, hbel.out⟩
      obtain ⟨g', h1, h2⟩ := hall.out i hi (by omega)
      refine ⟨g', fun j hj => ?_, Lay.up h2 (fun b hb => ⟨by omega, hb.2⟩)⟩
      rw [width_DShareBatch] at hj ⊢
      have e : 0 + i * 3 + j = i * 3 + j := by omega
      rw [e]
      exact (cell_row hrow.out _ _ (h1 j hj)).1
set_option maxRecDepth 100000 in
set_option maxHeartbeats 4000000 in
theorem toShareBook_any (S : Nat → Prop) (a : DShareBook) (c : Nat → Value) (w : World) (h : Lay.At S w a c) (hS : ∀ b, S b → b < w.heap.size) (hm : Lay.tot a ≤ 1048576) :
    Calls Tryz.prog 14 #[.agg #[c 0, c 1]] w fun e w' => ∃ g : Nat → Value, e = .returned (.agg #[g 0, g 1]) ∧ Lay.At (fun b => w.heap.size ≤ b ∧ b < w'.heap.size) w' a g ∧ Below w.heap.size w w' := by
  rw [tot_DShareBook] at hm
  rw [at_DShareBook] at h
  obtain ⟨H0, H1⟩ := h
  obtain ⟨v0, e0⟩ : ∃ v, c 0 = v := ⟨_, rfl⟩
  rw [e0] at H0
  obtain ⟨v1, e1⟩ : ∃ v, c 1 = v := ⟨_, rfl⟩
  rw [e1] at H1
  rw [e0, e1]
  clear e0 e1
  have C0 : Hid (Cp 25 34 w (((w.alloc (.cells #[v0, v1] 25)).alloc (.cells #[.slice none 0 0, .slice none 0 0] 34)).alloc (.cells #[.slice none 0 0, .slice none 0 0] 34)) #[v0, v1] #[.slice none 0 0, .slice none 0 0] _) := cp_init 25 34 w #[v0, v1] #[.slice none 0 0, .slice none 0 0] #[.slice none 0 0, .slice none 0 0]
  go_enter Tryz.func14, Tryz.ntmps14
  go_wp2_with fail
  refine (toStringS_any S _ v0 _ (H0.same (Same.of_below C0.out.bel hS)) (fun b hb => by have := hS b hb; simp; omega) (by omega)).mono ?_
  rintro e w1 ⟨r0, rfl, L0, hb1⟩
  obtain ⟨so0, sc0, er0, _⟩ := id L0
  subst er0
  have l1 : w.heap.size + 1 + 1 + 1 ≤ w1.heap.size := by have := hb1.size; simpa using this
  have M0 : Hid (AtL (fun b => w.heap.size + 1 + 1 < b ∧ b < w1.heap.size) w1 a.1 (.slice so0 a.1.length sc0)) := L0.up (fun b hb => ⟨by have := hb.1; simp at this; omega, hb.2⟩)
  clear L0
  have C1 : Hid (Cp 25 34 w w1 #[v0, v1] #[.slice none 0 0, .slice none 0 0] _) := C0.out.next hb1
  obtain ⟨p0, q0⟩ := cell_row C1.out.out 0 _ rfl
  have C2 : Hid (Cp 25 34 w (w1.setCell ⟨w.heap.size + 1 + 1, 0, none⟩ (.slice so0 a.1.length sc0)) #[v0, v1] #[.slice none 0 0, .slice none 0 0] _) := C1.out.put 0 (.slice so0 a.1.length sc0)
  obtain ⟨ar1, _⟩ := cell_row C2.out.arg 1 (v1) rfl
  go_wp2_with fail
  refine (toShareBatchS_any S _ v1 _ (H1.same (Same.of_below C2.out.bel hS)) (fun b hb => by have := hS b hb; simp; omega) (by omega)).mono ?_
  rintro e w2 ⟨r1, rfl, L1, hb2⟩
  obtain ⟨so1, sc1, er1, _⟩ := id L1
  subst er1
  have l2 : w1.heap.size ≤ w2.heap.size := by have := hb2.size; simpa using this
  have M1 : Hid (AtL (fun b => w.heap.size + 1 + 1 < b ∧ b < w2.heap.size) w2 a.2 (.slice so1 a.2.length sc1)) := L1.up (fun b hb => ⟨by have := hb.1; simp at this; omega, hb.2⟩)
  clear L1
  have C3 : Hid (Cp 25 34 w w2 #[v0, v1] #[.slice none 0 0, .slice none 0 0] _) := C2.out.next hb2
  obtain ⟨p1, q1⟩ := cell_row C3.out.out 1 _ rfl
  have C4 : Hid (Cp 25 34 w (w2.setCell ⟨w.heap.size + 1 + 1, 1, none⟩ (.slice so1 a.2.length sc1)) #[v0, v1] #[.slice none 0 0, .slice none 0 0] _) := C3.out.put 1 (.slice so1 a.2.length sc1)
  obtain ⟨o0, _⟩ := cell_row C4.out.out 0 (.slice so0 a.1.length sc0) rfl
  obtain ⟨rr0, rf0⟩ := cell_row C4.out.res 0 _ rfl
  obtain ⟨o1, _⟩ := cell_row C4.out.out 1 (.slice so1 a.2.length sc1) rfl
  obtain ⟨rr1, rf1⟩ := cell_row C4.out.res 1 _ rfl
  have CF : Hid (Cp 25 34 w (((w2.setCell ⟨w.heap.size + 1 + 1, 1, none⟩ (.slice so1 a.2.length sc1)).setCell ⟨w.heap.size + 1, 0, none⟩ (.slice so0 a.1.length sc0)).setCell ⟨w.heap.size + 1, 1, none⟩ (.slice so1 a.2.length sc1)) #[v0, v1] _ _) := ((C4.out.ret 0 (.slice so0 a.1.length sc0)).ret 1 (.slice so1 a.2.length sc1))
  have f0 := (cell_row CF.out.res 0 (.slice so0 a.1.length sc0) rfl).1
  have f1 := (cell_row CF.out.res 1 (.slice so1 a.2.length sc1) rfl).1
  have hsz : Hid ((((w2.setCell ⟨w.heap.size + 1 + 1, 1, none⟩ (.slice so1 a.2.length sc1)).setCell ⟨w.heap.size + 1, 0, none⟩ (.slice so0 a.1.length sc0)).setCell ⟨w.heap.size + 1, 1, none⟩ (.slice so1 a.2.length sc1)).heap.size = w2.heap.size) := by simp [Hid]
  have S0 : Same (fun b => w.heap.size + 1 + 1 < b ∧ b < w1.heap.size) w1 (((w2.setCell ⟨w.heap.size + 1 + 1, 1, none⟩ (.slice so1 a.2.length sc1)).setCell ⟨w.heap.size + 1, 0, none⟩ (.slice so0 a.1.length sc0)).setCell ⟨w.heap.size + 1, 1, none⟩ (.slice so1 a.2.length sc1)) := (((((Same.of_set _ ⟨w.heap.size + 1 + 1, 0, none⟩ (.slice so0 a.1.length sc0) (fun h => absurd h.1 (Nat.lt_irrefl _))).trans (Same.of_below hb2 (fun b hb => by have := hb.2; simp; omega))).trans (Same.of_set _ ⟨w.heap.size + 1 + 1, 1, none⟩ (.slice so1 a.2.length sc1) (fun h => absurd h.1 (Nat.lt_irrefl _)))).trans (Same.of_set _ ⟨w.heap.size + 1, 0, none⟩ (.slice so0 a.1.length sc0) (fun h => by have := h.1; simp at this; omega))).trans (Same.of_set _ ⟨w.heap.size + 1, 1, none⟩ (.slice so1 a.2.length sc1) (fun h => by have := h.1; simp at this; omega)))
  have G0 := (M0.out.same S0).up (S' := fun b => w.heap.size ≤ b ∧ b < (((w2.setCell ⟨w.heap.size + 1 + 1, 1, none⟩ (.slice so1 a.2.length sc1)).setCell ⟨w.heap.size + 1, 0, none⟩ (.slice so0 a.1.length sc0)).setCell ⟨w.heap.size + 1, 1, none⟩ (.slice so1 a.2.length sc1)).heap.size) (fun b hb => ⟨by have := hb.1; omega, by rw [hsz.out]; have := hb.2; omega⟩)
  have S1 : Same (fun b => w.heap.size + 1 + 1 < b ∧ b < w2.heap.size) w2 (((w2.setCell ⟨w.heap.size + 1 + 1, 1, none⟩ (.slice so1 a.2.length sc1)).setCell ⟨w.heap.size + 1, 0, none⟩ (.slice so0 a.1.length sc0)).setCell ⟨w.heap.size + 1, 1, none⟩ (.slice so1 a.2.length sc1)) := (((Same.of_set _ ⟨w.heap.size + 1 + 1, 1, none⟩ (.slice so1 a.2.length sc1) (fun h => absurd h.1 (Nat.lt_irrefl _))).trans (Same.of_set _ ⟨w.heap.size + 1, 0, none⟩ (.slice so0 a.1.length sc0) (fun h => by have := h.1; simp at this; omega))).trans (Same.of_set _ ⟨w.heap.size + 1, 1, none⟩ (.slice so1 a.2.length sc1) (fun h => by have := h.1; simp at this; omega)))
  have G1 := (M1.out.same S1).up (S' := fun b => w.heap.size ≤ b ∧ b < (((w2.setCell ⟨w.heap.size + 1 + 1, 1, none⟩ (.slice so1 a.2.length sc1)).setCell ⟨w.heap.size + 1, 0, none⟩ (.slice so0 a.1.length sc0)).setCell ⟨w.heap.size + 1, 1, none⟩ (.slice so1 a.2.length sc1)).heap.size) (fun b hb => ⟨by have := hb.1; omega, by rw [hsz.out]; have := hb.2; omega⟩)
  go_wp2_with fail
  exact bodyPost_ret (v := .agg #[.slice so0 a.1.length sc0, .slice so1 a.2.length sc1]) (by simp [results, Tryz.results14, go_sem, f0, f1]) rfl ⟨cs [.slice so0 a.1.length sc0, .slice so1 a.2.length sc1], rfl, at_DShareBook.2 ⟨G0, G1⟩, CF.out.bel⟩
end Go.Proofs.YtobchllaopdchacGreat
