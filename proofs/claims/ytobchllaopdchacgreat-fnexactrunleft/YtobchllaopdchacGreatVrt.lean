import Derived.Test.YtobchllaopdchacGreatM33
import Derived.Test.YtobchllaopdchacGreatM34
namespace Go.Proofs.YtobchllaopdchacGreat
open Go.RowKit
set_option maxRecDepth 100000 in
set_option maxHeartbeats 4000000 in
theorem toRunSlot_any (S : Nat → Prop) (a : DRunSlot) (c : Nat → Value) (w : World) (h : Lay.At S w a c) (_hS : ∀ b, S b → b < w.heap.size) (_hm : Lay.tot a ≤ 1048576) :
    Calls Tryz.prog 104 #[.agg #[c 0, c 1]] w fun e w' => ∃ g : Nat → Value, e = .returned (.agg #[g 0, g 1]) ∧ Lay.At (fun b => w.heap.size ≤ b ∧ b < w'.heap.size) w' a g ∧ Below w.heap.size w w' := by
  rw [at_DRunSlot] at h
  obtain ⟨⟨e0, z0⟩, ⟨e1, z1⟩⟩ := h
  rw [e0, e1]
  clear e0 e1
  go_enter Tryz.func104, Tryz.ntmps104
  go_wp2
  exact bodyPost_ret (v := .agg #[.string a.1, .string a.2]) (by simp [results, Tryz.results104, go_sem]) rfl ⟨cs [.string a.1, .string a.2], rfl, at_DRunSlot.2 ⟨⟨rfl, z0⟩, ⟨rfl, z1⟩⟩, by repeat (first | exact Below.refl _ _ | refine Below.alloc ?_ (by simp; try omega) _)⟩
theorem underRunSlotS : Tryz.prog.underlying 47 = some (.slice 142) := by kernel_rfl
theorem infoRunSlotS : (Tryz.prog.info? 142).map (fun i => (i.zero, i.size, i.bytes)) = some (some (.agg #[.string ByteArray.empty, .string ByteArray.empty]), 2, 32) := by kernel_rfl
set_option maxRecDepth 100000 in
set_option maxHeartbeats 4000000 in
theorem toRunSlotS_any (S : Nat → Prop) (l : List DRunSlot) (v : Value) (w : World) (h : AtL S w l v) (hS : ∀ b, S b → b < w.heap.size) (hm : totL l ≤ 1048576) :
    Calls Tryz.prog 65 #[v] w fun e w' => ∃ r, e = .returned r ∧ AtL (fun b => w.heap.size ≤ b ∧ b < w'.heap.size) w' l r ∧ Below w.heap.size w w' := by
  obtain ⟨oa, cap, rfl, hn, hc⟩ := h
  have hln := totL_len l
  have HTE : Hid (∀ i (h : i < l.length), Lay.tot l[i] ≤ 1048576) := fun i h => Nat.le_trans (totL_el l i h) hm
  obtain ⟨n, en⟩ : ∃ n, l.length = n := ⟨_, rfl⟩
  rw [en] at hn hln
  rw [en]
  have HC : Hid _ := hc
  clear hc hn
  obtain ⟨i0, hi, hz0, hz1, hz2⟩ := info_parts infoRunSlotS
  obtain ⟨M, hM⟩ : ∃ M, M = madeCells (.agg #[.string ByteArray.empty, .string ByteArray.empty] : Value).cells ((n : Int).toNat * i0.size) := ⟨_, rfl⟩
  have hMs : M.size = n * 2 := by rw [hM, size_madeCells, hz1]; simp
  have hmk : ∀ W : World, (Instr.makeSlice 47 (.int .i64 (n : Int)) (.int .i64 (n : Int))).run Tryz.prog W = .ok (.slice (some ⟨W.heap.size, 0, none⟩) n n) (W.alloc (.cells M 142)) := fun W => by
    have h := run_make (P := Tryz.prog) W 47 142 i0 (.agg #[.string ByteArray.empty, .string ByteArray.empty]) underRunSlotS hi hz0 .i64 .i64 (n : Int) (n : Int) (by omega) (by omega) (by rw [hz2]; omega) (by omega)
    rw [← hM] at h
    simpa using h
  clear hM
  go_enter Tryz.func65, Tryz.ntmps65
  go_wp2
  go_loopw [4] (fun i wr => ∃ (k : Nat) (c : Array Value), k ≤ n ∧ i = .int .i64 k ∧ Hid (wr.heap[w.heap.size]? = some (.cells c 142 (0, 0))) ∧ c.size = n * 2 ∧ Hid (∀ i (h : i < l.length), i < k → ∃ g : Nat → Value, (∀ j, j < 2 → c[i * 2 + j]? = some (g j)) ∧ Lay.At (fun b => w.heap.size < b ∧ b < wr.heap.size) wr l[i] g) ∧ Hid (Below w.heap.size w wr)) (fun i _ => n - (intOf i).toNat)
  case atStart => exact ⟨0, M, Nat.zero_le _, rfl, heap_alloc_new w _, hMs, fun _ _ h => by omega, (Below.refl _ _).alloc (Nat.le_refl _) _⟩
  case round =>
    obtain ⟨k, c, hk, rfl, hrow, hcs, hall, hbel⟩ := hrel
    have hRw : w.heap.size < wr.heap.size := (Array.getElem?_eq_some_iff.1 hrow.out).1
    by_cases hlt : k < n
    · obtain ⟨b, off, rfl, hbS, cc, hcell, hat⟩ := HC.out k (by omega)
      have hb := hS b hbS
      rw [width_DRunSlot] at hcell
      have e0 : wr.cell? ⟨b, off + k * 2, none⟩ = some (cc 0) := (hbel.out.cell (p := ⟨b, off + k * 2, none⟩) (by show b < _; omega)).trans (by have hq := hcell 0 (by omega); first | exact hq | simpa using hq)
      have e1 : wr.cell? ⟨b, off + k * 2 + 1, none⟩ = some (cc 1) := (hbel.out.cell (p := ⟨b, off + k * 2 + 1, none⟩) (by show b < _; omega)).trans (by have hq := hcell 1 (by omega); first | exact hq | simpa using hq)
      clear hcell
      have HAT : Hid _ := hat
      clear hat
      go_wp2_with fail
      refine (toRunSlot_any S _ cc _ (Lay.same HAT.out (Same.of_below hbel.out hS)) (fun b hb => by have := hS b hb; omega) (HTE.out k (by omega))).mono ?_
      rintro e u ⟨g, rfl, hg, hbu⟩
      have HG : Hid _ := hg
      clear hg
      have hus := hbu.size
      have hrow2 : Hid (u.heap[w.heap.size]? = some (.cells c 142 (0, 0))) := (hbu.block _ hRw).trans hrow.out
      have hbel2 : Hid (Below w.heap.size w u) := hbel.out.trans (hbu.mono (by omega))
      obtain ⟨⟨ge0, _⟩, ⟨ge1, _⟩⟩ := at_DRunSlot.1 HG.out
      rw [ge0, ge1]
      obtain ⟨v0, hv0⟩ : ∃ v, c[k * 2]? = some v := ⟨_, Array.getElem?_eq_getElem (by omega)⟩
      obtain ⟨hcl0, hfr0⟩ := cell_row hrow2.out (k * 2) v0 hv0
      clear hv0
      obtain ⟨v1, hv1⟩ : ∃ v, c[k * 2 + 1]? = some v := ⟨_, Array.getElem?_eq_getElem (by omega)⟩
      obtain ⟨hcl1, hfr1⟩ := cell_row hrow2.out (k * 2 + 1) v1 hv1
      clear hv1
      have HSM : Hid (Same (fun b => w.heap.size < b ∧ b < u.heap.size) u ((u.setCell ⟨w.heap.size, k * 2, none⟩ (.string (l[k]'(by omega)).1)).setCell ⟨w.heap.size, k * 2 + 1, none⟩ (.string (l[k]'(by omega)).2))) := ((Same.of_set _ ⟨w.heap.size, k * 2, none⟩ (.string (l[k]'(by omega)).1) (fun h => absurd h.1 (Nat.lt_irrefl _))).trans (Same.of_set _ ⟨w.heap.size, k * 2 + 1, none⟩ (.string (l[k]'(by omega)).2) (fun h => absurd h.1 (Nat.lt_irrefl _))))
      have HSZ : Hid (((u.setCell ⟨w.heap.size, k * 2, none⟩ (.string (l[k]'(by omega)).1)).setCell ⟨w.heap.size, k * 2 + 1, none⟩ (.string (l[k]'(by omega)).2)).heap.size = u.heap.size) := by simp [Hid]
      go_wp2_with fail
      go_roundw
      case rel =>
        refine ⟨k + 1, ((c.setIfInBounds (k * 2) (.string (l[k]'(by omega)).1)).setIfInBounds (k * 2 + 1) (.string (l[k]'(by omega)).2)), by omega, by go_num, (set_row (set_row hrow2.out (k * 2) _) (k * 2 + 1) _), by simpa using hcs, ?_, ((hbel2.out.setCell (Nat.le_refl _) _).setCell (Nat.le_refl _) _)⟩
        intro i hi hik
        by_cases e : i = k
        · subst e
          refine ⟨g, ?_, ?_⟩
          · intro j hj
            rcases (show j = 0 ∨ j = 1 by omega) with rfl | rfl
            · rw [ge0]
              simp only [Array.getElem?_setIfInBounds, Array.size_setIfInBounds, hcs]
              repeat (first | rw [if_pos True.intro] | rw [if_pos (by omega)] | rw [if_neg (by omega)])
            · rw [ge1]
              simp only [Array.getElem?_setIfInBounds, Array.size_setIfInBounds, hcs]
              repeat (first | rw [if_pos True.intro] | rw [if_pos (by omega)] | rw [if_neg (by omega)])
          · refine Lay.up (S := fun b => w.heap.size < b ∧ b < u.heap.size) (Lay.same (Lay.up HG.out ?_) HSM.out) ?_
            · intro b hb; exact ⟨by omega, hb.2⟩
            · intro b hb; exact ⟨hb.1, by rw [HSZ.out]; exact hb.2⟩
        · obtain ⟨g', h1, h2⟩ := hall.out i hi (by omega)
          refine ⟨g', fun j hj => ?_, ?_⟩
          · simp only [Array.getElem?_setIfInBounds]
            repeat rw [if_neg (by omega)]
            exact h1 j hj
          · refine Lay.up (S := fun b => w.heap.size < b ∧ b < u.heap.size) (Lay.same (Lay.up (Lay.same h2 (Same.of_below hbu (fun b hb => hb.2))) ?_) HSM.out) ?_
            · intro b hb; exact ⟨hb.1, by have := hb.2; omega⟩
            · intro b hb; exact ⟨hb.1, by rw [HSZ.out]; exact hb.2⟩
      case measure => simp [intOf]; omega
    · have hkn : k = n := by omega
      subst hkn
      go_wp2_with fail
      go_ret
      refine ⟨.slice (some ⟨w.heap.size, 0, none⟩) k k, rfl, ⟨_, _, by rw [en], by rw [en]; exact ⟨by unfold maxLen; omega, Nat.le_refl _, fun h => nomatch h⟩, fun i hi => ⟨w.heap.size, 0, rfl, ⟨Nat.le_refl _, hRw⟩, ?_⟩⟩, hbel.out⟩
      obtain ⟨g', h1, h2⟩ := hall.out i hi (by omega)
      refine ⟨g', fun j hj => ?_, Lay.up h2 (fun b hb => ⟨by omega, hb.2⟩)⟩
      rw [width_DRunSlot] at hj ⊢
      have e : 0 + i * 2 + j = i * 2 + j := by omega
      rw [e]
      exact (cell_row hrow.out _ _ (h1 j hj)).1
set_option maxRecDepth 100000 in
set_option maxHeartbeats 4000000 in
theorem toRunBatch_any (S : Nat → Prop) (a : DRunBatch) (c : Nat → Value) (w : World) (h : Lay.At S w a c) (hS : ∀ b, S b → b < w.heap.size) (hm : Lay.tot a ≤ 1048576) :
    Calls Tryz.prog 37 #[.agg #[c 0, c 1, c 2, c 3, c 4, c 5]] w fun e w' => ∃ g : Nat → Value, e = .returned (.agg #[g 0, g 1, g 2, g 3, g 4, g 5]) ∧ Lay.At (fun b => w.heap.size ≤ b ∧ b < w'.heap.size) w' a g ∧ Below w.heap.size w w' := by
  rw [tot_DRunBatch] at hm
  rw [at_DRunBatch] at h
  obtain ⟨⟨e0, z0⟩, H1, H2, ⟨e3, z3⟩, ⟨e4, z4, y4⟩, ⟨e5, z5, y5⟩⟩ := h
  obtain ⟨v1, e1⟩ : ∃ v, c 1 = v := ⟨_, rfl⟩
  rw [e1] at H1
  obtain ⟨v2, e2⟩ : ∃ v, c 2 = v := ⟨_, rfl⟩
  rw [e2] at H2
  rw [e0, e1, e2, e3, e4, e5]
  clear e0 e1 e2 e3 e4 e5
  have C0 : Hid (Cp 66 49 w (((w.alloc (.cells #[.string a.1, v1, v2, .string a.2.2.2.1, .int .i64 a.2.2.2.2.1, .int .i64 a.2.2.2.2.2] 66)).alloc (.cells #[.string ⟨#[]⟩, .slice none 0 0, .slice none 0 0, .string ⟨#[]⟩, .int .i64 0, .int .i64 0] 49)).alloc (.cells #[.string a.1, .slice none 0 0, .slice none 0 0, .string ⟨#[]⟩, .int .i64 0, .int .i64 0] 49)) #[.string a.1, v1, v2, .string a.2.2.2.1, .int .i64 a.2.2.2.2.1, .int .i64 a.2.2.2.2.2] #[.string ⟨#[]⟩, .slice none 0 0, .slice none 0 0, .string ⟨#[]⟩, .int .i64 0, .int .i64 0] _) := cp_init 66 49 w #[.string a.1, v1, v2, .string a.2.2.2.1, .int .i64 a.2.2.2.2.1, .int .i64 a.2.2.2.2.2] #[.string ⟨#[]⟩, .slice none 0 0, .slice none 0 0, .string ⟨#[]⟩, .int .i64 0, .int .i64 0] #[.string a.1, .slice none 0 0, .slice none 0 0, .string ⟨#[]⟩, .int .i64 0, .int .i64 0]
  go_enter Tryz.func37, Tryz.ntmps37
  go_wp2_with fail
  refine (toRecPhaseS_any S _ v1 _ (H1.same (Same.of_below C0.out.bel hS)) (fun b hb => by have := hS b hb; simp; omega) (by omega)).mono ?_
  rintro e w1 ⟨r1, rfl, L1, hb1⟩
  obtain ⟨so1, sc1, er1, _⟩ := id L1
  subst er1
  have l1 : w.heap.size + 1 + 1 + 1 ≤ w1.heap.size := by have := hb1.size; simpa using this
  have M1 : Hid (AtL (fun b => w.heap.size + 1 + 1 < b ∧ b < w1.heap.size) w1 a.2.1 (.slice so1 a.2.1.length sc1)) := L1.up (fun b hb => ⟨by have := hb.1; simp at this; omega, hb.2⟩)
  clear L1
  have C1 : Hid (Cp 66 49 w w1 #[.string a.1, v1, v2, .string a.2.2.2.1, .int .i64 a.2.2.2.2.1, .int .i64 a.2.2.2.2.2] #[.string ⟨#[]⟩, .slice none 0 0, .slice none 0 0, .string ⟨#[]⟩, .int .i64 0, .int .i64 0] _) := C0.out.next hb1
  obtain ⟨p1, q1⟩ := cell_row C1.out.out 1 _ rfl
  have C2 : Hid (Cp 66 49 w (w1.setCell ⟨w.heap.size + 1 + 1, 1, none⟩ (.slice so1 a.2.1.length sc1)) #[.string a.1, v1, v2, .string a.2.2.2.1, .int .i64 a.2.2.2.2.1, .int .i64 a.2.2.2.2.2] #[.string ⟨#[]⟩, .slice none 0 0, .slice none 0 0, .string ⟨#[]⟩, .int .i64 0, .int .i64 0] _) := C1.out.put 1 (.slice so1 a.2.1.length sc1)
  obtain ⟨ar2, _⟩ := cell_row C2.out.arg 2 (v2) rfl
  go_wp2_with fail
  refine (toRunSlotS_any S _ v2 _ (H2.same (Same.of_below C2.out.bel hS)) (fun b hb => by have := hS b hb; simp; omega) (by omega)).mono ?_
  rintro e w2 ⟨r2, rfl, L2, hb2⟩
  obtain ⟨so2, sc2, er2, _⟩ := id L2
  subst er2
  have l2 : w1.heap.size ≤ w2.heap.size := by have := hb2.size; simpa using this
  have M2 : Hid (AtL (fun b => w.heap.size + 1 + 1 < b ∧ b < w2.heap.size) w2 a.2.2.1 (.slice so2 a.2.2.1.length sc2)) := L2.up (fun b hb => ⟨by have := hb.1; simp at this; omega, hb.2⟩)
  clear L2
  have C3 : Hid (Cp 66 49 w w2 #[.string a.1, v1, v2, .string a.2.2.2.1, .int .i64 a.2.2.2.2.1, .int .i64 a.2.2.2.2.2] #[.string ⟨#[]⟩, .slice none 0 0, .slice none 0 0, .string ⟨#[]⟩, .int .i64 0, .int .i64 0] _) := C2.out.next hb2
  obtain ⟨p2, q2⟩ := cell_row C3.out.out 2 _ rfl
  have C4 : Hid (Cp 66 49 w (w2.setCell ⟨w.heap.size + 1 + 1, 2, none⟩ (.slice so2 a.2.2.1.length sc2)) #[.string a.1, v1, v2, .string a.2.2.2.1, .int .i64 a.2.2.2.2.1, .int .i64 a.2.2.2.2.2] #[.string ⟨#[]⟩, .slice none 0 0, .slice none 0 0, .string ⟨#[]⟩, .int .i64 0, .int .i64 0] _) := C3.out.put 2 (.slice so2 a.2.2.1.length sc2)
  obtain ⟨ar3, _⟩ := cell_row C4.out.arg 3 (.string a.2.2.2.1) rfl
  obtain ⟨p3, q3⟩ := cell_row C4.out.out 3 _ rfl
  have C5 : Hid (Cp 66 49 w ((w2.setCell ⟨w.heap.size + 1 + 1, 2, none⟩ (.slice so2 a.2.2.1.length sc2)).setCell ⟨w.heap.size + 1 + 1, 3, none⟩ (.string a.2.2.2.1)) #[.string a.1, v1, v2, .string a.2.2.2.1, .int .i64 a.2.2.2.2.1, .int .i64 a.2.2.2.2.2] #[.string ⟨#[]⟩, .slice none 0 0, .slice none 0 0, .string ⟨#[]⟩, .int .i64 0, .int .i64 0] _) := C4.out.put 3 (.string a.2.2.2.1)
  obtain ⟨ar4, _⟩ := cell_row C5.out.arg 4 (.int .i64 a.2.2.2.2.1) rfl
  obtain ⟨p4, q4⟩ := cell_row C5.out.out 4 _ rfl
  have C6 : Hid (Cp 66 49 w (((w2.setCell ⟨w.heap.size + 1 + 1, 2, none⟩ (.slice so2 a.2.2.1.length sc2)).setCell ⟨w.heap.size + 1 + 1, 3, none⟩ (.string a.2.2.2.1)).setCell ⟨w.heap.size + 1 + 1, 4, none⟩ (.int .i64 a.2.2.2.2.1)) #[.string a.1, v1, v2, .string a.2.2.2.1, .int .i64 a.2.2.2.2.1, .int .i64 a.2.2.2.2.2] #[.string ⟨#[]⟩, .slice none 0 0, .slice none 0 0, .string ⟨#[]⟩, .int .i64 0, .int .i64 0] _) := C5.out.put 4 (.int .i64 a.2.2.2.2.1)
  obtain ⟨ar5, _⟩ := cell_row C6.out.arg 5 (.int .i64 a.2.2.2.2.2) rfl
  obtain ⟨p5, q5⟩ := cell_row C6.out.out 5 _ rfl
  have C7 : Hid (Cp 66 49 w ((((w2.setCell ⟨w.heap.size + 1 + 1, 2, none⟩ (.slice so2 a.2.2.1.length sc2)).setCell ⟨w.heap.size + 1 + 1, 3, none⟩ (.string a.2.2.2.1)).setCell ⟨w.heap.size + 1 + 1, 4, none⟩ (.int .i64 a.2.2.2.2.1)).setCell ⟨w.heap.size + 1 + 1, 5, none⟩ (.int .i64 a.2.2.2.2.2)) #[.string a.1, v1, v2, .string a.2.2.2.1, .int .i64 a.2.2.2.2.1, .int .i64 a.2.2.2.2.2] #[.string ⟨#[]⟩, .slice none 0 0, .slice none 0 0, .string ⟨#[]⟩, .int .i64 0, .int .i64 0] _) := C6.out.put 5 (.int .i64 a.2.2.2.2.2)
  obtain ⟨o0, _⟩ := cell_row C7.out.out 0 (.string a.1) rfl
  obtain ⟨rr0, rf0⟩ := cell_row C7.out.res 0 _ rfl
  obtain ⟨o1, _⟩ := cell_row C7.out.out 1 (.slice so1 a.2.1.length sc1) rfl
  obtain ⟨rr1, rf1⟩ := cell_row C7.out.res 1 _ rfl
  obtain ⟨o2, _⟩ := cell_row C7.out.out 2 (.slice so2 a.2.2.1.length sc2) rfl
  obtain ⟨rr2, rf2⟩ := cell_row C7.out.res 2 _ rfl
  obtain ⟨o3, _⟩ := cell_row C7.out.out 3 (.string a.2.2.2.1) rfl
  obtain ⟨rr3, rf3⟩ := cell_row C7.out.res 3 _ rfl
  obtain ⟨o4, _⟩ := cell_row C7.out.out 4 (.int .i64 a.2.2.2.2.1) rfl
  obtain ⟨rr4, rf4⟩ := cell_row C7.out.res 4 _ rfl
  obtain ⟨o5, _⟩ := cell_row C7.out.out 5 (.int .i64 a.2.2.2.2.2) rfl
  obtain ⟨rr5, rf5⟩ := cell_row C7.out.res 5 _ rfl
  have CF : Hid (Cp 66 49 w ((((((((((w2.setCell ⟨w.heap.size + 1 + 1, 2, none⟩ (.slice so2 a.2.2.1.length sc2)).setCell ⟨w.heap.size + 1 + 1, 3, none⟩ (.string a.2.2.2.1)).setCell ⟨w.heap.size + 1 + 1, 4, none⟩ (.int .i64 a.2.2.2.2.1)).setCell ⟨w.heap.size + 1 + 1, 5, none⟩ (.int .i64 a.2.2.2.2.2)).setCell ⟨w.heap.size + 1, 0, none⟩ (.string a.1)).setCell ⟨w.heap.size + 1, 1, none⟩ (.slice so1 a.2.1.length sc1)).setCell ⟨w.heap.size + 1, 2, none⟩ (.slice so2 a.2.2.1.length sc2)).setCell ⟨w.heap.size + 1, 3, none⟩ (.string a.2.2.2.1)).setCell ⟨w.heap.size + 1, 4, none⟩ (.int .i64 a.2.2.2.2.1)).setCell ⟨w.heap.size + 1, 5, none⟩ (.int .i64 a.2.2.2.2.2)) #[.string a.1, v1, v2, .string a.2.2.2.1, .int .i64 a.2.2.2.2.1, .int .i64 a.2.2.2.2.2] _ _) := ((((((C7.out.ret 0 (.string a.1)).ret 1 (.slice so1 a.2.1.length sc1)).ret 2 (.slice so2 a.2.2.1.length sc2)).ret 3 (.string a.2.2.2.1)).ret 4 (.int .i64 a.2.2.2.2.1)).ret 5 (.int .i64 a.2.2.2.2.2))
  have f0 := (cell_row CF.out.res 0 (.string a.1) rfl).1
  have f1 := (cell_row CF.out.res 1 (.slice so1 a.2.1.length sc1) rfl).1
  have f2 := (cell_row CF.out.res 2 (.slice so2 a.2.2.1.length sc2) rfl).1
  have f3 := (cell_row CF.out.res 3 (.string a.2.2.2.1) rfl).1
  have f4 := (cell_row CF.out.res 4 (.int .i64 a.2.2.2.2.1) rfl).1
  have f5 := (cell_row CF.out.res 5 (.int .i64 a.2.2.2.2.2) rfl).1
  have hsz : Hid (((((((((((w2.setCell ⟨w.heap.size + 1 + 1, 2, none⟩ (.slice so2 a.2.2.1.length sc2)).setCell ⟨w.heap.size + 1 + 1, 3, none⟩ (.string a.2.2.2.1)).setCell ⟨w.heap.size + 1 + 1, 4, none⟩ (.int .i64 a.2.2.2.2.1)).setCell ⟨w.heap.size + 1 + 1, 5, none⟩ (.int .i64 a.2.2.2.2.2)).setCell ⟨w.heap.size + 1, 0, none⟩ (.string a.1)).setCell ⟨w.heap.size + 1, 1, none⟩ (.slice so1 a.2.1.length sc1)).setCell ⟨w.heap.size + 1, 2, none⟩ (.slice so2 a.2.2.1.length sc2)).setCell ⟨w.heap.size + 1, 3, none⟩ (.string a.2.2.2.1)).setCell ⟨w.heap.size + 1, 4, none⟩ (.int .i64 a.2.2.2.2.1)).setCell ⟨w.heap.size + 1, 5, none⟩ (.int .i64 a.2.2.2.2.2)).heap.size = w2.heap.size) := by simp [Hid]
  have S1 : Same (fun b => w.heap.size + 1 + 1 < b ∧ b < w1.heap.size) w1 ((((((((((w2.setCell ⟨w.heap.size + 1 + 1, 2, none⟩ (.slice so2 a.2.2.1.length sc2)).setCell ⟨w.heap.size + 1 + 1, 3, none⟩ (.string a.2.2.2.1)).setCell ⟨w.heap.size + 1 + 1, 4, none⟩ (.int .i64 a.2.2.2.2.1)).setCell ⟨w.heap.size + 1 + 1, 5, none⟩ (.int .i64 a.2.2.2.2.2)).setCell ⟨w.heap.size + 1, 0, none⟩ (.string a.1)).setCell ⟨w.heap.size + 1, 1, none⟩ (.slice so1 a.2.1.length sc1)).setCell ⟨w.heap.size + 1, 2, none⟩ (.slice so2 a.2.2.1.length sc2)).setCell ⟨w.heap.size + 1, 3, none⟩ (.string a.2.2.2.1)).setCell ⟨w.heap.size + 1, 4, none⟩ (.int .i64 a.2.2.2.2.1)).setCell ⟨w.heap.size + 1, 5, none⟩ (.int .i64 a.2.2.2.2.2)) := ((((((((((((Same.of_set _ ⟨w.heap.size + 1 + 1, 1, none⟩ (.slice so1 a.2.1.length sc1) (fun h => absurd h.1 (Nat.lt_irrefl _))).trans (Same.of_below hb2 (fun b hb => by have := hb.2; simp; omega))).trans (Same.of_set _ ⟨w.heap.size + 1 + 1, 2, none⟩ (.slice so2 a.2.2.1.length sc2) (fun h => absurd h.1 (Nat.lt_irrefl _)))).trans (Same.of_set _ ⟨w.heap.size + 1 + 1, 3, none⟩ (.string a.2.2.2.1) (fun h => absurd h.1 (Nat.lt_irrefl _)))).trans (Same.of_set _ ⟨w.heap.size + 1 + 1, 4, none⟩ (.int .i64 a.2.2.2.2.1) (fun h => absurd h.1 (Nat.lt_irrefl _)))).trans (Same.of_set _ ⟨w.heap.size + 1 + 1, 5, none⟩ (.int .i64 a.2.2.2.2.2) (fun h => absurd h.1 (Nat.lt_irrefl _)))).trans (Same.of_set _ ⟨w.heap.size + 1, 0, none⟩ (.string a.1) (fun h => by have := h.1; simp at this; omega))).trans (Same.of_set _ ⟨w.heap.size + 1, 1, none⟩ (.slice so1 a.2.1.length sc1) (fun h => by have := h.1; simp at this; omega))).trans (Same.of_set _ ⟨w.heap.size + 1, 2, none⟩ (.slice so2 a.2.2.1.length sc2) (fun h => by have := h.1; simp at this; omega))).trans (Same.of_set _ ⟨w.heap.size + 1, 3, none⟩ (.string a.2.2.2.1) (fun h => by have := h.1; simp at this; omega))).trans (Same.of_set _ ⟨w.heap.size + 1, 4, none⟩ (.int .i64 a.2.2.2.2.1) (fun h => by have := h.1; simp at this; omega))).trans (Same.of_set _ ⟨w.heap.size + 1, 5, none⟩ (.int .i64 a.2.2.2.2.2) (fun h => by have := h.1; simp at this; omega)))
  have G1 := (M1.out.same S1).up (S' := fun b => w.heap.size ≤ b ∧ b < ((((((((((w2.setCell ⟨w.heap.size + 1 + 1, 2, none⟩ (.slice so2 a.2.2.1.length sc2)).setCell ⟨w.heap.size + 1 + 1, 3, none⟩ (.string a.2.2.2.1)).setCell ⟨w.heap.size + 1 + 1, 4, none⟩ (.int .i64 a.2.2.2.2.1)).setCell ⟨w.heap.size + 1 + 1, 5, none⟩ (.int .i64 a.2.2.2.2.2)).setCell ⟨w.heap.size + 1, 0, none⟩ (.string a.1)).setCell ⟨w.heap.size + 1, 1, none⟩ (.slice so1 a.2.1.length sc1)).setCell ⟨w.heap.size + 1, 2, none⟩ (.slice so2 a.2.2.1.length sc2)).setCell ⟨w.heap.size + 1, 3, none⟩ (.string a.2.2.2.1)).setCell ⟨w.heap.size + 1, 4, none⟩ (.int .i64 a.2.2.2.2.1)).setCell ⟨w.heap.size + 1, 5, none⟩ (.int .i64 a.2.2.2.2.2)).heap.size) (fun b hb => ⟨by have := hb.1; omega, by rw [hsz.out]; have := hb.2; omega⟩)
  have S2 : Same (fun b => w.heap.size + 1 + 1 < b ∧ b < w2.heap.size) w2 ((((((((((w2.setCell ⟨w.heap.size + 1 + 1, 2, none⟩ (.slice so2 a.2.2.1.length sc2)).setCell ⟨w.heap.size + 1 + 1, 3, none⟩ (.string a.2.2.2.1)).setCell ⟨w.heap.size + 1 + 1, 4, none⟩ (.int .i64 a.2.2.2.2.1)).setCell ⟨w.heap.size + 1 + 1, 5, none⟩ (.int .i64 a.2.2.2.2.2)).setCell ⟨w.heap.size + 1, 0, none⟩ (.string a.1)).setCell ⟨w.heap.size + 1, 1, none⟩ (.slice so1 a.2.1.length sc1)).setCell ⟨w.heap.size + 1, 2, none⟩ (.slice so2 a.2.2.1.length sc2)).setCell ⟨w.heap.size + 1, 3, none⟩ (.string a.2.2.2.1)).setCell ⟨w.heap.size + 1, 4, none⟩ (.int .i64 a.2.2.2.2.1)).setCell ⟨w.heap.size + 1, 5, none⟩ (.int .i64 a.2.2.2.2.2)) := ((((((((((Same.of_set _ ⟨w.heap.size + 1 + 1, 2, none⟩ (.slice so2 a.2.2.1.length sc2) (fun h => absurd h.1 (Nat.lt_irrefl _))).trans (Same.of_set _ ⟨w.heap.size + 1 + 1, 3, none⟩ (.string a.2.2.2.1) (fun h => absurd h.1 (Nat.lt_irrefl _)))).trans (Same.of_set _ ⟨w.heap.size + 1 + 1, 4, none⟩ (.int .i64 a.2.2.2.2.1) (fun h => absurd h.1 (Nat.lt_irrefl _)))).trans (Same.of_set _ ⟨w.heap.size + 1 + 1, 5, none⟩ (.int .i64 a.2.2.2.2.2) (fun h => absurd h.1 (Nat.lt_irrefl _)))).trans (Same.of_set _ ⟨w.heap.size + 1, 0, none⟩ (.string a.1) (fun h => by have := h.1; simp at this; omega))).trans (Same.of_set _ ⟨w.heap.size + 1, 1, none⟩ (.slice so1 a.2.1.length sc1) (fun h => by have := h.1; simp at this; omega))).trans (Same.of_set _ ⟨w.heap.size + 1, 2, none⟩ (.slice so2 a.2.2.1.length sc2) (fun h => by have := h.1; simp at this; omega))).trans (Same.of_set _ ⟨w.heap.size + 1, 3, none⟩ (.string a.2.2.2.1) (fun h => by have := h.1; simp at this; omega))).trans (Same.of_set _ ⟨w.heap.size + 1, 4, none⟩ (.int .i64 a.2.2.2.2.1) (fun h => by have := h.1; simp at this; omega))).trans (Same.of_set _ ⟨w.heap.size + 1, 5, none⟩ (.int .i64 a.2.2.2.2.2) (fun h => by have := h.1; simp at this; omega)))
  have G2 := (M2.out.same S2).up (S' := fun b => w.heap.size ≤ b ∧ b < ((((((((((w2.setCell ⟨w.heap.size + 1 + 1, 2, none⟩ (.slice so2 a.2.2.1.length sc2)).setCell ⟨w.heap.size + 1 + 1, 3, none⟩ (.string a.2.2.2.1)).setCell ⟨w.heap.size + 1 + 1, 4, none⟩ (.int .i64 a.2.2.2.2.1)).setCell ⟨w.heap.size + 1 + 1, 5, none⟩ (.int .i64 a.2.2.2.2.2)).setCell ⟨w.heap.size + 1, 0, none⟩ (.string a.1)).setCell ⟨w.heap.size + 1, 1, none⟩ (.slice so1 a.2.1.length sc1)).setCell ⟨w.heap.size + 1, 2, none⟩ (.slice so2 a.2.2.1.length sc2)).setCell ⟨w.heap.size + 1, 3, none⟩ (.string a.2.2.2.1)).setCell ⟨w.heap.size + 1, 4, none⟩ (.int .i64 a.2.2.2.2.1)).setCell ⟨w.heap.size + 1, 5, none⟩ (.int .i64 a.2.2.2.2.2)).heap.size) (fun b hb => ⟨by have := hb.1; omega, by rw [hsz.out]; have := hb.2; omega⟩)
  go_wp2_with fail
  exact bodyPost_ret (v := .agg #[.string a.1, .slice so1 a.2.1.length sc1, .slice so2 a.2.2.1.length sc2, .string a.2.2.2.1, .int .i64 a.2.2.2.2.1, .int .i64 a.2.2.2.2.2]) (by simp [results, Tryz.results37, go_sem, f0, f1, f2, f3, f4, f5]) rfl ⟨cs [.string a.1, .slice so1 a.2.1.length sc1, .slice so2 a.2.2.1.length sc2, .string a.2.2.2.1, .int .i64 a.2.2.2.2.1, .int .i64 a.2.2.2.2.2], rfl, at_DRunBatch.2 ⟨⟨rfl, z0⟩, G1, G2, ⟨rfl, z3⟩, ⟨rfl, z4, y4⟩, ⟨rfl, z5, y5⟩⟩, CF.out.bel⟩
end Go.Proofs.YtobchllaopdchacGreat
