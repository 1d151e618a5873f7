/-
  Contracts of the laws' own copying of data: the copy owns its memory.
-/
import Derived.Test.YticojnepejboaacGreatCbo
import Derived.Test.YticojnepejboaacGreatCbm
namespace Go.Proofs.YticojnepejboaacGreat
open Go.RowKit

set_option maxRecDepth 100000 in
set_option maxHeartbeats 4000000 in
theorem toClaimFoe_own (S : Nat → Prop) (a : DClaimFoe) (c : Nat → Value) (w : World) (h : Lay.At S w a c) (_hS : ∀ b, S b → b < w.heap.size) (_hm : Lay.tot a ≤ 1048576) :
    Calls Tryz.prog 47 #[.agg #[c 0, c 1]] w fun e w' => ∃ g : Nat → Value, e = .returned (.agg #[g 0, g 1]) ∧ Own.On (fun b => w.heap.size ≤ b ∧ b < w'.heap.size) w' a g ∧ Below w.heap.size w w' := by
  rw [at_DClaimFoe] at h
  obtain ⟨⟨e0, z0⟩, ⟨e1, z1⟩⟩ := h
  rw [e0, e1]
  clear e0 e1
  go_enter Tryz.func47, Tryz.ntmps47
  go_wp2
  exact bodyPost_ret (v := .agg #[.string a.1, .string a.2]) (by simp [results, Tryz.results47, go_sem]) rfl ⟨cs [.string a.1, .string a.2], rfl, on_DClaimFoe.2 ⟨fun _ => False, fun _ => False, fun _ h => h.elim, fun _ h => h.elim, ⟨rfl, z0⟩, ⟨rfl, z1⟩⟩, by repeat (first | exact Below.refl _ _ | refine Below.alloc ?_ (by simp; try omega) _)⟩

set_option maxRecDepth 100000 in
set_option maxHeartbeats 4000000 in
theorem toStringS_own (S : Nat → Prop) (l : List ByteArray) (v : Value) (w : World) (h : AtL S w l v) (hS : ∀ b, S b → b < w.heap.size) (hm : totL l ≤ 1048576) :
    Calls Tryz.prog 20 #[v] w fun e w' => ∃ r, e = .returned r ∧ OnL (fun b => w.heap.size ≤ b ∧ b < w'.heap.size) w' l r ∧ Below w.heap.size w w' := by
  obtain ⟨oa, cap, rfl, hn, hc⟩ := h
  have hln := totL_len l
  have HTE : Hid (∀ i (h : i < l.length), Lay.tot l[i] ≤ 1048576) := fun i h => Nat.le_trans (totL_el l i h) hm
  obtain ⟨n, en⟩ : ∃ n, l.length = n := ⟨_, rfl⟩
  rw [en] at hn hln
  rw [en]
  have HC : Hid _ := hc
  clear hc hn
  obtain ⟨i0, hi, hz0, hz1, hz2⟩ := info_parts infoStringS
  obtain ⟨M, hM⟩ : ∃ M, M = madeCells (.string ByteArray.empty : Value).cells ((n : Int).toNat * i0.size) := ⟨_, rfl⟩
  have hMs : M.size = n * 1 := by rw [hM, size_madeCells, hz1]; simp
  have hmk : ∀ W : World, (Instr.makeSlice 24 (.int .i64 (n : Int)) (.int .i64 (n : Int))).run Tryz.prog W = .ok (.slice (some ⟨W.heap.size, 0, none⟩) n n) (W.alloc (.cells M 9)) := fun W => by
    have h := run_make (P := Tryz.prog) W 24 9 i0 (.string ByteArray.empty) underStringS hi hz0 .i64 .i64 (n : Int) (n : Int) (by omega) (by omega) (by rw [hz2]; omega) (by omega)
    rw [← hM] at h
    simpa using h
  clear hM
  go_enter Tryz.func20, Tryz.ntmps20
  go_wp2
  go_loopw [4] (fun i wr => ∃ (k : Nat) (c : Array Value) (Ss : Nat → Nat → Prop), k ≤ n ∧ i = .int .i64 k ∧ Hid (wr.heap[w.heap.size]? = some (.cells c 9 (0, 0))) ∧ c.size = n * 1 ∧ Hid ((∀ i b, Ss i b → w.heap.size < b ∧ b < wr.heap.size) ∧ ∀ i j b, Ss i b → Ss j b → i = j) ∧ Hid (∀ i (h : i < l.length), i < k → ∃ g : Nat → Value, (∀ j, j < 1 → c[i * 1 + j]? = some (g j)) ∧ Own.On (Ss i) wr l[i] g) ∧ Hid (Below w.heap.size w wr)) (fun i _ => n - (intOf i).toNat)
  case atStart => exact ⟨0, M, fun _ _ => False, Nat.zero_le _, rfl, heap_alloc_new w _, hMs, ⟨fun _ _ h => h.elim, fun _ _ _ h => h.elim⟩, fun _ _ h => by omega, (Below.refl _ _).alloc (Nat.le_refl _) _⟩
  case round =>
    obtain ⟨k, c, Ss, hk, rfl, hrow, hcs, hdis, hall, hbel⟩ := hrel
    have hRw : w.heap.size < wr.heap.size := (Array.getElem?_eq_some_iff.1 hrow.out).1
    by_cases hlt : k < n
    · obtain ⟨b, off, rfl, hbS, cc, hcell, hat⟩ := HC.out k (by omega)
      have hb := hS b hbS
      rw [width_str] at hcell
      have e0 : wr.cell? ⟨b, off + k, none⟩ = some (cc 0) := (hbel.out.cell (p := ⟨b, off + k, none⟩) (by show b < _; omega)).trans (by simpa using hcell 0 (by omega))
      clear hcell
      have HAT : Hid _ := hat
      clear hat
      have hrow2 : Hid (wr.heap[w.heap.size]? = some (.cells c 9 (0, 0))) := hrow.out
      have hbel2 : Hid (Below w.heap.size w wr) := hbel.out
      obtain ⟨ge0, _⟩ := at_str.1 HAT.out
      rw [ge0] at e0
      obtain ⟨v0, hv0⟩ : ∃ v, c[k]? = some v := ⟨_, Array.getElem?_eq_getElem (by omega)⟩
      obtain ⟨hcl0, hfr0⟩ := cell_row hrow2.out (k) v0 hv0
      clear hv0
      have HSM : Hid (Same (fun b => w.heap.size < b ∧ b < wr.heap.size) wr (wr.setCell ⟨w.heap.size, k, none⟩ (.string (l[k]'(by omega))))) := (Same.of_set _ ⟨w.heap.size, k, none⟩ (.string (l[k]'(by omega))) (fun h => absurd h.1 (Nat.lt_irrefl _)))
      have HSZ : Hid ((wr.setCell ⟨w.heap.size, k, none⟩ (.string (l[k]'(by omega)))).heap.size = wr.heap.size) := by simp [Hid]
      go_wp2_with fail
      go_roundw
      case rel =>
        refine ⟨k + 1, (c.setIfInBounds (k) (.string (l[k]'(by omega)))), fun i b => (i = k ∧ wr.heap.size ≤ b ∧ b < wr.heap.size) ∨ (i ≠ k ∧ Ss i b), by omega, by go_num, (set_row hrow2.out (k) _), by simpa using hcs, ⟨?_, ?_⟩, ?_, (hbel2.out.setCell (Nat.le_refl _) _)⟩
        · intro i b hb
          rw [HSZ.out]
          rcases hb with ⟨_, hb⟩ | ⟨_, hb⟩
          · exact ⟨by omega, hb.2⟩
          · have := hdis.out.1 i b hb; exact ⟨this.1, by exact this.2⟩
        · intro i j b hi hj
          rcases hi with ⟨e1, h1⟩ | ⟨e1, h1⟩ <;> rcases hj with ⟨e2, h2⟩ | ⟨e2, h2⟩
          · rw [e1, e2]
          · have := hdis.out.1 j b h2; omega
          · have := hdis.out.1 i b h1; omega
          · exact hdis.out.2 i j b h1 h2
        intro i hi hik
        by_cases e : i = k
        · subst e
          refine ⟨cc, ?_, ?_⟩
          · intro j hj
            rcases (show j = 0 by omega) with rfl
            · rw [ge0]
              simp only [Array.getElem?_setIfInBounds, hcs]
              repeat (first | rw [if_pos True.intro] | rw [if_pos (by omega)] | rw [if_neg (by omega)])
          · exact Own.on_up (S := fun _ => False) (show Own.On _ _ (_ : ByteArray) _ from HAT.out) (fun b hb => hb.elim)
        · obtain ⟨g', h1, h2⟩ := hall.out i hi (by omega)
          refine ⟨g', fun j hj => ?_, ?_⟩
          · simp only [Array.getElem?_setIfInBounds]
            repeat rw [if_neg (by omega)]
            exact h1 j hj
          · refine Own.on_up (Own.on_same h2 (fun b hb => HSM.out b ⟨(hdis.out.1 i b hb).1, ?_⟩)) (fun b hb => Or.inr ⟨e, hb⟩)
            have := (hdis.out.1 i b hb).2
            omega
      case measure => simp [intOf]; omega
    · have hkn : k = n := by omega
      subst hkn
      go_wp2_with fail
      go_ret
      refine ⟨.slice (some ⟨w.heap.size, 0, none⟩) k k, rfl, ⟨_, _, by rw [en], by rw [en]; exact ⟨by unfold maxLen; omega, Nat.le_refl _, fun h => nomatch h⟩, ?_⟩, hbel.out⟩
      rcases (show l = [] ∨ ∃ x, x ∈ l by cases l with | nil => exact .inl rfl | cons x _ => exact .inr ⟨x, List.mem_cons_self⟩) with e0 | ⟨x, _⟩
      · exact .inl e0
      refine .inr ⟨w.heap.size, 0, Ss, c, 9, rfl, fun i => l.getD i x, fun i hi => by simp [hi], ⟨hrow.out, ⟨Nat.le_refl _, hRw⟩, fun i b hb => ⟨⟨by have := hdis.out.1 i b hb; omega, (hdis.out.1 i b hb).2⟩, fun e => by have := hdis.out.1 i b hb; omega⟩, hdis.out.2, fun i hi => ?_⟩⟩
      obtain ⟨g', h1, h2⟩ := hall.out i hi (by omega)
      refine ⟨g', fun j hj => ?_, ?_⟩
      · rw [width_str] at hj ⊢
        have e : 0 + i * 1 + j = i * 1 + j := by omega
        rw [e]
        exact h1 j hj
      · have e : l.getD i x = l[i] := by simp [hi]
        rw [e]
        exact h2

set_option maxRecDepth 100000 in
set_option maxHeartbeats 4000000 in
theorem toClaimSpot_own (S : Nat → Prop) (a : DClaimSpot) (c : Nat → Value) (w : World) (h : Lay.At S w a c) (hS : ∀ b, S b → b < w.heap.size) (hm : Lay.tot a ≤ 1048576) :
    Calls Tryz.prog 48 #[.agg #[c 0, c 1, c 2, c 3, c 4]] w fun e w' => ∃ g : Nat → Value, e = .returned (.agg #[g 0, g 1, g 2, g 3, g 4]) ∧ Own.On (fun b => w.heap.size ≤ b ∧ b < w'.heap.size) w' a g ∧ Below w.heap.size w w' := by
  rw [tot_DClaimSpot] at hm
  rw [at_DClaimSpot] at h
  obtain ⟨⟨e0, z0⟩, ⟨e1, z1, y1⟩, ⟨e2, z2, y2⟩, ⟨e3, z3, y3⟩, H4⟩ := h
  obtain ⟨v4, e4⟩ : ∃ v, c 4 = v := ⟨_, rfl⟩
  rw [e4] at H4
  rw [e0, e1, e2, e3, e4]
  clear e0 e1 e2 e3 e4
  have C0 : Hid (Cp 71 81 w (((w.alloc (.cells #[.string a.1, .int .i64 a.2.1, .int .i64 a.2.2.1, .int .i64 a.2.2.2.1, v4] 71)).alloc (.cells #[.string ⟨#[]⟩, .int .i64 0, .int .i64 0, .int .i64 0, .slice none 0 0] 81)).alloc (.cells #[.string a.1, .int .i64 a.2.1, .int .i64 a.2.2.1, .int .i64 a.2.2.2.1, .slice none 0 0] 81)) #[.string a.1, .int .i64 a.2.1, .int .i64 a.2.2.1, .int .i64 a.2.2.2.1, v4] #[.string ⟨#[]⟩, .int .i64 0, .int .i64 0, .int .i64 0, .slice none 0 0] _) := cp_init 71 81 w #[.string a.1, .int .i64 a.2.1, .int .i64 a.2.2.1, .int .i64 a.2.2.2.1, v4] #[.string ⟨#[]⟩, .int .i64 0, .int .i64 0, .int .i64 0, .slice none 0 0] #[.string a.1, .int .i64 a.2.1, .int .i64 a.2.2.1, .int .i64 a.2.2.2.1, .slice none 0 0]
  go_enter Tryz.func48, Tryz.ntmps48
  go_wp2_with fail
  refine (toStringS_own S _ v4 _ (H4.same (Same.of_below C0.out.bel hS)) (fun b hb => by have := hS b hb; simp; omega) (by omega)).mono ?_
  rintro e w1 ⟨r4, rfl, L4, hb1⟩
  obtain ⟨so4, sc4, er4, _⟩ := id L4
  subst er4
  have l1 : w.heap.size + 1 + 1 + 1 ≤ w1.heap.size := by have := hb1.size; simpa using this
  have M4 : Hid (OnL (fun b => w.heap.size + 1 + 1 + 1 ≤ b ∧ b < w1.heap.size) w1 a.2.2.2.2 (.slice so4 a.2.2.2.2.length sc4)) := L4.up (fun b hb => ⟨by have := hb.1; simp at this; omega, hb.2⟩)
  clear L4
  have C1 : Hid (Cp 71 81 w w1 #[.string a.1, .int .i64 a.2.1, .int .i64 a.2.2.1, .int .i64 a.2.2.2.1, v4] #[.string ⟨#[]⟩, .int .i64 0, .int .i64 0, .int .i64 0, .slice none 0 0] _) := C0.out.next hb1
  obtain ⟨p4, q4⟩ := cell_row C1.out.out 4 _ rfl
  have C2 : Hid (Cp 71 81 w (w1.setCell ⟨w.heap.size + 1 + 1, 4, none⟩ (.slice so4 a.2.2.2.2.length sc4)) #[.string a.1, .int .i64 a.2.1, .int .i64 a.2.2.1, .int .i64 a.2.2.2.1, v4] #[.string ⟨#[]⟩, .int .i64 0, .int .i64 0, .int .i64 0, .slice none 0 0] _) := C1.out.put 4 (.slice so4 a.2.2.2.2.length sc4)
  obtain ⟨o0, _⟩ := cell_row C2.out.out 0 (.string a.1) rfl
  obtain ⟨rr0, rf0⟩ := cell_row C2.out.res 0 _ rfl
  obtain ⟨o1, _⟩ := cell_row C2.out.out 1 (.int .i64 a.2.1) rfl
  obtain ⟨rr1, rf1⟩ := cell_row C2.out.res 1 _ rfl
  obtain ⟨o2, _⟩ := cell_row C2.out.out 2 (.int .i64 a.2.2.1) rfl
  obtain ⟨rr2, rf2⟩ := cell_row C2.out.res 2 _ rfl
  obtain ⟨o3, _⟩ := cell_row C2.out.out 3 (.int .i64 a.2.2.2.1) rfl
  obtain ⟨rr3, rf3⟩ := cell_row C2.out.res 3 _ rfl
  obtain ⟨o4, _⟩ := cell_row C2.out.out 4 (.slice so4 a.2.2.2.2.length sc4) rfl
  obtain ⟨rr4, rf4⟩ := cell_row C2.out.res 4 _ rfl
  have CF : Hid (Cp 71 81 w ((((((w1.setCell ⟨w.heap.size + 1 + 1, 4, none⟩ (.slice so4 a.2.2.2.2.length sc4)).setCell ⟨w.heap.size + 1, 0, none⟩ (.string a.1)).setCell ⟨w.heap.size + 1, 1, none⟩ (.int .i64 a.2.1)).setCell ⟨w.heap.size + 1, 2, none⟩ (.int .i64 a.2.2.1)).setCell ⟨w.heap.size + 1, 3, none⟩ (.int .i64 a.2.2.2.1)).setCell ⟨w.heap.size + 1, 4, none⟩ (.slice so4 a.2.2.2.2.length sc4)) #[.string a.1, .int .i64 a.2.1, .int .i64 a.2.2.1, .int .i64 a.2.2.2.1, v4] _ _) := (((((C2.out.ret 0 (.string a.1)).ret 1 (.int .i64 a.2.1)).ret 2 (.int .i64 a.2.2.1)).ret 3 (.int .i64 a.2.2.2.1)).ret 4 (.slice so4 a.2.2.2.2.length sc4))
  have f0 := (cell_row CF.out.res 0 (.string a.1) rfl).1
  have f1 := (cell_row CF.out.res 1 (.int .i64 a.2.1) rfl).1
  have f2 := (cell_row CF.out.res 2 (.int .i64 a.2.2.1) rfl).1
  have f3 := (cell_row CF.out.res 3 (.int .i64 a.2.2.2.1) rfl).1
  have f4 := (cell_row CF.out.res 4 (.slice so4 a.2.2.2.2.length sc4) rfl).1
  have hsz : Hid (((((((w1.setCell ⟨w.heap.size + 1 + 1, 4, none⟩ (.slice so4 a.2.2.2.2.length sc4)).setCell ⟨w.heap.size + 1, 0, none⟩ (.string a.1)).setCell ⟨w.heap.size + 1, 1, none⟩ (.int .i64 a.2.1)).setCell ⟨w.heap.size + 1, 2, none⟩ (.int .i64 a.2.2.1)).setCell ⟨w.heap.size + 1, 3, none⟩ (.int .i64 a.2.2.2.1)).setCell ⟨w.heap.size + 1, 4, none⟩ (.slice so4 a.2.2.2.2.length sc4)).heap.size = w1.heap.size) := by simp [Hid]
  have S4 : Same (fun b => w.heap.size + 1 + 1 + 1 ≤ b ∧ b < w1.heap.size) w1 ((((((w1.setCell ⟨w.heap.size + 1 + 1, 4, none⟩ (.slice so4 a.2.2.2.2.length sc4)).setCell ⟨w.heap.size + 1, 0, none⟩ (.string a.1)).setCell ⟨w.heap.size + 1, 1, none⟩ (.int .i64 a.2.1)).setCell ⟨w.heap.size + 1, 2, none⟩ (.int .i64 a.2.2.1)).setCell ⟨w.heap.size + 1, 3, none⟩ (.int .i64 a.2.2.2.1)).setCell ⟨w.heap.size + 1, 4, none⟩ (.slice so4 a.2.2.2.2.length sc4)) := ((((((Same.of_set _ ⟨w.heap.size + 1 + 1, 4, none⟩ (.slice so4 a.2.2.2.2.length sc4) (fun h => by have := h.1; simp at this; omega)).trans (Same.of_set _ ⟨w.heap.size + 1, 0, none⟩ (.string a.1) (fun h => by have := h.1; simp at this; omega))).trans (Same.of_set _ ⟨w.heap.size + 1, 1, none⟩ (.int .i64 a.2.1) (fun h => by have := h.1; simp at this; omega))).trans (Same.of_set _ ⟨w.heap.size + 1, 2, none⟩ (.int .i64 a.2.2.1) (fun h => by have := h.1; simp at this; omega))).trans (Same.of_set _ ⟨w.heap.size + 1, 3, none⟩ (.int .i64 a.2.2.2.1) (fun h => by have := h.1; simp at this; omega))).trans (Same.of_set _ ⟨w.heap.size + 1, 4, none⟩ (.slice so4 a.2.2.2.2.length sc4) (fun h => by have := h.1; simp at this; omega)))
  have G4 : Hid (OnL (fun b => w.heap.size + 1 + 1 + 1 ≤ b ∧ b < w1.heap.size) ((((((w1.setCell ⟨w.heap.size + 1 + 1, 4, none⟩ (.slice so4 a.2.2.2.2.length sc4)).setCell ⟨w.heap.size + 1, 0, none⟩ (.string a.1)).setCell ⟨w.heap.size + 1, 1, none⟩ (.int .i64 a.2.1)).setCell ⟨w.heap.size + 1, 2, none⟩ (.int .i64 a.2.2.1)).setCell ⟨w.heap.size + 1, 3, none⟩ (.int .i64 a.2.2.2.1)).setCell ⟨w.heap.size + 1, 4, none⟩ (.slice so4 a.2.2.2.2.length sc4)) a.2.2.2.2 (.slice so4 a.2.2.2.2.length sc4)) := M4.out.same S4
  go_wp2_with fail
  exact bodyPost_ret (v := .agg #[.string a.1, .int .i64 a.2.1, .int .i64 a.2.2.1, .int .i64 a.2.2.2.1, .slice so4 a.2.2.2.2.length sc4]) (by simp [results, Tryz.results48, go_sem, f0, f1, f2, f3, f4]) rfl ⟨cs [.string a.1, .int .i64 a.2.1, .int .i64 a.2.2.1, .int .i64 a.2.2.2.1, .slice so4 a.2.2.2.2.length sc4], rfl, on_DClaimSpot.2 ⟨fun _ => False, fun b => w.heap.size + 1 + 1 + 1 ≤ b ∧ b < w1.heap.size, fun _ h => h.elim, fun b hb => ⟨by omega, by first | omega | (rw [hsz.out]; omega)⟩, ⟨rfl, z0⟩, fun _ => False, fun b => w.heap.size + 1 + 1 + 1 ≤ b ∧ b < w1.heap.size, fun _ h => h.elim, fun b hb => ⟨by omega, by first | omega | (rw [hsz.out]; omega)⟩, ⟨rfl, z1, y1⟩, fun _ => False, fun b => w.heap.size + 1 + 1 + 1 ≤ b ∧ b < w1.heap.size, fun _ h => h.elim, fun b hb => ⟨by omega, by first | omega | (rw [hsz.out]; omega)⟩, ⟨rfl, z2, y2⟩, fun _ => False, fun b => w.heap.size + 1 + 1 + 1 ≤ b ∧ b < w1.heap.size, fun _ h => h.elim, fun b hb => ⟨by omega, by first | omega | (rw [hsz.out]; omega)⟩, ⟨rfl, z3, y3⟩, G4.out.up (fun b hb => ⟨by omega, by omega⟩)⟩, CF.out.bel⟩

set_option maxRecDepth 100000 in
set_option maxHeartbeats 4000000 in
theorem toClaimUse_own (S : Nat → Prop) (a : DClaimUse) (c : Nat → Value) (w : World) (h : Lay.At S w a c) (_hS : ∀ b, S b → b < w.heap.size) (_hm : Lay.tot a ≤ 1048576) :
    Calls Tryz.prog 114 #[.agg #[c 0, c 1, c 2]] w fun e w' => ∃ g : Nat → Value, e = .returned (.agg #[g 0, g 1, g 2]) ∧ Own.On (fun b => w.heap.size ≤ b ∧ b < w'.heap.size) w' a g ∧ Below w.heap.size w w' := by
  rw [at_DClaimUse] at h
  obtain ⟨⟨e0, z0⟩, ⟨e1, z1, y1⟩, ⟨e2, z2, y2⟩⟩ := h
  rw [e0, e1, e2]
  clear e0 e1 e2
  go_enter Tryz.func114, Tryz.ntmps114
  go_wp2
  exact bodyPost_ret (v := .agg #[.string a.1, .int .i64 a.2.1, .int .i64 a.2.2]) (by simp [results, Tryz.results114, go_sem]) rfl ⟨cs [.string a.1, .int .i64 a.2.1, .int .i64 a.2.2], rfl, on_DClaimUse.2 ⟨fun _ => False, fun _ => False, fun _ h => h.elim, fun _ h => h.elim, ⟨rfl, z0⟩, fun _ => False, fun _ => False, fun _ h => h.elim, fun _ h => h.elim, ⟨rfl, z1, y1⟩, ⟨rfl, z2, y2⟩⟩, by repeat (first | exact Below.refl _ _ | refine Below.alloc ?_ (by simp; try omega) _)⟩

set_option maxRecDepth 100000 in
set_option maxHeartbeats 4000000 in
theorem toClaimUseS_own (S : Nat → Prop) (l : List DClaimUse) (v : Value) (w : World) (h : AtL S w l v) (hS : ∀ b, S b → b < w.heap.size) (hm : totL l ≤ 1048576) :
    Calls Tryz.prog 86 #[v] w fun e w' => ∃ r, e = .returned r ∧ OnL (fun b => w.heap.size ≤ b ∧ b < w'.heap.size) w' l r ∧ Below w.heap.size w w' := by
  obtain ⟨oa, cap, rfl, hn, hc⟩ := h
  have hln := totL_len l
  have HTE : Hid (∀ i (h : i < l.length), Lay.tot l[i] ≤ 1048576) := fun i h => Nat.le_trans (totL_el l i h) hm
  obtain ⟨n, en⟩ : ∃ n, l.length = n := ⟨_, rfl⟩
  rw [en] at hn hln
  rw [en]
  have HC : Hid _ := hc
  clear hc hn
  obtain ⟨i0, hi, hz0, hz1, hz2⟩ := info_parts infoClaimUseS
  obtain ⟨M, hM⟩ : ∃ M, M = madeCells (.agg #[.string ByteArray.empty, .int .i64 0, .int .i64 0] : Value).cells ((n : Int).toNat * i0.size) := ⟨_, rfl⟩
  have hMs : M.size = n * 3 := by rw [hM, size_madeCells, hz1]; simp
  have hmk : ∀ W : World, (Instr.makeSlice 46 (.int .i64 (n : Int)) (.int .i64 (n : Int))).run Tryz.prog W = .ok (.slice (some ⟨W.heap.size, 0, none⟩) n n) (W.alloc (.cells M 106)) := fun W => by
    have h := run_make (P := Tryz.prog) W 46 106 i0 (.agg #[.string ByteArray.empty, .int .i64 0, .int .i64 0]) underClaimUseS hi hz0 .i64 .i64 (n : Int) (n : Int) (by omega) (by omega) (by rw [hz2]; omega) (by omega)
    rw [← hM] at h
    simpa using h
  clear hM
  go_enter Tryz.func86, Tryz.ntmps86
  go_wp2
  go_loopw [4] (fun i wr => ∃ (k : Nat) (c : Array Value) (Ss : Nat → Nat → Prop), k ≤ n ∧ i = .int .i64 k ∧ Hid (wr.heap[w.heap.size]? = some (.cells c 106 (0, 0))) ∧ c.size = n * 3 ∧ Hid ((∀ i b, Ss i b → w.heap.size < b ∧ b < wr.heap.size) ∧ ∀ i j b, Ss i b → Ss j b → i = j) ∧ Hid (∀ i (h : i < l.length), i < k → ∃ g : Nat → Value, (∀ j, j < 3 → c[i * 3 + j]? = some (g j)) ∧ Own.On (Ss i) wr l[i] g) ∧ Hid (Below w.heap.size w wr)) (fun i _ => n - (intOf i).toNat)
  case atStart => exact ⟨0, M, fun _ _ => False, Nat.zero_le _, rfl, heap_alloc_new w _, hMs, ⟨fun _ _ h => h.elim, fun _ _ _ h => h.elim⟩, fun _ _ h => by omega, (Below.refl _ _).alloc (Nat.le_refl _) _⟩
  case round =>
    obtain ⟨k, c, Ss, hk, rfl, hrow, hcs, hdis, hall, hbel⟩ := hrel
    have hRw : w.heap.size < wr.heap.size := (Array.getElem?_eq_some_iff.1 hrow.out).1
    by_cases hlt : k < n
    · obtain ⟨b, off, rfl, hbS, cc, hcell, hat⟩ := HC.out k (by omega)
      have hb := hS b hbS
      rw [width_DClaimUse] at hcell
      have e0 : wr.cell? ⟨b, off + k * 3, none⟩ = some (cc 0) := (hbel.out.cell (p := ⟨b, off + k * 3, none⟩) (by show b < _; omega)).trans (by simpa using hcell 0 (by omega))
      have e1 : wr.cell? ⟨b, off + k * 3 + 1, none⟩ = some (cc 1) := (hbel.out.cell (p := ⟨b, off + k * 3 + 1, none⟩) (by show b < _; omega)).trans (by simpa using hcell 1 (by omega))
      have e2 : wr.cell? ⟨b, off + k * 3 + 2, none⟩ = some (cc 2) := (hbel.out.cell (p := ⟨b, off + k * 3 + 2, none⟩) (by show b < _; omega)).trans (by simpa using hcell 2 (by omega))
      clear hcell
      have HAT : Hid _ := hat
      clear hat
      go_wp2_with fail
      refine (toClaimUse_own S _ cc _ (Lay.same HAT.out (Same.of_below hbel.out hS)) (fun b hb => by have := hS b hb; omega) (HTE.out k (by omega))).mono ?_
      rintro e u ⟨g, rfl, hg, hbu⟩
      have HG : Hid _ := hg
      clear hg
      have hus := hbu.size
      have hrow2 : Hid (u.heap[w.heap.size]? = some (.cells c 106 (0, 0))) := (hbu.block _ hRw).trans hrow.out
      have hbel2 : Hid (Below w.heap.size w u) := hbel.out.trans (hbu.mono (by omega))
      obtain ⟨⟨ge0, _⟩, ⟨ge1, _, _⟩, ⟨ge2, _, _⟩⟩ := at_DClaimUse.1 (Own.on_at HG.out)
      rw [ge0, ge1, ge2]
      obtain ⟨v0, hv0⟩ : ∃ v, c[k * 3]? = some v := ⟨_, Array.getElem?_eq_getElem (by omega)⟩
      obtain ⟨hcl0, hfr0⟩ := cell_row hrow2.out (k * 3) v0 hv0
      clear hv0
      obtain ⟨v1, hv1⟩ : ∃ v, c[k * 3 + 1]? = some v := ⟨_, Array.getElem?_eq_getElem (by omega)⟩
      obtain ⟨hcl1, hfr1⟩ := cell_row hrow2.out (k * 3 + 1) v1 hv1
      clear hv1
      obtain ⟨v2, hv2⟩ : ∃ v, c[k * 3 + 2]? = some v := ⟨_, Array.getElem?_eq_getElem (by omega)⟩
      obtain ⟨hcl2, hfr2⟩ := cell_row hrow2.out (k * 3 + 2) v2 hv2
      clear hv2
      have HSM : Hid (Same (fun b => w.heap.size < b ∧ b < u.heap.size) u (((u.setCell ⟨w.heap.size, k * 3, none⟩ (.string (l[k]'(by omega)).1)).setCell ⟨w.heap.size, k * 3 + 1, none⟩ (.int .i64 (l[k]'(by omega)).2.1)).setCell ⟨w.heap.size, k * 3 + 2, none⟩ (.int .i64 (l[k]'(by omega)).2.2))) := (((Same.of_set _ ⟨w.heap.size, k * 3, none⟩ (.string (l[k]'(by omega)).1) (fun h => absurd h.1 (Nat.lt_irrefl _))).trans (Same.of_set _ ⟨w.heap.size, k * 3 + 1, none⟩ (.int .i64 (l[k]'(by omega)).2.1) (fun h => absurd h.1 (Nat.lt_irrefl _)))).trans (Same.of_set _ ⟨w.heap.size, k * 3 + 2, none⟩ (.int .i64 (l[k]'(by omega)).2.2) (fun h => absurd h.1 (Nat.lt_irrefl _))))
      have HSZ : Hid ((((u.setCell ⟨w.heap.size, k * 3, none⟩ (.string (l[k]'(by omega)).1)).setCell ⟨w.heap.size, k * 3 + 1, none⟩ (.int .i64 (l[k]'(by omega)).2.1)).setCell ⟨w.heap.size, k * 3 + 2, none⟩ (.int .i64 (l[k]'(by omega)).2.2)).heap.size = u.heap.size) := by simp [Hid]
      go_wp2_with fail
      go_roundw
      case rel =>
        refine ⟨k + 1, (((c.setIfInBounds (k * 3) (.string (l[k]'(by omega)).1)).setIfInBounds (k * 3 + 1) (.int .i64 (l[k]'(by omega)).2.1)).setIfInBounds (k * 3 + 2) (.int .i64 (l[k]'(by omega)).2.2)), fun i b => (i = k ∧ wr.heap.size ≤ b ∧ b < u.heap.size) ∨ (i ≠ k ∧ Ss i b), by omega, by go_num, (set_row (set_row (set_row hrow2.out (k * 3) _) (k * 3 + 1) _) (k * 3 + 2) _), by simpa using hcs, ⟨?_, ?_⟩, ?_, (((hbel2.out.setCell (Nat.le_refl _) _).setCell (Nat.le_refl _) _).setCell (Nat.le_refl _) _)⟩
        · intro i b hb
          rw [HSZ.out]
          rcases hb with ⟨_, hb⟩ | ⟨_, hb⟩
          · exact ⟨by omega, hb.2⟩
          · have := hdis.out.1 i b hb; exact ⟨this.1, by have := hbu.size; omega⟩
        · intro i j b hi hj
          rcases hi with ⟨e1, h1⟩ | ⟨e1, h1⟩ <;> rcases hj with ⟨e2, h2⟩ | ⟨e2, h2⟩
          · rw [e1, e2]
          · have := hdis.out.1 j b h2; omega
          · have := hdis.out.1 i b h1; omega
          · exact hdis.out.2 i j b h1 h2
        intro i hi hik
        by_cases e : i = k
        · subst e
          refine ⟨g, ?_, ?_⟩
          · intro j hj
            rcases (show j = 0 ∨ j = 1 ∨ j = 2 by omega) with rfl | rfl | rfl
            · rw [ge0]
              simp only [Array.getElem?_setIfInBounds, Array.size_setIfInBounds, hcs]
              repeat (first | rw [if_pos True.intro] | rw [if_pos (by omega)] | rw [if_neg (by omega)])
            · rw [ge1]
              simp only [Array.getElem?_setIfInBounds, Array.size_setIfInBounds, hcs]
              repeat (first | rw [if_pos True.intro] | rw [if_pos (by omega)] | rw [if_neg (by omega)])
            · rw [ge2]
              simp only [Array.getElem?_setIfInBounds, Array.size_setIfInBounds, hcs]
              repeat (first | rw [if_pos True.intro] | rw [if_pos (by omega)] | rw [if_neg (by omega)])
          · refine Own.on_up (Own.on_same HG.out (fun b hb => HSM.out b ⟨?_, hb.2⟩)) (fun b hb => Or.inl ⟨rfl, hb⟩)
            have := hb.1
            omega
        · obtain ⟨g', h1, h2⟩ := hall.out i hi (by omega)
          refine ⟨g', fun j hj => ?_, ?_⟩
          · simp only [Array.getElem?_setIfInBounds]
            repeat rw [if_neg (by omega)]
            exact h1 j hj
          · refine Own.on_up (Own.on_same (Own.on_same h2 (Same.of_below hbu (fun b hb => (hdis.out.1 i b hb).2))) (fun b hb => HSM.out b ⟨(hdis.out.1 i b hb).1, ?_⟩)) (fun b hb => Or.inr ⟨e, hb⟩)
            have := (hdis.out.1 i b hb).2
            omega
      case measure => simp [intOf]; omega
    · have hkn : k = n := by omega
      subst hkn
      go_wp2_with fail
      go_ret
      refine ⟨.slice (some ⟨w.heap.size, 0, none⟩) k k, rfl, ⟨_, _, by rw [en], by rw [en]; exact ⟨by unfold maxLen; omega, Nat.le_refl _, fun h => nomatch h⟩, ?_⟩, hbel.out⟩
      rcases (show l = [] ∨ ∃ x, x ∈ l by cases l with | nil => exact .inl rfl | cons x _ => exact .inr ⟨x, List.mem_cons_self⟩) with e0 | ⟨x, _⟩
      · exact .inl e0
      refine .inr ⟨w.heap.size, 0, Ss, c, 106, rfl, fun i => l.getD i x, fun i hi => by simp [hi], ⟨hrow.out, ⟨Nat.le_refl _, hRw⟩, fun i b hb => ⟨⟨by have := hdis.out.1 i b hb; omega, (hdis.out.1 i b hb).2⟩, fun e => by have := hdis.out.1 i b hb; omega⟩, hdis.out.2, fun i hi => ?_⟩⟩
      obtain ⟨g', h1, h2⟩ := hall.out i hi (by omega)
      refine ⟨g', fun j hj => ?_, ?_⟩
      · rw [width_DClaimUse] at hj ⊢
        have e : 0 + i * 3 + j = i * 3 + j := by omega
        rw [e]
        exact h1 j hj
      · have e : l.getD i x = l[i] := by simp [hi]
        rw [e]
        exact h2

set_option maxRecDepth 100000 in
set_option maxHeartbeats 4000000 in
theorem toClaimWant_own (S : Nat → Prop) (a : DClaimWant) (c : Nat → Value) (w : World) (h : Lay.At S w a c) (hS : ∀ b, S b → b < w.heap.size) (hm : Lay.tot a ≤ 1048576) :
    Calls Tryz.prog 68 #[.agg #[c 0, c 1, c 2, c 3, c 4, c 5]] w fun e w' => ∃ g : Nat → Value, e = .returned (.agg #[g 0, g 1, g 2, g 3, g 4, g 5]) ∧ Own.On (fun b => w.heap.size ≤ b ∧ b < w'.heap.size) w' a g ∧ Below w.heap.size w w' := by
  rw [tot_DClaimWant] at hm
  rw [at_DClaimWant] at h
  obtain ⟨⟨e0, z0, y0⟩, ⟨e1, z1, y1⟩, H2, H3, H4, H5⟩ := h
  obtain ⟨v2, e2⟩ : ∃ v, c 2 = v := ⟨_, rfl⟩
  rw [e2] at H2
  obtain ⟨v3, e3⟩ : ∃ v, c 3 = v := ⟨_, rfl⟩
  rw [e3] at H3
  obtain ⟨v4, e4⟩ : ∃ v, c 4 = v := ⟨_, rfl⟩
  rw [e4] at H4
  obtain ⟨v5, e5⟩ : ∃ v, c 5 = v := ⟨_, rfl⟩
  rw [e5] at H5
  rw [e0, e1, e2, e3, e4, e5]
  clear e0 e1 e2 e3 e4 e5
  have C0 : Hid (Cp 75 48 w (((w.alloc (.cells #[.int .i64 a.1, .int .i64 a.2.1, v2, v3, v4, v5] 75)).alloc (.cells #[.int .i64 0, .int .i64 0, .slice none 0 0, .slice none 0 0, .slice none 0 0, .slice none 0 0] 48)).alloc (.cells #[.int .i64 a.1, .int .i64 a.2.1, .slice none 0 0, .slice none 0 0, .slice none 0 0, .slice none 0 0] 48)) #[.int .i64 a.1, .int .i64 a.2.1, v2, v3, v4, v5] #[.int .i64 0, .int .i64 0, .slice none 0 0, .slice none 0 0, .slice none 0 0, .slice none 0 0] _) := cp_init 75 48 w #[.int .i64 a.1, .int .i64 a.2.1, v2, v3, v4, v5] #[.int .i64 0, .int .i64 0, .slice none 0 0, .slice none 0 0, .slice none 0 0, .slice none 0 0] #[.int .i64 a.1, .int .i64 a.2.1, .slice none 0 0, .slice none 0 0, .slice none 0 0, .slice none 0 0]
  go_enter Tryz.func68, Tryz.ntmps68
  go_wp2_with fail
  refine (toStringS_own S _ v2 _ (H2.same (Same.of_below C0.out.bel hS)) (fun b hb => by have := hS b hb; simp; omega) (by omega)).mono ?_
  rintro e w1 ⟨r2, rfl, L2, hb1⟩
  obtain ⟨so2, sc2, er2, _⟩ := id L2
  subst er2
  have l1 : w.heap.size + 1 + 1 + 1 ≤ w1.heap.size := by have := hb1.size; simpa using this
  have M2 : Hid (OnL (fun b => w.heap.size + 1 + 1 + 1 ≤ b ∧ b < w1.heap.size) w1 a.2.2.1 (.slice so2 a.2.2.1.length sc2)) := L2.up (fun b hb => ⟨by have := hb.1; simp at this; omega, hb.2⟩)
  clear L2
  have C1 : Hid (Cp 75 48 w w1 #[.int .i64 a.1, .int .i64 a.2.1, v2, v3, v4, v5] #[.int .i64 0, .int .i64 0, .slice none 0 0, .slice none 0 0, .slice none 0 0, .slice none 0 0] _) := C0.out.next hb1
  obtain ⟨p2, q2⟩ := cell_row C1.out.out 2 _ rfl
  have C2 : Hid (Cp 75 48 w (w1.setCell ⟨w.heap.size + 1 + 1, 2, none⟩ (.slice so2 a.2.2.1.length sc2)) #[.int .i64 a.1, .int .i64 a.2.1, v2, v3, v4, v5] #[.int .i64 0, .int .i64 0, .slice none 0 0, .slice none 0 0, .slice none 0 0, .slice none 0 0] _) := C1.out.put 2 (.slice so2 a.2.2.1.length sc2)
  obtain ⟨ar3, _⟩ := cell_row C2.out.arg 3 (v3) rfl
  go_wp2_with fail
  refine (toClaimUseS_own S _ v3 _ (H3.same (Same.of_below C2.out.bel hS)) (fun b hb => by have := hS b hb; simp; omega) (by omega)).mono ?_
  rintro e w2 ⟨r3, rfl, L3, hb2⟩
  obtain ⟨so3, sc3, er3, _⟩ := id L3
  subst er3
  have l2 : w1.heap.size ≤ w2.heap.size := by have := hb2.size; simpa using this
  have M3 : Hid (OnL (fun b => w1.heap.size ≤ b ∧ b < w2.heap.size) w2 a.2.2.2.1 (.slice so3 a.2.2.2.1.length sc3)) := L3.up (fun b hb => ⟨by have := hb.1; simp at this; omega, hb.2⟩)
  clear L3
  have C3 : Hid (Cp 75 48 w w2 #[.int .i64 a.1, .int .i64 a.2.1, v2, v3, v4, v5] #[.int .i64 0, .int .i64 0, .slice none 0 0, .slice none 0 0, .slice none 0 0, .slice none 0 0] _) := C2.out.next hb2
  obtain ⟨p3, q3⟩ := cell_row C3.out.out 3 _ rfl
  have C4 : Hid (Cp 75 48 w (w2.setCell ⟨w.heap.size + 1 + 1, 3, none⟩ (.slice so3 a.2.2.2.1.length sc3)) #[.int .i64 a.1, .int .i64 a.2.1, v2, v3, v4, v5] #[.int .i64 0, .int .i64 0, .slice none 0 0, .slice none 0 0, .slice none 0 0, .slice none 0 0] _) := C3.out.put 3 (.slice so3 a.2.2.2.1.length sc3)
  obtain ⟨ar4, _⟩ := cell_row C4.out.arg 4 (v4) rfl
  go_wp2_with fail
  refine (toStringS_own S _ v4 _ (H4.same (Same.of_below C4.out.bel hS)) (fun b hb => by have := hS b hb; simp; omega) (by omega)).mono ?_
  rintro e w3 ⟨r4, rfl, L4, hb3⟩
  obtain ⟨so4, sc4, er4, _⟩ := id L4
  subst er4
  have l3 : w2.heap.size ≤ w3.heap.size := by have := hb3.size; simpa using this
  have M4 : Hid (OnL (fun b => w2.heap.size ≤ b ∧ b < w3.heap.size) w3 a.2.2.2.2.1 (.slice so4 a.2.2.2.2.1.length sc4)) := L4.up (fun b hb => ⟨by have := hb.1; simp at this; omega, hb.2⟩)
  clear L4
  have C5 : Hid (Cp 75 48 w w3 #[.int .i64 a.1, .int .i64 a.2.1, v2, v3, v4, v5] #[.int .i64 0, .int .i64 0, .slice none 0 0, .slice none 0 0, .slice none 0 0, .slice none 0 0] _) := C4.out.next hb3
  obtain ⟨p4, q4⟩ := cell_row C5.out.out 4 _ rfl
  have C6 : Hid (Cp 75 48 w (w3.setCell ⟨w.heap.size + 1 + 1, 4, none⟩ (.slice so4 a.2.2.2.2.1.length sc4)) #[.int .i64 a.1, .int .i64 a.2.1, v2, v3, v4, v5] #[.int .i64 0, .int .i64 0, .slice none 0 0, .slice none 0 0, .slice none 0 0, .slice none 0 0] _) := C5.out.put 4 (.slice so4 a.2.2.2.2.1.length sc4)
  obtain ⟨ar5, _⟩ := cell_row C6.out.arg 5 (v5) rfl
  go_wp2_with fail
  refine (toStringS_own S _ v5 _ (H5.same (Same.of_below C6.out.bel hS)) (fun b hb => by have := hS b hb; simp; omega) (by omega)).mono ?_
  rintro e w4 ⟨r5, rfl, L5, hb4⟩
  obtain ⟨so5, sc5, er5, _⟩ := id L5
  subst er5
  have l4 : w3.heap.size ≤ w4.heap.size := by have := hb4.size; simpa using this
  have M5 : Hid (OnL (fun b => w3.heap.size ≤ b ∧ b < w4.heap.size) w4 a.2.2.2.2.2 (.slice so5 a.2.2.2.2.2.length sc5)) := L5.up (fun b hb => ⟨by have := hb.1; simp at this; omega, hb.2⟩)
  clear L5
  have C7 : Hid (Cp 75 48 w w4 #[.int .i64 a.1, .int .i64 a.2.1, v2, v3, v4, v5] #[.int .i64 0, .int .i64 0, .slice none 0 0, .slice none 0 0, .slice none 0 0, .slice none 0 0] _) := C6.out.next hb4
  obtain ⟨p5, q5⟩ := cell_row C7.out.out 5 _ rfl
  have C8 : Hid (Cp 75 48 w (w4.setCell ⟨w.heap.size + 1 + 1, 5, none⟩ (.slice so5 a.2.2.2.2.2.length sc5)) #[.int .i64 a.1, .int .i64 a.2.1, v2, v3, v4, v5] #[.int .i64 0, .int .i64 0, .slice none 0 0, .slice none 0 0, .slice none 0 0, .slice none 0 0] _) := C7.out.put 5 (.slice so5 a.2.2.2.2.2.length sc5)
  obtain ⟨o0, _⟩ := cell_row C8.out.out 0 (.int .i64 a.1) rfl
  obtain ⟨rr0, rf0⟩ := cell_row C8.out.res 0 _ rfl
  obtain ⟨o1, _⟩ := cell_row C8.out.out 1 (.int .i64 a.2.1) rfl
  obtain ⟨rr1, rf1⟩ := cell_row C8.out.res 1 _ rfl
  obtain ⟨o2, _⟩ := cell_row C8.out.out 2 (.slice so2 a.2.2.1.length sc2) rfl
  obtain ⟨rr2, rf2⟩ := cell_row C8.out.res 2 _ rfl
  obtain ⟨o3, _⟩ := cell_row C8.out.out 3 (.slice so3 a.2.2.2.1.length sc3) rfl
  obtain ⟨rr3, rf3⟩ := cell_row C8.out.res 3 _ rfl
  obtain ⟨o4, _⟩ := cell_row C8.out.out 4 (.slice so4 a.2.2.2.2.1.length sc4) rfl
  obtain ⟨rr4, rf4⟩ := cell_row C8.out.res 4 _ rfl
  obtain ⟨o5, _⟩ := cell_row C8.out.out 5 (.slice so5 a.2.2.2.2.2.length sc5) rfl
  obtain ⟨rr5, rf5⟩ := cell_row C8.out.res 5 _ rfl
  have CF : Hid (Cp 75 48 w (((((((w4.setCell ⟨w.heap.size + 1 + 1, 5, none⟩ (.slice so5 a.2.2.2.2.2.length sc5)).setCell ⟨w.heap.size + 1, 0, none⟩ (.int .i64 a.1)).setCell ⟨w.heap.size + 1, 1, none⟩ (.int .i64 a.2.1)).setCell ⟨w.heap.size + 1, 2, none⟩ (.slice so2 a.2.2.1.length sc2)).setCell ⟨w.heap.size + 1, 3, none⟩ (.slice so3 a.2.2.2.1.length sc3)).setCell ⟨w.heap.size + 1, 4, none⟩ (.slice so4 a.2.2.2.2.1.length sc4)).setCell ⟨w.heap.size + 1, 5, none⟩ (.slice so5 a.2.2.2.2.2.length sc5)) #[.int .i64 a.1, .int .i64 a.2.1, v2, v3, v4, v5] _ _) := ((((((C8.out.ret 0 (.int .i64 a.1)).ret 1 (.int .i64 a.2.1)).ret 2 (.slice so2 a.2.2.1.length sc2)).ret 3 (.slice so3 a.2.2.2.1.length sc3)).ret 4 (.slice so4 a.2.2.2.2.1.length sc4)).ret 5 (.slice so5 a.2.2.2.2.2.length sc5))
  have f0 := (cell_row CF.out.res 0 (.int .i64 a.1) rfl).1
  have f1 := (cell_row CF.out.res 1 (.int .i64 a.2.1) rfl).1
  have f2 := (cell_row CF.out.res 2 (.slice so2 a.2.2.1.length sc2) rfl).1
  have f3 := (cell_row CF.out.res 3 (.slice so3 a.2.2.2.1.length sc3) rfl).1
  have f4 := (cell_row CF.out.res 4 (.slice so4 a.2.2.2.2.1.length sc4) rfl).1
  have f5 := (cell_row CF.out.res 5 (.slice so5 a.2.2.2.2.2.length sc5) rfl).1
  have hsz : Hid ((((((((w4.setCell ⟨w.heap.size + 1 + 1, 5, none⟩ (.slice so5 a.2.2.2.2.2.length sc5)).setCell ⟨w.heap.size + 1, 0, none⟩ (.int .i64 a.1)).setCell ⟨w.heap.size + 1, 1, none⟩ (.int .i64 a.2.1)).setCell ⟨w.heap.size + 1, 2, none⟩ (.slice so2 a.2.2.1.length sc2)).setCell ⟨w.heap.size + 1, 3, none⟩ (.slice so3 a.2.2.2.1.length sc3)).setCell ⟨w.heap.size + 1, 4, none⟩ (.slice so4 a.2.2.2.2.1.length sc4)).setCell ⟨w.heap.size + 1, 5, none⟩ (.slice so5 a.2.2.2.2.2.length sc5)).heap.size = w4.heap.size) := by simp [Hid]
  have S2 : Same (fun b => w.heap.size + 1 + 1 + 1 ≤ b ∧ b < w1.heap.size) w1 (((((((w4.setCell ⟨w.heap.size + 1 + 1, 5, none⟩ (.slice so5 a.2.2.2.2.2.length sc5)).setCell ⟨w.heap.size + 1, 0, none⟩ (.int .i64 a.1)).setCell ⟨w.heap.size + 1, 1, none⟩ (.int .i64 a.2.1)).setCell ⟨w.heap.size + 1, 2, none⟩ (.slice so2 a.2.2.1.length sc2)).setCell ⟨w.heap.size + 1, 3, none⟩ (.slice so3 a.2.2.2.1.length sc3)).setCell ⟨w.heap.size + 1, 4, none⟩ (.slice so4 a.2.2.2.2.1.length sc4)).setCell ⟨w.heap.size + 1, 5, none⟩ (.slice so5 a.2.2.2.2.2.length sc5)) := (((((((((((((Same.of_set _ ⟨w.heap.size + 1 + 1, 2, none⟩ (.slice so2 a.2.2.1.length sc2) (fun h => by have := h.1; simp at this; omega)).trans (Same.of_below hb2 (fun b hb => by have := hb.2; simp; omega))).trans (Same.of_set _ ⟨w.heap.size + 1 + 1, 3, none⟩ (.slice so3 a.2.2.2.1.length sc3) (fun h => by have := h.1; simp at this; omega))).trans (Same.of_below hb3 (fun b hb => by have := hb.2; simp; omega))).trans (Same.of_set _ ⟨w.heap.size + 1 + 1, 4, none⟩ (.slice so4 a.2.2.2.2.1.length sc4) (fun h => by have := h.1; simp at this; omega))).trans (Same.of_below hb4 (fun b hb => by have := hb.2; simp; omega))).trans (Same.of_set _ ⟨w.heap.size + 1 + 1, 5, none⟩ (.slice so5 a.2.2.2.2.2.length sc5) (fun h => by have := h.1; simp at this; omega))).trans (Same.of_set _ ⟨w.heap.size + 1, 0, none⟩ (.int .i64 a.1) (fun h => by have := h.1; simp at this; omega))).trans (Same.of_set _ ⟨w.heap.size + 1, 1, none⟩ (.int .i64 a.2.1) (fun h => by have := h.1; simp at this; omega))).trans (Same.of_set _ ⟨w.heap.size + 1, 2, none⟩ (.slice so2 a.2.2.1.length sc2) (fun h => by have := h.1; simp at this; omega))).trans (Same.of_set _ ⟨w.heap.size + 1, 3, none⟩ (.slice so3 a.2.2.2.1.length sc3) (fun h => by have := h.1; simp at this; omega))).trans (Same.of_set _ ⟨w.heap.size + 1, 4, none⟩ (.slice so4 a.2.2.2.2.1.length sc4) (fun h => by have := h.1; simp at this; omega))).trans (Same.of_set _ ⟨w.heap.size + 1, 5, none⟩ (.slice so5 a.2.2.2.2.2.length sc5) (fun h => by have := h.1; simp at this; omega)))
  have G2 : Hid (OnL (fun b => w.heap.size + 1 + 1 + 1 ≤ b ∧ b < w1.heap.size) (((((((w4.setCell ⟨w.heap.size + 1 + 1, 5, none⟩ (.slice so5 a.2.2.2.2.2.length sc5)).setCell ⟨w.heap.size + 1, 0, none⟩ (.int .i64 a.1)).setCell ⟨w.heap.size + 1, 1, none⟩ (.int .i64 a.2.1)).setCell ⟨w.heap.size + 1, 2, none⟩ (.slice so2 a.2.2.1.length sc2)).setCell ⟨w.heap.size + 1, 3, none⟩ (.slice so3 a.2.2.2.1.length sc3)).setCell ⟨w.heap.size + 1, 4, none⟩ (.slice so4 a.2.2.2.2.1.length sc4)).setCell ⟨w.heap.size + 1, 5, none⟩ (.slice so5 a.2.2.2.2.2.length sc5)) a.2.2.1 (.slice so2 a.2.2.1.length sc2)) := M2.out.same S2
  have S3 : Same (fun b => w1.heap.size ≤ b ∧ b < w2.heap.size) w2 (((((((w4.setCell ⟨w.heap.size + 1 + 1, 5, none⟩ (.slice so5 a.2.2.2.2.2.length sc5)).setCell ⟨w.heap.size + 1, 0, none⟩ (.int .i64 a.1)).setCell ⟨w.heap.size + 1, 1, none⟩ (.int .i64 a.2.1)).setCell ⟨w.heap.size + 1, 2, none⟩ (.slice so2 a.2.2.1.length sc2)).setCell ⟨w.heap.size + 1, 3, none⟩ (.slice so3 a.2.2.2.1.length sc3)).setCell ⟨w.heap.size + 1, 4, none⟩ (.slice so4 a.2.2.2.2.1.length sc4)).setCell ⟨w.heap.size + 1, 5, none⟩ (.slice so5 a.2.2.2.2.2.length sc5)) := (((((((((((Same.of_set _ ⟨w.heap.size + 1 + 1, 3, none⟩ (.slice so3 a.2.2.2.1.length sc3) (fun h => by have := h.1; simp at this; omega)).trans (Same.of_below hb3 (fun b hb => by have := hb.2; simp; omega))).trans (Same.of_set _ ⟨w.heap.size + 1 + 1, 4, none⟩ (.slice so4 a.2.2.2.2.1.length sc4) (fun h => by have := h.1; simp at this; omega))).trans (Same.of_below hb4 (fun b hb => by have := hb.2; simp; omega))).trans (Same.of_set _ ⟨w.heap.size + 1 + 1, 5, none⟩ (.slice so5 a.2.2.2.2.2.length sc5) (fun h => by have := h.1; simp at this; omega))).trans (Same.of_set _ ⟨w.heap.size + 1, 0, none⟩ (.int .i64 a.1) (fun h => by have := h.1; simp at this; omega))).trans (Same.of_set _ ⟨w.heap.size + 1, 1, none⟩ (.int .i64 a.2.1) (fun h => by have := h.1; simp at this; omega))).trans (Same.of_set _ ⟨w.heap.size + 1, 2, none⟩ (.slice so2 a.2.2.1.length sc2) (fun h => by have := h.1; simp at this; omega))).trans (Same.of_set _ ⟨w.heap.size + 1, 3, none⟩ (.slice so3 a.2.2.2.1.length sc3) (fun h => by have := h.1; simp at this; omega))).trans (Same.of_set _ ⟨w.heap.size + 1, 4, none⟩ (.slice so4 a.2.2.2.2.1.length sc4) (fun h => by have := h.1; simp at this; omega))).trans (Same.of_set _ ⟨w.heap.size + 1, 5, none⟩ (.slice so5 a.2.2.2.2.2.length sc5) (fun h => by have := h.1; simp at this; omega)))
  have G3 : Hid (OnL (fun b => w1.heap.size ≤ b ∧ b < w2.heap.size) (((((((w4.setCell ⟨w.heap.size + 1 + 1, 5, none⟩ (.slice so5 a.2.2.2.2.2.length sc5)).setCell ⟨w.heap.size + 1, 0, none⟩ (.int .i64 a.1)).setCell ⟨w.heap.size + 1, 1, none⟩ (.int .i64 a.2.1)).setCell ⟨w.heap.size + 1, 2, none⟩ (.slice so2 a.2.2.1.length sc2)).setCell ⟨w.heap.size + 1, 3, none⟩ (.slice so3 a.2.2.2.1.length sc3)).setCell ⟨w.heap.size + 1, 4, none⟩ (.slice so4 a.2.2.2.2.1.length sc4)).setCell ⟨w.heap.size + 1, 5, none⟩ (.slice so5 a.2.2.2.2.2.length sc5)) a.2.2.2.1 (.slice so3 a.2.2.2.1.length sc3)) := M3.out.same S3
  have S4 : Same (fun b => w2.heap.size ≤ b ∧ b < w3.heap.size) w3 (((((((w4.setCell ⟨w.heap.size + 1 + 1, 5, none⟩ (.slice so5 a.2.2.2.2.2.length sc5)).setCell ⟨w.heap.size + 1, 0, none⟩ (.int .i64 a.1)).setCell ⟨w.heap.size + 1, 1, none⟩ (.int .i64 a.2.1)).setCell ⟨w.heap.size + 1, 2, none⟩ (.slice so2 a.2.2.1.length sc2)).setCell ⟨w.heap.size + 1, 3, none⟩ (.slice so3 a.2.2.2.1.length sc3)).setCell ⟨w.heap.size + 1, 4, none⟩ (.slice so4 a.2.2.2.2.1.length sc4)).setCell ⟨w.heap.size + 1, 5, none⟩ (.slice so5 a.2.2.2.2.2.length sc5)) := (((((((((Same.of_set _ ⟨w.heap.size + 1 + 1, 4, none⟩ (.slice so4 a.2.2.2.2.1.length sc4) (fun h => by have := h.1; simp at this; omega)).trans (Same.of_below hb4 (fun b hb => by have := hb.2; simp; omega))).trans (Same.of_set _ ⟨w.heap.size + 1 + 1, 5, none⟩ (.slice so5 a.2.2.2.2.2.length sc5) (fun h => by have := h.1; simp at this; omega))).trans (Same.of_set _ ⟨w.heap.size + 1, 0, none⟩ (.int .i64 a.1) (fun h => by have := h.1; simp at this; omega))).trans (Same.of_set _ ⟨w.heap.size + 1, 1, none⟩ (.int .i64 a.2.1) (fun h => by have := h.1; simp at this; omega))).trans (Same.of_set _ ⟨w.heap.size + 1, 2, none⟩ (.slice so2 a.2.2.1.length sc2) (fun h => by have := h.1; simp at this; omega))).trans (Same.of_set _ ⟨w.heap.size + 1, 3, none⟩ (.slice so3 a.2.2.2.1.length sc3) (fun h => by have := h.1; simp at this; omega))).trans (Same.of_set _ ⟨w.heap.size + 1, 4, none⟩ (.slice so4 a.2.2.2.2.1.length sc4) (fun h => by have := h.1; simp at this; omega))).trans (Same.of_set _ ⟨w.heap.size + 1, 5, none⟩ (.slice so5 a.2.2.2.2.2.length sc5) (fun h => by have := h.1; simp at this; omega)))
  have G4 : Hid (OnL (fun b => w2.heap.size ≤ b ∧ b < w3.heap.size) (((((((w4.setCell ⟨w.heap.size + 1 + 1, 5, none⟩ (.slice so5 a.2.2.2.2.2.length sc5)).setCell ⟨w.heap.size + 1, 0, none⟩ (.int .i64 a.1)).setCell ⟨w.heap.size + 1, 1, none⟩ (.int .i64 a.2.1)).setCell ⟨w.heap.size + 1, 2, none⟩ (.slice so2 a.2.2.1.length sc2)).setCell ⟨w.heap.size + 1, 3, none⟩ (.slice so3 a.2.2.2.1.length sc3)).setCell ⟨w.heap.size + 1, 4, none⟩ (.slice so4 a.2.2.2.2.1.length sc4)).setCell ⟨w.heap.size + 1, 5, none⟩ (.slice so5 a.2.2.2.2.2.length sc5)) a.2.2.2.2.1 (.slice so4 a.2.2.2.2.1.length sc4)) := M4.out.same S4
  have S5 : Same (fun b => w3.heap.size ≤ b ∧ b < w4.heap.size) w4 (((((((w4.setCell ⟨w.heap.size + 1 + 1, 5, none⟩ (.slice so5 a.2.2.2.2.2.length sc5)).setCell ⟨w.heap.size + 1, 0, none⟩ (.int .i64 a.1)).setCell ⟨w.heap.size + 1, 1, none⟩ (.int .i64 a.2.1)).setCell ⟨w.heap.size + 1, 2, none⟩ (.slice so2 a.2.2.1.length sc2)).setCell ⟨w.heap.size + 1, 3, none⟩ (.slice so3 a.2.2.2.1.length sc3)).setCell ⟨w.heap.size + 1, 4, none⟩ (.slice so4 a.2.2.2.2.1.length sc4)).setCell ⟨w.heap.size + 1, 5, none⟩ (.slice so5 a.2.2.2.2.2.length sc5)) := (((((((Same.of_set _ ⟨w.heap.size + 1 + 1, 5, none⟩ (.slice so5 a.2.2.2.2.2.length sc5) (fun h => by have := h.1; simp at this; omega)).trans (Same.of_set _ ⟨w.heap.size + 1, 0, none⟩ (.int .i64 a.1) (fun h => by have := h.1; simp at this; omega))).trans (Same.of_set _ ⟨w.heap.size + 1, 1, none⟩ (.int .i64 a.2.1) (fun h => by have := h.1; simp at this; omega))).trans (Same.of_set _ ⟨w.heap.size + 1, 2, none⟩ (.slice so2 a.2.2.1.length sc2) (fun h => by have := h.1; simp at this; omega))).trans (Same.of_set _ ⟨w.heap.size + 1, 3, none⟩ (.slice so3 a.2.2.2.1.length sc3) (fun h => by have := h.1; simp at this; omega))).trans (Same.of_set _ ⟨w.heap.size + 1, 4, none⟩ (.slice so4 a.2.2.2.2.1.length sc4) (fun h => by have := h.1; simp at this; omega))).trans (Same.of_set _ ⟨w.heap.size + 1, 5, none⟩ (.slice so5 a.2.2.2.2.2.length sc5) (fun h => by have := h.1; simp at this; omega)))
  have G5 : Hid (OnL (fun b => w3.heap.size ≤ b ∧ b < w4.heap.size) (((((((w4.setCell ⟨w.heap.size + 1 + 1, 5, none⟩ (.slice so5 a.2.2.2.2.2.length sc5)).setCell ⟨w.heap.size + 1, 0, none⟩ (.int .i64 a.1)).setCell ⟨w.heap.size + 1, 1, none⟩ (.int .i64 a.2.1)).setCell ⟨w.heap.size + 1, 2, none⟩ (.slice so2 a.2.2.1.length sc2)).setCell ⟨w.heap.size + 1, 3, none⟩ (.slice so3 a.2.2.2.1.length sc3)).setCell ⟨w.heap.size + 1, 4, none⟩ (.slice so4 a.2.2.2.2.1.length sc4)).setCell ⟨w.heap.size + 1, 5, none⟩ (.slice so5 a.2.2.2.2.2.length sc5)) a.2.2.2.2.2 (.slice so5 a.2.2.2.2.2.length sc5)) := M5.out.same S5
  go_wp2_with fail
  exact bodyPost_ret (v := .agg #[.int .i64 a.1, .int .i64 a.2.1, .slice so2 a.2.2.1.length sc2, .slice so3 a.2.2.2.1.length sc3, .slice so4 a.2.2.2.2.1.length sc4, .slice so5 a.2.2.2.2.2.length sc5]) (by simp [results, Tryz.results68, go_sem, f0, f1, f2, f3, f4, f5]) rfl ⟨cs [.int .i64 a.1, .int .i64 a.2.1, .slice so2 a.2.2.1.length sc2, .slice so3 a.2.2.2.1.length sc3, .slice so4 a.2.2.2.2.1.length sc4, .slice so5 a.2.2.2.2.2.length sc5], rfl, on_DClaimWant.2 ⟨fun _ => False, fun b => w.heap.size + 1 + 1 + 1 ≤ b ∧ b < w4.heap.size, fun _ h => h.elim, fun b hb => ⟨by omega, by first | omega | (rw [hsz.out]; omega)⟩, ⟨rfl, z0, y0⟩, fun _ => False, fun b => w.heap.size + 1 + 1 + 1 ≤ b ∧ b < w4.heap.size, fun _ h => h.elim, fun b hb => ⟨by omega, by first | omega | (rw [hsz.out]; omega)⟩, ⟨rfl, z1, y1⟩, fun b => w.heap.size + 1 + 1 + 1 ≤ b ∧ b < w1.heap.size, fun b => w1.heap.size ≤ b ∧ b < w4.heap.size, fun b hb => ⟨⟨by omega, by first | omega | (rw [hsz.out]; omega)⟩, by omega⟩, fun b hb => ⟨by omega, by first | omega | (rw [hsz.out]; omega)⟩, G2.out, fun b => w1.heap.size ≤ b ∧ b < w2.heap.size, fun b => w2.heap.size ≤ b ∧ b < w4.heap.size, fun b hb => ⟨⟨by omega, by first | omega | (rw [hsz.out]; omega)⟩, by omega⟩, fun b hb => ⟨by omega, by first | omega | (rw [hsz.out]; omega)⟩, G3.out, fun b => w2.heap.size ≤ b ∧ b < w3.heap.size, fun b => w3.heap.size ≤ b ∧ b < w4.heap.size, fun b hb => ⟨⟨by omega, by first | omega | (rw [hsz.out]; omega)⟩, by omega⟩, fun b hb => ⟨by omega, by first | omega | (rw [hsz.out]; omega)⟩, G4.out, G5.out.up (fun b hb => ⟨by omega, by omega⟩)⟩, CF.out.bel⟩

set_option maxRecDepth 100000 in
set_option maxHeartbeats 4000000 in
theorem toClaimPart_own (S : Nat → Prop) (a : DClaimPart) (c : Nat → Value) (w : World) (h : Lay.At S w a c) (hS : ∀ b, S b → b < w.heap.size) (hm : Lay.tot a ≤ 1048576) :
    Calls Tryz.prog 49 #[.agg #[c 0, c 1, c 2, c 3, c 4, c 5, c 6]] w fun e w' => ∃ g : Nat → Value, e = .returned (.agg #[g 0, g 1, g 2, g 3, g 4, g 5, g 6]) ∧ Own.On (fun b => w.heap.size ≤ b ∧ b < w'.heap.size) w' a g ∧ Below w.heap.size w w' := by
  rw [tot_DClaimPart] at hm
  rw [at_DClaimPart] at h
  obtain ⟨⟨e0, z0, y0⟩, ⟨e1, z1, y1⟩, H2, H3, H4, H5, e6⟩ := h
  obtain ⟨v2, e2⟩ : ∃ v, c 2 = v := ⟨_, rfl⟩
  rw [e2] at H2
  obtain ⟨v3, e3⟩ : ∃ v, c 3 = v := ⟨_, rfl⟩
  rw [e3] at H3
  obtain ⟨v4, e4⟩ : ∃ v, c 4 = v := ⟨_, rfl⟩
  rw [e4] at H4
  obtain ⟨v5, e5⟩ : ∃ v, c 5 = v := ⟨_, rfl⟩
  rw [e5] at H5
  rw [e0, e1, e2, e3, e4, e5, e6]
  clear e0 e1 e2 e3 e4 e5 e6
  have C0 : Hid (Cp 77 50 w (((w.alloc (.cells #[.int .i64 a.1, .int .i64 a.2.1, v2, v3, v4, v5, .bool a.2.2.2.2.2.2] 77)).alloc (.cells #[.int .i64 0, .int .i64 0, .slice none 0 0, .slice none 0 0, .slice none 0 0, .slice none 0 0, .bool false] 50)).alloc (.cells #[.int .i64 0, .int .i64 0, .slice none 0 0, .slice none 0 0, .slice none 0 0, .slice none 0 0, .bool false] 50)) #[.int .i64 a.1, .int .i64 a.2.1, v2, v3, v4, v5, .bool a.2.2.2.2.2.2] #[.int .i64 0, .int .i64 0, .slice none 0 0, .slice none 0 0, .slice none 0 0, .slice none 0 0, .bool false] _) := cp_init 77 50 w #[.int .i64 a.1, .int .i64 a.2.1, v2, v3, v4, v5, .bool a.2.2.2.2.2.2] #[.int .i64 0, .int .i64 0, .slice none 0 0, .slice none 0 0, .slice none 0 0, .slice none 0 0, .bool false] #[.int .i64 0, .int .i64 0, .slice none 0 0, .slice none 0 0, .slice none 0 0, .slice none 0 0, .bool false]
  have HI : Hid (Lay.At S (((w.alloc (.cells #[.int .i64 a.1, .int .i64 a.2.1, v2, v3, v4, v5, .bool a.2.2.2.2.2.2] 77)).alloc (.cells #[.int .i64 0, .int .i64 0, .slice none 0 0, .slice none 0 0, .slice none 0 0, .slice none 0 0, .bool false] 50)).alloc (.cells #[.int .i64 0, .int .i64 0, .slice none 0 0, .slice none 0 0, .slice none 0 0, .slice none 0 0, .bool false] 50)) ((a.1, a.2.1, a.2.2.1, a.2.2.2.1, a.2.2.2.2.1, a.2.2.2.2.2.1) : DClaimWant) (cs [.int .i64 a.1, .int .i64 a.2.1, v2, v3, v4, v5])) := at_DClaimWant.2 ⟨⟨rfl, z0, y0⟩, ⟨rfl, z1, y1⟩, H2.same (Same.of_below C0.out.bel hS), H3.same (Same.of_below C0.out.bel hS), H4.same (Same.of_below C0.out.bel hS), H5.same (Same.of_below C0.out.bel hS)⟩
  have hm2 : Lay.tot ((a.1, a.2.1, a.2.2.1, a.2.2.2.1, a.2.2.2.2.1, a.2.2.2.2.2.1) : DClaimWant) ≤ 1048576 := by rw [tot_DClaimWant]; show _ ≤ _; omega
  go_enter Tryz.func49, Tryz.ntmps49
  go_wp2_with fail
  refine (toClaimWant_own S _ (cs [.int .i64 a.1, .int .i64 a.2.1, v2, v3, v4, v5]) _ HI.out (fun b hb => by have := hS b hb; have := C0.out.bel.size; omega) hm2).mono ?_
  rintro e w1 ⟨g, rfl, hg, hb1⟩
  obtain ⟨A0, B0, sp0, sq0, ⟨ge0, _, _⟩, A1, B1, sp1, sq1, ⟨ge1, _, _⟩, A2, B2, sp2, sq2, gl2, A3, B3, sp3, sq3, gl3, A4, B4, sp4, sq4, gl4, gl5⟩ := on_DClaimWant.1 hg
  obtain ⟨so2, sc2, ge2, _⟩ := id (OnL.at_ gl2)
  have ge2 : g 2 = .slice so2 a.2.2.1.length sc2 := ge2
  rw [ge2] at gl2
  obtain ⟨so3, sc3, ge3, _⟩ := id (OnL.at_ gl3)
  have ge3 : g 3 = .slice so3 a.2.2.2.1.length sc3 := ge3
  rw [ge3] at gl3
  obtain ⟨so4, sc4, ge4, _⟩ := id (OnL.at_ gl4)
  have ge4 : g 4 = .slice so4 a.2.2.2.2.1.length sc4 := ge4
  rw [ge4] at gl4
  obtain ⟨so5, sc5, ge5, _⟩ := id (OnL.at_ gl5)
  have ge5 : g 5 = .slice so5 a.2.2.2.2.2.1.length sc5 := ge5
  rw [ge5] at gl5
  rw [ge0, ge1, ge2, ge3, ge4, ge5]
  have l1 : w.heap.size + 1 + 1 + 1 ≤ w1.heap.size := by have := hb1.size; simpa using this
  have M2 : Hid (OnL A2 w1 a.2.2.1 (.slice so2 a.2.2.1.length sc2)) := gl2
  have N2 : Hid (∀ b, A2 b → w.heap.size + 1 + 1 < b ∧ b < w1.heap.size) := fun b hb => by have := (sq0 b (sq1 b (sp2 b hb).1)); have h1 := this.1; simp at h1; exact ⟨by omega, this.2⟩
  have M3 : Hid (OnL A3 w1 a.2.2.2.1 (.slice so3 a.2.2.2.1.length sc3)) := gl3
  have N3 : Hid (∀ b, A3 b → w.heap.size + 1 + 1 < b ∧ b < w1.heap.size) := fun b hb => by have := (sq0 b (sq1 b (sq2 b (sp3 b hb).1))); have h1 := this.1; simp at h1; exact ⟨by omega, this.2⟩
  have M4 : Hid (OnL A4 w1 a.2.2.2.2.1 (.slice so4 a.2.2.2.2.1.length sc4)) := gl4
  have N4 : Hid (∀ b, A4 b → w.heap.size + 1 + 1 < b ∧ b < w1.heap.size) := fun b hb => by have := (sq0 b (sq1 b (sq2 b (sq3 b (sp4 b hb).1)))); have h1 := this.1; simp at h1; exact ⟨by omega, this.2⟩
  have M5 : Hid (OnL B4 w1 a.2.2.2.2.2.1 (.slice so5 a.2.2.2.2.2.1.length sc5)) := gl5
  have N5 : Hid (∀ b, B4 b → w.heap.size + 1 + 1 < b ∧ b < w1.heap.size) := fun b hb => by have := (sq0 b (sq1 b (sq2 b (sq3 b (sq4 b hb))))); have h1 := this.1; simp at h1; exact ⟨by omega, this.2⟩
  have C1 : Hid (Cp 77 50 w w1 #[.int .i64 a.1, .int .i64 a.2.1, v2, v3, v4, v5, .bool a.2.2.2.2.2.2] #[.int .i64 0, .int .i64 0, .slice none 0 0, .slice none 0 0, .slice none 0 0, .slice none 0 0, .bool false] #[.int .i64 0, .int .i64 0, .slice none 0 0, .slice none 0 0, .slice none 0 0, .slice none 0 0, .bool false]) := C0.out.next hb1
  clear hg HI
  obtain ⟨p0, q0⟩ := cell_row C1.out.out 0 _ rfl
  obtain ⟨p1, q1⟩ := cell_row C1.out.out 1 _ rfl
  obtain ⟨p2, q2⟩ := cell_row C1.out.out 2 _ rfl
  obtain ⟨p3, q3⟩ := cell_row C1.out.out 3 _ rfl
  obtain ⟨p4, q4⟩ := cell_row C1.out.out 4 _ rfl
  obtain ⟨p5, q5⟩ := cell_row C1.out.out 5 _ rfl
  have C2 : Hid (Cp 77 50 w (w1.setCell ⟨w.heap.size + 1 + 1, 0, none⟩ (.int .i64 a.1)) #[.int .i64 a.1, .int .i64 a.2.1, v2, v3, v4, v5, .bool a.2.2.2.2.2.2] #[.int .i64 0, .int .i64 0, .slice none 0 0, .slice none 0 0, .slice none 0 0, .slice none 0 0, .bool false] #[.int .i64 a.1, .int .i64 0, .slice none 0 0, .slice none 0 0, .slice none 0 0, .slice none 0 0, .bool false]) := C1.out.put 0 (.int .i64 a.1)
  have C3 : Hid (Cp 77 50 w ((w1.setCell ⟨w.heap.size + 1 + 1, 0, none⟩ (.int .i64 a.1)).setCell ⟨w.heap.size + 1 + 1, 1, none⟩ (.int .i64 a.2.1)) #[.int .i64 a.1, .int .i64 a.2.1, v2, v3, v4, v5, .bool a.2.2.2.2.2.2] #[.int .i64 0, .int .i64 0, .slice none 0 0, .slice none 0 0, .slice none 0 0, .slice none 0 0, .bool false] #[.int .i64 a.1, .int .i64 a.2.1, .slice none 0 0, .slice none 0 0, .slice none 0 0, .slice none 0 0, .bool false]) := C2.out.put 1 (.int .i64 a.2.1)
  have C4 : Hid (Cp 77 50 w (((w1.setCell ⟨w.heap.size + 1 + 1, 0, none⟩ (.int .i64 a.1)).setCell ⟨w.heap.size + 1 + 1, 1, none⟩ (.int .i64 a.2.1)).setCell ⟨w.heap.size + 1 + 1, 2, none⟩ (.slice so2 a.2.2.1.length sc2)) #[.int .i64 a.1, .int .i64 a.2.1, v2, v3, v4, v5, .bool a.2.2.2.2.2.2] #[.int .i64 0, .int .i64 0, .slice none 0 0, .slice none 0 0, .slice none 0 0, .slice none 0 0, .bool false] #[.int .i64 a.1, .int .i64 a.2.1, .slice so2 a.2.2.1.length sc2, .slice none 0 0, .slice none 0 0, .slice none 0 0, .bool false]) := C3.out.put 2 (.slice so2 a.2.2.1.length sc2)
  have C5 : Hid (Cp 77 50 w ((((w1.setCell ⟨w.heap.size + 1 + 1, 0, none⟩ (.int .i64 a.1)).setCell ⟨w.heap.size + 1 + 1, 1, none⟩ (.int .i64 a.2.1)).setCell ⟨w.heap.size + 1 + 1, 2, none⟩ (.slice so2 a.2.2.1.length sc2)).setCell ⟨w.heap.size + 1 + 1, 3, none⟩ (.slice so3 a.2.2.2.1.length sc3)) #[.int .i64 a.1, .int .i64 a.2.1, v2, v3, v4, v5, .bool a.2.2.2.2.2.2] #[.int .i64 0, .int .i64 0, .slice none 0 0, .slice none 0 0, .slice none 0 0, .slice none 0 0, .bool false] #[.int .i64 a.1, .int .i64 a.2.1, .slice so2 a.2.2.1.length sc2, .slice so3 a.2.2.2.1.length sc3, .slice none 0 0, .slice none 0 0, .bool false]) := C4.out.put 3 (.slice so3 a.2.2.2.1.length sc3)
  have C6 : Hid (Cp 77 50 w (((((w1.setCell ⟨w.heap.size + 1 + 1, 0, none⟩ (.int .i64 a.1)).setCell ⟨w.heap.size + 1 + 1, 1, none⟩ (.int .i64 a.2.1)).setCell ⟨w.heap.size + 1 + 1, 2, none⟩ (.slice so2 a.2.2.1.length sc2)).setCell ⟨w.heap.size + 1 + 1, 3, none⟩ (.slice so3 a.2.2.2.1.length sc3)).setCell ⟨w.heap.size + 1 + 1, 4, none⟩ (.slice so4 a.2.2.2.2.1.length sc4)) #[.int .i64 a.1, .int .i64 a.2.1, v2, v3, v4, v5, .bool a.2.2.2.2.2.2] #[.int .i64 0, .int .i64 0, .slice none 0 0, .slice none 0 0, .slice none 0 0, .slice none 0 0, .bool false] #[.int .i64 a.1, .int .i64 a.2.1, .slice so2 a.2.2.1.length sc2, .slice so3 a.2.2.2.1.length sc3, .slice so4 a.2.2.2.2.1.length sc4, .slice none 0 0, .bool false]) := C5.out.put 4 (.slice so4 a.2.2.2.2.1.length sc4)
  have C7 : Hid (Cp 77 50 w ((((((w1.setCell ⟨w.heap.size + 1 + 1, 0, none⟩ (.int .i64 a.1)).setCell ⟨w.heap.size + 1 + 1, 1, none⟩ (.int .i64 a.2.1)).setCell ⟨w.heap.size + 1 + 1, 2, none⟩ (.slice so2 a.2.2.1.length sc2)).setCell ⟨w.heap.size + 1 + 1, 3, none⟩ (.slice so3 a.2.2.2.1.length sc3)).setCell ⟨w.heap.size + 1 + 1, 4, none⟩ (.slice so4 a.2.2.2.2.1.length sc4)).setCell ⟨w.heap.size + 1 + 1, 5, none⟩ (.slice so5 a.2.2.2.2.2.1.length sc5)) #[.int .i64 a.1, .int .i64 a.2.1, v2, v3, v4, v5, .bool a.2.2.2.2.2.2] #[.int .i64 0, .int .i64 0, .slice none 0 0, .slice none 0 0, .slice none 0 0, .slice none 0 0, .bool false] #[.int .i64 a.1, .int .i64 a.2.1, .slice so2 a.2.2.1.length sc2, .slice so3 a.2.2.2.1.length sc3, .slice so4 a.2.2.2.2.1.length sc4, .slice so5 a.2.2.2.2.2.1.length sc5, .bool false]) := C6.out.put 5 (.slice so5 a.2.2.2.2.2.1.length sc5)
  obtain ⟨ar6, _⟩ := cell_row C7.out.arg 6 (.bool a.2.2.2.2.2.2) rfl
  obtain ⟨p6, q6⟩ := cell_row C7.out.out 6 _ rfl
  have C8 : Hid (Cp 77 50 w (((((((w1.setCell ⟨w.heap.size + 1 + 1, 0, none⟩ (.int .i64 a.1)).setCell ⟨w.heap.size + 1 + 1, 1, none⟩ (.int .i64 a.2.1)).setCell ⟨w.heap.size + 1 + 1, 2, none⟩ (.slice so2 a.2.2.1.length sc2)).setCell ⟨w.heap.size + 1 + 1, 3, none⟩ (.slice so3 a.2.2.2.1.length sc3)).setCell ⟨w.heap.size + 1 + 1, 4, none⟩ (.slice so4 a.2.2.2.2.1.length sc4)).setCell ⟨w.heap.size + 1 + 1, 5, none⟩ (.slice so5 a.2.2.2.2.2.1.length sc5)).setCell ⟨w.heap.size + 1 + 1, 6, none⟩ (.bool a.2.2.2.2.2.2)) #[.int .i64 a.1, .int .i64 a.2.1, v2, v3, v4, v5, .bool a.2.2.2.2.2.2] #[.int .i64 0, .int .i64 0, .slice none 0 0, .slice none 0 0, .slice none 0 0, .slice none 0 0, .bool false] #[.int .i64 a.1, .int .i64 a.2.1, .slice so2 a.2.2.1.length sc2, .slice so3 a.2.2.2.1.length sc3, .slice so4 a.2.2.2.2.1.length sc4, .slice so5 a.2.2.2.2.2.1.length sc5, .bool a.2.2.2.2.2.2]) := C7.out.put 6 (.bool a.2.2.2.2.2.2)
  obtain ⟨o0, _⟩ := cell_row C8.out.out 0 (.int .i64 a.1) rfl
  obtain ⟨rr0, rf0⟩ := cell_row C8.out.res 0 _ rfl
  obtain ⟨o1, _⟩ := cell_row C8.out.out 1 (.int .i64 a.2.1) rfl
  obtain ⟨rr1, rf1⟩ := cell_row C8.out.res 1 _ rfl
  obtain ⟨o2, _⟩ := cell_row C8.out.out 2 (.slice so2 a.2.2.1.length sc2) rfl
  obtain ⟨rr2, rf2⟩ := cell_row C8.out.res 2 _ rfl
  obtain ⟨o3, _⟩ := cell_row C8.out.out 3 (.slice so3 a.2.2.2.1.length sc3) rfl
  obtain ⟨rr3, rf3⟩ := cell_row C8.out.res 3 _ rfl
  obtain ⟨o4, _⟩ := cell_row C8.out.out 4 (.slice so4 a.2.2.2.2.1.length sc4) rfl
  obtain ⟨rr4, rf4⟩ := cell_row C8.out.res 4 _ rfl
  obtain ⟨o5, _⟩ := cell_row C8.out.out 5 (.slice so5 a.2.2.2.2.2.1.length sc5) rfl
  obtain ⟨rr5, rf5⟩ := cell_row C8.out.res 5 _ rfl
  obtain ⟨o6, _⟩ := cell_row C8.out.out 6 (.bool a.2.2.2.2.2.2) rfl
  obtain ⟨rr6, rf6⟩ := cell_row C8.out.res 6 _ rfl
  have R0 : Hid (Cp 77 50 w ((((((((w1.setCell ⟨w.heap.size + 1 + 1, 0, none⟩ (.int .i64 a.1)).setCell ⟨w.heap.size + 1 + 1, 1, none⟩ (.int .i64 a.2.1)).setCell ⟨w.heap.size + 1 + 1, 2, none⟩ (.slice so2 a.2.2.1.length sc2)).setCell ⟨w.heap.size + 1 + 1, 3, none⟩ (.slice so3 a.2.2.2.1.length sc3)).setCell ⟨w.heap.size + 1 + 1, 4, none⟩ (.slice so4 a.2.2.2.2.1.length sc4)).setCell ⟨w.heap.size + 1 + 1, 5, none⟩ (.slice so5 a.2.2.2.2.2.1.length sc5)).setCell ⟨w.heap.size + 1 + 1, 6, none⟩ (.bool a.2.2.2.2.2.2)).setCell ⟨w.heap.size + 1, 0, none⟩ (.int .i64 a.1)) #[.int .i64 a.1, .int .i64 a.2.1, v2, v3, v4, v5, .bool a.2.2.2.2.2.2] #[.int .i64 a.1, .int .i64 0, .slice none 0 0, .slice none 0 0, .slice none 0 0, .slice none 0 0, .bool false] #[.int .i64 a.1, .int .i64 a.2.1, .slice so2 a.2.2.1.length sc2, .slice so3 a.2.2.2.1.length sc3, .slice so4 a.2.2.2.2.1.length sc4, .slice so5 a.2.2.2.2.2.1.length sc5, .bool a.2.2.2.2.2.2]) := C8.out.ret 0 (.int .i64 a.1)
  have R1 : Hid (Cp 77 50 w (((((((((w1.setCell ⟨w.heap.size + 1 + 1, 0, none⟩ (.int .i64 a.1)).setCell ⟨w.heap.size + 1 + 1, 1, none⟩ (.int .i64 a.2.1)).setCell ⟨w.heap.size + 1 + 1, 2, none⟩ (.slice so2 a.2.2.1.length sc2)).setCell ⟨w.heap.size + 1 + 1, 3, none⟩ (.slice so3 a.2.2.2.1.length sc3)).setCell ⟨w.heap.size + 1 + 1, 4, none⟩ (.slice so4 a.2.2.2.2.1.length sc4)).setCell ⟨w.heap.size + 1 + 1, 5, none⟩ (.slice so5 a.2.2.2.2.2.1.length sc5)).setCell ⟨w.heap.size + 1 + 1, 6, none⟩ (.bool a.2.2.2.2.2.2)).setCell ⟨w.heap.size + 1, 0, none⟩ (.int .i64 a.1)).setCell ⟨w.heap.size + 1, 1, none⟩ (.int .i64 a.2.1)) #[.int .i64 a.1, .int .i64 a.2.1, v2, v3, v4, v5, .bool a.2.2.2.2.2.2] #[.int .i64 a.1, .int .i64 a.2.1, .slice none 0 0, .slice none 0 0, .slice none 0 0, .slice none 0 0, .bool false] #[.int .i64 a.1, .int .i64 a.2.1, .slice so2 a.2.2.1.length sc2, .slice so3 a.2.2.2.1.length sc3, .slice so4 a.2.2.2.2.1.length sc4, .slice so5 a.2.2.2.2.2.1.length sc5, .bool a.2.2.2.2.2.2]) := R0.out.ret 1 (.int .i64 a.2.1)
  have R2 : Hid (Cp 77 50 w ((((((((((w1.setCell ⟨w.heap.size + 1 + 1, 0, none⟩ (.int .i64 a.1)).setCell ⟨w.heap.size + 1 + 1, 1, none⟩ (.int .i64 a.2.1)).setCell ⟨w.heap.size + 1 + 1, 2, none⟩ (.slice so2 a.2.2.1.length sc2)).setCell ⟨w.heap.size + 1 + 1, 3, none⟩ (.slice so3 a.2.2.2.1.length sc3)).setCell ⟨w.heap.size + 1 + 1, 4, none⟩ (.slice so4 a.2.2.2.2.1.length sc4)).setCell ⟨w.heap.size + 1 + 1, 5, none⟩ (.slice so5 a.2.2.2.2.2.1.length sc5)).setCell ⟨w.heap.size + 1 + 1, 6, none⟩ (.bool a.2.2.2.2.2.2)).setCell ⟨w.heap.size + 1, 0, none⟩ (.int .i64 a.1)).setCell ⟨w.heap.size + 1, 1, none⟩ (.int .i64 a.2.1)).setCell ⟨w.heap.size + 1, 2, none⟩ (.slice so2 a.2.2.1.length sc2)) #[.int .i64 a.1, .int .i64 a.2.1, v2, v3, v4, v5, .bool a.2.2.2.2.2.2] #[.int .i64 a.1, .int .i64 a.2.1, .slice so2 a.2.2.1.length sc2, .slice none 0 0, .slice none 0 0, .slice none 0 0, .bool false] #[.int .i64 a.1, .int .i64 a.2.1, .slice so2 a.2.2.1.length sc2, .slice so3 a.2.2.2.1.length sc3, .slice so4 a.2.2.2.2.1.length sc4, .slice so5 a.2.2.2.2.2.1.length sc5, .bool a.2.2.2.2.2.2]) := R1.out.ret 2 (.slice so2 a.2.2.1.length sc2)
  have R3 : Hid (Cp 77 50 w (((((((((((w1.setCell ⟨w.heap.size + 1 + 1, 0, none⟩ (.int .i64 a.1)).setCell ⟨w.heap.size + 1 + 1, 1, none⟩ (.int .i64 a.2.1)).setCell ⟨w.heap.size + 1 + 1, 2, none⟩ (.slice so2 a.2.2.1.length sc2)).setCell ⟨w.heap.size + 1 + 1, 3, none⟩ (.slice so3 a.2.2.2.1.length sc3)).setCell ⟨w.heap.size + 1 + 1, 4, none⟩ (.slice so4 a.2.2.2.2.1.length sc4)).setCell ⟨w.heap.size + 1 + 1, 5, none⟩ (.slice so5 a.2.2.2.2.2.1.length sc5)).setCell ⟨w.heap.size + 1 + 1, 6, none⟩ (.bool a.2.2.2.2.2.2)).setCell ⟨w.heap.size + 1, 0, none⟩ (.int .i64 a.1)).setCell ⟨w.heap.size + 1, 1, none⟩ (.int .i64 a.2.1)).setCell ⟨w.heap.size + 1, 2, none⟩ (.slice so2 a.2.2.1.length sc2)).setCell ⟨w.heap.size + 1, 3, none⟩ (.slice so3 a.2.2.2.1.length sc3)) #[.int .i64 a.1, .int .i64 a.2.1, v2, v3, v4, v5, .bool a.2.2.2.2.2.2] #[.int .i64 a.1, .int .i64 a.2.1, .slice so2 a.2.2.1.length sc2, .slice so3 a.2.2.2.1.length sc3, .slice none 0 0, .slice none 0 0, .bool false] #[.int .i64 a.1, .int .i64 a.2.1, .slice so2 a.2.2.1.length sc2, .slice so3 a.2.2.2.1.length sc3, .slice so4 a.2.2.2.2.1.length sc4, .slice so5 a.2.2.2.2.2.1.length sc5, .bool a.2.2.2.2.2.2]) := R2.out.ret 3 (.slice so3 a.2.2.2.1.length sc3)
  have R4 : Hid (Cp 77 50 w ((((((((((((w1.setCell ⟨w.heap.size + 1 + 1, 0, none⟩ (.int .i64 a.1)).setCell ⟨w.heap.size + 1 + 1, 1, none⟩ (.int .i64 a.2.1)).setCell ⟨w.heap.size + 1 + 1, 2, none⟩ (.slice so2 a.2.2.1.length sc2)).setCell ⟨w.heap.size + 1 + 1, 3, none⟩ (.slice so3 a.2.2.2.1.length sc3)).setCell ⟨w.heap.size + 1 + 1, 4, none⟩ (.slice so4 a.2.2.2.2.1.length sc4)).setCell ⟨w.heap.size + 1 + 1, 5, none⟩ (.slice so5 a.2.2.2.2.2.1.length sc5)).setCell ⟨w.heap.size + 1 + 1, 6, none⟩ (.bool a.2.2.2.2.2.2)).setCell ⟨w.heap.size + 1, 0, none⟩ (.int .i64 a.1)).setCell ⟨w.heap.size + 1, 1, none⟩ (.int .i64 a.2.1)).setCell ⟨w.heap.size + 1, 2, none⟩ (.slice so2 a.2.2.1.length sc2)).setCell ⟨w.heap.size + 1, 3, none⟩ (.slice so3 a.2.2.2.1.length sc3)).setCell ⟨w.heap.size + 1, 4, none⟩ (.slice so4 a.2.2.2.2.1.length sc4)) #[.int .i64 a.1, .int .i64 a.2.1, v2, v3, v4, v5, .bool a.2.2.2.2.2.2] #[.int .i64 a.1, .int .i64 a.2.1, .slice so2 a.2.2.1.length sc2, .slice so3 a.2.2.2.1.length sc3, .slice so4 a.2.2.2.2.1.length sc4, .slice none 0 0, .bool false] #[.int .i64 a.1, .int .i64 a.2.1, .slice so2 a.2.2.1.length sc2, .slice so3 a.2.2.2.1.length sc3, .slice so4 a.2.2.2.2.1.length sc4, .slice so5 a.2.2.2.2.2.1.length sc5, .bool a.2.2.2.2.2.2]) := R3.out.ret 4 (.slice so4 a.2.2.2.2.1.length sc4)
  have R5 : Hid (Cp 77 50 w (((((((((((((w1.setCell ⟨w.heap.size + 1 + 1, 0, none⟩ (.int .i64 a.1)).setCell ⟨w.heap.size + 1 + 1, 1, none⟩ (.int .i64 a.2.1)).setCell ⟨w.heap.size + 1 + 1, 2, none⟩ (.slice so2 a.2.2.1.length sc2)).setCell ⟨w.heap.size + 1 + 1, 3, none⟩ (.slice so3 a.2.2.2.1.length sc3)).setCell ⟨w.heap.size + 1 + 1, 4, none⟩ (.slice so4 a.2.2.2.2.1.length sc4)).setCell ⟨w.heap.size + 1 + 1, 5, none⟩ (.slice so5 a.2.2.2.2.2.1.length sc5)).setCell ⟨w.heap.size + 1 + 1, 6, none⟩ (.bool a.2.2.2.2.2.2)).setCell ⟨w.heap.size + 1, 0, none⟩ (.int .i64 a.1)).setCell ⟨w.heap.size + 1, 1, none⟩ (.int .i64 a.2.1)).setCell ⟨w.heap.size + 1, 2, none⟩ (.slice so2 a.2.2.1.length sc2)).setCell ⟨w.heap.size + 1, 3, none⟩ (.slice so3 a.2.2.2.1.length sc3)).setCell ⟨w.heap.size + 1, 4, none⟩ (.slice so4 a.2.2.2.2.1.length sc4)).setCell ⟨w.heap.size + 1, 5, none⟩ (.slice so5 a.2.2.2.2.2.1.length sc5)) #[.int .i64 a.1, .int .i64 a.2.1, v2, v3, v4, v5, .bool a.2.2.2.2.2.2] #[.int .i64 a.1, .int .i64 a.2.1, .slice so2 a.2.2.1.length sc2, .slice so3 a.2.2.2.1.length sc3, .slice so4 a.2.2.2.2.1.length sc4, .slice so5 a.2.2.2.2.2.1.length sc5, .bool false] #[.int .i64 a.1, .int .i64 a.2.1, .slice so2 a.2.2.1.length sc2, .slice so3 a.2.2.2.1.length sc3, .slice so4 a.2.2.2.2.1.length sc4, .slice so5 a.2.2.2.2.2.1.length sc5, .bool a.2.2.2.2.2.2]) := R4.out.ret 5 (.slice so5 a.2.2.2.2.2.1.length sc5)
  have CF : Hid (Cp 77 50 w ((((((((((((((w1.setCell ⟨w.heap.size + 1 + 1, 0, none⟩ (.int .i64 a.1)).setCell ⟨w.heap.size + 1 + 1, 1, none⟩ (.int .i64 a.2.1)).setCell ⟨w.heap.size + 1 + 1, 2, none⟩ (.slice so2 a.2.2.1.length sc2)).setCell ⟨w.heap.size + 1 + 1, 3, none⟩ (.slice so3 a.2.2.2.1.length sc3)).setCell ⟨w.heap.size + 1 + 1, 4, none⟩ (.slice so4 a.2.2.2.2.1.length sc4)).setCell ⟨w.heap.size + 1 + 1, 5, none⟩ (.slice so5 a.2.2.2.2.2.1.length sc5)).setCell ⟨w.heap.size + 1 + 1, 6, none⟩ (.bool a.2.2.2.2.2.2)).setCell ⟨w.heap.size + 1, 0, none⟩ (.int .i64 a.1)).setCell ⟨w.heap.size + 1, 1, none⟩ (.int .i64 a.2.1)).setCell ⟨w.heap.size + 1, 2, none⟩ (.slice so2 a.2.2.1.length sc2)).setCell ⟨w.heap.size + 1, 3, none⟩ (.slice so3 a.2.2.2.1.length sc3)).setCell ⟨w.heap.size + 1, 4, none⟩ (.slice so4 a.2.2.2.2.1.length sc4)).setCell ⟨w.heap.size + 1, 5, none⟩ (.slice so5 a.2.2.2.2.2.1.length sc5)).setCell ⟨w.heap.size + 1, 6, none⟩ (.bool a.2.2.2.2.2.2)) #[.int .i64 a.1, .int .i64 a.2.1, v2, v3, v4, v5, .bool a.2.2.2.2.2.2] #[.int .i64 a.1, .int .i64 a.2.1, .slice so2 a.2.2.1.length sc2, .slice so3 a.2.2.2.1.length sc3, .slice so4 a.2.2.2.2.1.length sc4, .slice so5 a.2.2.2.2.2.1.length sc5, .bool a.2.2.2.2.2.2] #[.int .i64 a.1, .int .i64 a.2.1, .slice so2 a.2.2.1.length sc2, .slice so3 a.2.2.2.1.length sc3, .slice so4 a.2.2.2.2.1.length sc4, .slice so5 a.2.2.2.2.2.1.length sc5, .bool a.2.2.2.2.2.2]) := R5.out.ret 6 (.bool a.2.2.2.2.2.2)
  have f0 := (cell_row CF.out.res 0 (.int .i64 a.1) rfl).1
  have f1 := (cell_row CF.out.res 1 (.int .i64 a.2.1) rfl).1
  have f2 := (cell_row CF.out.res 2 (.slice so2 a.2.2.1.length sc2) rfl).1
  have f3 := (cell_row CF.out.res 3 (.slice so3 a.2.2.2.1.length sc3) rfl).1
  have f4 := (cell_row CF.out.res 4 (.slice so4 a.2.2.2.2.1.length sc4) rfl).1
  have f5 := (cell_row CF.out.res 5 (.slice so5 a.2.2.2.2.2.1.length sc5) rfl).1
  have f6 := (cell_row CF.out.res 6 (.bool a.2.2.2.2.2.2) rfl).1
  have hsz : Hid (((((((((((((((w1.setCell ⟨w.heap.size + 1 + 1, 0, none⟩ (.int .i64 a.1)).setCell ⟨w.heap.size + 1 + 1, 1, none⟩ (.int .i64 a.2.1)).setCell ⟨w.heap.size + 1 + 1, 2, none⟩ (.slice so2 a.2.2.1.length sc2)).setCell ⟨w.heap.size + 1 + 1, 3, none⟩ (.slice so3 a.2.2.2.1.length sc3)).setCell ⟨w.heap.size + 1 + 1, 4, none⟩ (.slice so4 a.2.2.2.2.1.length sc4)).setCell ⟨w.heap.size + 1 + 1, 5, none⟩ (.slice so5 a.2.2.2.2.2.1.length sc5)).setCell ⟨w.heap.size + 1 + 1, 6, none⟩ (.bool a.2.2.2.2.2.2)).setCell ⟨w.heap.size + 1, 0, none⟩ (.int .i64 a.1)).setCell ⟨w.heap.size + 1, 1, none⟩ (.int .i64 a.2.1)).setCell ⟨w.heap.size + 1, 2, none⟩ (.slice so2 a.2.2.1.length sc2)).setCell ⟨w.heap.size + 1, 3, none⟩ (.slice so3 a.2.2.2.1.length sc3)).setCell ⟨w.heap.size + 1, 4, none⟩ (.slice so4 a.2.2.2.2.1.length sc4)).setCell ⟨w.heap.size + 1, 5, none⟩ (.slice so5 a.2.2.2.2.2.1.length sc5)).setCell ⟨w.heap.size + 1, 6, none⟩ (.bool a.2.2.2.2.2.2)).heap.size = w1.heap.size) := by simp [Hid]
  have SS : Same (fun b => w.heap.size + 1 + 1 < b ∧ b < w1.heap.size) w1 ((((((((((((((w1.setCell ⟨w.heap.size + 1 + 1, 0, none⟩ (.int .i64 a.1)).setCell ⟨w.heap.size + 1 + 1, 1, none⟩ (.int .i64 a.2.1)).setCell ⟨w.heap.size + 1 + 1, 2, none⟩ (.slice so2 a.2.2.1.length sc2)).setCell ⟨w.heap.size + 1 + 1, 3, none⟩ (.slice so3 a.2.2.2.1.length sc3)).setCell ⟨w.heap.size + 1 + 1, 4, none⟩ (.slice so4 a.2.2.2.2.1.length sc4)).setCell ⟨w.heap.size + 1 + 1, 5, none⟩ (.slice so5 a.2.2.2.2.2.1.length sc5)).setCell ⟨w.heap.size + 1 + 1, 6, none⟩ (.bool a.2.2.2.2.2.2)).setCell ⟨w.heap.size + 1, 0, none⟩ (.int .i64 a.1)).setCell ⟨w.heap.size + 1, 1, none⟩ (.int .i64 a.2.1)).setCell ⟨w.heap.size + 1, 2, none⟩ (.slice so2 a.2.2.1.length sc2)).setCell ⟨w.heap.size + 1, 3, none⟩ (.slice so3 a.2.2.2.1.length sc3)).setCell ⟨w.heap.size + 1, 4, none⟩ (.slice so4 a.2.2.2.2.1.length sc4)).setCell ⟨w.heap.size + 1, 5, none⟩ (.slice so5 a.2.2.2.2.2.1.length sc5)).setCell ⟨w.heap.size + 1, 6, none⟩ (.bool a.2.2.2.2.2.2)) := ((((((((((((((Same.of_set _ ⟨w.heap.size + 1 + 1, 0, none⟩ (.int .i64 a.1) (fun h => absurd h.1 (Nat.lt_irrefl _))).trans (Same.of_set _ ⟨w.heap.size + 1 + 1, 1, none⟩ (.int .i64 a.2.1) (fun h => absurd h.1 (Nat.lt_irrefl _)))).trans (Same.of_set _ ⟨w.heap.size + 1 + 1, 2, none⟩ (.slice so2 a.2.2.1.length sc2) (fun h => absurd h.1 (Nat.lt_irrefl _)))).trans (Same.of_set _ ⟨w.heap.size + 1 + 1, 3, none⟩ (.slice so3 a.2.2.2.1.length sc3) (fun h => absurd h.1 (Nat.lt_irrefl _)))).trans (Same.of_set _ ⟨w.heap.size + 1 + 1, 4, none⟩ (.slice so4 a.2.2.2.2.1.length sc4) (fun h => absurd h.1 (Nat.lt_irrefl _)))).trans (Same.of_set _ ⟨w.heap.size + 1 + 1, 5, none⟩ (.slice so5 a.2.2.2.2.2.1.length sc5) (fun h => absurd h.1 (Nat.lt_irrefl _)))).trans (Same.of_set _ ⟨w.heap.size + 1 + 1, 6, none⟩ (.bool a.2.2.2.2.2.2) (fun h => absurd h.1 (Nat.lt_irrefl _)))).trans (Same.of_set _ ⟨w.heap.size + 1, 0, none⟩ (.int .i64 a.1) (fun h => by have := h.1; simp at this; omega))).trans (Same.of_set _ ⟨w.heap.size + 1, 1, none⟩ (.int .i64 a.2.1) (fun h => by have := h.1; simp at this; omega))).trans (Same.of_set _ ⟨w.heap.size + 1, 2, none⟩ (.slice so2 a.2.2.1.length sc2) (fun h => by have := h.1; simp at this; omega))).trans (Same.of_set _ ⟨w.heap.size + 1, 3, none⟩ (.slice so3 a.2.2.2.1.length sc3) (fun h => by have := h.1; simp at this; omega))).trans (Same.of_set _ ⟨w.heap.size + 1, 4, none⟩ (.slice so4 a.2.2.2.2.1.length sc4) (fun h => by have := h.1; simp at this; omega))).trans (Same.of_set _ ⟨w.heap.size + 1, 5, none⟩ (.slice so5 a.2.2.2.2.2.1.length sc5) (fun h => by have := h.1; simp at this; omega))).trans (Same.of_set _ ⟨w.heap.size + 1, 6, none⟩ (.bool a.2.2.2.2.2.2) (fun h => by have := h.1; simp at this; omega)))
  have G2 : Hid (OnL A2 ((((((((((((((w1.setCell ⟨w.heap.size + 1 + 1, 0, none⟩ (.int .i64 a.1)).setCell ⟨w.heap.size + 1 + 1, 1, none⟩ (.int .i64 a.2.1)).setCell ⟨w.heap.size + 1 + 1, 2, none⟩ (.slice so2 a.2.2.1.length sc2)).setCell ⟨w.heap.size + 1 + 1, 3, none⟩ (.slice so3 a.2.2.2.1.length sc3)).setCell ⟨w.heap.size + 1 + 1, 4, none⟩ (.slice so4 a.2.2.2.2.1.length sc4)).setCell ⟨w.heap.size + 1 + 1, 5, none⟩ (.slice so5 a.2.2.2.2.2.1.length sc5)).setCell ⟨w.heap.size + 1 + 1, 6, none⟩ (.bool a.2.2.2.2.2.2)).setCell ⟨w.heap.size + 1, 0, none⟩ (.int .i64 a.1)).setCell ⟨w.heap.size + 1, 1, none⟩ (.int .i64 a.2.1)).setCell ⟨w.heap.size + 1, 2, none⟩ (.slice so2 a.2.2.1.length sc2)).setCell ⟨w.heap.size + 1, 3, none⟩ (.slice so3 a.2.2.2.1.length sc3)).setCell ⟨w.heap.size + 1, 4, none⟩ (.slice so4 a.2.2.2.2.1.length sc4)).setCell ⟨w.heap.size + 1, 5, none⟩ (.slice so5 a.2.2.2.2.2.1.length sc5)).setCell ⟨w.heap.size + 1, 6, none⟩ (.bool a.2.2.2.2.2.2)) a.2.2.1 (.slice so2 a.2.2.1.length sc2)) := M2.out.same (fun b hb => SS b (N2.out b hb))
  have G3 : Hid (OnL A3 ((((((((((((((w1.setCell ⟨w.heap.size + 1 + 1, 0, none⟩ (.int .i64 a.1)).setCell ⟨w.heap.size + 1 + 1, 1, none⟩ (.int .i64 a.2.1)).setCell ⟨w.heap.size + 1 + 1, 2, none⟩ (.slice so2 a.2.2.1.length sc2)).setCell ⟨w.heap.size + 1 + 1, 3, none⟩ (.slice so3 a.2.2.2.1.length sc3)).setCell ⟨w.heap.size + 1 + 1, 4, none⟩ (.slice so4 a.2.2.2.2.1.length sc4)).setCell ⟨w.heap.size + 1 + 1, 5, none⟩ (.slice so5 a.2.2.2.2.2.1.length sc5)).setCell ⟨w.heap.size + 1 + 1, 6, none⟩ (.bool a.2.2.2.2.2.2)).setCell ⟨w.heap.size + 1, 0, none⟩ (.int .i64 a.1)).setCell ⟨w.heap.size + 1, 1, none⟩ (.int .i64 a.2.1)).setCell ⟨w.heap.size + 1, 2, none⟩ (.slice so2 a.2.2.1.length sc2)).setCell ⟨w.heap.size + 1, 3, none⟩ (.slice so3 a.2.2.2.1.length sc3)).setCell ⟨w.heap.size + 1, 4, none⟩ (.slice so4 a.2.2.2.2.1.length sc4)).setCell ⟨w.heap.size + 1, 5, none⟩ (.slice so5 a.2.2.2.2.2.1.length sc5)).setCell ⟨w.heap.size + 1, 6, none⟩ (.bool a.2.2.2.2.2.2)) a.2.2.2.1 (.slice so3 a.2.2.2.1.length sc3)) := M3.out.same (fun b hb => SS b (N3.out b hb))
  have G4 : Hid (OnL A4 ((((((((((((((w1.setCell ⟨w.heap.size + 1 + 1, 0, none⟩ (.int .i64 a.1)).setCell ⟨w.heap.size + 1 + 1, 1, none⟩ (.int .i64 a.2.1)).setCell ⟨w.heap.size + 1 + 1, 2, none⟩ (.slice so2 a.2.2.1.length sc2)).setCell ⟨w.heap.size + 1 + 1, 3, none⟩ (.slice so3 a.2.2.2.1.length sc3)).setCell ⟨w.heap.size + 1 + 1, 4, none⟩ (.slice so4 a.2.2.2.2.1.length sc4)).setCell ⟨w.heap.size + 1 + 1, 5, none⟩ (.slice so5 a.2.2.2.2.2.1.length sc5)).setCell ⟨w.heap.size + 1 + 1, 6, none⟩ (.bool a.2.2.2.2.2.2)).setCell ⟨w.heap.size + 1, 0, none⟩ (.int .i64 a.1)).setCell ⟨w.heap.size + 1, 1, none⟩ (.int .i64 a.2.1)).setCell ⟨w.heap.size + 1, 2, none⟩ (.slice so2 a.2.2.1.length sc2)).setCell ⟨w.heap.size + 1, 3, none⟩ (.slice so3 a.2.2.2.1.length sc3)).setCell ⟨w.heap.size + 1, 4, none⟩ (.slice so4 a.2.2.2.2.1.length sc4)).setCell ⟨w.heap.size + 1, 5, none⟩ (.slice so5 a.2.2.2.2.2.1.length sc5)).setCell ⟨w.heap.size + 1, 6, none⟩ (.bool a.2.2.2.2.2.2)) a.2.2.2.2.1 (.slice so4 a.2.2.2.2.1.length sc4)) := M4.out.same (fun b hb => SS b (N4.out b hb))
  have G5 : Hid (OnL B4 ((((((((((((((w1.setCell ⟨w.heap.size + 1 + 1, 0, none⟩ (.int .i64 a.1)).setCell ⟨w.heap.size + 1 + 1, 1, none⟩ (.int .i64 a.2.1)).setCell ⟨w.heap.size + 1 + 1, 2, none⟩ (.slice so2 a.2.2.1.length sc2)).setCell ⟨w.heap.size + 1 + 1, 3, none⟩ (.slice so3 a.2.2.2.1.length sc3)).setCell ⟨w.heap.size + 1 + 1, 4, none⟩ (.slice so4 a.2.2.2.2.1.length sc4)).setCell ⟨w.heap.size + 1 + 1, 5, none⟩ (.slice so5 a.2.2.2.2.2.1.length sc5)).setCell ⟨w.heap.size + 1 + 1, 6, none⟩ (.bool a.2.2.2.2.2.2)).setCell ⟨w.heap.size + 1, 0, none⟩ (.int .i64 a.1)).setCell ⟨w.heap.size + 1, 1, none⟩ (.int .i64 a.2.1)).setCell ⟨w.heap.size + 1, 2, none⟩ (.slice so2 a.2.2.1.length sc2)).setCell ⟨w.heap.size + 1, 3, none⟩ (.slice so3 a.2.2.2.1.length sc3)).setCell ⟨w.heap.size + 1, 4, none⟩ (.slice so4 a.2.2.2.2.1.length sc4)).setCell ⟨w.heap.size + 1, 5, none⟩ (.slice so5 a.2.2.2.2.2.1.length sc5)).setCell ⟨w.heap.size + 1, 6, none⟩ (.bool a.2.2.2.2.2.2)) a.2.2.2.2.2.1 (.slice so5 a.2.2.2.2.2.1.length sc5)) := M5.out.same (fun b hb => SS b (N5.out b hb))
  have NS : Hid (∀ b, ((((w.alloc (.cells #[.int .i64 a.1, .int .i64 a.2.1, v2, v3, v4, v5, .bool a.2.2.2.2.2.2] 77)).alloc (.cells #[.int .i64 0, .int .i64 0, .slice none 0 0, .slice none 0 0, .slice none 0 0, .slice none 0 0, .bool false] 50)).alloc (.cells #[.int .i64 0, .int .i64 0, .slice none 0 0, .slice none 0 0, .slice none 0 0, .slice none 0 0, .bool false] 50)).heap.size ≤ b ∧ b < w1.heap.size) → (w.heap.size ≤ b ∧ b < ((((((((((((((w1.setCell ⟨w.heap.size + 1 + 1, 0, none⟩ (.int .i64 a.1)).setCell ⟨w.heap.size + 1 + 1, 1, none⟩ (.int .i64 a.2.1)).setCell ⟨w.heap.size + 1 + 1, 2, none⟩ (.slice so2 a.2.2.1.length sc2)).setCell ⟨w.heap.size + 1 + 1, 3, none⟩ (.slice so3 a.2.2.2.1.length sc3)).setCell ⟨w.heap.size + 1 + 1, 4, none⟩ (.slice so4 a.2.2.2.2.1.length sc4)).setCell ⟨w.heap.size + 1 + 1, 5, none⟩ (.slice so5 a.2.2.2.2.2.1.length sc5)).setCell ⟨w.heap.size + 1 + 1, 6, none⟩ (.bool a.2.2.2.2.2.2)).setCell ⟨w.heap.size + 1, 0, none⟩ (.int .i64 a.1)).setCell ⟨w.heap.size + 1, 1, none⟩ (.int .i64 a.2.1)).setCell ⟨w.heap.size + 1, 2, none⟩ (.slice so2 a.2.2.1.length sc2)).setCell ⟨w.heap.size + 1, 3, none⟩ (.slice so3 a.2.2.2.1.length sc3)).setCell ⟨w.heap.size + 1, 4, none⟩ (.slice so4 a.2.2.2.2.1.length sc4)).setCell ⟨w.heap.size + 1, 5, none⟩ (.slice so5 a.2.2.2.2.2.1.length sc5)).setCell ⟨w.heap.size + 1, 6, none⟩ (.bool a.2.2.2.2.2.2)).heap.size)) := fun b hb => ⟨by have := hb.1; simp at this; omega, by rw [hsz.out]; exact hb.2⟩
  go_wp2_with fail
  exact bodyPost_ret (v := .agg #[.int .i64 a.1, .int .i64 a.2.1, .slice so2 a.2.2.1.length sc2, .slice so3 a.2.2.2.1.length sc3, .slice so4 a.2.2.2.2.1.length sc4, .slice so5 a.2.2.2.2.2.1.length sc5, .bool a.2.2.2.2.2.2]) (by simp [results, Tryz.results49, go_sem, f0, f1, f2, f3, f4, f5, f6]) rfl ⟨cs [.int .i64 a.1, .int .i64 a.2.1, .slice so2 a.2.2.1.length sc2, .slice so3 a.2.2.2.1.length sc3, .slice so4 a.2.2.2.2.1.length sc4, .slice so5 a.2.2.2.2.2.1.length sc5, .bool a.2.2.2.2.2.2], rfl, on_DClaimPart.2 ⟨A0, B0, (fun b hb => ⟨NS.out b (sp0 b hb).1, (sp0 b hb).2⟩), (fun b hb => NS.out b (sq0 b hb)), ⟨rfl, z0, y0⟩, A1, B1, sp1, sq1, ⟨rfl, z1, y1⟩, A2, B2, sp2, sq2, G2.out, A3, B3, sp3, sq3, G3.out, A4, B4, sp4, sq4, G4.out, B4, (fun _ => False), (fun b hb => ⟨hb, fun h => h⟩), (fun _ h => h.elim), G5.out, rfl⟩, CF.out.bel⟩

set_option maxRecDepth 100000 in
set_option maxHeartbeats 4000000 in
theorem toClaimFoeS_own (S : Nat → Prop) (l : List DClaimFoe) (v : Value) (w : World) (h : AtL S w l v) (hS : ∀ b, S b → b < w.heap.size) (hm : totL l ≤ 1048576) :
    Calls Tryz.prog 18 #[v] w fun e w' => ∃ r, e = .returned r ∧ OnL (fun b => w.heap.size ≤ b ∧ b < w'.heap.size) w' l r ∧ Below w.heap.size w w' := by
  obtain ⟨oa, cap, rfl, hn, hc⟩ := h
  have hln := totL_len l
  have HTE : Hid (∀ i (h : i < l.length), Lay.tot l[i] ≤ 1048576) := fun i h => Nat.le_trans (totL_el l i h) hm
  obtain ⟨n, en⟩ : ∃ n, l.length = n := ⟨_, rfl⟩
  rw [en] at hn hln
  rw [en]
  have HC : Hid _ := hc
  clear hc hn
  obtain ⟨i0, hi, hz0, hz1, hz2⟩ := info_parts infoClaimFoeS
  obtain ⟨M, hM⟩ : ∃ M, M = madeCells (.agg #[.string ByteArray.empty, .string ByteArray.empty] : Value).cells ((n : Int).toNat * i0.size) := ⟨_, rfl⟩
  have hMs : M.size = n * 2 := by rw [hM, size_madeCells, hz1]; simp
  have hmk : ∀ W : World, (Instr.makeSlice 29 (.int .i64 (n : Int)) (.int .i64 (n : Int))).run Tryz.prog W = .ok (.slice (some ⟨W.heap.size, 0, none⟩) n n) (W.alloc (.cells M 83)) := fun W => by
    have h := run_make (P := Tryz.prog) W 29 83 i0 (.agg #[.string ByteArray.empty, .string ByteArray.empty]) underClaimFoeS hi hz0 .i64 .i64 (n : Int) (n : Int) (by omega) (by omega) (by rw [hz2]; omega) (by omega)
    rw [← hM] at h
    simpa using h
  clear hM
  go_enter Tryz.func18, Tryz.ntmps18
  go_wp2
  go_loopw [4] (fun i wr => ∃ (k : Nat) (c : Array Value) (Ss : Nat → Nat → Prop), k ≤ n ∧ i = .int .i64 k ∧ Hid (wr.heap[w.heap.size]? = some (.cells c 83 (0, 0))) ∧ c.size = n * 2 ∧ Hid ((∀ i b, Ss i b → w.heap.size < b ∧ b < wr.heap.size) ∧ ∀ i j b, Ss i b → Ss j b → i = j) ∧ Hid (∀ i (h : i < l.length), i < k → ∃ g : Nat → Value, (∀ j, j < 2 → c[i * 2 + j]? = some (g j)) ∧ Own.On (Ss i) wr l[i] g) ∧ Hid (Below w.heap.size w wr)) (fun i _ => n - (intOf i).toNat)
  case atStart => exact ⟨0, M, fun _ _ => False, Nat.zero_le _, rfl, heap_alloc_new w _, hMs, ⟨fun _ _ h => h.elim, fun _ _ _ h => h.elim⟩, fun _ _ h => by omega, (Below.refl _ _).alloc (Nat.le_refl _) _⟩
  case round =>
    obtain ⟨k, c, Ss, hk, rfl, hrow, hcs, hdis, hall, hbel⟩ := hrel
    have hRw : w.heap.size < wr.heap.size := (Array.getElem?_eq_some_iff.1 hrow.out).1
    by_cases hlt : k < n
    · obtain ⟨b, off, rfl, hbS, cc, hcell, hat⟩ := HC.out k (by omega)
      have hb := hS b hbS
      rw [width_DClaimFoe] at hcell
      have e0 : wr.cell? ⟨b, off + k * 2, none⟩ = some (cc 0) := (hbel.out.cell (p := ⟨b, off + k * 2, none⟩) (by show b < _; omega)).trans (by simpa using hcell 0 (by omega))
      have e1 : wr.cell? ⟨b, off + k * 2 + 1, none⟩ = some (cc 1) := (hbel.out.cell (p := ⟨b, off + k * 2 + 1, none⟩) (by show b < _; omega)).trans (by simpa using hcell 1 (by omega))
      clear hcell
      have HAT : Hid _ := hat
      clear hat
      go_wp2_with fail
      refine (toClaimFoe_own S _ cc _ (Lay.same HAT.out (Same.of_below hbel.out hS)) (fun b hb => by have := hS b hb; omega) (HTE.out k (by omega))).mono ?_
      rintro e u ⟨g, rfl, hg, hbu⟩
      have HG : Hid _ := hg
      clear hg
      have hus := hbu.size
      have hrow2 : Hid (u.heap[w.heap.size]? = some (.cells c 83 (0, 0))) := (hbu.block _ hRw).trans hrow.out
      have hbel2 : Hid (Below w.heap.size w u) := hbel.out.trans (hbu.mono (by omega))
      obtain ⟨⟨ge0, _⟩, ⟨ge1, _⟩⟩ := at_DClaimFoe.1 (Own.on_at HG.out)
      rw [ge0, ge1]
      obtain ⟨v0, hv0⟩ : ∃ v, c[k * 2]? = some v := ⟨_, Array.getElem?_eq_getElem (by omega)⟩
      obtain ⟨hcl0, hfr0⟩ := cell_row hrow2.out (k * 2) v0 hv0
      clear hv0
      obtain ⟨v1, hv1⟩ : ∃ v, c[k * 2 + 1]? = some v := ⟨_, Array.getElem?_eq_getElem (by omega)⟩
      obtain ⟨hcl1, hfr1⟩ := cell_row hrow2.out (k * 2 + 1) v1 hv1
      clear hv1
      have HSM : Hid (Same (fun b => w.heap.size < b ∧ b < u.heap.size) u ((u.setCell ⟨w.heap.size, k * 2, none⟩ (.string (l[k]'(by omega)).1)).setCell ⟨w.heap.size, k * 2 + 1, none⟩ (.string (l[k]'(by omega)).2))) := ((Same.of_set _ ⟨w.heap.size, k * 2, none⟩ (.string (l[k]'(by omega)).1) (fun h => absurd h.1 (Nat.lt_irrefl _))).trans (Same.of_set _ ⟨w.heap.size, k * 2 + 1, none⟩ (.string (l[k]'(by omega)).2) (fun h => absurd h.1 (Nat.lt_irrefl _))))
      have HSZ : Hid (((u.setCell ⟨w.heap.size, k * 2, none⟩ (.string (l[k]'(by omega)).1)).setCell ⟨w.heap.size, k * 2 + 1, none⟩ (.string (l[k]'(by omega)).2)).heap.size = u.heap.size) := by simp [Hid]
      go_wp2_with fail
      go_roundw
      case rel =>
        refine ⟨k + 1, ((c.setIfInBounds (k * 2) (.string (l[k]'(by omega)).1)).setIfInBounds (k * 2 + 1) (.string (l[k]'(by omega)).2)), fun i b => (i = k ∧ wr.heap.size ≤ b ∧ b < u.heap.size) ∨ (i ≠ k ∧ Ss i b), by omega, by go_num, (set_row (set_row hrow2.out (k * 2) _) (k * 2 + 1) _), by simpa using hcs, ⟨?_, ?_⟩, ?_, ((hbel2.out.setCell (Nat.le_refl _) _).setCell (Nat.le_refl _) _)⟩
        · intro i b hb
          rw [HSZ.out]
          rcases hb with ⟨_, hb⟩ | ⟨_, hb⟩
          · exact ⟨by omega, hb.2⟩
          · have := hdis.out.1 i b hb; exact ⟨this.1, by have := hbu.size; omega⟩
        · intro i j b hi hj
          rcases hi with ⟨e1, h1⟩ | ⟨e1, h1⟩ <;> rcases hj with ⟨e2, h2⟩ | ⟨e2, h2⟩
          · rw [e1, e2]
          · have := hdis.out.1 j b h2; omega
          · have := hdis.out.1 i b h1; omega
          · exact hdis.out.2 i j b h1 h2
        intro i hi hik
        by_cases e : i = k
        · subst e
          refine ⟨g, ?_, ?_⟩
          · intro j hj
            rcases (show j = 0 ∨ j = 1 by omega) with rfl | rfl
            · rw [ge0]
              simp only [Array.getElem?_setIfInBounds, Array.size_setIfInBounds, hcs]
              repeat (first | rw [if_pos True.intro] | rw [if_pos (by omega)] | rw [if_neg (by omega)])
            · rw [ge1]
              simp only [Array.getElem?_setIfInBounds, Array.size_setIfInBounds, hcs]
              repeat (first | rw [if_pos True.intro] | rw [if_pos (by omega)] | rw [if_neg (by omega)])
          · refine Own.on_up (Own.on_same HG.out (fun b hb => HSM.out b ⟨?_, hb.2⟩)) (fun b hb => Or.inl ⟨rfl, hb⟩)
            have := hb.1
            omega
        · obtain ⟨g', h1, h2⟩ := hall.out i hi (by omega)
          refine ⟨g', fun j hj => ?_, ?_⟩
          · simp only [Array.getElem?_setIfInBounds]
            repeat rw [if_neg (by omega)]
            exact h1 j hj
          · refine Own.on_up (Own.on_same (Own.on_same h2 (Same.of_below hbu (fun b hb => (hdis.out.1 i b hb).2))) (fun b hb => HSM.out b ⟨(hdis.out.1 i b hb).1, ?_⟩)) (fun b hb => Or.inr ⟨e, hb⟩)
            have := (hdis.out.1 i b hb).2
            omega
      case measure => simp [intOf]; omega
    · have hkn : k = n := by omega
      subst hkn
      go_wp2_with fail
      go_ret
      refine ⟨.slice (some ⟨w.heap.size, 0, none⟩) k k, rfl, ⟨_, _, by rw [en], by rw [en]; exact ⟨by unfold maxLen; omega, Nat.le_refl _, fun h => nomatch h⟩, ?_⟩, hbel.out⟩
      rcases (show l = [] ∨ ∃ x, x ∈ l by cases l with | nil => exact .inl rfl | cons x _ => exact .inr ⟨x, List.mem_cons_self⟩) with e0 | ⟨x, _⟩
      · exact .inl e0
      refine .inr ⟨w.heap.size, 0, Ss, c, 83, rfl, fun i => l.getD i x, fun i hi => by simp [hi], ⟨hrow.out, ⟨Nat.le_refl _, hRw⟩, fun i b hb => ⟨⟨by have := hdis.out.1 i b hb; omega, (hdis.out.1 i b hb).2⟩, fun e => by have := hdis.out.1 i b hb; omega⟩, hdis.out.2, fun i hi => ?_⟩⟩
      obtain ⟨g', h1, h2⟩ := hall.out i hi (by omega)
      refine ⟨g', fun j hj => ?_, ?_⟩
      · rw [width_DClaimFoe] at hj ⊢
        have e : 0 + i * 2 + j = i * 2 + j := by omega
        rw [e]
        exact h1 j hj
      · have e : l.getD i x = l[i] := by simp [hi]
        rw [e]
        exact h2

set_option maxRecDepth 100000 in
set_option maxHeartbeats 4000000 in
theorem toClaimSpotS_own (S : Nat → Prop) (l : List DClaimSpot) (v : Value) (w : World) (h : AtL S w l v) (hS : ∀ b, S b → b < w.heap.size) (hm : totL l ≤ 1048576) :
    Calls Tryz.prog 19 #[v] w fun e w' => ∃ r, e = .returned r ∧ OnL (fun b => w.heap.size ≤ b ∧ b < w'.heap.size) w' l r ∧ Below w.heap.size w w' := by
  obtain ⟨oa, cap, rfl, hn, hc⟩ := h
  have hln := totL_len l
  have HTE : Hid (∀ i (h : i < l.length), Lay.tot l[i] ≤ 1048576) := fun i h => Nat.le_trans (totL_el l i h) hm
  obtain ⟨n, en⟩ : ∃ n, l.length = n := ⟨_, rfl⟩
  rw [en] at hn hln
  rw [en]
  have HC : Hid _ := hc
  clear hc hn
  obtain ⟨i0, hi, hz0, hz1, hz2⟩ := info_parts infoClaimSpotS
  obtain ⟨M, hM⟩ : ∃ M, M = madeCells (.agg #[.string ByteArray.empty, .int .i64 0, .int .i64 0, .int .i64 0, .slice none 0 0] : Value).cells ((n : Int).toNat * i0.size) := ⟨_, rfl⟩
  have hMs : M.size = n * 5 := by rw [hM, size_madeCells, hz1]; simp
  have hmk : ∀ W : World, (Instr.makeSlice 30 (.int .i64 (n : Int)) (.int .i64 (n : Int))).run Tryz.prog W = .ok (.slice (some ⟨W.heap.size, 0, none⟩) n n) (W.alloc (.cells M 81)) := fun W => by
    have h := run_make (P := Tryz.prog) W 30 81 i0 (.agg #[.string ByteArray.empty, .int .i64 0, .int .i64 0, .int .i64 0, .slice none 0 0]) underClaimSpotS hi hz0 .i64 .i64 (n : Int) (n : Int) (by omega) (by omega) (by rw [hz2]; omega) (by omega)
    rw [← hM] at h
    simpa using h
  clear hM
  go_enter Tryz.func19, Tryz.ntmps19
  go_wp2
  go_loopw [4] (fun i wr => ∃ (k : Nat) (c : Array Value) (Ss : Nat → Nat → Prop), k ≤ n ∧ i = .int .i64 k ∧ Hid (wr.heap[w.heap.size]? = some (.cells c 81 (0, 0))) ∧ c.size = n * 5 ∧ Hid ((∀ i b, Ss i b → w.heap.size < b ∧ b < wr.heap.size) ∧ ∀ i j b, Ss i b → Ss j b → i = j) ∧ Hid (∀ i (h : i < l.length), i < k → ∃ g : Nat → Value, (∀ j, j < 5 → c[i * 5 + j]? = some (g j)) ∧ Own.On (Ss i) wr l[i] g) ∧ Hid (Below w.heap.size w wr)) (fun i _ => n - (intOf i).toNat)
  case atStart => exact ⟨0, M, fun _ _ => False, Nat.zero_le _, rfl, heap_alloc_new w _, hMs, ⟨fun _ _ h => h.elim, fun _ _ _ h => h.elim⟩, fun _ _ h => by omega, (Below.refl _ _).alloc (Nat.le_refl _) _⟩
  case round =>
    obtain ⟨k, c, Ss, hk, rfl, hrow, hcs, hdis, hall, hbel⟩ := hrel
    have hRw : w.heap.size < wr.heap.size := (Array.getElem?_eq_some_iff.1 hrow.out).1
    by_cases hlt : k < n
    · obtain ⟨b, off, rfl, hbS, cc, hcell, hat⟩ := HC.out k (by omega)
      have hb := hS b hbS
      rw [width_DClaimSpot] at hcell
      have e0 : wr.cell? ⟨b, off + k * 5, none⟩ = some (cc 0) := (hbel.out.cell (p := ⟨b, off + k * 5, none⟩) (by show b < _; omega)).trans (by simpa using hcell 0 (by omega))
      have e1 : wr.cell? ⟨b, off + k * 5 + 1, none⟩ = some (cc 1) := (hbel.out.cell (p := ⟨b, off + k * 5 + 1, none⟩) (by show b < _; omega)).trans (by simpa using hcell 1 (by omega))
      have e2 : wr.cell? ⟨b, off + k * 5 + 2, none⟩ = some (cc 2) := (hbel.out.cell (p := ⟨b, off + k * 5 + 2, none⟩) (by show b < _; omega)).trans (by simpa using hcell 2 (by omega))
      have e3 : wr.cell? ⟨b, off + k * 5 + 3, none⟩ = some (cc 3) := (hbel.out.cell (p := ⟨b, off + k * 5 + 3, none⟩) (by show b < _; omega)).trans (by simpa using hcell 3 (by omega))
      have e4 : wr.cell? ⟨b, off + k * 5 + 4, none⟩ = some (cc 4) := (hbel.out.cell (p := ⟨b, off + k * 5 + 4, none⟩) (by show b < _; omega)).trans (by simpa using hcell 4 (by omega))
      clear hcell
      have HAT : Hid _ := hat
      clear hat
      go_wp2_with fail
      refine (toClaimSpot_own S _ cc _ (Lay.same HAT.out (Same.of_below hbel.out hS)) (fun b hb => by have := hS b hb; omega) (HTE.out k (by omega))).mono ?_
      rintro e u ⟨g, rfl, hg, hbu⟩
      have HG : Hid _ := hg
      clear hg
      have hus := hbu.size
      have hrow2 : Hid (u.heap[w.heap.size]? = some (.cells c 81 (0, 0))) := (hbu.block _ hRw).trans hrow.out
      have hbel2 : Hid (Below w.heap.size w u) := hbel.out.trans (hbu.mono (by omega))
      obtain ⟨⟨ge0, _⟩, ⟨ge1, _, _⟩, ⟨ge2, _, _⟩, ⟨ge3, _, _⟩, gl4⟩ := at_DClaimSpot.1 (Own.on_at HG.out)
      obtain ⟨go4, gc4, ge4, _⟩ := gl4
      rw [ge0, ge1, ge2, ge3, ge4]
      obtain ⟨v0, hv0⟩ : ∃ v, c[k * 5]? = some v := ⟨_, Array.getElem?_eq_getElem (by omega)⟩
      obtain ⟨hcl0, hfr0⟩ := cell_row hrow2.out (k * 5) v0 hv0
      clear hv0
      obtain ⟨v1, hv1⟩ : ∃ v, c[k * 5 + 1]? = some v := ⟨_, Array.getElem?_eq_getElem (by omega)⟩
      obtain ⟨hcl1, hfr1⟩ := cell_row hrow2.out (k * 5 + 1) v1 hv1
      clear hv1
      obtain ⟨v2, hv2⟩ : ∃ v, c[k * 5 + 2]? = some v := ⟨_, Array.getElem?_eq_getElem (by omega)⟩
      obtain ⟨hcl2, hfr2⟩ := cell_row hrow2.out (k * 5 + 2) v2 hv2
      clear hv2
      obtain ⟨v3, hv3⟩ : ∃ v, c[k * 5 + 3]? = some v := ⟨_, Array.getElem?_eq_getElem (by omega)⟩
      obtain ⟨hcl3, hfr3⟩ := cell_row hrow2.out (k * 5 + 3) v3 hv3
      clear hv3
      obtain ⟨v4, hv4⟩ : ∃ v, c[k * 5 + 4]? = some v := ⟨_, Array.getElem?_eq_getElem (by omega)⟩
      obtain ⟨hcl4, hfr4⟩ := cell_row hrow2.out (k * 5 + 4) v4 hv4
      clear hv4
      have HSM : Hid (Same (fun b => w.heap.size < b ∧ b < u.heap.size) u (((((u.setCell ⟨w.heap.size, k * 5, none⟩ (.string (l[k]'(by omega)).1)).setCell ⟨w.heap.size, k * 5 + 1, none⟩ (.int .i64 (l[k]'(by omega)).2.1)).setCell ⟨w.heap.size, k * 5 + 2, none⟩ (.int .i64 (l[k]'(by omega)).2.2.1)).setCell ⟨w.heap.size, k * 5 + 3, none⟩ (.int .i64 (l[k]'(by omega)).2.2.2.1)).setCell ⟨w.heap.size, k * 5 + 4, none⟩ (.slice go4 (l[k]'(by omega)).2.2.2.2.length gc4))) := (((((Same.of_set _ ⟨w.heap.size, k * 5, none⟩ (.string (l[k]'(by omega)).1) (fun h => absurd h.1 (Nat.lt_irrefl _))).trans (Same.of_set _ ⟨w.heap.size, k * 5 + 1, none⟩ (.int .i64 (l[k]'(by omega)).2.1) (fun h => absurd h.1 (Nat.lt_irrefl _)))).trans (Same.of_set _ ⟨w.heap.size, k * 5 + 2, none⟩ (.int .i64 (l[k]'(by omega)).2.2.1) (fun h => absurd h.1 (Nat.lt_irrefl _)))).trans (Same.of_set _ ⟨w.heap.size, k * 5 + 3, none⟩ (.int .i64 (l[k]'(by omega)).2.2.2.1) (fun h => absurd h.1 (Nat.lt_irrefl _)))).trans (Same.of_set _ ⟨w.heap.size, k * 5 + 4, none⟩ (.slice go4 (l[k]'(by omega)).2.2.2.2.length gc4) (fun h => absurd h.1 (Nat.lt_irrefl _))))
      have HSZ : Hid ((((((u.setCell ⟨w.heap.size, k * 5, none⟩ (.string (l[k]'(by omega)).1)).setCell ⟨w.heap.size, k * 5 + 1, none⟩ (.int .i64 (l[k]'(by omega)).2.1)).setCell ⟨w.heap.size, k * 5 + 2, none⟩ (.int .i64 (l[k]'(by omega)).2.2.1)).setCell ⟨w.heap.size, k * 5 + 3, none⟩ (.int .i64 (l[k]'(by omega)).2.2.2.1)).setCell ⟨w.heap.size, k * 5 + 4, none⟩ (.slice go4 (l[k]'(by omega)).2.2.2.2.length gc4)).heap.size = u.heap.size) := by simp [Hid]
      go_wp2_with fail
      go_roundw
      case rel =>
        refine ⟨k + 1, (((((c.setIfInBounds (k * 5) (.string (l[k]'(by omega)).1)).setIfInBounds (k * 5 + 1) (.int .i64 (l[k]'(by omega)).2.1)).setIfInBounds (k * 5 + 2) (.int .i64 (l[k]'(by omega)).2.2.1)).setIfInBounds (k * 5 + 3) (.int .i64 (l[k]'(by omega)).2.2.2.1)).setIfInBounds (k * 5 + 4) (.slice go4 (l[k]'(by omega)).2.2.2.2.length gc4)), fun i b => (i = k ∧ wr.heap.size ≤ b ∧ b < u.heap.size) ∨ (i ≠ k ∧ Ss i b), by omega, by go_num, (set_row (set_row (set_row (set_row (set_row hrow2.out (k * 5) _) (k * 5 + 1) _) (k * 5 + 2) _) (k * 5 + 3) _) (k * 5 + 4) _), by simpa using hcs, ⟨?_, ?_⟩, ?_, (((((hbel2.out.setCell (Nat.le_refl _) _).setCell (Nat.le_refl _) _).setCell (Nat.le_refl _) _).setCell (Nat.le_refl _) _).setCell (Nat.le_refl _) _)⟩
        · intro i b hb
          rw [HSZ.out]
          rcases hb with ⟨_, hb⟩ | ⟨_, hb⟩
          · exact ⟨by omega, hb.2⟩
          · have := hdis.out.1 i b hb; exact ⟨this.1, by have := hbu.size; omega⟩
        · intro i j b hi hj
          rcases hi with ⟨e1, h1⟩ | ⟨e1, h1⟩ <;> rcases hj with ⟨e2, h2⟩ | ⟨e2, h2⟩
          · rw [e1, e2]
          · have := hdis.out.1 j b h2; omega
          · have := hdis.out.1 i b h1; omega
          · exact hdis.out.2 i j b h1 h2
        intro i hi hik
        by_cases e : i = k
        · subst e
          refine ⟨g, ?_, ?_⟩
          · intro j hj
            rcases (show j = 0 ∨ j = 1 ∨ j = 2 ∨ j = 3 ∨ j = 4 by omega) with rfl | rfl | rfl | rfl | rfl
            · rw [ge0]
              simp only [Array.getElem?_setIfInBounds, Array.size_setIfInBounds, hcs]
              repeat (first | rw [if_pos True.intro] | rw [if_pos (by omega)] | rw [if_neg (by omega)])
            · rw [ge1]
              simp only [Array.getElem?_setIfInBounds, Array.size_setIfInBounds, hcs]
              repeat (first | rw [if_pos True.intro] | rw [if_pos (by omega)] | rw [if_neg (by omega)])
            · rw [ge2]
              simp only [Array.getElem?_setIfInBounds, Array.size_setIfInBounds, hcs]
              repeat (first | rw [if_pos True.intro] | rw [if_pos (by omega)] | rw [if_neg (by omega)])
            · rw [ge3]
              simp only [Array.getElem?_setIfInBounds, Array.size_setIfInBounds, hcs]
              repeat (first | rw [if_pos True.intro] | rw [if_pos (by omega)] | rw [if_neg (by omega)])
            · rw [ge4]
              simp only [Array.getElem?_setIfInBounds, Array.size_setIfInBounds, hcs]
              repeat (first | rw [if_pos True.intro] | rw [if_pos (by omega)] | rw [if_neg (by omega)])
          · refine Own.on_up (Own.on_same HG.out (fun b hb => HSM.out b ⟨?_, hb.2⟩)) (fun b hb => Or.inl ⟨rfl, hb⟩)
            have := hb.1
            omega
        · obtain ⟨g', h1, h2⟩ := hall.out i hi (by omega)
          refine ⟨g', fun j hj => ?_, ?_⟩
          · simp only [Array.getElem?_setIfInBounds]
            repeat rw [if_neg (by omega)]
            exact h1 j hj
          · refine Own.on_up (Own.on_same (Own.on_same h2 (Same.of_below hbu (fun b hb => (hdis.out.1 i b hb).2))) (fun b hb => HSM.out b ⟨(hdis.out.1 i b hb).1, ?_⟩)) (fun b hb => Or.inr ⟨e, hb⟩)
            have := (hdis.out.1 i b hb).2
            omega
      case measure => simp [intOf]; omega
    · have hkn : k = n := by omega
      subst hkn
      go_wp2_with fail
      go_ret
      refine ⟨.slice (some ⟨w.heap.size, 0, none⟩) k k, rfl, ⟨_, _, by rw [en], by rw [en]; exact ⟨by unfold maxLen; omega, Nat.le_refl _, fun h => nomatch h⟩, ?_⟩, hbel.out⟩
      rcases (show l = [] ∨ ∃ x, x ∈ l by cases l with | nil => exact .inl rfl | cons x _ => exact .inr ⟨x, List.mem_cons_self⟩) with e0 | ⟨x, _⟩
      · exact .inl e0
      refine .inr ⟨w.heap.size, 0, Ss, c, 81, rfl, fun i => l.getD i x, fun i hi => by simp [hi], ⟨hrow.out, ⟨Nat.le_refl _, hRw⟩, fun i b hb => ⟨⟨by have := hdis.out.1 i b hb; omega, (hdis.out.1 i b hb).2⟩, fun e => by have := hdis.out.1 i b hb; omega⟩, hdis.out.2, fun i hi => ?_⟩⟩
      obtain ⟨g', h1, h2⟩ := hall.out i hi (by omega)
      refine ⟨g', fun j hj => ?_, ?_⟩
      · rw [width_DClaimSpot] at hj ⊢
        have e : 0 + i * 5 + j = i * 5 + j := by omega
        rw [e]
        exact h1 j hj
      · have e : l.getD i x = l[i] := by simp [hi]
        rw [e]
        exact h2

set_option maxRecDepth 100000 in
set_option maxHeartbeats 4000000 in
theorem toClaimPartS_own (S : Nat → Prop) (l : List DClaimPart) (v : Value) (w : World) (h : AtL S w l v) (hS : ∀ b, S b → b < w.heap.size) (hm : totL l ≤ 1048576) :
    Calls Tryz.prog 21 #[v] w fun e w' => ∃ r, e = .returned r ∧ OnL (fun b => w.heap.size ≤ b ∧ b < w'.heap.size) w' l r ∧ Below w.heap.size w w' := by
  obtain ⟨oa, cap, rfl, hn, hc⟩ := h
  have hln := totL_len l
  have HTE : Hid (∀ i (h : i < l.length), Lay.tot l[i] ≤ 1048576) := fun i h => Nat.le_trans (totL_el l i h) hm
  obtain ⟨n, en⟩ : ∃ n, l.length = n := ⟨_, rfl⟩
  rw [en] at hn hln
  rw [en]
  have HC : Hid _ := hc
  clear hc hn
  obtain ⟨i0, hi, hz0, hz1, hz2⟩ := info_parts infoClaimPartS
  obtain ⟨M, hM⟩ : ∃ M, M = madeCells (.agg #[.int .i64 0, .int .i64 0, .slice none 0 0, .slice none 0 0, .slice none 0 0, .slice none 0 0, .bool false] : Value).cells ((n : Int).toNat * i0.size) := ⟨_, rfl⟩
  have hMs : M.size = n * 7 := by rw [hM, size_madeCells, hz1]; simp
  have hmk : ∀ W : World, (Instr.makeSlice 31 (.int .i64 (n : Int)) (.int .i64 (n : Int))).run Tryz.prog W = .ok (.slice (some ⟨W.heap.size, 0, none⟩) n n) (W.alloc (.cells M 50)) := fun W => by
    have h := run_make (P := Tryz.prog) W 31 50 i0 (.agg #[.int .i64 0, .int .i64 0, .slice none 0 0, .slice none 0 0, .slice none 0 0, .slice none 0 0, .bool false]) underClaimPartS hi hz0 .i64 .i64 (n : Int) (n : Int) (by omega) (by omega) (by rw [hz2]; omega) (by omega)
    rw [← hM] at h
    simpa using h
  clear hM
  go_enter Tryz.func21, Tryz.ntmps21
  go_wp2
  go_loopw [4] (fun i wr => ∃ (k : Nat) (c : Array Value) (Ss : Nat → Nat → Prop), k ≤ n ∧ i = .int .i64 k ∧ Hid (wr.heap[w.heap.size]? = some (.cells c 50 (0, 0))) ∧ c.size = n * 7 ∧ Hid ((∀ i b, Ss i b → w.heap.size < b ∧ b < wr.heap.size) ∧ ∀ i j b, Ss i b → Ss j b → i = j) ∧ Hid (∀ i (h : i < l.length), i < k → ∃ g : Nat → Value, (∀ j, j < 7 → c[i * 7 + j]? = some (g j)) ∧ Own.On (Ss i) wr l[i] g) ∧ Hid (Below w.heap.size w wr)) (fun i _ => n - (intOf i).toNat)
  case atStart => exact ⟨0, M, fun _ _ => False, Nat.zero_le _, rfl, heap_alloc_new w _, hMs, ⟨fun _ _ h => h.elim, fun _ _ _ h => h.elim⟩, fun _ _ h => by omega, (Below.refl _ _).alloc (Nat.le_refl _) _⟩
  case round =>
    obtain ⟨k, c, Ss, hk, rfl, hrow, hcs, hdis, hall, hbel⟩ := hrel
    have hRw : w.heap.size < wr.heap.size := (Array.getElem?_eq_some_iff.1 hrow.out).1
    by_cases hlt : k < n
    · obtain ⟨b, off, rfl, hbS, cc, hcell, hat⟩ := HC.out k (by omega)
      have hb := hS b hbS
      rw [width_DClaimPart] at hcell
      have e0 : wr.cell? ⟨b, off + k * 7, none⟩ = some (cc 0) := (hbel.out.cell (p := ⟨b, off + k * 7, none⟩) (by show b < _; omega)).trans (by simpa using hcell 0 (by omega))
      have e1 : wr.cell? ⟨b, off + k * 7 + 1, none⟩ = some (cc 1) := (hbel.out.cell (p := ⟨b, off + k * 7 + 1, none⟩) (by show b < _; omega)).trans (by simpa using hcell 1 (by omega))
      have e2 : wr.cell? ⟨b, off + k * 7 + 2, none⟩ = some (cc 2) := (hbel.out.cell (p := ⟨b, off + k * 7 + 2, none⟩) (by show b < _; omega)).trans (by simpa using hcell 2 (by omega))
      have e3 : wr.cell? ⟨b, off + k * 7 + 3, none⟩ = some (cc 3) := (hbel.out.cell (p := ⟨b, off + k * 7 + 3, none⟩) (by show b < _; omega)).trans (by simpa using hcell 3 (by omega))
      have e4 : wr.cell? ⟨b, off + k * 7 + 4, none⟩ = some (cc 4) := (hbel.out.cell (p := ⟨b, off + k * 7 + 4, none⟩) (by show b < _; omega)).trans (by simpa using hcell 4 (by omega))
      have e5 : wr.cell? ⟨b, off + k * 7 + 5, none⟩ = some (cc 5) := (hbel.out.cell (p := ⟨b, off + k * 7 + 5, none⟩) (by show b < _; omega)).trans (by simpa using hcell 5 (by omega))
      have e6 : wr.cell? ⟨b, off + k * 7 + 6, none⟩ = some (cc 6) := (hbel.out.cell (p := ⟨b, off + k * 7 + 6, none⟩) (by show b < _; omega)).trans (by simpa using hcell 6 (by omega))
      clear hcell
      have HAT : Hid _ := hat
      clear hat
      go_wp2_with fail
      refine (toClaimPart_own S _ cc _ (Lay.same HAT.out (Same.of_below hbel.out hS)) (fun b hb => by have := hS b hb; omega) (HTE.out k (by omega))).mono ?_
      rintro e u ⟨g, rfl, hg, hbu⟩
      have HG : Hid _ := hg
      clear hg
      have hus := hbu.size
      have hrow2 : Hid (u.heap[w.heap.size]? = some (.cells c 50 (0, 0))) := (hbu.block _ hRw).trans hrow.out
      have hbel2 : Hid (Below w.heap.size w u) := hbel.out.trans (hbu.mono (by omega))
      obtain ⟨⟨ge0, _, _⟩, ⟨ge1, _, _⟩, gl2, gl3, gl4, gl5, ge6⟩ := at_DClaimPart.1 (Own.on_at HG.out)
      obtain ⟨go2, gc2, ge2, _⟩ := gl2
      obtain ⟨go3, gc3, ge3, _⟩ := gl3
      obtain ⟨go4, gc4, ge4, _⟩ := gl4
      obtain ⟨go5, gc5, ge5, _⟩ := gl5
      rw [ge0, ge1, ge2, ge3, ge4, ge5, ge6]
      obtain ⟨v0, hv0⟩ : ∃ v, c[k * 7]? = some v := ⟨_, Array.getElem?_eq_getElem (by omega)⟩
      obtain ⟨hcl0, hfr0⟩ := cell_row hrow2.out (k * 7) v0 hv0
      clear hv0
      obtain ⟨v1, hv1⟩ : ∃ v, c[k * 7 + 1]? = some v := ⟨_, Array.getElem?_eq_getElem (by omega)⟩
      obtain ⟨hcl1, hfr1⟩ := cell_row hrow2.out (k * 7 + 1) v1 hv1
      clear hv1
      obtain ⟨v2, hv2⟩ : ∃ v, c[k * 7 + 2]? = some v := ⟨_, Array.getElem?_eq_getElem (by omega)⟩
      obtain ⟨hcl2, hfr2⟩ := cell_row hrow2.out (k * 7 + 2) v2 hv2
      clear hv2
      obtain ⟨v3, hv3⟩ : ∃ v, c[k * 7 + 3]? = some v := ⟨_, Array.getElem?_eq_getElem (by omega)⟩
      obtain ⟨hcl3, hfr3⟩ := cell_row hrow2.out (k * 7 + 3) v3 hv3
      clear hv3
      obtain ⟨v4, hv4⟩ : ∃ v, c[k * 7 + 4]? = some v := ⟨_, Array.getElem?_eq_getElem (by omega)⟩
      obtain ⟨hcl4, hfr4⟩ := cell_row hrow2.out (k * 7 + 4) v4 hv4
      clear hv4
      obtain ⟨v5, hv5⟩ : ∃ v, c[k * 7 + 5]? = some v := ⟨_, Array.getElem?_eq_getElem (by omega)⟩
      obtain ⟨hcl5, hfr5⟩ := cell_row hrow2.out (k * 7 + 5) v5 hv5
      clear hv5
      obtain ⟨v6, hv6⟩ : ∃ v, c[k * 7 + 6]? = some v := ⟨_, Array.getElem?_eq_getElem (by omega)⟩
      obtain ⟨hcl6, hfr6⟩ := cell_row hrow2.out (k * 7 + 6) v6 hv6
      clear hv6
      have HSM : Hid (Same (fun b => w.heap.size < b ∧ b < u.heap.size) u (((((((u.setCell ⟨w.heap.size, k * 7, none⟩ (.int .i64 (l[k]'(by omega)).1)).setCell ⟨w.heap.size, k * 7 + 1, none⟩ (.int .i64 (l[k]'(by omega)).2.1)).setCell ⟨w.heap.size, k * 7 + 2, none⟩ (.slice go2 (l[k]'(by omega)).2.2.1.length gc2)).setCell ⟨w.heap.size, k * 7 + 3, none⟩ (.slice go3 (l[k]'(by omega)).2.2.2.1.length gc3)).setCell ⟨w.heap.size, k * 7 + 4, none⟩ (.slice go4 (l[k]'(by omega)).2.2.2.2.1.length gc4)).setCell ⟨w.heap.size, k * 7 + 5, none⟩ (.slice go5 (l[k]'(by omega)).2.2.2.2.2.1.length gc5)).setCell ⟨w.heap.size, k * 7 + 6, none⟩ (.bool (l[k]'(by omega)).2.2.2.2.2.2))) := (((((((Same.of_set _ ⟨w.heap.size, k * 7, none⟩ (.int .i64 (l[k]'(by omega)).1) (fun h => absurd h.1 (Nat.lt_irrefl _))).trans (Same.of_set _ ⟨w.heap.size, k * 7 + 1, none⟩ (.int .i64 (l[k]'(by omega)).2.1) (fun h => absurd h.1 (Nat.lt_irrefl _)))).trans (Same.of_set _ ⟨w.heap.size, k * 7 + 2, none⟩ (.slice go2 (l[k]'(by omega)).2.2.1.length gc2) (fun h => absurd h.1 (Nat.lt_irrefl _)))).trans (Same.of_set _ ⟨w.heap.size, k * 7 + 3, none⟩ (.slice go3 (l[k]'(by omega)).2.2.2.1.length gc3) (fun h => absurd h.1 (Nat.lt_irrefl _)))).trans (Same.of_set _ ⟨w.heap.size, k * 7 + 4, none⟩ (.slice go4 (l[k]'(by omega)).2.2.2.2.1.length gc4) (fun h => absurd h.1 (Nat.lt_irrefl _)))).trans (Same.of_set _ ⟨w.heap.size, k * 7 + 5, none⟩ (.slice go5 (l[k]'(by omega)).2.2.2.2.2.1.length gc5) (fun h => absurd h.1 (Nat.lt_irrefl _)))).trans (Same.of_set _ ⟨w.heap.size, k * 7 + 6, none⟩ (.bool (l[k]'(by omega)).2.2.2.2.2.2) (fun h => absurd h.1 (Nat.lt_irrefl _))))
      have HSZ : Hid ((((((((u.setCell ⟨w.heap.size, k * 7, none⟩ (.int .i64 (l[k]'(by omega)).1)).setCell ⟨w.heap.size, k * 7 + 1, none⟩ (.int .i64 (l[k]'(by omega)).2.1)).setCell ⟨w.heap.size, k * 7 + 2, none⟩ (.slice go2 (l[k]'(by omega)).2.2.1.length gc2)).setCell ⟨w.heap.size, k * 7 + 3, none⟩ (.slice go3 (l[k]'(by omega)).2.2.2.1.length gc3)).setCell ⟨w.heap.size, k * 7 + 4, none⟩ (.slice go4 (l[k]'(by omega)).2.2.2.2.1.length gc4)).setCell ⟨w.heap.size, k * 7 + 5, none⟩ (.slice go5 (l[k]'(by omega)).2.2.2.2.2.1.length gc5)).setCell ⟨w.heap.size, k * 7 + 6, none⟩ (.bool (l[k]'(by omega)).2.2.2.2.2.2)).heap.size = u.heap.size) := by simp [Hid]
      go_wp2_with fail
      go_roundw
      case rel =>
        refine ⟨k + 1, (((((((c.setIfInBounds (k * 7) (.int .i64 (l[k]'(by omega)).1)).setIfInBounds (k * 7 + 1) (.int .i64 (l[k]'(by omega)).2.1)).setIfInBounds (k * 7 + 2) (.slice go2 (l[k]'(by omega)).2.2.1.length gc2)).setIfInBounds (k * 7 + 3) (.slice go3 (l[k]'(by omega)).2.2.2.1.length gc3)).setIfInBounds (k * 7 + 4) (.slice go4 (l[k]'(by omega)).2.2.2.2.1.length gc4)).setIfInBounds (k * 7 + 5) (.slice go5 (l[k]'(by omega)).2.2.2.2.2.1.length gc5)).setIfInBounds (k * 7 + 6) (.bool (l[k]'(by omega)).2.2.2.2.2.2)), fun i b => (i = k ∧ wr.heap.size ≤ b ∧ b < u.heap.size) ∨ (i ≠ k ∧ Ss i b), by omega, by go_num, (set_row (set_row (set_row (set_row (set_row (set_row (set_row hrow2.out (k * 7) _) (k * 7 + 1) _) (k * 7 + 2) _) (k * 7 + 3) _) (k * 7 + 4) _) (k * 7 + 5) _) (k * 7 + 6) _), by simpa using hcs, ⟨?_, ?_⟩, ?_, (((((((hbel2.out.setCell (Nat.le_refl _) _).setCell (Nat.le_refl _) _).setCell (Nat.le_refl _) _).setCell (Nat.le_refl _) _).setCell (Nat.le_refl _) _).setCell (Nat.le_refl _) _).setCell (Nat.le_refl _) _)⟩
        · intro i b hb
          rw [HSZ.out]
          rcases hb with ⟨_, hb⟩ | ⟨_, hb⟩
          · exact ⟨by omega, hb.2⟩
          · have := hdis.out.1 i b hb; exact ⟨this.1, by have := hbu.size; omega⟩
        · intro i j b hi hj
          rcases hi with ⟨e1, h1⟩ | ⟨e1, h1⟩ <;> rcases hj with ⟨e2, h2⟩ | ⟨e2, h2⟩
          · rw [e1, e2]
          · have := hdis.out.1 j b h2; omega
          · have := hdis.out.1 i b h1; omega
          · exact hdis.out.2 i j b h1 h2
        intro i hi hik
        by_cases e : i = k
        · subst e
          refine ⟨g, ?_, ?_⟩
          · intro j hj
            rcases (show j = 0 ∨ j = 1 ∨ j = 2 ∨ j = 3 ∨ j = 4 ∨ j = 5 ∨ j = 6 by omega) with rfl | rfl | rfl | rfl | rfl | rfl | rfl
            · rw [ge0]
              simp only [Array.getElem?_setIfInBounds, Array.size_setIfInBounds, hcs]
              repeat (first | rw [if_pos True.intro] | rw [if_pos (by omega)] | rw [if_neg (by omega)])
            · rw [ge1]
              simp only [Array.getElem?_setIfInBounds, Array.size_setIfInBounds, hcs]
              repeat (first | rw [if_pos True.intro] | rw [if_pos (by omega)] | rw [if_neg (by omega)])
            · rw [ge2]
              simp only [Array.getElem?_setIfInBounds, Array.size_setIfInBounds, hcs]
              repeat (first | rw [if_pos True.intro] | rw [if_pos (by omega)] | rw [if_neg (by omega)])
            · rw [ge3]
              simp only [Array.getElem?_setIfInBounds, Array.size_setIfInBounds, hcs]
              repeat (first | rw [if_pos True.intro] | rw [if_pos (by omega)] | rw [if_neg (by omega)])
            · rw [ge4]
              simp only [Array.getElem?_setIfInBounds, Array.size_setIfInBounds, hcs]
              repeat (first | rw [if_pos True.intro] | rw [if_pos (by omega)] | rw [if_neg (by omega)])
            · rw [ge5]
              simp only [Array.getElem?_setIfInBounds, Array.size_setIfInBounds, hcs]
              repeat (first | rw [if_pos True.intro] | rw [if_pos (by omega)] | rw [if_neg (by omega)])
            · rw [ge6]
              simp only [Array.getElem?_setIfInBounds, Array.size_setIfInBounds, hcs]
              repeat (first | rw [if_pos True.intro] | rw [if_pos (by omega)] | rw [if_neg (by omega)])
          · refine Own.on_up (Own.on_same HG.out (fun b hb => HSM.out b ⟨?_, hb.2⟩)) (fun b hb => Or.inl ⟨rfl, hb⟩)
            have := hb.1
            omega
        · obtain ⟨g', h1, h2⟩ := hall.out i hi (by omega)
          refine ⟨g', fun j hj => ?_, ?_⟩
          · simp only [Array.getElem?_setIfInBounds]
            repeat rw [if_neg (by omega)]
            exact h1 j hj
          · refine Own.on_up (Own.on_same (Own.on_same h2 (Same.of_below hbu (fun b hb => (hdis.out.1 i b hb).2))) (fun b hb => HSM.out b ⟨(hdis.out.1 i b hb).1, ?_⟩)) (fun b hb => Or.inr ⟨e, hb⟩)
            have := (hdis.out.1 i b hb).2
            omega
      case measure => simp [intOf]; omega
    · have hkn : k = n := by omega
      subst hkn
      go_wp2_with fail
      go_ret
      refine ⟨.slice (some ⟨w.heap.size, 0, none⟩) k k, rfl, ⟨_, _, by rw [en], by rw [en]; exact ⟨by unfold maxLen; omega, Nat.le_refl _, fun h => nomatch h⟩, ?_⟩, hbel.out⟩
      rcases (show l = [] ∨ ∃ x, x ∈ l by cases l with | nil => exact .inl rfl | cons x _ => exact .inr ⟨x, List.mem_cons_self⟩) with e0 | ⟨x, _⟩
      · exact .inl e0
      refine .inr ⟨w.heap.size, 0, Ss, c, 50, rfl, fun i => l.getD i x, fun i hi => by simp [hi], ⟨hrow.out, ⟨Nat.le_refl _, hRw⟩, fun i b hb => ⟨⟨by have := hdis.out.1 i b hb; omega, (hdis.out.1 i b hb).2⟩, fun e => by have := hdis.out.1 i b hb; omega⟩, hdis.out.2, fun i hi => ?_⟩⟩
      obtain ⟨g', h1, h2⟩ := hall.out i hi (by omega)
      refine ⟨g', fun j hj => ?_, ?_⟩
      · rw [width_DClaimPart] at hj ⊢
        have e : 0 + i * 7 + j = i * 7 + j := by omega
        rw [e]
        exact h1 j hj
      · have e : l.getD i x = l[i] := by simp [hi]
        rw [e]
        exact h2

set_option maxRecDepth 100000 in
set_option maxHeartbeats 4000000 in
theorem toClaimBook_own (S : Nat → Prop) (a : DClaimBook) (c : Nat → Value) (w : World) (h : Lay.At S w a c) (hS : ∀ b, S b → b < w.heap.size) (hm : Lay.tot a ≤ 1048576) :
    Calls Tryz.prog 6 #[.agg #[c 0, c 1, c 2, c 3, c 4]] w fun e w' => ∃ g : Nat → Value, e = .returned (.agg #[g 0, g 1, g 2, g 3, g 4]) ∧ Own.On (fun b => w.heap.size ≤ b ∧ b < w'.heap.size) w' a g ∧ Below w.heap.size w w' := by
  rw [tot_DClaimBook] at hm
  rw [at_DClaimBook] at h
  obtain ⟨H0, H1, H2, H3, ⟨e4, z4, y4⟩⟩ := h
  obtain ⟨v0, e0⟩ : ∃ v, c 0 = v := ⟨_, rfl⟩
  rw [e0] at H0
  obtain ⟨v1, e1⟩ : ∃ v, c 1 = v := ⟨_, rfl⟩
  rw [e1] at H1
  obtain ⟨v2, e2⟩ : ∃ v, c 2 = v := ⟨_, rfl⟩
  rw [e2] at H2
  obtain ⟨v3, e3⟩ : ∃ v, c 3 = v := ⟨_, rfl⟩
  rw [e3] at H3
  rw [e0, e1, e2, e3, e4]
  clear e0 e1 e2 e3 e4
  have C0 : Hid (Cp 27 33 w (((w.alloc (.cells #[v0, v1, v2, v3, .int .i64 a.2.2.2.2] 27)).alloc (.cells #[.slice none 0 0, .slice none 0 0, .slice none 0 0, .slice none 0 0, .int .i64 0] 33)).alloc (.cells #[.slice none 0 0, .slice none 0 0, .slice none 0 0, .slice none 0 0, .int .i64 0] 33)) #[v0, v1, v2, v3, .int .i64 a.2.2.2.2] #[.slice none 0 0, .slice none 0 0, .slice none 0 0, .slice none 0 0, .int .i64 0] _) := cp_init 27 33 w #[v0, v1, v2, v3, .int .i64 a.2.2.2.2] #[.slice none 0 0, .slice none 0 0, .slice none 0 0, .slice none 0 0, .int .i64 0] #[.slice none 0 0, .slice none 0 0, .slice none 0 0, .slice none 0 0, .int .i64 0]
  go_enter Tryz.func6, Tryz.ntmps6
  go_wp2_with fail
  refine (toClaimFoeS_own S _ v0 _ (H0.same (Same.of_below C0.out.bel hS)) (fun b hb => by have := hS b hb; simp; omega) (by omega)).mono ?_
  rintro e w1 ⟨r0, rfl, L0, hb1⟩
  obtain ⟨so0, sc0, er0, _⟩ := id L0
  subst er0
  have l1 : w.heap.size + 1 + 1 + 1 ≤ w1.heap.size := by have := hb1.size; simpa using this
  have M0 : Hid (OnL (fun b => w.heap.size + 1 + 1 + 1 ≤ b ∧ b < w1.heap.size) w1 a.1 (.slice so0 a.1.length sc0)) := L0.up (fun b hb => ⟨by have := hb.1; simp at this; omega, hb.2⟩)
  clear L0
  have C1 : Hid (Cp 27 33 w w1 #[v0, v1, v2, v3, .int .i64 a.2.2.2.2] #[.slice none 0 0, .slice none 0 0, .slice none 0 0, .slice none 0 0, .int .i64 0] _) := C0.out.next hb1
  obtain ⟨p0, q0⟩ := cell_row C1.out.out 0 _ rfl
  have C2 : Hid (Cp 27 33 w (w1.setCell ⟨w.heap.size + 1 + 1, 0, none⟩ (.slice so0 a.1.length sc0)) #[v0, v1, v2, v3, .int .i64 a.2.2.2.2] #[.slice none 0 0, .slice none 0 0, .slice none 0 0, .slice none 0 0, .int .i64 0] _) := C1.out.put 0 (.slice so0 a.1.length sc0)
  obtain ⟨ar1, _⟩ := cell_row C2.out.arg 1 (v1) rfl
  go_wp2_with fail
  refine (toClaimSpotS_own S _ v1 _ (H1.same (Same.of_below C2.out.bel hS)) (fun b hb => by have := hS b hb; simp; omega) (by omega)).mono ?_
  rintro e w2 ⟨r1, rfl, L1, hb2⟩
  obtain ⟨so1, sc1, er1, _⟩ := id L1
  subst er1
  have l2 : w1.heap.size ≤ w2.heap.size := by have := hb2.size; simpa using this
  have M1 : Hid (OnL (fun b => w1.heap.size ≤ b ∧ b < w2.heap.size) w2 a.2.1 (.slice so1 a.2.1.length sc1)) := L1.up (fun b hb => ⟨by have := hb.1; simp at this; omega, hb.2⟩)
  clear L1
  have C3 : Hid (Cp 27 33 w w2 #[v0, v1, v2, v3, .int .i64 a.2.2.2.2] #[.slice none 0 0, .slice none 0 0, .slice none 0 0, .slice none 0 0, .int .i64 0] _) := C2.out.next hb2
  obtain ⟨p1, q1⟩ := cell_row C3.out.out 1 _ rfl
  have C4 : Hid (Cp 27 33 w (w2.setCell ⟨w.heap.size + 1 + 1, 1, none⟩ (.slice so1 a.2.1.length sc1)) #[v0, v1, v2, v3, .int .i64 a.2.2.2.2] #[.slice none 0 0, .slice none 0 0, .slice none 0 0, .slice none 0 0, .int .i64 0] _) := C3.out.put 1 (.slice so1 a.2.1.length sc1)
  obtain ⟨ar2, _⟩ := cell_row C4.out.arg 2 (v2) rfl
  go_wp2_with fail
  refine (toStringS_own S _ v2 _ (H2.same (Same.of_below C4.out.bel hS)) (fun b hb => by have := hS b hb; simp; omega) (by omega)).mono ?_
  rintro e w3 ⟨r2, rfl, L2, hb3⟩
  obtain ⟨so2, sc2, er2, _⟩ := id L2
  subst er2
  have l3 : w2.heap.size ≤ w3.heap.size := by have := hb3.size; simpa using this
  have M2 : Hid (OnL (fun b => w2.heap.size ≤ b ∧ b < w3.heap.size) w3 a.2.2.1 (.slice so2 a.2.2.1.length sc2)) := L2.up (fun b hb => ⟨by have := hb.1; simp at this; omega, hb.2⟩)
  clear L2
  have C5 : Hid (Cp 27 33 w w3 #[v0, v1, v2, v3, .int .i64 a.2.2.2.2] #[.slice none 0 0, .slice none 0 0, .slice none 0 0, .slice none 0 0, .int .i64 0] _) := C4.out.next hb3
  obtain ⟨p2, q2⟩ := cell_row C5.out.out 2 _ rfl
  have C6 : Hid (Cp 27 33 w (w3.setCell ⟨w.heap.size + 1 + 1, 2, none⟩ (.slice so2 a.2.2.1.length sc2)) #[v0, v1, v2, v3, .int .i64 a.2.2.2.2] #[.slice none 0 0, .slice none 0 0, .slice none 0 0, .slice none 0 0, .int .i64 0] _) := C5.out.put 2 (.slice so2 a.2.2.1.length sc2)
  obtain ⟨ar3, _⟩ := cell_row C6.out.arg 3 (v3) rfl
  go_wp2_with fail
  refine (toClaimPartS_own S _ v3 _ (H3.same (Same.of_below C6.out.bel hS)) (fun b hb => by have := hS b hb; simp; omega) (by omega)).mono ?_
  rintro e w4 ⟨r3, rfl, L3, hb4⟩
  obtain ⟨so3, sc3, er3, _⟩ := id L3
  subst er3
  have l4 : w3.heap.size ≤ w4.heap.size := by have := hb4.size; simpa using this
  have M3 : Hid (OnL (fun b => w3.heap.size ≤ b ∧ b < w4.heap.size) w4 a.2.2.2.1 (.slice so3 a.2.2.2.1.length sc3)) := L3.up (fun b hb => ⟨by have := hb.1; simp at this; omega, hb.2⟩)
  clear L3
  have C7 : Hid (Cp 27 33 w w4 #[v0, v1, v2, v3, .int .i64 a.2.2.2.2] #[.slice none 0 0, .slice none 0 0, .slice none 0 0, .slice none 0 0, .int .i64 0] _) := C6.out.next hb4
  obtain ⟨p3, q3⟩ := cell_row C7.out.out 3 _ rfl
  have C8 : Hid (Cp 27 33 w (w4.setCell ⟨w.heap.size + 1 + 1, 3, none⟩ (.slice so3 a.2.2.2.1.length sc3)) #[v0, v1, v2, v3, .int .i64 a.2.2.2.2] #[.slice none 0 0, .slice none 0 0, .slice none 0 0, .slice none 0 0, .int .i64 0] _) := C7.out.put 3 (.slice so3 a.2.2.2.1.length sc3)
  obtain ⟨ar4, _⟩ := cell_row C8.out.arg 4 (.int .i64 a.2.2.2.2) rfl
  obtain ⟨p4, q4⟩ := cell_row C8.out.out 4 _ rfl
  have C9 : Hid (Cp 27 33 w ((w4.setCell ⟨w.heap.size + 1 + 1, 3, none⟩ (.slice so3 a.2.2.2.1.length sc3)).setCell ⟨w.heap.size + 1 + 1, 4, none⟩ (.int .i64 a.2.2.2.2)) #[v0, v1, v2, v3, .int .i64 a.2.2.2.2] #[.slice none 0 0, .slice none 0 0, .slice none 0 0, .slice none 0 0, .int .i64 0] _) := C8.out.put 4 (.int .i64 a.2.2.2.2)
  obtain ⟨o0, _⟩ := cell_row C9.out.out 0 (.slice so0 a.1.length sc0) rfl
  obtain ⟨rr0, rf0⟩ := cell_row C9.out.res 0 _ rfl
  obtain ⟨o1, _⟩ := cell_row C9.out.out 1 (.slice so1 a.2.1.length sc1) rfl
  obtain ⟨rr1, rf1⟩ := cell_row C9.out.res 1 _ rfl
  obtain ⟨o2, _⟩ := cell_row C9.out.out 2 (.slice so2 a.2.2.1.length sc2) rfl
  obtain ⟨rr2, rf2⟩ := cell_row C9.out.res 2 _ rfl
  obtain ⟨o3, _⟩ := cell_row C9.out.out 3 (.slice so3 a.2.2.2.1.length sc3) rfl
  obtain ⟨rr3, rf3⟩ := cell_row C9.out.res 3 _ rfl
  obtain ⟨o4, _⟩ := cell_row C9.out.out 4 (.int .i64 a.2.2.2.2) rfl
  obtain ⟨rr4, rf4⟩ := cell_row C9.out.res 4 _ rfl
  have CF : Hid (Cp 27 33 w (((((((w4.setCell ⟨w.heap.size + 1 + 1, 3, none⟩ (.slice so3 a.2.2.2.1.length sc3)).setCell ⟨w.heap.size + 1 + 1, 4, none⟩ (.int .i64 a.2.2.2.2)).setCell ⟨w.heap.size + 1, 0, none⟩ (.slice so0 a.1.length sc0)).setCell ⟨w.heap.size + 1, 1, none⟩ (.slice so1 a.2.1.length sc1)).setCell ⟨w.heap.size + 1, 2, none⟩ (.slice so2 a.2.2.1.length sc2)).setCell ⟨w.heap.size + 1, 3, none⟩ (.slice so3 a.2.2.2.1.length sc3)).setCell ⟨w.heap.size + 1, 4, none⟩ (.int .i64 a.2.2.2.2)) #[v0, v1, v2, v3, .int .i64 a.2.2.2.2] _ _) := (((((C9.out.ret 0 (.slice so0 a.1.length sc0)).ret 1 (.slice so1 a.2.1.length sc1)).ret 2 (.slice so2 a.2.2.1.length sc2)).ret 3 (.slice so3 a.2.2.2.1.length sc3)).ret 4 (.int .i64 a.2.2.2.2))
  have f0 := (cell_row CF.out.res 0 (.slice so0 a.1.length sc0) rfl).1
  have f1 := (cell_row CF.out.res 1 (.slice so1 a.2.1.length sc1) rfl).1
  have f2 := (cell_row CF.out.res 2 (.slice so2 a.2.2.1.length sc2) rfl).1
  have f3 := (cell_row CF.out.res 3 (.slice so3 a.2.2.2.1.length sc3) rfl).1
  have f4 := (cell_row CF.out.res 4 (.int .i64 a.2.2.2.2) rfl).1
  have hsz : Hid ((((((((w4.setCell ⟨w.heap.size + 1 + 1, 3, none⟩ (.slice so3 a.2.2.2.1.length sc3)).setCell ⟨w.heap.size + 1 + 1, 4, none⟩ (.int .i64 a.2.2.2.2)).setCell ⟨w.heap.size + 1, 0, none⟩ (.slice so0 a.1.length sc0)).setCell ⟨w.heap.size + 1, 1, none⟩ (.slice so1 a.2.1.length sc1)).setCell ⟨w.heap.size + 1, 2, none⟩ (.slice so2 a.2.2.1.length sc2)).setCell ⟨w.heap.size + 1, 3, none⟩ (.slice so3 a.2.2.2.1.length sc3)).setCell ⟨w.heap.size + 1, 4, none⟩ (.int .i64 a.2.2.2.2)).heap.size = w4.heap.size) := by simp [Hid]
  have S0 : Same (fun b => w.heap.size + 1 + 1 + 1 ≤ b ∧ b < w1.heap.size) w1 (((((((w4.setCell ⟨w.heap.size + 1 + 1, 3, none⟩ (.slice so3 a.2.2.2.1.length sc3)).setCell ⟨w.heap.size + 1 + 1, 4, none⟩ (.int .i64 a.2.2.2.2)).setCell ⟨w.heap.size + 1, 0, none⟩ (.slice so0 a.1.length sc0)).setCell ⟨w.heap.size + 1, 1, none⟩ (.slice so1 a.2.1.length sc1)).setCell ⟨w.heap.size + 1, 2, none⟩ (.slice so2 a.2.2.1.length sc2)).setCell ⟨w.heap.size + 1, 3, none⟩ (.slice so3 a.2.2.2.1.length sc3)).setCell ⟨w.heap.size + 1, 4, none⟩ (.int .i64 a.2.2.2.2)) := (((((((((((((Same.of_set _ ⟨w.heap.size + 1 + 1, 0, none⟩ (.slice so0 a.1.length sc0) (fun h => by have := h.1; simp at this; omega)).trans (Same.of_below hb2 (fun b hb => by have := hb.2; simp; omega))).trans (Same.of_set _ ⟨w.heap.size + 1 + 1, 1, none⟩ (.slice so1 a.2.1.length sc1) (fun h => by have := h.1; simp at this; omega))).trans (Same.of_below hb3 (fun b hb => by have := hb.2; simp; omega))).trans (Same.of_set _ ⟨w.heap.size + 1 + 1, 2, none⟩ (.slice so2 a.2.2.1.length sc2) (fun h => by have := h.1; simp at this; omega))).trans (Same.of_below hb4 (fun b hb => by have := hb.2; simp; omega))).trans (Same.of_set _ ⟨w.heap.size + 1 + 1, 3, none⟩ (.slice so3 a.2.2.2.1.length sc3) (fun h => by have := h.1; simp at this; omega))).trans (Same.of_set _ ⟨w.heap.size + 1 + 1, 4, none⟩ (.int .i64 a.2.2.2.2) (fun h => by have := h.1; simp at this; omega))).trans (Same.of_set _ ⟨w.heap.size + 1, 0, none⟩ (.slice so0 a.1.length sc0) (fun h => by have := h.1; simp at this; omega))).trans (Same.of_set _ ⟨w.heap.size + 1, 1, none⟩ (.slice so1 a.2.1.length sc1) (fun h => by have := h.1; simp at this; omega))).trans (Same.of_set _ ⟨w.heap.size + 1, 2, none⟩ (.slice so2 a.2.2.1.length sc2) (fun h => by have := h.1; simp at this; omega))).trans (Same.of_set _ ⟨w.heap.size + 1, 3, none⟩ (.slice so3 a.2.2.2.1.length sc3) (fun h => by have := h.1; simp at this; omega))).trans (Same.of_set _ ⟨w.heap.size + 1, 4, none⟩ (.int .i64 a.2.2.2.2) (fun h => by have := h.1; simp at this; omega)))
  have G0 : Hid (OnL (fun b => w.heap.size + 1 + 1 + 1 ≤ b ∧ b < w1.heap.size) (((((((w4.setCell ⟨w.heap.size + 1 + 1, 3, none⟩ (.slice so3 a.2.2.2.1.length sc3)).setCell ⟨w.heap.size + 1 + 1, 4, none⟩ (.int .i64 a.2.2.2.2)).setCell ⟨w.heap.size + 1, 0, none⟩ (.slice so0 a.1.length sc0)).setCell ⟨w.heap.size + 1, 1, none⟩ (.slice so1 a.2.1.length sc1)).setCell ⟨w.heap.size + 1, 2, none⟩ (.slice so2 a.2.2.1.length sc2)).setCell ⟨w.heap.size + 1, 3, none⟩ (.slice so3 a.2.2.2.1.length sc3)).setCell ⟨w.heap.size + 1, 4, none⟩ (.int .i64 a.2.2.2.2)) a.1 (.slice so0 a.1.length sc0)) := M0.out.same S0
  have S1 : Same (fun b => w1.heap.size ≤ b ∧ b < w2.heap.size) w2 (((((((w4.setCell ⟨w.heap.size + 1 + 1, 3, none⟩ (.slice so3 a.2.2.2.1.length sc3)).setCell ⟨w.heap.size + 1 + 1, 4, none⟩ (.int .i64 a.2.2.2.2)).setCell ⟨w.heap.size + 1, 0, none⟩ (.slice so0 a.1.length sc0)).setCell ⟨w.heap.size + 1, 1, none⟩ (.slice so1 a.2.1.length sc1)).setCell ⟨w.heap.size + 1, 2, none⟩ (.slice so2 a.2.2.1.length sc2)).setCell ⟨w.heap.size + 1, 3, none⟩ (.slice so3 a.2.2.2.1.length sc3)).setCell ⟨w.heap.size + 1, 4, none⟩ (.int .i64 a.2.2.2.2)) := (((((((((((Same.of_set _ ⟨w.heap.size + 1 + 1, 1, none⟩ (.slice so1 a.2.1.length sc1) (fun h => by have := h.1; simp at this; omega)).trans (Same.of_below hb3 (fun b hb => by have := hb.2; simp; omega))).trans (Same.of_set _ ⟨w.heap.size + 1 + 1, 2, none⟩ (.slice so2 a.2.2.1.length sc2) (fun h => by have := h.1; simp at this; omega))).trans (Same.of_below hb4 (fun b hb => by have := hb.2; simp; omega))).trans (Same.of_set _ ⟨w.heap.size + 1 + 1, 3, none⟩ (.slice so3 a.2.2.2.1.length sc3) (fun h => by have := h.1; simp at this; omega))).trans (Same.of_set _ ⟨w.heap.size + 1 + 1, 4, none⟩ (.int .i64 a.2.2.2.2) (fun h => by have := h.1; simp at this; omega))).trans (Same.of_set _ ⟨w.heap.size + 1, 0, none⟩ (.slice so0 a.1.length sc0) (fun h => by have := h.1; simp at this; omega))).trans (Same.of_set _ ⟨w.heap.size + 1, 1, none⟩ (.slice so1 a.2.1.length sc1) (fun h => by have := h.1; simp at this; omega))).trans (Same.of_set _ ⟨w.heap.size + 1, 2, none⟩ (.slice so2 a.2.2.1.length sc2) (fun h => by have := h.1; simp at this; omega))).trans (Same.of_set _ ⟨w.heap.size + 1, 3, none⟩ (.slice so3 a.2.2.2.1.length sc3) (fun h => by have := h.1; simp at this; omega))).trans (Same.of_set _ ⟨w.heap.size + 1, 4, none⟩ (.int .i64 a.2.2.2.2) (fun h => by have := h.1; simp at this; omega)))
  have G1 : Hid (OnL (fun b => w1.heap.size ≤ b ∧ b < w2.heap.size) (((((((w4.setCell ⟨w.heap.size + 1 + 1, 3, none⟩ (.slice so3 a.2.2.2.1.length sc3)).setCell ⟨w.heap.size + 1 + 1, 4, none⟩ (.int .i64 a.2.2.2.2)).setCell ⟨w.heap.size + 1, 0, none⟩ (.slice so0 a.1.length sc0)).setCell ⟨w.heap.size + 1, 1, none⟩ (.slice so1 a.2.1.length sc1)).setCell ⟨w.heap.size + 1, 2, none⟩ (.slice so2 a.2.2.1.length sc2)).setCell ⟨w.heap.size + 1, 3, none⟩ (.slice so3 a.2.2.2.1.length sc3)).setCell ⟨w.heap.size + 1, 4, none⟩ (.int .i64 a.2.2.2.2)) a.2.1 (.slice so1 a.2.1.length sc1)) := M1.out.same S1
  have S2 : Same (fun b => w2.heap.size ≤ b ∧ b < w3.heap.size) w3 (((((((w4.setCell ⟨w.heap.size + 1 + 1, 3, none⟩ (.slice so3 a.2.2.2.1.length sc3)).setCell ⟨w.heap.size + 1 + 1, 4, none⟩ (.int .i64 a.2.2.2.2)).setCell ⟨w.heap.size + 1, 0, none⟩ (.slice so0 a.1.length sc0)).setCell ⟨w.heap.size + 1, 1, none⟩ (.slice so1 a.2.1.length sc1)).setCell ⟨w.heap.size + 1, 2, none⟩ (.slice so2 a.2.2.1.length sc2)).setCell ⟨w.heap.size + 1, 3, none⟩ (.slice so3 a.2.2.2.1.length sc3)).setCell ⟨w.heap.size + 1, 4, none⟩ (.int .i64 a.2.2.2.2)) := (((((((((Same.of_set _ ⟨w.heap.size + 1 + 1, 2, none⟩ (.slice so2 a.2.2.1.length sc2) (fun h => by have := h.1; simp at this; omega)).trans (Same.of_below hb4 (fun b hb => by have := hb.2; simp; omega))).trans (Same.of_set _ ⟨w.heap.size + 1 + 1, 3, none⟩ (.slice so3 a.2.2.2.1.length sc3) (fun h => by have := h.1; simp at this; omega))).trans (Same.of_set _ ⟨w.heap.size + 1 + 1, 4, none⟩ (.int .i64 a.2.2.2.2) (fun h => by have := h.1; simp at this; omega))).trans (Same.of_set _ ⟨w.heap.size + 1, 0, none⟩ (.slice so0 a.1.length sc0) (fun h => by have := h.1; simp at this; omega))).trans (Same.of_set _ ⟨w.heap.size + 1, 1, none⟩ (.slice so1 a.2.1.length sc1) (fun h => by have := h.1; simp at this; omega))).trans (Same.of_set _ ⟨w.heap.size + 1, 2, none⟩ (.slice so2 a.2.2.1.length sc2) (fun h => by have := h.1; simp at this; omega))).trans (Same.of_set _ ⟨w.heap.size + 1, 3, none⟩ (.slice so3 a.2.2.2.1.length sc3) (fun h => by have := h.1; simp at this; omega))).trans (Same.of_set _ ⟨w.heap.size + 1, 4, none⟩ (.int .i64 a.2.2.2.2) (fun h => by have := h.1; simp at this; omega)))
  have G2 : Hid (OnL (fun b => w2.heap.size ≤ b ∧ b < w3.heap.size) (((((((w4.setCell ⟨w.heap.size + 1 + 1, 3, none⟩ (.slice so3 a.2.2.2.1.length sc3)).setCell ⟨w.heap.size + 1 + 1, 4, none⟩ (.int .i64 a.2.2.2.2)).setCell ⟨w.heap.size + 1, 0, none⟩ (.slice so0 a.1.length sc0)).setCell ⟨w.heap.size + 1, 1, none⟩ (.slice so1 a.2.1.length sc1)).setCell ⟨w.heap.size + 1, 2, none⟩ (.slice so2 a.2.2.1.length sc2)).setCell ⟨w.heap.size + 1, 3, none⟩ (.slice so3 a.2.2.2.1.length sc3)).setCell ⟨w.heap.size + 1, 4, none⟩ (.int .i64 a.2.2.2.2)) a.2.2.1 (.slice so2 a.2.2.1.length sc2)) := M2.out.same S2
  have S3 : Same (fun b => w3.heap.size ≤ b ∧ b < w4.heap.size) w4 (((((((w4.setCell ⟨w.heap.size + 1 + 1, 3, none⟩ (.slice so3 a.2.2.2.1.length sc3)).setCell ⟨w.heap.size + 1 + 1, 4, none⟩ (.int .i64 a.2.2.2.2)).setCell ⟨w.heap.size + 1, 0, none⟩ (.slice so0 a.1.length sc0)).setCell ⟨w.heap.size + 1, 1, none⟩ (.slice so1 a.2.1.length sc1)).setCell ⟨w.heap.size + 1, 2, none⟩ (.slice so2 a.2.2.1.length sc2)).setCell ⟨w.heap.size + 1, 3, none⟩ (.slice so3 a.2.2.2.1.length sc3)).setCell ⟨w.heap.size + 1, 4, none⟩ (.int .i64 a.2.2.2.2)) := (((((((Same.of_set _ ⟨w.heap.size + 1 + 1, 3, none⟩ (.slice so3 a.2.2.2.1.length sc3) (fun h => by have := h.1; simp at this; omega)).trans (Same.of_set _ ⟨w.heap.size + 1 + 1, 4, none⟩ (.int .i64 a.2.2.2.2) (fun h => by have := h.1; simp at this; omega))).trans (Same.of_set _ ⟨w.heap.size + 1, 0, none⟩ (.slice so0 a.1.length sc0) (fun h => by have := h.1; simp at this; omega))).trans (Same.of_set _ ⟨w.heap.size + 1, 1, none⟩ (.slice so1 a.2.1.length sc1) (fun h => by have := h.1; simp at this; omega))).trans (Same.of_set _ ⟨w.heap.size + 1, 2, none⟩ (.slice so2 a.2.2.1.length sc2) (fun h => by have := h.1; simp at this; omega))).trans (Same.of_set _ ⟨w.heap.size + 1, 3, none⟩ (.slice so3 a.2.2.2.1.length sc3) (fun h => by have := h.1; simp at this; omega))).trans (Same.of_set _ ⟨w.heap.size + 1, 4, none⟩ (.int .i64 a.2.2.2.2) (fun h => by have := h.1; simp at this; omega)))
  have G3 : Hid (OnL (fun b => w3.heap.size ≤ b ∧ b < w4.heap.size) (((((((w4.setCell ⟨w.heap.size + 1 + 1, 3, none⟩ (.slice so3 a.2.2.2.1.length sc3)).setCell ⟨w.heap.size + 1 + 1, 4, none⟩ (.int .i64 a.2.2.2.2)).setCell ⟨w.heap.size + 1, 0, none⟩ (.slice so0 a.1.length sc0)).setCell ⟨w.heap.size + 1, 1, none⟩ (.slice so1 a.2.1.length sc1)).setCell ⟨w.heap.size + 1, 2, none⟩ (.slice so2 a.2.2.1.length sc2)).setCell ⟨w.heap.size + 1, 3, none⟩ (.slice so3 a.2.2.2.1.length sc3)).setCell ⟨w.heap.size + 1, 4, none⟩ (.int .i64 a.2.2.2.2)) a.2.2.2.1 (.slice so3 a.2.2.2.1.length sc3)) := M3.out.same S3
  go_wp2_with fail
  exact bodyPost_ret (v := .agg #[.slice so0 a.1.length sc0, .slice so1 a.2.1.length sc1, .slice so2 a.2.2.1.length sc2, .slice so3 a.2.2.2.1.length sc3, .int .i64 a.2.2.2.2]) (by simp [results, Tryz.results6, go_sem, f0, f1, f2, f3, f4]) rfl ⟨cs [.slice so0 a.1.length sc0, .slice so1 a.2.1.length sc1, .slice so2 a.2.2.1.length sc2, .slice so3 a.2.2.2.1.length sc3, .int .i64 a.2.2.2.2], rfl, on_DClaimBook.2 ⟨fun b => w.heap.size + 1 + 1 + 1 ≤ b ∧ b < w1.heap.size, fun b => w1.heap.size ≤ b ∧ b < w4.heap.size, fun b hb => ⟨⟨by omega, by first | omega | (rw [hsz.out]; omega)⟩, by omega⟩, fun b hb => ⟨by omega, by first | omega | (rw [hsz.out]; omega)⟩, G0.out, fun b => w1.heap.size ≤ b ∧ b < w2.heap.size, fun b => w2.heap.size ≤ b ∧ b < w4.heap.size, fun b hb => ⟨⟨by omega, by first | omega | (rw [hsz.out]; omega)⟩, by omega⟩, fun b hb => ⟨by omega, by first | omega | (rw [hsz.out]; omega)⟩, G1.out, fun b => w2.heap.size ≤ b ∧ b < w3.heap.size, fun b => w3.heap.size ≤ b ∧ b < w4.heap.size, fun b hb => ⟨⟨by omega, by first | omega | (rw [hsz.out]; omega)⟩, by omega⟩, fun b hb => ⟨by omega, by first | omega | (rw [hsz.out]; omega)⟩, G2.out, fun b => w3.heap.size ≤ b ∧ b < w4.heap.size, fun b => w4.heap.size ≤ b ∧ b < w4.heap.size, fun b hb => ⟨⟨by omega, by first | omega | (rw [hsz.out]; omega)⟩, by omega⟩, fun b hb => ⟨by omega, by first | omega | (rw [hsz.out]; omega)⟩, G3.out, ⟨rfl, z4, y4⟩⟩, CF.out.bel⟩

end Go.Proofs.YticojnepejboaacGreat
