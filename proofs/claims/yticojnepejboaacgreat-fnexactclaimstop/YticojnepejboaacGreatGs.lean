/-
  The program's copies of names and of a want: all in memory of its own.
-/
import Derived.Test.YticojnepejboaacGreatGr
import Derived.Test.YticojnepejboaacGreatGc
namespace Go.Proofs.YticojnepejboaacGreat
open Go.RowKit

set_option maxRecDepth 100000 in
set_option maxHeartbeats 4000000 in
theorem freshT_any (S : Nat → Prop) (v : Value) (l : List ByteArray) (w : World) (h : AtL S w l v) (hS : ∀ b, S b → b < w.heap.size) (hl : l.length ≤ 1048576) (hs : ∀ x ∈ l, x.size ≤ 1048576) :
    Calls Tryz.prog 52 #[v] w fun e w' => ∃ r, e = .returned r ∧ Row w' w.heap.size 9 1 eS r l ∧ Below w.heap.size w w' := by
  obtain ⟨oa, cap, rfl, hn, hc⟩ := h
  have HC : Hid (∀ i (h : i < l.length), ∃ b off, oa = some ⟨b, off, none⟩ ∧ S b ∧ w.cell? ⟨b, off + i, none⟩ = some (.string l[i])) := fun i hi => by
    obtain ⟨b, off, h1, h2, c, h3, h4⟩ := hc i hi
    have e0 := h3 0 (by decide)
    rw [h4.1] at e0
    exact ⟨b, off, h1, h2, by simpa [width_str] using e0⟩
  have HS : Hid (∀ x ∈ l, x.size ≤ 1048576) := hs
  clear hc hn hs
  obtain ⟨n, en⟩ : ∃ n, l.length = n := ⟨_, rfl⟩
  rw [en] at hl
  rw [en]
  have EN : Hid (l.length = n) := en
  clear en
  go_enter Tryz.func52, Tryz.ntmps52
  go_wp2
  go_loopw [3, 8] (fun r i wr => ∃ k : Nat, k ≤ n ∧ i = .int .i64 k ∧ Hid (Row wr w.heap.size 9 1 eS r (l.take k)) ∧ Hid (Below w.heap.size w wr)) (fun _ i _ => n - (intOf i).toNat)
  case atStart => exact ⟨0, Nat.zero_le _, rfl, by simpa [Hid] using Row.nil w w.heap.size 9 1 eS, Below.refl _ _⟩
  case round =>
    obtain ⟨k, hk, rfl, hrow, hbel⟩ := hrel
    have hsz := hbel.out.size
    by_cases hlt : k < n
    · obtain ⟨b, off, rfl, hbS, c0⟩ := HC.out k (by have := EN.out; omega)
      have e0 := (hbel.out.cell (p := ⟨b, off + k, none⟩) (hS b hbS)).trans c0
      clear c0
      have hx := HS.out _ (List.getElem_mem (show k < l.length by have := EN.out; omega))
      have htk : Hid (l.take (k + 1) = l.take k ++ [l[k]'(by have := EN.out; omega)]) := by
        show _ = _
        rw [List.take_add_one, List.getElem?_eq_getElem (show k < l.length by have := EN.out; omega)]; rfl
      obtain ⟨x, ex⟩ : ∃ x, l[k]'(by have := EN.out; omega) = x := ⟨_, rfl⟩
      rw [ex] at e0 hx htk
      clear ex
      have hlk : (l.take k).length = k := by rw [List.length_take]; have := EN.out; omega
      go_wp2_with fail
      refine (clones_any x _ hx).mono ?_
      rintro e w1 ⟨rfl, hb1⟩
      have hs1 := hb1.size
      have hrow1 : Hid (Row w1 w.heap.size 9 1 eS _ (l.take k)) := Row.below hrow.out hb1
      have hsr : Hid (Src (w1.alloc (.cells #[.string x] 9)) (.slice (some ⟨w1.heap.size, 0, none⟩) 1 1) 1 1 (enc 1 eS [x])) := ⟨rfl, .inr ⟨_, _, rfl, by exact cell_one_new _ _ _⟩⟩
      go_wp2_with (first
        | (at_builtin; refine wpList_app elS rfl _ _ rfl rfl rfl (hrow1.out.alloc _) hsr.out (flatS.enc_one _) (by unfold maxLen; omega) (by omega) (by simp; omega) ?_; intro v' w3 hown hg hbk))
      go_roundw
      case rel =>
        refine ⟨k + 1, by omega, by go_num, ?_, (((hbel.out.trans (hb1.mono hsz)).alloc (by omega) _).grown hg (by simp; omega) (fun p hp => (World.ownsRow.lt hrow1.out p hp).1))⟩
        show Row _ _ _ _ _ _ _
        rw [htk.out]
        show World.ownsRow _ _ _ _ _ _ _
        rw [List.length_append, enc_append]
        exact hown
      case measure => simp [intOf]; omega
    · obtain rfl : n = k := by omega
      have htk : Hid (l.take n = l) := by show _ = _; rw [List.take_of_length_le (by have := EN.out; omega)]
      go_wp2
      go_ret
      refine ⟨_, rfl, ?_, hbel.out⟩
      have := hrow.out
      rw [htk.out] at this
      exact this

set_option maxRecDepth 100000 in
set_option maxHeartbeats 8000000 in
theorem freshW_any (S : Nat → Prop) (a : DClaimWant) (c : Nat → Value) (w : World) (h : Lay.At S w a c) (hS : ∀ b, S b → b < w.heap.size) (hm : Lay.tot a ≤ 1048576) :
    Calls Tryz.prog 54 #[.agg #[c 0, c 1, c 2, c 3, c 4, c 5]] w fun e w' => ∃ g : Nat → Value, e = .returned (.agg #[g 0, g 1, g 2, g 3, g 4, g 5]) ∧ Own.On (fun b => w.heap.size ≤ b ∧ b < w'.heap.size) w' a g ∧ Below w.heap.size w w' := by
  rw [tot_DClaimWant] at hm
  obtain ⟨⟨e0, z0⟩, ⟨e1, z1⟩, H2, H3, H4, H5⟩ := at_DClaimWant.1 h
  clear h
  have hl2 := totL_len a.2.2.1
  have KE2 : Hid (∀ i (h : i < a.2.2.1.length), Lay.tot a.2.2.1[i] ≤ 1048576) := fun i h => Nat.le_trans (totL_el a.2.2.1 i h) (by omega)
  have KS2 : Hid (∀ x ∈ a.2.2.1, x.size ≤ 1048576) := fun x hx => by obtain ⟨i, hi, rfl⟩ := List.getElem_of_mem hx; exact KE2.out i hi
  have K2 : Hid _ := flatS.ok_all H2
  obtain ⟨o2, k2, e2, _⟩ := id H2
  rw [e2] at H2
  obtain ⟨n2, m2⟩ : ∃ n, a.2.2.1.length = n := ⟨_, rfl⟩
  rw [m2] at H2 e2 hl2
  have hl3 := totL_len a.2.2.2.1
  have KE3 : Hid (∀ i (h : i < a.2.2.2.1.length), Lay.tot a.2.2.2.1[i] ≤ 1048576) := fun i h => Nat.le_trans (totL_el a.2.2.2.1 i h) (by omega)
  obtain ⟨o3, k3, e3, _⟩ := id H3
  rw [e3] at H3
  obtain ⟨n3, m3⟩ : ∃ n, a.2.2.2.1.length = n := ⟨_, rfl⟩
  rw [m3] at H3 e3 hl3
  have hl4 := totL_len a.2.2.2.2.1
  have KE4 : Hid (∀ i (h : i < a.2.2.2.2.1.length), Lay.tot a.2.2.2.2.1[i] ≤ 1048576) := fun i h => Nat.le_trans (totL_el a.2.2.2.2.1 i h) (by omega)
  have KS4 : Hid (∀ x ∈ a.2.2.2.2.1, x.size ≤ 1048576) := fun x hx => by obtain ⟨i, hi, rfl⟩ := List.getElem_of_mem hx; exact KE4.out i hi
  have K4 : Hid _ := flatS.ok_all H4
  obtain ⟨o4, k4, e4, _⟩ := id H4
  rw [e4] at H4
  obtain ⟨n4, m4⟩ : ∃ n, a.2.2.2.2.1.length = n := ⟨_, rfl⟩
  rw [m4] at H4 e4 hl4
  have hl5 := totL_len a.2.2.2.2.2
  have KE5 : Hid (∀ i (h : i < a.2.2.2.2.2.length), Lay.tot a.2.2.2.2.2[i] ≤ 1048576) := fun i h => Nat.le_trans (totL_el a.2.2.2.2.2 i h) (by omega)
  have KS5 : Hid (∀ x ∈ a.2.2.2.2.2, x.size ≤ 1048576) := fun x hx => by obtain ⟨i, hi, rfl⟩ := List.getElem_of_mem hx; exact KE5.out i hi
  have K5 : Hid _ := flatS.ok_all H5
  obtain ⟨o5, k5, e5, _⟩ := id H5
  rw [e5] at H5
  obtain ⟨n5, m5⟩ : ∃ n, a.2.2.2.2.2.length = n := ⟨_, rfl⟩
  rw [m5] at H5 e5 hl5
  rw [e0, e1, e2, e3, e4, e5]
  clear e0 e1 e2 e3 e4 e5
  have HH2 : Hid (∀ w', Below w.heap.size w w' → AtL S w' a.2.2.1 (.slice o2 n2 k2)) := fun w' hb => H2.same (Same.of_below hb hS)
  have M2 : Hid (a.2.2.1.length = n2) := m2
  clear m2
  have HH3 : Hid (∀ w', Below w.heap.size w w' → AtL S w' a.2.2.2.1 (.slice o3 n3 k3)) := fun w' hb => H3.same (Same.of_below hb hS)
  have M3 : Hid (a.2.2.2.1.length = n3) := m3
  clear m3
  have HH4 : Hid (∀ w', Below w.heap.size w w' → AtL S w' a.2.2.2.2.1 (.slice o4 n4 k4)) := fun w' hb => H4.same (Same.of_below hb hS)
  have M4 : Hid (a.2.2.2.2.1.length = n4) := m4
  clear m4
  have HH5 : Hid (∀ w', Below w.heap.size w w' → AtL S w' a.2.2.2.2.2 (.slice o5 n5 k5)) := fun w' hb => H5.same (Same.of_below hb hS)
  have M5 : Hid (a.2.2.2.2.2.length = n5) := m5
  clear m5
  clear H2 H3 H4 H5
  obtain ⟨W, hW⟩ : ∃ W, W = (w.alloc (.cells #[.int .i64 a.1, .int .i64 a.2.1, .slice o2 n2 k2, .slice o3 n3 k3, .slice o4 n4 k4, .slice o5 n5 k5] 48)).alloc (.cells #[.int .i64 0, .int .i64 0, .slice none 0 0, .slice none 0 0, .slice none 0 0, .slice none 0 0] 48) := ⟨_, rfl⟩
  have BW : Hid (Below w.heap.size w W) := by rw [hW]; exact ((Below.refl _ _).alloc (Nat.le_refl _) _).alloc (by simp) _
  have sW : W.heap.size = w.heap.size + 1 + 1 := by rw [hW]; simp
  have X0 : Hid (W.heap[w.heap.size]? = some (.cells #[.int .i64 a.1, .int .i64 a.2.1, .slice o2 n2 k2, .slice o3 n3 k3, .slice o4 n4 k4, .slice o5 n5 k5] 48 (0, 0))) := by rw [hW]; exact (Below.heap_alloc _ _ _ (by simp)).trans (heap_alloc_new w _)
  have Y0 : Hid (W.heap[w.heap.size + 1]? = some (.cells #[.int .i64 0, .int .i64 0, .slice none 0 0, .slice none 0 0, .slice none 0 0, .slice none 0 0] 48 (0, 0))) := by rw [hW]; have := heap_alloc_new (w.alloc (.cells #[.int .i64 a.1, .int .i64 a.2.1, .slice o2 n2 k2, .slice o3 n3 k3, .slice o4 n4 k4, .slice o5 n5 k5] 48)) (.cells #[.int .i64 0, .int .i64 0, .slice none 0 0, .slice none 0 0, .slice none 0 0, .slice none 0 0] 48); rw [World.size_alloc] at this; exact this
  have HW : Hid (W = (w.alloc (.cells #[.int .i64 a.1, .int .i64 a.2.1, .slice o2 n2 k2, .slice o3 n3 k3, .slice o4 n4 k4, .slice o5 n5 k5] 48)).alloc (.cells #[.int .i64 0, .int .i64 0, .slice none 0 0, .slice none 0 0, .slice none 0 0, .slice none 0 0] 48)) := hW
  clear hW
  go_enter Tryz.func54, Tryz.ntmps54
  go_upto_region 1 with fail
  rw [← HW.out]
  clear HW
  have HDX : Hid (W.drew.heap[w.heap.size]? = some (.cells #[.int .i64 a.1, .int .i64 a.2.1, .slice o2 n2 k2, .slice o3 n3 k3, .slice o4 n4 k4, .slice o5 n5 k5] 48 (0, 0))) := X0.out
  refine wp_region_movesC (fun v => Below W.drew.heap.size W.drew v) 15 [] (by kernel_rfl) (by kernel_rfl) (Below.refl _ _) ?_
  simp only [List.filterMap_nil, movD]
  refine takeHQ (f := 14) (i := 0) (.pointer (some ⟨w.heap.size, 0, none⟩)) ⟨rfl, rfl⟩ (by kernel_rfl) rfl (Below.refl _ _) ?r0 ?_
  case r0 => intro v hv; go_simp
  simp only [Act.put, List.setIfInBounds_toArray, List.set_cons_zero, List.set_cons_succ]
  refine takeHQ (f := 13) (i := 1) (.int .i64 a.1) ⟨rfl, rfl⟩ (by kernel_rfl) rfl (Below.refl _ _) ?r1 ?_
  case r1 => intro v hv; have k0 := (cell_row (box_stable hv HDX.out) 0 _ rfl).1; go_simp
  simp only [Act.put, List.setIfInBounds_toArray, List.set_cons_zero, List.set_cons_succ]
  refine takeHQ (f := 12) (i := 2) (.pointer (some ⟨w.heap.size, 1, none⟩)) ⟨rfl, rfl⟩ (by kernel_rfl) rfl (Below.refl _ _) ?r2 ?_
  case r2 => intro v hv; go_simp
  simp only [Act.put, List.setIfInBounds_toArray, List.set_cons_zero, List.set_cons_succ]
  refine takeHQ (f := 11) (i := 3) (.int .i64 a.2.1) ⟨rfl, rfl⟩ (by kernel_rfl) rfl (Below.refl _ _) ?r3 ?_
  case r3 => intro v hv; have k0 := (cell_row (box_stable hv HDX.out) 1 _ rfl).1; go_simp
  simp only [Act.put, List.setIfInBounds_toArray, List.set_cons_zero, List.set_cons_succ]
  refine takeHQ (f := 10) (i := 4) (.pointer (some ⟨w.heap.size, 2, none⟩)) ⟨rfl, rfl⟩ (by kernel_rfl) rfl (Below.refl _ _) ?r4 ?_
  case r4 => intro v hv; go_simp
  simp only [Act.put, List.setIfInBounds_toArray, List.set_cons_zero, List.set_cons_succ]
  refine takeHQ (f := 9) (i := 5) (.slice o2 n2 k2) ⟨rfl, rfl⟩ (by kernel_rfl) rfl (Below.refl _ _) ?r5 ?_
  case r5 => intro v hv; have k0 := (cell_row (box_stable hv HDX.out) 2 _ rfl).1; go_simp
  simp only [Act.put, List.setIfInBounds_toArray, List.set_cons_zero, List.set_cons_succ]
  refine takeHQ (f := 8) (i := 7) (.pointer (some ⟨w.heap.size, 4, none⟩)) ⟨rfl, rfl⟩ (by kernel_rfl) rfl (Below.refl _ _) ?r7 ?_
  case r7 => intro v hv; go_simp
  simp only [Act.put, List.setIfInBounds_toArray, List.set_cons_zero, List.set_cons_succ]
  refine takeHQ (f := 7) (i := 8) (.slice o4 n4 k4) ⟨rfl, rfl⟩ (by kernel_rfl) rfl (Below.refl _ _) ?r8 ?_
  case r8 => intro v hv; have k0 := (cell_row (box_stable hv HDX.out) 4 _ rfl).1; go_simp
  simp only [Act.put, List.setIfInBounds_toArray, List.set_cons_zero, List.set_cons_succ]
  refine takeHQ (f := 6) (i := 10) (.pointer (some ⟨w.heap.size, 5, none⟩)) ⟨rfl, rfl⟩ (by kernel_rfl) rfl (Below.refl _ _) ?r10 ?_
  case r10 => intro v hv; go_simp
  simp only [Act.put, List.setIfInBounds_toArray, List.set_cons_zero, List.set_cons_succ]
  refine takeHQ (f := 5) (i := 11) (.slice o5 n5 k5) ⟨rfl, rfl⟩ (by kernel_rfl) rfl (Below.refl _ _) ?r11 ?_
  case r11 => intro v hv; have k0 := (cell_row (box_stable hv HDX.out) 5 _ rfl).1; go_simp
  simp only [Act.put, List.setIfInBounds_toArray, List.set_cons_zero, List.set_cons_succ]
  refine growV_all [⟨6, 12, [], (fun w' f => w'.ownsRow W.heap.size 9 1 (f 12) n2 (enc 1 eS a.2.2.1))⟩, ⟨9, 15, [6], (fun w' f => ∃ lo, w'.ownsRow lo 9 1 (f 15) n4 (enc 1 eS a.2.2.2.2.1) ∧ (∀ g, (f 12).ownBlock = some g → g < lo) ∧ W.heap.size ≤ lo)⟩, ⟨12, 18, [6, 9], (fun w' f => ∃ lo, w'.ownsRow lo 9 1 (f 18) n5 (enc 1 eS a.2.2.2.2.2) ∧ (∀ g, (f 12).ownBlock = some g → g < lo) ∧ (∀ g, (f 15).ownBlock = some g → g < lo) ∧ W.heap.size ≤ lo)⟩, ⟨13, 19, [6, 9, 12], (fun w' f => f 19 = .agg #[.int .i64 a.1, .int .i64 a.2.1, f 12, .slice none 0 0, f 15, f 18])⟩, ⟨14, 3, [], (fun w' f => ∃ g, f 3 = .pointer (some ⟨g, 0, none⟩) ∧ W.heap.size ≤ g ∧ w'.heap[g]? = some (.cells #[.int .i64 0, .int .i64 0, .slice none 0 0, .slice none 0 0, .slice none 0 0, .slice none 0 0] 48 (0, 0)))⟩] (by kernel_rfl) (by kernel_rfl) ?hst ?hS (fun _ h => h) ?hK
  case hst =>
    intro m hm v v' f f' hb e hu
    simp only [List.mem_cons, List.not_mem_nil, or_false] at hm
    rcases hm with rfl | rfl | rfl | rfl | rfl
    · intro h
      simp only at e h ⊢
      rw [e]
      exact row_stable hb h
    · rintro ⟨lo, h1, h2, h3⟩
      have q1 := hu _ (List.mem_cons_self) (by simp)
      simp only at e q1 ⊢
      rw [e, q1]
      exact ⟨lo, row_stable hb h1, h2, h3⟩
    · rintro ⟨lo, h1, h2, h3, h4⟩
      have q1 := hu _ (List.mem_cons_self) (by simp)
      have q2 := hu _ (List.mem_cons_of_mem _ List.mem_cons_self) (by simp)
      simp only at e q1 q2 ⊢
      rw [e, q1, q2]
      exact ⟨lo, row_stable hb h1, h2, h3, h4⟩
    · intro h
      have q1 := hu _ (List.mem_cons_self) (by simp)
      have q2 := hu _ (List.mem_cons_of_mem _ List.mem_cons_self) (by simp)
      have q3 := hu _ (List.mem_cons_of_mem _ (List.mem_cons_of_mem _ List.mem_cons_self)) (by simp)
      simp only at e h q1 q2 q3 ⊢
      rw [e, h, q1, q2, q3]
    · rintro ⟨g, h1, h2, h3⟩
      exact ⟨g, e.trans h1, h2, box_stable hb h3⟩
  case hS =>
    intro m hm
    simp only [List.mem_cons, List.not_mem_nil, or_false] at hm
    rcases hm with rfl | rfl | rfl | rfl | rfl
    · refine ⟨_, rfl, ?_⟩
      intro b v hA hb hu
      have e11 : b.tmps[11]?.getD undef = .slice o2 n2 k2 := by simpa [Act.eval] using (hA.off 11 (off_of 11 (by kernel_rfl))).trans (rfl : _ = (.slice o2 n2 k2 : Value))
      clear hA hu
      refine .inr ⟨52, #[.slice o2 n2 k2], ?_, (freshT_any S _ a.2.2.1 v (HH2.out v (BW.out.drew.trans (hb.mono BW.out.size))) (fun b hb' => by have := hS b hb'; have := hb.size; have := BW.out.size; simp at *; omega) (by rw [M2.out]; omega) KS2.out).mono ?_⟩
      · go_simp
      · rintro e u ⟨r, rfl, hr, hbu⟩
        refine ⟨_, rfl, ?_, hbu⟩
        show World.ownsRow _ _ _ _ (updV _ 12 _ 12) _ _
        rw [show updV (vals b) 12 r 12 = r from if_pos rfl, ← M2.out]
        exact Row.low hr hb.size
    · refine ⟨_, rfl, ?_⟩
      intro b v hA hb hu
      have e14 : b.tmps[14]?.getD undef = .slice o4 n4 k4 := by simpa [Act.eval] using (hA.off 14 (off_of 14 (by kernel_rfl))).trans (rfl : _ = (.slice o4 n4 k4 : Value))
      have lt6 : ∀ g, (vals b 12).ownBlock = some g → W.heap.size ≤ g ∧ g < v.heap.size := World.ownsRow.lt (hu _ (List.mem_cons_self) (by simp))
      clear hA hu
      refine .inr ⟨52, #[.slice o4 n4 k4], ?_, (freshT_any S _ a.2.2.2.2.1 v (HH4.out v (BW.out.drew.trans (hb.mono BW.out.size))) (fun b hb' => by have := hS b hb'; have := hb.size; have := BW.out.size; simp at *; omega) (by rw [M4.out]; omega) KS4.out).mono ?_⟩
      · go_simp
      · rintro e u ⟨r, rfl, hr, hbu⟩
        refine ⟨_, rfl, ?_, hbu⟩
        refine ⟨v.heap.size, ?_, fun g hg => (lt6 g (by rw [← hg, show updV (vals b) 15 r 12 = vals b 12 from if_neg (by decide)])).2, hb.size⟩
        rw [show updV (vals b) 15 r 15 = r from if_pos rfl, ← M4.out]
        exact hr
    · refine ⟨_, rfl, ?_⟩
      intro b v hA hb hu
      have e17 : b.tmps[17]?.getD undef = .slice o5 n5 k5 := by simpa [Act.eval] using (hA.off 17 (off_of 17 (by kernel_rfl))).trans (rfl : _ = (.slice o5 n5 k5 : Value))
      have lt6 : ∀ g, (vals b 12).ownBlock = some g → W.heap.size ≤ g ∧ g < v.heap.size := World.ownsRow.lt (hu _ (List.mem_cons_self) (by simp))
      obtain ⟨lo, h9, _, _⟩ := hu _ (List.mem_cons_of_mem _ List.mem_cons_self) (by simp)
      have lt9 : ∀ g, (vals b 15).ownBlock = some g → lo ≤ g ∧ g < v.heap.size := World.ownsRow.lt h9
      clear h9
      clear hA hu
      refine .inr ⟨52, #[.slice o5 n5 k5], ?_, (freshT_any S _ a.2.2.2.2.2 v (HH5.out v (BW.out.drew.trans (hb.mono BW.out.size))) (fun b hb' => by have := hS b hb'; have := hb.size; have := BW.out.size; simp at *; omega) (by rw [M5.out]; omega) KS5.out).mono ?_⟩
      · go_simp
      · rintro e u ⟨r, rfl, hr, hbu⟩
        refine ⟨_, rfl, ?_, hbu⟩
        refine ⟨v.heap.size, ?_, fun g hg => (lt6 g (by rw [← hg, show updV (vals b) 18 r 12 = vals b 12 from if_neg (by decide)])).2, fun g hg => (lt9 g (by rw [← hg, show updV (vals b) 18 r 15 = vals b 15 from if_neg (by decide)])).2, hb.size⟩
        rw [show updV (vals b) 18 r 18 = r from if_pos rfl, ← M5.out]
        exact hr
    · refine ⟨_, rfl, ?_⟩
      intro b v hA hb hu
      have e7 : b.tmps[7]?.getD undef = .int .i64 a.1 := by simpa [Act.eval] using (hA.off 7 (off_of 7 (by kernel_rfl))).trans (rfl : _ = (.int .i64 a.1 : Value))
      have e9 : b.tmps[9]?.getD undef = .int .i64 a.2.1 := by simpa [Act.eval] using (hA.off 9 (off_of 9 (by kernel_rfl))).trans (rfl : _ = (.int .i64 a.2.1 : Value))
      have h6 := hu _ (List.mem_cons_self) (by simp)
      obtain ⟨_, h9, _⟩ := hu _ (List.mem_cons_of_mem _ List.mem_cons_self) (by simp)
      obtain ⟨_, h12, _⟩ := hu _ (List.mem_cons_of_mem _ (List.mem_cons_of_mem _ List.mem_cons_self)) (by simp)
      obtain ⟨p2, q2, e12⟩ := ownsRow_shape h6
      obtain ⟨p4, q4, e15⟩ := ownsRow_shape h9
      obtain ⟨p5, q5, e18⟩ := ownsRow_shape h12
      have d12 : b.tmps[12]?.getD undef = .slice p2 n2 q2 := by simpa [vals, Act.eval] using e12
      have d15 : b.tmps[15]?.getD undef = .slice p4 n4 q4 := by simpa [vals, Act.eval] using e15
      have d18 : b.tmps[18]?.getD undef = .slice p5 n5 q5 := by simpa [vals, Act.eval] using e18
      clear hA hu h6 h9 h12
      refine .inl ⟨.agg #[.int .i64 a.1, .int .i64 a.2.1, .slice p2 n2 q2, .slice none 0 0, .slice p4 n4 q4, .slice p5 n5 q5], v, ?_, ?_, Below.refl _ _⟩
      · go_simp
      · show updV _ 19 _ 19 = _
        rw [show ∀ x, updV (vals b) 19 x 19 = x from fun _ => if_pos rfl, show ∀ x, updV (vals b) 19 x 12 = vals b 12 from fun _ => if_neg (by decide), show ∀ x, updV (vals b) 19 x 15 = vals b 15 from fun _ => if_neg (by decide), show ∀ x, updV (vals b) 19 x 18 = vals b 18 from fun _ => if_neg (by decide), e12, e15, e18]
    · refine ⟨_, rfl, ?_⟩
      intro b v hA hb hu
      clear hA hu
      refine .inl ⟨.pointer (some ⟨v.heap.size, 0, none⟩), v.alloc (.cells #[.int .i64 0, .int .i64 0, .slice none 0 0, .slice none 0 0, .slice none 0 0, .slice none 0 0] 48), ?_, ⟨v.heap.size, if_pos rfl, hb.size, heap_alloc_new v _⟩, (Below.refl _ _).alloc (Nat.le_refl _) _⟩
      go_simp
  case hK =>
    intro vv X hbX hF
    have r2 := hF _ (List.mem_cons_self)
    obtain ⟨lo4, r4, m24, w4⟩ := hF _ (List.mem_cons_of_mem _ List.mem_cons_self)
    obtain ⟨lo5, r5, m25, m45, w5⟩ := hF _ (List.mem_cons_of_mem _ (List.mem_cons_of_mem _ List.mem_cons_self))
    have e19 := hF _ (List.mem_cons_of_mem _ (List.mem_cons_of_mem _ (List.mem_cons_of_mem _ List.mem_cons_self)))
    obtain ⟨gx, e3, hgx, hxx⟩ := hF _ (List.mem_cons_of_mem _ (List.mem_cons_of_mem _ (List.mem_cons_of_mem _ (List.mem_cons_of_mem _ List.mem_cons_self))))
    clear hF
    simp only at r2 r4 r5 m24 m25 m45 e19 e3 hxx
    obtain ⟨p2, q2, e12⟩ := ownsRow_shape r2
    obtain ⟨p4, q4, e15⟩ := ownsRow_shape r4
    obtain ⟨p5, q5, e18⟩ := ownsRow_shape r5
    rw [e12] at r2 e19 m24 m25
    rw [e15] at r4 e19 m45
    rw [e18] at r5 e19
    refine ⟨by kernel_rfl, ?_⟩
    simp only [putG, Gv.g, List.map_cons, List.map_nil, List.foldl_cons, List.foldl_nil, Act.put, List.setIfInBounds_toArray, List.set_cons_zero, List.set_cons_succ, List.drop_succ_cons, List.drop_zero]
    rw [e12, e15, e18, e19, e3]
    clear e12 e15 e18 e19 e3
    have BX : Hid (Below w.heap.size w X) := BW.out.drew.trans (hbX.mono BW.out.size)
    have X1 : Hid (X.heap[w.heap.size]? = some (.cells #[.int .i64 a.1, .int .i64 a.2.1, .slice o2 n2 k2, .slice o3 n3 k3, .slice o4 n4 k4, .slice o5 n5 k5] 48 (0, 0))) := box_stable hbX X0.out
    have Y1 : Hid (X.heap[w.heap.size + 1]? = some (.cells #[.int .i64 0, .int .i64 0, .slice none 0 0, .slice none 0 0, .slice none 0 0, .slice none 0 0] 48 (0, 0))) := box_stable hbX Y0.out
    have hXs : W.heap.size ≤ X.heap.size := hbX.size
    have hgl : gx < X.heap.size := (Array.getElem?_eq_some_iff.1 hxx).1
    obtain ⟨l0, f0⟩ := cell_row hxx 0 _ rfl
    obtain ⟨l1, f1⟩ := cell_row hxx 1 _ rfl
    obtain ⟨l2, f2⟩ := cell_row hxx 2 _ rfl
    obtain ⟨l3, f3⟩ := cell_row hxx 3 _ rfl
    obtain ⟨l4, f4⟩ := cell_row hxx 4 _ rfl
    obtain ⟨l5, f5⟩ := cell_row hxx 5 _ rfl
    simp only [List.getElem_toArray, List.getElem_cons_zero, List.getElem_cons_succ] at l0 l1 l2 l3 l4 l5
    obtain ⟨F0, F1, F2, F3⟩ := ret_6 hxx (.int .i64 a.1) (.int .i64 a.2.1) (.slice p2 n2 q2) (.slice none 0 0) (.slice p4 n4 q4) (.slice p5 n5 q5)
    go_upto_region 2 with fail
    clear l0 l1 l2 l3 l4 l5 f0 f1 f2 f3 f4 f5
    have R2 : Hid (((((((X.setCell ⟨gx, 0, none⟩ (.int .i64 a.1)).setCell ⟨gx, 1, none⟩ (.int .i64 a.2.1)).setCell ⟨gx, 2, none⟩ (.slice p2 n2 q2)).setCell ⟨gx, 3, none⟩ (.slice none 0 0)).setCell ⟨gx, 4, none⟩ (.slice p4 n4 q4)).setCell ⟨gx, 5, none⟩ (.slice p5 n5 q5)).ownsRow W.heap.size 9 1 (.slice p2 n2 q2) n2 (enc 1 eS a.2.2.1)) := ownsRow_kept r2 (fun g hg => F1 g (fun e => row_ne r2 hxx (by decide) (e ▸ hg)))
    have R4 : Hid (((((((X.setCell ⟨gx, 0, none⟩ (.int .i64 a.1)).setCell ⟨gx, 1, none⟩ (.int .i64 a.2.1)).setCell ⟨gx, 2, none⟩ (.slice p2 n2 q2)).setCell ⟨gx, 3, none⟩ (.slice none 0 0)).setCell ⟨gx, 4, none⟩ (.slice p4 n4 q4)).setCell ⟨gx, 5, none⟩ (.slice p5 n5 q5)).ownsRow lo4 9 1 (.slice p4 n4 q4) n4 (enc 1 eS a.2.2.2.2.1)) := ownsRow_kept r4 (fun g hg => F1 g (fun e => row_ne r4 hxx (by decide) (e ▸ hg)))
    have R5 : Hid (((((((X.setCell ⟨gx, 0, none⟩ (.int .i64 a.1)).setCell ⟨gx, 1, none⟩ (.int .i64 a.2.1)).setCell ⟨gx, 2, none⟩ (.slice p2 n2 q2)).setCell ⟨gx, 3, none⟩ (.slice none 0 0)).setCell ⟨gx, 4, none⟩ (.slice p4 n4 q4)).setCell ⟨gx, 5, none⟩ (.slice p5 n5 q5)).ownsRow lo5 9 1 (.slice p5 n5 q5) n5 (enc 1 eS a.2.2.2.2.2)) := ownsRow_kept r5 (fun g hg => F1 g (fun e => row_ne r5 hxx (by decide) (e ▸ hg)))
    have Z0 : Hid (((((((X.setCell ⟨gx, 0, none⟩ (.int .i64 a.1)).setCell ⟨gx, 1, none⟩ (.int .i64 a.2.1)).setCell ⟨gx, 2, none⟩ (.slice p2 n2 q2)).setCell ⟨gx, 3, none⟩ (.slice none 0 0)).setCell ⟨gx, 4, none⟩ (.slice p4 n4 q4)).setCell ⟨gx, 5, none⟩ (.slice p5 n5 q5)).heap[w.heap.size]? = some (.cells #[.int .i64 a.1, .int .i64 a.2.1, .slice o2 n2 k2, .slice o3 n3 k3, .slice o4 n4 k4, .slice o5 n5 k5] 48 (0, 0))) := (F1 _ (by omega)).trans X1.out
    have Z1 : Hid (((((((X.setCell ⟨gx, 0, none⟩ (.int .i64 a.1)).setCell ⟨gx, 1, none⟩ (.int .i64 a.2.1)).setCell ⟨gx, 2, none⟩ (.slice p2 n2 q2)).setCell ⟨gx, 3, none⟩ (.slice none 0 0)).setCell ⟨gx, 4, none⟩ (.slice p4 n4 q4)).setCell ⟨gx, 5, none⟩ (.slice p5 n5 q5)).heap[w.heap.size + 1]? = some (.cells #[.int .i64 0, .int .i64 0, .slice none 0 0, .slice none 0 0, .slice none 0 0, .slice none 0 0] 48 (0, 0))) := (F1 _ (by omega)).trans Y1.out
    have ZX : Hid (((((((X.setCell ⟨gx, 0, none⟩ (.int .i64 a.1)).setCell ⟨gx, 1, none⟩ (.int .i64 a.2.1)).setCell ⟨gx, 2, none⟩ (.slice p2 n2 q2)).setCell ⟨gx, 3, none⟩ (.slice none 0 0)).setCell ⟨gx, 4, none⟩ (.slice p4 n4 q4)).setCell ⟨gx, 5, none⟩ (.slice p5 n5 q5)).heap[gx]? = some (.cells #[.int .i64 a.1, .int .i64 a.2.1, .slice p2 n2 q2, .slice none 0 0, .slice p4 n4 q4, .slice p5 n5 q5] 48 (0, 0))) := F0
    have BU : Hid (Below w.heap.size w ((((((X.setCell ⟨gx, 0, none⟩ (.int .i64 a.1)).setCell ⟨gx, 1, none⟩ (.int .i64 a.2.1)).setCell ⟨gx, 2, none⟩ (.slice p2 n2 q2)).setCell ⟨gx, 3, none⟩ (.slice none 0 0)).setCell ⟨gx, 4, none⟩ (.slice p4 n4 q4)).setCell ⟨gx, 5, none⟩ (.slice p5 n5 q5))) := BX.out.trans (F3.mono (by omega))
    generalize ((((((X.setCell ⟨gx, 0, none⟩ (.int .i64 a.1)).setCell ⟨gx, 1, none⟩ (.int .i64 a.2.1)).setCell ⟨gx, 2, none⟩ (.slice p2 n2 q2)).setCell ⟨gx, 3, none⟩ (.slice none 0 0)).setCell ⟨gx, 4, none⟩ (.slice p4 n4 q4)).setCell ⟨gx, 5, none⟩ (.slice p5 n5 q5)) = U at R2 R4 R5 Z0 Z1 ZX BU F2 ⊢
    clear F0 F1 F3 X1 Y1 BX r2 r4 r5 hxx hbX
    have hgU : gx < U.heap.size := (Array.getElem?_eq_some_iff.1 ZX.out).1
    have hwU : w.heap.size + 1 < gx := by omega
    clear F2 hgl hXs
    have ZU : Hid (U.heap[gx]? = some (.cells #[.int .i64 a.1, .int .i64 a.2.1, .slice p2 n2 q2, .slice none 0 0, .slice p4 n4 q4, .slice p5 n5 q5] 48 (0, 0))) := ZX.out
    have M24 : Hid _ := m24
    have M25 : Hid _ := m25
    have M45 : Hid _ := m45
    clear m24 m25 m45
    obtain ⟨xu, _⟩ := cell_row Z0.out 3 _ rfl
    simp only [List.getElem_toArray, List.getElem_cons_zero, List.getElem_cons_succ] at xu
    go_wp2_with fail
    clear xu
    go_loopw [23] (fun i wr => ∃ (k : Nat) (ov : Option Addr) (kv : Nat) (xs : List Value), k ≤ n3 ∧ i = .int .i64 k ∧ Hid (Bld U.heap.size wr 106 (.slice ov k kv) (a.2.2.2.1.take k) xs) ∧ Hid (wr.heap[gx]? = some (.cells #[.int .i64 a.1, .int .i64 a.2.1, .slice p2 n2 q2, .slice ov k kv, .slice p4 n4 q4, .slice p5 n5 q5] 48 (0, 0))) ∧ Hid (But (fun b => b = gx) U wr)) (fun i _ => n3 - (intOf i).toNat)
    case atStart => exact ⟨0, none, 0, [], Nat.zero_le _, rfl, by show Bld _ _ _ _ _ _; rw [List.take_zero]; exact Bld.nil _ _ _, ZX.out, But.refl _ _⟩
    case round =>
      obtain ⟨k, ov, kv, xs, hk, rfl, hB, hG, hN⟩ := hrel
      have hNs := hN.out.size
      have bwr : Hid (Below w.heap.size w wr) := BU.out.trans (hN.out.below (B := w.heap.size) (fun b hb => by omega) (by omega))
      have hA1 := (hN.out.block w.heap.size (by omega) (by omega)).trans Z0.out
      by_cases hlt : k < n3
      · have hatL := HH3.out wr bwr.out
        obtain ⟨oa, cp, ev, _, hc⟩ := hatL
        obtain ⟨b, off, eo, hbS, cc, hcell, hat⟩ := hc k (by rw [M3.out]; exact hlt)
        have eo1 : o3 = some ⟨b, off, none⟩ := by injection ev with h1 _ _; exact h1.trans eo
        subst eo1
        clear ev eo hc
        rw [width_DClaimUse] at hcell
        have e0 : wr.cell? ⟨b, off + k * 3, none⟩ = some (cc 0) := by have := hcell 0 (by omega); simpa using this
        have e1 : wr.cell? ⟨b, off + k * 3 + 1, none⟩ = some (cc 1) := by have := hcell 1 (by omega); simpa using this
        have e2 : wr.cell? ⟨b, off + k * 3 + 2, none⟩ = some (cc 2) := by have := hcell 2 (by omega); simpa using this
        rw [at_DClaimUse] at hat
        have hye := KE3.out k (by rw [M3.out]; exact hlt)
        have htk : Hid (a.2.2.2.1.take (k + 1) = a.2.2.2.1.take k ++ [a.2.2.2.1[k]'(by rw [M3.out]; exact hlt)]) := by
          show _ = _
          rw [List.take_add_one, List.getElem?_eq_getElem (by rw [M3.out]; exact hlt)]; rfl
        obtain ⟨y, ey⟩ : ∃ y, a.2.2.2.1[k]'(by rw [M3.out]; exact hlt) = y := ⟨_, rfl⟩
        rw [ey] at hat hye htk
        clear ey hcell
        obtain ⟨⟨g0, z0u⟩, ⟨g1, z1u⟩, ⟨g2, z2u⟩⟩ := hat
        rw [tot_DClaimUse] at hye
        rw [g0] at e0
        rw [g1] at e1
        rw [g2] at e2
        clear g0 g1 g2
        have hz : y.1.size ≤ 1048576 := by omega
        obtain ⟨U6, hU6⟩ : ∃ V, V = wr.alloc (.cells #[.string y.1, .int .i64 y.2.1, .int .i64 y.2.2] 106) := ⟨_, rfl⟩
        have B6 : Hid (Below wr.heap.size wr U6) := by rw [hU6]; exact (Below.refl _ _).alloc (Nat.le_refl _) _
        have s6 : U6.heap.size ≤ wr.heap.size + 1 ∧ wr.heap.size + 1 ≤ U6.heap.size := by rw [hU6]; simp
        have X6 : Hid (U6.heap[wr.heap.size]? = some (.cells #[.string y.1, .int .i64 y.2.1, .int .i64 y.2.2] 106 (0, 0))) := by rw [hU6]; exact heap_alloc_new wr _
        have H6 : Hid (U6 = wr.alloc (.cells #[.string y.1, .int .i64 y.2.1, .int .i64 y.2.2] 106)) := hU6
        have G6 : Hid (U6.heap[gx]? = _) := (B6.out.block gx (by omega)).trans hG.out
        clear hU6
        go_upto_region 5 with fail
        rw [← H6.out]
        have hdr : Hid (Below U6.heap.size U6 U6.drew) := (Below.refl _ _).drew
        clear H6 e0 e1 e2
        obtain ⟨yx, _⟩ := cell_row G6.out 3 _ rfl
        obtain ⟨c0, _⟩ := cell_row X6.out 0 _ rfl
        obtain ⟨c1, _⟩ := cell_row X6.out 1 _ rfl
        obtain ⟨c2, _⟩ := cell_row X6.out 2 _ rfl
        simp only [List.getElem_toArray, List.getElem_cons_zero, List.getElem_cons_succ] at yx c0 c1 c2
        have qx := fun d os => cell_regrown yx d os
        have q0 := fun d os => cell_regrown c0 d os
        have q1 := fun d os => cell_regrown c1 d os
        have q2 := fun d os => cell_regrown c2 d os
        refine wp_region_mix 11 [0, 1, 2, 3, 5, 6, 7, 8] (by kernel_rfl) (by kernel_rfl) ?_
        simp only [List.filterMap_cons, List.filterMap_nil, List.getElem?_cons_succ, List.getElem?_cons_zero]
        repeat (first | go_big_quiet_step (fail) | quiet_step (fail))
        refine wpQuiet_nil ?_
        clear yx qx c0 q0 c1 q1 c2 q2
        refine call1 (md := .any) (f := 2) (i := 4) (dc := 31) (fn := 53) ⟨rfl, rfl, rfl, by decide⟩ (by kernel_rfl) ?run4 (Calls.mono (clones_any y.1 U6.drew hz) ?_)
        case run4 => go_simp
        rintro e u7 ⟨rfl, hb7⟩
        have B7u : Hid (Below U6.heap.size U6 u7) := hdr.out.trans hb7
        have B7 : Hid (Below wr.heap.size wr u7) := B6.out.trans (B7u.out.mono (by omega))
        refine ⟨_, rfl, regrown_of_below B7u.out, ?_⟩
        simp only [Act.put, List.setIfInBounds_toArray, List.set_cons_zero, List.set_cons_succ]
        clear hb7
        have sUL := B7.out.size
        obtain ⟨ua, hua⟩ : ∃ V, V = u7.alloc (.cells #[.string y.1, .int .i64 y.2.1, .int .i64 y.2.2] 106) := ⟨_, rfl⟩
        have HUA : Hid (ua = u7.alloc (.cells #[.string y.1, .int .i64 y.2.1, .int .i64 y.2.2] 106)) := hua
        have sua : ua.heap.size ≤ u7.heap.size + 1 ∧ u7.heap.size + 1 ≤ ua.heap.size := by rw [hua]; simp
        have BAA : Hid (Below u7.heap.size u7 ua) := by rw [hua]; exact (Below.refl _ _).alloc (Nat.le_refl _) _
        have BA : Hid (Below wr.heap.size wr ua) := B7.out.trans (BAA.out.mono sUL)
        have HSRC : Hid (Src ua (.slice (some ⟨u7.heap.size, 0, none⟩) 1 1) 1 3 (#[.string y.1, .int .i64 y.2.1, .int .i64 y.2.2] : Array Value).toList) := by
          have h1 : ua.ownsRow 0 106 3 (.slice (some ⟨u7.heap.size, 0, none⟩) 1 1) 1 (#[.string y.1, .int .i64 y.2.1, .int .i64 y.2.2] : Array Value).toList := by
            rw [hua]; exact own_built (Nat.zero_le _) (by unfold maxLen; omega) rfl
          exact own_src h1
        have hlk : (a.2.2.2.1.take k).length = k := by rw [List.length_take, M3.out]; omega
        have HOWN : Hid (ua.ownsRow U.heap.size 106 3 (.slice ov k kv) k xs) := by have := row_stable BA.out hB.out.row; rw [hlk] at this; exact this
        have HONE : Hid (∀ z ∈ (#[.string y.1, .int .i64 y.2.1, .int .i64 y.2.2] : Array Value).toList, z.oneCell' = true) := by intro z hz; simp at hz; rcases hz with rfl | rfl | rfl <;> rfl
        clear hua
        have BAU : Hid (Below U6.heap.size U6 (u7.alloc (.cells #[.string y.1, .int .i64 y.2.1, .int .i64 y.2.2] 106))) := (B7u.out.alloc (by have := B7u.out.size; omega) _)
        refine anyC_step (f := 1) [9] (by kernel_rfl) (by simp) (one_list ⟨by decide, _, rfl, rfl, .agg #[.string y.1, .int .i64 y.2.1, .int .i64 y.2.2], u7, ?runa, regrown_of_below B7u.out, ?_⟩)
        case runa => go_simp
        refine anyC_step (f := 0) [10] (by kernel_rfl) (by simp) (one_list ⟨by decide, _, rfl, rfl, .slice (some ⟨u7.heap.size, 0, none⟩) 1 1, u7.alloc (.cells #[.string y.1, .int .i64 y.2.1, .int .i64 y.2.2] 106), ?runb, regrown_of_below BAU.out, ?_⟩)
        case runb => go_simp
        refine ⟨by kernel_rfl, ?_⟩
        simp only [List.drop_succ_cons, List.drop_zero]
        rw [← HUA.out]
        go_wp2_with (first
          | (at_builtin;  refine wpList_app elU rfl _ _ rfl rfl rfl HOWN.out HSRC.out HONE.out (by unfold maxLen; omega) (by omega) (by omega) ?_; intro v' u8 hown hgr hbk; obtain ⟨ov', kv', rfl⟩ := ownsRow_shape hown; have hg8 : u8.heap[gx]? = some (.cells #[.int .i64 a.1, .int .i64 a.2.1, .slice p2 n2 q2, .slice ov k kv, .slice p4 n4 q4, .slice p5 n5 q5] 48 (0, 0)) := (hgr.block gx (by omega) (fun e => by have := (World.ownsRow.lt HOWN.out gx e.symm).1; omega)).trans ((BA.out.block gx (by omega)).trans hG.out); obtain ⟨zc8, zf8⟩ := cell_row hg8 3 _ rfl; simp only [List.getElem_toArray, List.getElem_cons_zero, List.getElem_cons_succ] at  zc8))
        have SET := set_row hg8 3 (.slice ov' (k + 1) kv')
        have PUSH := Bld.push (x := y) (c := cs (#[.string y.1, .int .i64 y.2.1, .int .i64 y.2.2] : Array Value).toList) hB.out hNs BA.out (on_DClaimUse.2 ⟨fun _ => False, fun _ => False, fun _ h => h.elim, fun _ h => h.elim, ⟨rfl, z0u⟩, fun _ => False, fun _ => False, fun _ h => h.elim, fun _ h => h.elim, ⟨rfl, z1u⟩, ⟨rfl, z2u⟩⟩) hgr (by rw [hlk]; exact hown) (fun j hj => by rw [width_DClaimUse] at hj; rcases (show j = 0 ∨ j = 1 ∨ j = 2 by omega) with rfl | rfl | rfl <;> rfl) hbk
        have BN : Hid (Bld U.heap.size (u8.setCell ⟨gx, 3, none⟩ (.slice ov' (k + 1) kv')) 106 (.slice ov' (k + 1) kv') (a.2.2.2.1.take (k + 1)) (xs ++ (#[.string y.1, .int .i64 y.2.1, .int .i64 y.2.2] : Array Value).toList)) := by
          show Bld _ _ _ _ _ _
          rw [htk.out]
          exact PUSH.same (fun b h1 _ => Below.heap_setCell _ _ _ _ (by show b ≠ gx; omega)) (by simp)
        have GN : Hid ((u8.setCell ⟨gx, 3, none⟩ (.slice ov' (k + 1) kv')).heap[gx]? = some (.cells #[.int .i64 a.1, .int .i64 a.2.1, .slice p2 n2 q2, .slice ov' (k + 1) kv', .slice p4 n4 q4, .slice p5 n5 q5] 48 (0, 0))) := by simpa [Hid] using SET
        have NN : Hid (But (fun b => b = gx) U (u8.setCell ⟨gx, 3, none⟩ (.slice ov' (k + 1) kv'))) := hN.out.round BA.out hgr (fun q hq => (World.ownsRow.lt HOWN.out q hq).1) 3 _
        go_roundw
        case rel => exact ⟨k + 1, ov', kv', _, by omega, by go_num, BN.out, GN.out, NN.out⟩
        case measure => simp [intOf]; omega
      · obtain rfl : n3 = k := by omega
        have BL3 : Hid (Bld U.heap.size wr 106 (.slice ov n3 kv) a.2.2.2.1 xs) := by have := hB.out; rw [List.take_of_length_le (by rw [M3.out]; exact Nat.le_refl _)] at this; exact this
        clear hB
        have Z3 : Hid (wr.heap[w.heap.size + 1]? = some (.cells #[.int .i64 0, .int .i64 0, .slice none 0 0, .slice none 0 0, .slice none 0 0, .slice none 0 0] 48 (0, 0))) := (hN.out.block _ (by omega) (by omega)).trans Z1.out
        obtain ⟨y0, _⟩ := cell_row hG.out 0 _ rfl
        obtain ⟨t0, f0⟩ := cell_row Z3.out 0 _ rfl
        obtain ⟨y1, _⟩ := cell_row hG.out 1 _ rfl
        obtain ⟨t1, f1⟩ := cell_row Z3.out 1 _ rfl
        obtain ⟨y2, _⟩ := cell_row hG.out 2 _ rfl
        obtain ⟨t2, f2⟩ := cell_row Z3.out 2 _ rfl
        obtain ⟨y3, _⟩ := cell_row hG.out 3 _ rfl
        obtain ⟨t3, f3⟩ := cell_row Z3.out 3 _ rfl
        obtain ⟨y4, _⟩ := cell_row hG.out 4 _ rfl
        obtain ⟨t4, f4⟩ := cell_row Z3.out 4 _ rfl
        obtain ⟨y5, _⟩ := cell_row hG.out 5 _ rfl
        obtain ⟨t5, f5⟩ := cell_row Z3.out 5 _ rfl
        simp only [List.getElem_toArray, List.getElem_cons_zero, List.getElem_cons_succ] at y0 t0 y1 t1 y2 t2 y3 t3 y4 t4 y5 t5
        obtain ⟨F0, F1, F2, F3⟩ := ret_6 Z3.out (.int .i64 a.1) (.int .i64 a.2.1) (.slice p2 n2 q2) (.slice ov n3 kv) (.slice p4 n4 q4) (.slice p5 n5 q5)
        have g0 := (cell_row F0 0 _ rfl).1
        have g1 := (cell_row F0 1 _ rfl).1
        have g2 := (cell_row F0 2 _ rfl).1
        have g3 := (cell_row F0 3 _ rfl).1
        have g4 := (cell_row F0 4 _ rfl).1
        have g5 := (cell_row F0 5 _ rfl).1
        simp only [List.getElem_toArray, List.getElem_cons_zero, List.getElem_cons_succ] at g0 g1 g2 g3 g4 g5
        have d2 := World.ownsRow.lt R2.out
        have x2 : ∀ g, (Value.slice p2 n2 q2).ownBlock = some g → g ≠ gx := fun g hg e => row_ne R2.out ZU.out (by decide) (e ▸ hg)
        have d4 := World.ownsRow.lt R4.out
        have x4 : ∀ g, (Value.slice p4 n4 q4).ownBlock = some g → g ≠ gx := fun g hg e => row_ne R4.out ZU.out (by decide) (e ▸ hg)
        have d5 := World.ownsRow.lt R5.out
        have x5 : ∀ g, (Value.slice p5 n5 q5).ownBlock = some g → g ≠ gx := fun g hg e => row_ne R5.out ZU.out (by decide) (e ▸ hg)
        have low : ∀ g, W.heap.size ≤ g → g < U.heap.size → g ≠ gx → ((((((wr.setCell ⟨w.heap.size + 1, 0, none⟩ (.int .i64 a.1)).setCell ⟨w.heap.size + 1, 1, none⟩ (.int .i64 a.2.1)).setCell ⟨w.heap.size + 1, 2, none⟩ (.slice p2 n2 q2)).setCell ⟨w.heap.size + 1, 3, none⟩ (.slice ov n3 kv)).setCell ⟨w.heap.size + 1, 4, none⟩ (.slice p4 n4 q4)).setCell ⟨w.heap.size + 1, 5, none⟩ (.slice p5 n5 q5)).heap[g]? = U.heap[g]? := fun g h1 h2 h3 => (F1 g (by omega)).trans (hN.out.block g h2 h3)
        have O2 : OnL (fun b => (Value.slice p2 n2 q2).ownBlock = some b) ((((((wr.setCell ⟨w.heap.size + 1, 0, none⟩ (.int .i64 a.1)).setCell ⟨w.heap.size + 1, 1, none⟩ (.int .i64 a.2.1)).setCell ⟨w.heap.size + 1, 2, none⟩ (.slice p2 n2 q2)).setCell ⟨w.heap.size + 1, 3, none⟩ (.slice ov n3 kv)).setCell ⟨w.heap.size + 1, 4, none⟩ (.slice p4 n4 q4)).setCell ⟨w.heap.size + 1, 5, none⟩ (.slice p5 n5 q5)) a.2.2.1 (.slice p2 n2 q2) := onS_row (by show World.ownsRow _ _ _ _ _ _ _; rw [M2.out]; exact ownsRow_kept R2.out (fun g hg => low g (by have := (d2 g hg).1; omega) (d2 g hg).2 (x2 g hg))) (fun g hg => hg) K2.out
        have O4 : OnL (fun b => (Value.slice p4 n4 q4).ownBlock = some b) ((((((wr.setCell ⟨w.heap.size + 1, 0, none⟩ (.int .i64 a.1)).setCell ⟨w.heap.size + 1, 1, none⟩ (.int .i64 a.2.1)).setCell ⟨w.heap.size + 1, 2, none⟩ (.slice p2 n2 q2)).setCell ⟨w.heap.size + 1, 3, none⟩ (.slice ov n3 kv)).setCell ⟨w.heap.size + 1, 4, none⟩ (.slice p4 n4 q4)).setCell ⟨w.heap.size + 1, 5, none⟩ (.slice p5 n5 q5)) a.2.2.2.2.1 (.slice p4 n4 q4) := onS_row (by show World.ownsRow _ _ _ _ _ _ _; rw [M4.out]; exact ownsRow_kept R4.out (fun g hg => low g (by have := (d4 g hg).1; omega) (d4 g hg).2 (x4 g hg))) (fun g hg => hg) K4.out
        have O5 : OnL (fun b => (Value.slice p5 n5 q5).ownBlock = some b) ((((((wr.setCell ⟨w.heap.size + 1, 0, none⟩ (.int .i64 a.1)).setCell ⟨w.heap.size + 1, 1, none⟩ (.int .i64 a.2.1)).setCell ⟨w.heap.size + 1, 2, none⟩ (.slice p2 n2 q2)).setCell ⟨w.heap.size + 1, 3, none⟩ (.slice ov n3 kv)).setCell ⟨w.heap.size + 1, 4, none⟩ (.slice p4 n4 q4)).setCell ⟨w.heap.size + 1, 5, none⟩ (.slice p5 n5 q5)) a.2.2.2.2.2 (.slice p5 n5 q5) := onS_row (by show World.ownsRow _ _ _ _ _ _ _; rw [M5.out]; exact ownsRow_kept R5.out (fun g hg => low g (by have := (d5 g hg).1; omega) (d5 g hg).2 (x5 g hg))) (fun g hg => hg) K5.out
        have O3 : OnL (fun b => U.heap.size ≤ b ∧ b < wr.heap.size) ((((((wr.setCell ⟨w.heap.size + 1, 0, none⟩ (.int .i64 a.1)).setCell ⟨w.heap.size + 1, 1, none⟩ (.int .i64 a.2.1)).setCell ⟨w.heap.size + 1, 2, none⟩ (.slice p2 n2 q2)).setCell ⟨w.heap.size + 1, 3, none⟩ (.slice ov n3 kv)).setCell ⟨w.heap.size + 1, 4, none⟩ (.slice p4 n4 q4)).setCell ⟨w.heap.size + 1, 5, none⟩ (.slice p5 n5 q5)) a.2.2.2.1 (.slice ov n3 kv) := BL3.out.on.same (fun b hb => F1 b (by omega))
        have BF : Hid (Below w.heap.size w ((((((wr.setCell ⟨w.heap.size + 1, 0, none⟩ (.int .i64 a.1)).setCell ⟨w.heap.size + 1, 1, none⟩ (.int .i64 a.2.1)).setCell ⟨w.heap.size + 1, 2, none⟩ (.slice p2 n2 q2)).setCell ⟨w.heap.size + 1, 3, none⟩ (.slice ov n3 kv)).setCell ⟨w.heap.size + 1, 4, none⟩ (.slice p4 n4 q4)).setCell ⟨w.heap.size + 1, 5, none⟩ (.slice p5 n5 q5))) := bwr.out.trans (F3.mono (by omega))
        have ON : Hid (Own.On (fun b => w.heap.size ≤ b ∧ b < ((((((wr.setCell ⟨w.heap.size + 1, 0, none⟩ (.int .i64 a.1)).setCell ⟨w.heap.size + 1, 1, none⟩ (.int .i64 a.2.1)).setCell ⟨w.heap.size + 1, 2, none⟩ (.slice p2 n2 q2)).setCell ⟨w.heap.size + 1, 3, none⟩ (.slice ov n3 kv)).setCell ⟨w.heap.size + 1, 4, none⟩ (.slice p4 n4 q4)).setCell ⟨w.heap.size + 1, 5, none⟩ (.slice p5 n5 q5)).heap.size) ((((((wr.setCell ⟨w.heap.size + 1, 0, none⟩ (.int .i64 a.1)).setCell ⟨w.heap.size + 1, 1, none⟩ (.int .i64 a.2.1)).setCell ⟨w.heap.size + 1, 2, none⟩ (.slice p2 n2 q2)).setCell ⟨w.heap.size + 1, 3, none⟩ (.slice ov n3 kv)).setCell ⟨w.heap.size + 1, 4, none⟩ (.slice p4 n4 q4)).setCell ⟨w.heap.size + 1, 5, none⟩ (.slice p5 n5 q5)) a (cs [.int .i64 a.1, .int .i64 a.2.1, .slice p2 n2 q2, .slice ov n3 kv, .slice p4 n4 q4, .slice p5 n5 q5])) := on_DClaimWant.2 ⟨fun _ => False, (fun b => w.heap.size ≤ b ∧ b < ((((((wr.setCell ⟨w.heap.size + 1, 0, none⟩ (.int .i64 a.1)).setCell ⟨w.heap.size + 1, 1, none⟩ (.int .i64 a.2.1)).setCell ⟨w.heap.size + 1, 2, none⟩ (.slice p2 n2 q2)).setCell ⟨w.heap.size + 1, 3, none⟩ (.slice ov n3 kv)).setCell ⟨w.heap.size + 1, 4, none⟩ (.slice p4 n4 q4)).setCell ⟨w.heap.size + 1, 5, none⟩ (.slice p5 n5 q5)).heap.size), fun _ h => h.elim, fun _ h => h, ⟨rfl, z0⟩, fun _ => False, (fun b => w.heap.size ≤ b ∧ b < ((((((wr.setCell ⟨w.heap.size + 1, 0, none⟩ (.int .i64 a.1)).setCell ⟨w.heap.size + 1, 1, none⟩ (.int .i64 a.2.1)).setCell ⟨w.heap.size + 1, 2, none⟩ (.slice p2 n2 q2)).setCell ⟨w.heap.size + 1, 3, none⟩ (.slice ov n3 kv)).setCell ⟨w.heap.size + 1, 4, none⟩ (.slice p4 n4 q4)).setCell ⟨w.heap.size + 1, 5, none⟩ (.slice p5 n5 q5)).heap.size), fun _ h => h.elim, fun _ h => h, ⟨rfl, z1⟩,
          fun b => (Value.slice p2 n2 q2).ownBlock = some b, fun b => (U.heap.size ≤ b ∧ b < wr.heap.size) ∨ (Value.slice p4 n4 q4).ownBlock = some b ∨ (Value.slice p5 n5 q5).ownBlock = some b, (fun b hb => ⟨⟨by have := d2 b hb; omega, by rw [F2]; have := d2 b hb; omega⟩, fun h => h.elim (fun h => by have := d2 b hb; omega) (fun h => h.elim (fun h => by have := (d4 b h).1; have := M24.out b hb; omega) (fun h => by have := (d5 b h).1; have := M25.out b hb; omega))⟩), (fun b hb => hb.elim (fun h => ⟨by omega, by rw [F2]; omega⟩) (fun h => h.elim (fun h => by have := d4 b h; exact ⟨by omega, by rw [F2]; omega⟩) (fun h => by have := d5 b h; exact ⟨by omega, by rw [F2]; omega⟩))), O2,
          fun b => U.heap.size ≤ b ∧ b < wr.heap.size, fun b => (Value.slice p4 n4 q4).ownBlock = some b ∨ (Value.slice p5 n5 q5).ownBlock = some b, (fun b hb => ⟨.inl hb, fun h => h.elim (fun h => by have := d4 b h; omega) (fun h => by have := d5 b h; omega)⟩), (fun b hb => .inr hb), O3,
          fun b => (Value.slice p4 n4 q4).ownBlock = some b, fun b => (Value.slice p5 n5 q5).ownBlock = some b, (fun b hb => ⟨.inl hb, fun h => by have := (d5 b h).1; have := M45.out b hb; omega⟩), (fun b hb => .inr hb), O4, O5⟩
        go_wp2_with fail
        exact bodyPost_ret (v := .agg #[.int .i64 a.1, .int .i64 a.2.1, .slice p2 n2 q2, .slice ov n3 kv, .slice p4 n4 q4, .slice p5 n5 q5]) (by simp [results, Tryz.results54, go_sem, g0, g1, g2, g3, g4, g5]) rfl ⟨cs [.int .i64 a.1, .int .i64 a.2.1, .slice p2 n2 q2, .slice ov n3 kv, .slice p4 n4 q4, .slice p5 n5 q5], rfl, ON.out, BF.out⟩

end Go.Proofs.YticojnepejboaacGreat
