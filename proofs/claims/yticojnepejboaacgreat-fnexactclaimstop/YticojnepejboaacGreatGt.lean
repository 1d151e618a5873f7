/-
  The program's copy of a book: all in memory of its own.
-/
import Derived.Test.YticojnepejboaacGreatGs
namespace Go.Proofs.YticojnepejboaacGreat
open Go.RowKit

set_option maxRecDepth 100000 in
set_option maxHeartbeats 8000000 in
theorem fresh22_any (S : Nat → Prop) (a : DClaimBook) (c : Nat → Value) (w : World) (h : Lay.At S w a c) (hS : ∀ b, S b → b < w.heap.size) (hm : Lay.tot a ≤ 1048576) :
    Calls Tryz.prog 24 #[.agg #[c 0, c 1, c 2, c 3, c 4]] w fun e w' => ∃ g : Nat → Value, e = .returned (.agg #[g 0, g 1, g 2, g 3, g 4]) ∧ Own.On (fun b => w.heap.size ≤ b ∧ b < w'.heap.size) w' a g ∧ Below w.heap.size w w' := by
  rw [tot_DClaimBook] at hm
  obtain ⟨H0, H1, H2, H3, ⟨e4, z4⟩⟩ := at_DClaimBook.1 h
  clear h
  have hl0 := totL_len a.1
  have KE0 : Hid (∀ i (h : i < a.1.length), Lay.tot a.1[i] ≤ 1048576) := fun i h => Nat.le_trans (totL_el a.1 i h) (by omega)
  obtain ⟨o0, k0, e0, _⟩ := id H0
  rw [e0] at H0
  obtain ⟨n0, m0⟩ : ∃ n, a.1.length = n := ⟨_, rfl⟩
  rw [m0] at H0 e0 hl0
  have hl1 := totL_len a.2.1
  have KE1 : Hid (∀ i (h : i < a.2.1.length), Lay.tot a.2.1[i] ≤ 1048576) := fun i h => Nat.le_trans (totL_el a.2.1 i h) (by omega)
  obtain ⟨o1, k1, e1, _⟩ := id H1
  rw [e1] at H1
  obtain ⟨n1, m1⟩ : ∃ n, a.2.1.length = n := ⟨_, rfl⟩
  rw [m1] at H1 e1 hl1
  have hl2 := totL_len a.2.2.1
  have KE2 : Hid (∀ i (h : i < a.2.2.1.length), Lay.tot a.2.2.1[i] ≤ 1048576) := fun i h => Nat.le_trans (totL_el a.2.2.1 i h) (by omega)
  obtain ⟨o2, k2, e2, _⟩ := id H2
  rw [e2] at H2
  obtain ⟨n2, m2⟩ : ∃ n, a.2.2.1.length = n := ⟨_, rfl⟩
  rw [m2] at H2 e2 hl2
  have hl3 := totL_len a.2.2.2.1
  have KE3 : Hid (∀ i (h : i < a.2.2.2.1.length), Lay.tot a.2.2.2.1[i] ≤ 1048576) := fun i h => Nat.le_trans (totL_el a.2.2.2.1 i h) (by omega)
  obtain ⟨o3, k3, e3, _⟩ := id H3
  rw [e3] at H3
  obtain ⟨n3, m3⟩ : ∃ n, a.2.2.2.1.length = n := ⟨_, rfl⟩
  rw [m3] at H3 e3 hl3
  rw [e0, e1, e2, e3, e4]
  clear e0 e1 e2 e3 e4
  have HH0 : Hid (∀ w', Below w.heap.size w w' → AtL S w' a.1 (.slice o0 n0 k0)) := fun w' hb => H0.same (Same.of_below hb hS)
  have M0 : Hid (a.1.length = n0) := m0
  clear m0
  have HH1 : Hid (∀ w', Below w.heap.size w w' → AtL S w' a.2.1 (.slice o1 n1 k1)) := fun w' hb => H1.same (Same.of_below hb hS)
  have M1 : Hid (a.2.1.length = n1) := m1
  clear m1
  have HH2 : Hid (∀ w', Below w.heap.size w w' → AtL S w' a.2.2.1 (.slice o2 n2 k2)) := fun w' hb => H2.same (Same.of_below hb hS)
  have M2 : Hid (a.2.2.1.length = n2) := m2
  clear m2
  have HH3 : Hid (∀ w', Below w.heap.size w w' → AtL S w' a.2.2.2.1 (.slice o3 n3 k3)) := fun w' hb => H3.same (Same.of_below hb hS)
  have M3 : Hid (a.2.2.2.1.length = n3) := m3
  clear m3
  have K2 : Hid _ := flatS.ok_all H2
  have KS2 : Hid (∀ x ∈ a.2.2.1, x.size ≤ 1048576) := fun x hx => by obtain ⟨i, hi, rfl⟩ := List.getElem_of_mem hx; exact KE2.out i hi
  clear H0 H1 H2 H3
  obtain ⟨W, hW⟩ : ∃ W, W = (w.alloc (.cells #[.slice o0 n0 k0, .slice o1 n1 k1, .slice o2 n2 k2, .slice o3 n3 k3, .int .i64 a.2.2.2.2] 33)).alloc (.cells #[.slice none 0 0, .slice none 0 0, .slice none 0 0, .slice none 0 0, .int .i64 0] 33) := ⟨_, rfl⟩
  have BW : Hid (Below w.heap.size w W) := by rw [hW]; exact ((Below.refl _ _).alloc (Nat.le_refl _) _).alloc (by simp) _
  have sW : W.heap.size = w.heap.size + 1 + 1 := by rw [hW]; simp
  have X0 : Hid (W.heap[w.heap.size]? = some (.cells #[.slice o0 n0 k0, .slice o1 n1 k1, .slice o2 n2 k2, .slice o3 n3 k3, .int .i64 a.2.2.2.2] 33 (0, 0))) := by rw [hW]; exact (Below.heap_alloc _ _ _ (by simp)).trans (heap_alloc_new w _)
  have Y0 : Hid (W.heap[w.heap.size + 1]? = some (.cells #[.slice none 0 0, .slice none 0 0, .slice none 0 0, .slice none 0 0, .int .i64 0] 33 (0, 0))) := by rw [hW]; have := heap_alloc_new (w.alloc (.cells #[.slice o0 n0 k0, .slice o1 n1 k1, .slice o2 n2 k2, .slice o3 n3 k3, .int .i64 a.2.2.2.2] 33)) (.cells #[.slice none 0 0, .slice none 0 0, .slice none 0 0, .slice none 0 0, .int .i64 0] 33); rw [World.size_alloc] at this; exact this
  have HW : Hid (W = (w.alloc (.cells #[.slice o0 n0 k0, .slice o1 n1 k1, .slice o2 n2 k2, .slice o3 n3 k3, .int .i64 a.2.2.2.2] 33)).alloc (.cells #[.slice none 0 0, .slice none 0 0, .slice none 0 0, .slice none 0 0, .int .i64 0] 33)) := hW
  clear hW
  go_enter Tryz.func24, Tryz.ntmps24
  go_upto_region 1 with fail
  rw [← HW.out]
  clear HW
  have HDX : Hid (W.drew.heap[w.heap.size]? = some (.cells #[.slice o0 n0 k0, .slice o1 n1 k1, .slice o2 n2 k2, .slice o3 n3 k3, .int .i64 a.2.2.2.2] 33 (0, 0))) := X0.out
  refine wp_region_movesC (fun v => Below W.drew.heap.size W.drew v) 7 [] (by kernel_rfl) (by kernel_rfl) (Below.refl _ _) ?_
  simp only [List.filterMap_nil, movD]
  refine takeHQ (f := 6) (i := 0) (.pointer (some ⟨w.heap.size, 2, none⟩)) ⟨rfl, rfl⟩ (by kernel_rfl) rfl (Below.refl _ _) ?r0 ?_
  case r0 => intro v hv; go_simp
  simp only [Act.put, List.setIfInBounds_toArray, List.set_cons_zero, List.set_cons_succ]
  refine takeHQ (f := 5) (i := 1) (.slice o2 n2 k2) ⟨rfl, rfl⟩ (by kernel_rfl) rfl (Below.refl _ _) ?r1 ?_
  case r1 => intro v hv; have k0 := (cell_row (box_stable hv HDX.out) 2 _ rfl).1; go_simp
  simp only [Act.put, List.setIfInBounds_toArray, List.set_cons_zero, List.set_cons_succ]
  refine takeHQ (f := 4) (i := 3) (.pointer (some ⟨w.heap.size, 4, none⟩)) ⟨rfl, rfl⟩ (by kernel_rfl) rfl (Below.refl _ _) ?r3 ?_
  case r3 => intro v hv; go_simp
  simp only [Act.put, List.setIfInBounds_toArray, List.set_cons_zero, List.set_cons_succ]
  refine takeHQ (f := 3) (i := 4) (.int .i64 a.2.2.2.2) ⟨rfl, rfl⟩ (by kernel_rfl) rfl (Below.refl _ _) ?r4 ?_
  case r4 => intro v hv; have k0 := (cell_row (box_stable hv HDX.out) 4 _ rfl).1; go_simp
  simp only [Act.put, List.setIfInBounds_toArray, List.set_cons_zero, List.set_cons_succ]
  refine growV_all [⟨2, 12, [], (fun w' f => w'.ownsRow W.heap.size 9 1 (f 12) n2 (enc 1 eS a.2.2.1))⟩, ⟨5, 15, [2], (fun w' f => f 15 = .agg #[.slice none 0 0, .slice none 0 0, f 12, .slice none 0 0, .int .i64 a.2.2.2.2])⟩, ⟨6, 3, [], (fun w' f => ∃ g, f 3 = .pointer (some ⟨g, 0, none⟩) ∧ W.heap.size ≤ g ∧ w'.heap[g]? = some (.cells #[.slice none 0 0, .slice none 0 0, .slice none 0 0, .slice none 0 0, .int .i64 0] 33 (0, 0)))⟩] (by kernel_rfl) (by kernel_rfl) ?hst ?hS (fun _ h => h) ?hK
  case hst =>
    intro m hm v v' f f' hb e hu
    simp only [List.mem_cons, List.not_mem_nil, or_false] at hm
    rcases hm with rfl | rfl | rfl
    · intro h
      simp only at e h ⊢
      rw [e]
      exact row_stable hb h
    · intro h
      have q1 := hu _ (List.mem_cons_self) (by simp)
      simp only at e h q1 ⊢
      rw [e, h, q1]
    · rintro ⟨g, h1, h2, h3⟩
      exact ⟨g, e.trans h1, h2, box_stable hb h3⟩
  case hS =>
    intro m hm
    simp only [List.mem_cons, List.not_mem_nil, or_false] at hm
    rcases hm with rfl | rfl | rfl
    · refine ⟨_, rfl, ?_⟩
      intro b v hA hb hu
      have e11 : b.tmps[11]?.getD undef = .slice o2 n2 k2 := by simpa [Act.eval] using (hA.off 11 (off_of 11 (by kernel_rfl))).trans (rfl : _ = (.slice o2 n2 k2 : Value))
      clear hA hu
      refine .inr ⟨52, #[.slice o2 n2 k2], ?_, (freshT_any S _ a.2.2.1 v (HH2.out v (BW.out.drew.trans (hb.mono BW.out.size))) (fun b hb' => by have := hS b hb'; have := hb.size; have := BW.out.size; simp at *; omega) (by rw [M2.out]; omega) KS2.out).mono ?_⟩
      · go_simp
      · rintro e u ⟨r, rfl, hr, hbu⟩
        refine ⟨_, rfl, ?_, hbu⟩
        show World.ownsRow _ _ _ _ (updV _ 12 _ 12) _ _
        rw [show updV (vals b) 12 r 12 = r from if_pos rfl, ← M2.out]
        exact Row.low hr hb.size
    · refine ⟨_, rfl, ?_⟩
      intro b v hA hb hu
      have e14 : b.tmps[14]?.getD undef = .int .i64 a.2.2.2.2 := by simpa [Act.eval] using (hA.off 14 (off_of 14 (by kernel_rfl))).trans (rfl : _ = (.int .i64 a.2.2.2.2 : Value))
      have h2 := hu _ (List.mem_cons_self) (by simp)
      obtain ⟨p2, q2, e12⟩ := ownsRow_shape h2
      have d12 : b.tmps[12]?.getD undef = .slice p2 n2 q2 := by simpa [vals, Act.eval] using e12
      clear hA hu h2
      refine .inl ⟨.agg #[.slice none 0 0, .slice none 0 0, .slice p2 n2 q2, .slice none 0 0, .int .i64 a.2.2.2.2], v, ?_, ?_, Below.refl _ _⟩
      · go_simp
      · show updV _ 15 _ 15 = _
        rw [show ∀ x, updV (vals b) 15 x 15 = x from fun _ => if_pos rfl, show ∀ x, updV (vals b) 15 x 12 = vals b 12 from fun _ => if_neg (by decide), e12]
    · refine ⟨_, rfl, ?_⟩
      intro b v hA hb hu
      clear hA hu
      refine .inl ⟨.pointer (some ⟨v.heap.size, 0, none⟩), v.alloc (.cells #[.slice none 0 0, .slice none 0 0, .slice none 0 0, .slice none 0 0, .int .i64 0] 33), ?_, ⟨v.heap.size, if_pos rfl, hb.size, heap_alloc_new v _⟩, (Below.refl _ _).alloc (Nat.le_refl _) _⟩
      go_simp
  case hK =>
    intro vv X hbX hF
    have r2 := hF _ (List.mem_cons_self)
    have e15 := hF _ (List.mem_cons_of_mem _ List.mem_cons_self)
    obtain ⟨gx, e3, hgx, hxx⟩ := hF _ (List.mem_cons_of_mem _ (List.mem_cons_of_mem _ List.mem_cons_self))
    clear hF
    simp only at r2 e15 e3 hxx
    obtain ⟨p2, q2, e12⟩ := ownsRow_shape r2
    rw [e12] at r2 e15
    refine ⟨by kernel_rfl, ?_⟩
    simp only [putG, Gv.g, List.map_cons, List.map_nil, List.foldl_cons, List.foldl_nil, Act.put, List.setIfInBounds_toArray, List.set_cons_zero, List.set_cons_succ, List.drop_succ_cons, List.drop_zero]
    rw [e12, e15, e3]
    clear e12 e15 e3
    have BX : Hid (Below w.heap.size w X) := BW.out.drew.trans (hbX.mono BW.out.size)
    have X1 : Hid (X.heap[w.heap.size]? = some (.cells #[.slice o0 n0 k0, .slice o1 n1 k1, .slice o2 n2 k2, .slice o3 n3 k3, .int .i64 a.2.2.2.2] 33 (0, 0))) := box_stable hbX X0.out
    have Y1 : Hid (X.heap[w.heap.size + 1]? = some (.cells #[.slice none 0 0, .slice none 0 0, .slice none 0 0, .slice none 0 0, .int .i64 0] 33 (0, 0))) := box_stable hbX Y0.out
    have hXs : W.heap.size ≤ X.heap.size := hbX.size
    have hgl : gx < X.heap.size := (Array.getElem?_eq_some_iff.1 hxx).1
    obtain ⟨l0, f0⟩ := cell_row hxx 0 _ rfl
    obtain ⟨l1, f1⟩ := cell_row hxx 1 _ rfl
    obtain ⟨l2, f2⟩ := cell_row hxx 2 _ rfl
    obtain ⟨l3, f3⟩ := cell_row hxx 3 _ rfl
    obtain ⟨l4, f4⟩ := cell_row hxx 4 _ rfl
    simp only [List.getElem_toArray, List.getElem_cons_zero, List.getElem_cons_succ] at l0 l1 l2 l3 l4
    obtain ⟨F0, F1, F2, F3⟩ := ret_5 hxx (.slice none 0 0) (.slice none 0 0) (.slice p2 n2 q2) (.slice none 0 0) (.int .i64 a.2.2.2.2)
    go_upto_region 2 with fail
    clear l0 l1 l2 l3 l4 f0 f1 f2 f3 f4
    have R2 : Hid ((((((X.setCell ⟨gx, 0, none⟩ (.slice none 0 0)).setCell ⟨gx, 1, none⟩ (.slice none 0 0)).setCell ⟨gx, 2, none⟩ (.slice p2 n2 q2)).setCell ⟨gx, 3, none⟩ (.slice none 0 0)).setCell ⟨gx, 4, none⟩ (.int .i64 a.2.2.2.2)).ownsRow W.heap.size 9 1 (.slice p2 n2 q2) n2 (enc 1 eS a.2.2.1)) := ownsRow_kept r2 (fun g hg => F1 g (fun e => row_ne r2 hxx (by decide) (e ▸ hg)))
    have Z0 : Hid ((((((X.setCell ⟨gx, 0, none⟩ (.slice none 0 0)).setCell ⟨gx, 1, none⟩ (.slice none 0 0)).setCell ⟨gx, 2, none⟩ (.slice p2 n2 q2)).setCell ⟨gx, 3, none⟩ (.slice none 0 0)).setCell ⟨gx, 4, none⟩ (.int .i64 a.2.2.2.2)).heap[w.heap.size]? = some (.cells #[.slice o0 n0 k0, .slice o1 n1 k1, .slice o2 n2 k2, .slice o3 n3 k3, .int .i64 a.2.2.2.2] 33 (0, 0))) := (F1 _ (by omega)).trans X1.out
    have Z1 : Hid ((((((X.setCell ⟨gx, 0, none⟩ (.slice none 0 0)).setCell ⟨gx, 1, none⟩ (.slice none 0 0)).setCell ⟨gx, 2, none⟩ (.slice p2 n2 q2)).setCell ⟨gx, 3, none⟩ (.slice none 0 0)).setCell ⟨gx, 4, none⟩ (.int .i64 a.2.2.2.2)).heap[w.heap.size + 1]? = some (.cells #[.slice none 0 0, .slice none 0 0, .slice none 0 0, .slice none 0 0, .int .i64 0] 33 (0, 0))) := (F1 _ (by omega)).trans Y1.out
    have ZX : Hid ((((((X.setCell ⟨gx, 0, none⟩ (.slice none 0 0)).setCell ⟨gx, 1, none⟩ (.slice none 0 0)).setCell ⟨gx, 2, none⟩ (.slice p2 n2 q2)).setCell ⟨gx, 3, none⟩ (.slice none 0 0)).setCell ⟨gx, 4, none⟩ (.int .i64 a.2.2.2.2)).heap[gx]? = some (.cells #[.slice none 0 0, .slice none 0 0, .slice p2 n2 q2, .slice none 0 0, .int .i64 a.2.2.2.2] 33 (0, 0))) := F0
    have BU : Hid (Below w.heap.size w (((((X.setCell ⟨gx, 0, none⟩ (.slice none 0 0)).setCell ⟨gx, 1, none⟩ (.slice none 0 0)).setCell ⟨gx, 2, none⟩ (.slice p2 n2 q2)).setCell ⟨gx, 3, none⟩ (.slice none 0 0)).setCell ⟨gx, 4, none⟩ (.int .i64 a.2.2.2.2))) := BX.out.trans (F3.mono (by omega))
    generalize (((((X.setCell ⟨gx, 0, none⟩ (.slice none 0 0)).setCell ⟨gx, 1, none⟩ (.slice none 0 0)).setCell ⟨gx, 2, none⟩ (.slice p2 n2 q2)).setCell ⟨gx, 3, none⟩ (.slice none 0 0)).setCell ⟨gx, 4, none⟩ (.int .i64 a.2.2.2.2)) = U at R2 Z0 Z1 ZX BU F2 ⊢
    clear F0 F1 F3 X1 Y1 BX r2 hxx hbX
    have hgU : gx < U.heap.size := (Array.getElem?_eq_some_iff.1 ZX.out).1
    have hwU : w.heap.size + 1 < gx := by omega
    clear F2 hgl hXs
    have ZU : Hid (U.heap[gx]? = some (.cells #[.slice none 0 0, .slice none 0 0, .slice p2 n2 q2, .slice none 0 0, .int .i64 a.2.2.2.2] 33 (0, 0))) := ZX.out
    obtain ⟨xu, _⟩ := cell_row Z0.out 0 _ rfl
    simp only [List.getElem_toArray, List.getElem_cons_zero] at xu
    go_wp2_with fail
    clear xu
    go_loopw [19] (fun i wr => ∃ (k : Nat) (ov : Option Addr) (kv : Nat) (xs : List Value), k ≤ n0 ∧ i = .int .i64 k ∧ Hid (Bld U.heap.size wr 83 (.slice ov k kv) (a.1.take k) xs) ∧ Hid (wr.heap[gx]? = some (.cells #[.slice ov k kv, .slice none 0 0, .slice p2 n2 q2, .slice none 0 0, .int .i64 a.2.2.2.2] 33 (0, 0))) ∧ Hid (But (fun b => b = gx) U wr)) (fun i _ => n0 - (intOf i).toNat)
    case atStart => exact ⟨0, none, 0, [], Nat.zero_le _, rfl, by show Bld _ _ _ _ _ _; rw [List.take_zero]; exact Bld.nil _ _ _, ZX.out, But.refl _ _⟩
    case round =>
      obtain ⟨k, ov, kv, xs, hk, rfl, hB, hG, hN⟩ := hrel
      have hNs := hN.out.size
      have bwr : Hid (Below w.heap.size w wr) := BU.out.trans (hN.out.below (B := w.heap.size) (fun b hb => by omega) (by omega))
      have hA1 := (hN.out.block w.heap.size (by omega) (by omega)).trans Z0.out
      by_cases hlt : k < n0
      · have hatL := HH0.out wr bwr.out
        obtain ⟨oa, cp, ev, _, hc⟩ := hatL
        obtain ⟨b, off, eo, hbS, cc, hcell, hat⟩ := hc k (by rw [M0.out]; exact hlt)
        have eo1 : o0 = some ⟨b, off, none⟩ := by injection ev with h1 _ _; exact h1.trans eo
        subst eo1
        clear ev eo hc
        rw [width_DClaimFoe] at hcell
        have e0 : wr.cell? ⟨b, off + k * 2, none⟩ = some (cc 0) := by have := hcell 0 (by omega); simpa using this
        have e1 : wr.cell? ⟨b, off + k * 2 + 1, none⟩ = some (cc 1) := by have := hcell 1 (by omega); simpa using this
        rw [at_DClaimFoe] at hat
        have hye := KE0.out k (by rw [M0.out]; exact hlt)
        have htk : Hid (a.1.take (k + 1) = a.1.take k ++ [a.1[k]'(by rw [M0.out]; exact hlt)]) := by
          show _ = _
          rw [List.take_add_one, List.getElem?_eq_getElem (by rw [M0.out]; exact hlt)]; rfl
        obtain ⟨y, ey⟩ : ∃ y, a.1[k]'(by rw [M0.out]; exact hlt) = y := ⟨_, rfl⟩
        rw [ey] at hat hye htk
        clear ey hcell
        obtain ⟨⟨g0, z0⟩, ⟨g1, z1⟩⟩ := hat
        rw [tot_DClaimFoe] at hye
        rw [g0] at e0
        rw [g1] at e1
        clear g0 g1
        have hz0 : y.1.size ≤ 1048576 := by omega
        have hz1 : y.2.size ≤ 1048576 := by omega
        obtain ⟨U6, hU6⟩ : ∃ V, V = wr.alloc (.cells #[.string y.1, .string y.2] 83) := ⟨_, rfl⟩
        have B6 : Hid (Below wr.heap.size wr U6) := by rw [hU6]; exact (Below.refl _ _).alloc (Nat.le_refl _) _
        have s6 : U6.heap.size ≤ wr.heap.size + 1 ∧ wr.heap.size + 1 ≤ U6.heap.size := by rw [hU6]; simp
        have X6 : Hid (U6.heap[wr.heap.size]? = some (.cells #[.string y.1, .string y.2] 83 (0, 0))) := by rw [hU6]; exact heap_alloc_new wr _
        have H6 : Hid (U6 = wr.alloc (.cells #[.string y.1, .string y.2] 83)) := hU6
        have G6 : Hid (U6.heap[gx]? = _) := (B6.out.block gx (by omega)).trans hG.out
        clear hU6
        go_upto_region 5 with fail
        rw [← H6.out]
        have hdr : Hid (Below U6.heap.size U6 U6.drew) := (Below.refl _ _).drew
        clear H6 e0 e1
        obtain ⟨yx, _⟩ := cell_row G6.out 0 _ rfl
        obtain ⟨c0, _⟩ := cell_row X6.out 0 _ rfl
        obtain ⟨c1, _⟩ := cell_row X6.out 1 _ rfl
        simp only [List.getElem_toArray, List.getElem_cons_zero, List.getElem_cons_succ] at yx c0 c1
        have qx := fun d os => cell_regrown yx d os
        have q0 := fun d os => cell_regrown c0 d os
        have q1 := fun d os => cell_regrown c1 d os
        refine wp_region_mix 10 [0, 1, 2, 3, 5, 6] (by kernel_rfl) (by kernel_rfl) ?_
        simp only [List.filterMap_cons, List.filterMap_nil, List.getElem?_cons_succ, List.getElem?_cons_zero]
        repeat (first | go_big_quiet_step (fail) | quiet_step (fail))
        refine wpQuiet_nil ?_
        clear yx qx c0 q0 c1 q1
        refine call1 (md := .any) (f := 3) (i := 4) (dc := 27) (fn := 53) ⟨rfl, rfl, rfl, by decide⟩ (by kernel_rfl) ?run4 (Calls.mono (clones_any y.1 U6.drew hz0) ?_)
        case run4 => go_simp
        rintro e u5 ⟨rfl, hb5⟩
        have B5u : Hid (Below U6.heap.size U6 u5) := hdr.out.trans hb5
        refine ⟨_, rfl, regrown_of_below B5u.out, ?_⟩
        simp only [Act.put, List.setIfInBounds_toArray, List.set_cons_zero, List.set_cons_succ]
        clear hb5
        refine call1 (md := .any) (f := 2) (i := 7) (dc := 30) (fn := 53) ⟨rfl, rfl, rfl, by decide⟩ (by kernel_rfl) ?run7 (Calls.mono (clones_any y.2 u5 hz1) ?_)
        case run7 => go_simp
        rintro e u7 ⟨rfl, hb7⟩
        have B7u : Hid (Below U6.heap.size U6 u7) := B5u.out.trans (hb7.mono B5u.out.size)
        have B7 : Hid (Below wr.heap.size wr u7) := B6.out.trans (B7u.out.mono (by omega))
        refine ⟨_, rfl, regrown_of_below B7u.out, ?_⟩
        simp only [Act.put, List.setIfInBounds_toArray, List.set_cons_zero, List.set_cons_succ]
        clear hb7
        have sUL := B7.out.size
        obtain ⟨ua, hua⟩ : ∃ V, V = u7.alloc (.cells #[.string y.1, .string y.2] 83) := ⟨_, rfl⟩
        have HUA : Hid (ua = u7.alloc (.cells #[.string y.1, .string y.2] 83)) := hua
        have sua : ua.heap.size ≤ u7.heap.size + 1 ∧ u7.heap.size + 1 ≤ ua.heap.size := by rw [hua]; simp
        have BAA : Hid (Below u7.heap.size u7 ua) := by rw [hua]; exact (Below.refl _ _).alloc (Nat.le_refl _) _
        have BA : Hid (Below wr.heap.size wr ua) := B7.out.trans (BAA.out.mono sUL)
        have HSRC : Hid (Src ua (.slice (some ⟨u7.heap.size, 0, none⟩) 1 1) 1 2 (#[.string y.1, .string y.2] : Array Value).toList) := by
          have h1 : ua.ownsRow 0 83 2 (.slice (some ⟨u7.heap.size, 0, none⟩) 1 1) 1 (#[.string y.1, .string y.2] : Array Value).toList := by
            rw [hua]; exact own_built (Nat.zero_le _) (by unfold maxLen; omega) rfl
          exact own_src h1
        have hlk : (a.1.take k).length = k := by rw [List.length_take, M0.out]; omega
        have HOWN : Hid (ua.ownsRow U.heap.size 83 2 (.slice ov k kv) k xs) := by have := row_stable BA.out hB.out.row; rw [hlk] at this; exact this
        have HONE : Hid (∀ z ∈ (#[.string y.1, .string y.2] : Array Value).toList, z.oneCell' = true) := by intro z hz; simp at hz; rcases hz with rfl | rfl <;> rfl
        clear hua
        have BAU : Hid (Below U6.heap.size U6 (u7.alloc (.cells #[.string y.1, .string y.2] 83))) := (B7u.out.alloc (by have := B7u.out.size; omega) _)
        refine anyC_step (f := 1) [8] (by kernel_rfl) (by simp) (one_list ⟨by decide, _, rfl, rfl, .agg #[.string y.1, .string y.2], u7, ?runa, regrown_of_below B7u.out, ?_⟩)
        case runa => go_simp
        refine anyC_step (f := 0) [9] (by kernel_rfl) (by simp) (one_list ⟨by decide, _, rfl, rfl, .slice (some ⟨u7.heap.size, 0, none⟩) 1 1, u7.alloc (.cells #[.string y.1, .string y.2] 83), ?runb, regrown_of_below BAU.out, ?_⟩)
        case runb => go_simp
        refine ⟨by kernel_rfl, ?_⟩
        simp only [List.drop_succ_cons, List.drop_zero]
        rw [← HUA.out]
        go_wp2_with (first
          | (at_builtin;  refine wpList_app elF rfl _ _ rfl rfl rfl HOWN.out HSRC.out HONE.out (by unfold maxLen; omega) (by omega) (by omega) ?_; intro v' u8 hown hgr hbk; obtain ⟨ov', kv', rfl⟩ := ownsRow_shape hown; have hg8 : u8.heap[gx]? = some (.cells #[.slice ov k kv, .slice none 0 0, .slice p2 n2 q2, .slice none 0 0, .int .i64 a.2.2.2.2] 33 (0, 0)) := (hgr.block gx (by omega) (fun e => by have := (World.ownsRow.lt HOWN.out gx e.symm).1; omega)).trans ((BA.out.block gx (by omega)).trans hG.out); obtain ⟨zc8, zf8⟩ := cell_row hg8 0 _ rfl; simp only [List.getElem_toArray, List.getElem_cons_zero] at  zc8))
        have SET := set_row hg8 0 (.slice ov' (k + 1) kv')
        have PUSH := Bld.push (x := y) (c := cs (#[.string y.1, .string y.2] : Array Value).toList) hB.out hNs BA.out (on_DClaimFoe.2 ⟨fun _ => False, fun _ => False, fun _ h => h.elim, fun _ h => h.elim, ⟨rfl, z0⟩, ⟨rfl, z1⟩⟩) hgr (by rw [hlk]; exact hown) (fun j hj => by rw [width_DClaimFoe] at hj; rcases (show j = 0 ∨ j = 1 by omega) with rfl | rfl <;> rfl) hbk
        have BN : Hid (Bld U.heap.size (u8.setCell ⟨gx, 0, none⟩ (.slice ov' (k + 1) kv')) 83 (.slice ov' (k + 1) kv') (a.1.take (k + 1)) (xs ++ (#[.string y.1, .string y.2] : Array Value).toList)) := by
          show Bld _ _ _ _ _ _
          rw [htk.out]
          exact PUSH.same (fun b h1 _ => Below.heap_setCell _ _ _ _ (by show b ≠ gx; omega)) (by simp)
        have GN : Hid ((u8.setCell ⟨gx, 0, none⟩ (.slice ov' (k + 1) kv')).heap[gx]? = some (.cells #[.slice ov' (k + 1) kv', .slice none 0 0, .slice p2 n2 q2, .slice none 0 0, .int .i64 a.2.2.2.2] 33 (0, 0))) := by simpa [Hid] using SET
        have NN : Hid (But (fun b => b = gx) U (u8.setCell ⟨gx, 0, none⟩ (.slice ov' (k + 1) kv'))) := hN.out.round BA.out hgr (fun q hq => (World.ownsRow.lt HOWN.out q hq).1) 0 _
        go_roundw
        case rel => exact ⟨k + 1, ov', kv', _, by omega, by go_num, BN.out, GN.out, NN.out⟩
        case measure => simp [intOf]; omega
      · obtain rfl : n0 = k := by omega
        have BL0 : Hid (Bld U.heap.size wr 83 (.slice ov n0 kv) a.1 xs) := by have := hB.out; rw [List.take_of_length_le (by rw [M0.out]; exact Nat.le_refl _)] at this; exact this
        clear hB
        have BUA : Hid (Below w.heap.size w wr) := bwr.out
        have Z0A : Hid (wr.heap[w.heap.size]? = some (.cells #[.slice o0 n0 k0, .slice o1 n1 k1, .slice o2 n2 k2, .slice o3 n3 k3, .int .i64 a.2.2.2.2] 33 (0, 0))) := hA1
        have ZX : Hid (wr.heap[gx]? = some (.cells #[.slice ov n0 kv, .slice none 0 0, .slice p2 n2 q2, .slice none 0 0, .int .i64 a.2.2.2.2] 33 (0, 0))) := hG.out
        have Z1A : Hid (wr.heap[w.heap.size + 1]? = some (.cells #[.slice none 0 0, .slice none 0 0, .slice none 0 0, .slice none 0 0, .int .i64 0] 33 (0, 0))) := (hN.out.block _ (by omega) (by omega)).trans Z1.out
        have NA : Hid (But (fun b => b = gx) U wr) := hN.out
        have sNA := hNs
        obtain ⟨wA, h'⟩ : ∃ x, x = wr := ⟨_, rfl⟩
        subst h'
        obtain ⟨oA, h'⟩ : ∃ x, x = ov := ⟨_, rfl⟩
        subst h'
        obtain ⟨kA, h'⟩ : ∃ x, x = kv := ⟨_, rfl⟩
        subst h'
        obtain ⟨xsA, h'⟩ : ∃ x, x = xs := ⟨_, rfl⟩
        subst h'
        clear hA1 hG hN bwr
        have swA := BUA.out.size
        obtain ⟨xu, _⟩ := cell_row Z0A.out 1 _ rfl
        simp only [List.getElem_toArray, List.getElem_cons_zero, List.getElem_cons_succ] at xu
        go_wp2_with fail
        clear xu
        go_loopw [39] (fun i wr => ∃ (k : Nat) (ov : Option Addr) (kv : Nat) (xs : List Value), k ≤ n1 ∧ i = .int .i64 k ∧ Hid (Bld wA.heap.size wr 81 (.slice ov k kv) (a.2.1.take k) xs) ∧ Hid (wr.heap[gx]? = some (.cells #[.slice oA n0 kA, .slice ov k kv, .slice p2 n2 q2, .slice none 0 0, .int .i64 a.2.2.2.2] 33 (0, 0))) ∧ Hid (But (fun b => b = gx) wA wr)) (fun i _ => n1 - (intOf i).toNat)
        case atStart => exact ⟨0, none, 0, [], Nat.zero_le _, rfl, by show Bld _ _ _ _ _ _; rw [List.take_zero]; exact Bld.nil _ _ _, ZX.out, But.refl _ _⟩
        case round =>
          obtain ⟨k, ov, kv, xs, hk, rfl, hB, hG, hN⟩ := hrel
          have hNs := hN.out.size
          have bwr : Hid (Below w.heap.size w wr) := BUA.out.trans (hN.out.below (B := w.heap.size) (fun b hb => by omega) (by omega))
          have hA1 := (hN.out.block w.heap.size (by omega) (by omega)).trans Z0A.out
          by_cases hlt : k < n1
          · have hatL := HH1.out wr bwr.out
            obtain ⟨oa, cp, ev, _, hc⟩ := hatL
            obtain ⟨b, off, eo, hbS, cc, hcell, hat⟩ := hc k (by rw [M1.out]; exact hlt)
            have eo1 : o1 = some ⟨b, off, none⟩ := by injection ev with h1 _ _; exact h1.trans eo
            subst eo1
            clear ev eo hc
            rw [width_DClaimSpot] at hcell
            have e0 : wr.cell? ⟨b, off + k * 5, none⟩ = some (cc 0) := by have := hcell 0 (by omega); simpa using this
            have e1 : wr.cell? ⟨b, off + k * 5 + 1, none⟩ = some (cc 1) := by have := hcell 1 (by omega); simpa using this
            have e2 : wr.cell? ⟨b, off + k * 5 + 2, none⟩ = some (cc 2) := by have := hcell 2 (by omega); simpa using this
            have e3 : wr.cell? ⟨b, off + k * 5 + 3, none⟩ = some (cc 3) := by have := hcell 3 (by omega); simpa using this
            have e4 : wr.cell? ⟨b, off + k * 5 + 4, none⟩ = some (cc 4) := by have := hcell 4 (by omega); simpa using this
            rw [at_DClaimSpot] at hat
            have hye := KE1.out k (by rw [M1.out]; exact hlt)
            have htk : Hid (a.2.1.take (k + 1) = a.2.1.take k ++ [a.2.1[k]'(by rw [M1.out]; exact hlt)]) := by
              show _ = _
              rw [List.take_add_one, List.getElem?_eq_getElem (by rw [M1.out]; exact hlt)]; rfl
            obtain ⟨y, ey⟩ : ∃ y, a.2.1[k]'(by rw [M1.out]; exact hlt) = y := ⟨_, rfl⟩
            rw [ey] at hat hye htk
            clear ey hcell
            obtain ⟨⟨g0, z0⟩, ⟨g1, z1⟩, ⟨g2, z2⟩, ⟨g3, z3⟩, hmay⟩ := hat
            rw [tot_DClaimSpot] at hye
            have hml := totL_len y.2.2.2.2
            have hok := flatS.ok_all hmay
            obtain ⟨om, km, em, _⟩ := id hmay
            obtain ⟨nm, enm⟩ : ∃ n, y.2.2.2.2.length = n := ⟨_, rfl⟩
            rw [enm] at em hml
            rw [g0] at e0
            rw [g1] at e1
            rw [g2] at e2
            rw [g3] at e3
            rw [em] at e4 hmay
            have HM : Hid (AtL S wr y.2.2.2.2 (.slice om nm km)) := hmay
            have ENM : Hid (y.2.2.2.2.length = nm) := enm
            have HOK : Hid _ := hok
            clear g0 g1 g2 g3 em hmay enm hok
            have SR : ∀ b, S b → b < wr.heap.size := fun b hb => by have := hS b hb; have := bwr.out.size; omega
            have hz0 : y.1.size ≤ 1048576 := by omega
            have HKS : Hid (∀ x ∈ y.2.2.2.2, x.size ≤ 1048576) := fun x hx => by obtain ⟨i, hi, rfl⟩ := List.getElem_of_mem hx; have := totL_el y.2.2.2.2 i hi; have e : Lay.tot (y.2.2.2.2[i]) = (y.2.2.2.2[i]).size := rfl; omega
            obtain ⟨U6, hU6⟩ : ∃ V, V = wr.alloc (.cells #[.string y.1, .int .i64 y.2.1, .int .i64 y.2.2.1, .int .i64 y.2.2.2.1, .slice om nm km] 81) := ⟨_, rfl⟩
            have B6 : Hid (Below wr.heap.size wr U6) := by rw [hU6]; exact (Below.refl _ _).alloc (Nat.le_refl _) _
            have s6 : U6.heap.size ≤ wr.heap.size + 1 ∧ wr.heap.size + 1 ≤ U6.heap.size := by rw [hU6]; simp
            have X6 : Hid (U6.heap[wr.heap.size]? = some (.cells #[.string y.1, .int .i64 y.2.1, .int .i64 y.2.2.1, .int .i64 y.2.2.2.1, .slice om nm km] 81 (0, 0))) := by rw [hU6]; exact heap_alloc_new wr _
            have H6 : Hid (U6 = wr.alloc (.cells #[.string y.1, .int .i64 y.2.1, .int .i64 y.2.2.1, .int .i64 y.2.2.2.1, .slice om nm km] 81)) := hU6
            have G6 : Hid (U6.heap[gx]? = _) := (B6.out.block gx (by omega)).trans hG.out
            clear hU6
            go_upto_region 10 with fail
            rw [← H6.out]
            have hdr : Hid (Below U6.heap.size U6 U6.drew) := (Below.refl _ _).drew
            clear H6 e0 e1 e2 e3 e4
            obtain ⟨yx, _⟩ := cell_row G6.out 1 _ rfl
            obtain ⟨c0, _⟩ := cell_row X6.out 0 _ rfl
            obtain ⟨c1, _⟩ := cell_row X6.out 1 _ rfl
            obtain ⟨c2, _⟩ := cell_row X6.out 2 _ rfl
            obtain ⟨c3, _⟩ := cell_row X6.out 3 _ rfl
            obtain ⟨c4, _⟩ := cell_row X6.out 4 _ rfl
            simp only [List.getElem_toArray, List.getElem_cons_zero, List.getElem_cons_succ] at yx c0 c1 c2 c3 c4
            have qx := fun d os => cell_regrown yx d os
            have q0 := fun d os => cell_regrown c0 d os
            have q1 := fun d os => cell_regrown c1 d os
            have q2 := fun d os => cell_regrown c2 d os
            have q3 := fun d os => cell_regrown c3 d os
            have q4 := fun d os => cell_regrown c4 d os
            refine wp_region_mix 16 [0, 1, 2, 3, 5, 6, 7, 8, 9, 10, 11, 12] (by kernel_rfl) (by kernel_rfl) ?_
            simp only [List.filterMap_cons, List.filterMap_nil, List.getElem?_cons_succ, List.getElem?_cons_zero]
            repeat (first | go_big_quiet_step (fail) | quiet_step (fail))
            refine wpQuiet_nil ?_
            clear yx qx c0 q0 c1 q1 c2 q2 c3 q3 c4 q4
            refine call1 (md := .any) (f := 3) (i := 4) (dc := 47) (fn := 53) ⟨rfl, rfl, rfl, by decide⟩ (by kernel_rfl) ?run4 (Calls.mono (clones_any y.1 U6.drew hz0) ?_)
            case run4 => go_simp
            rintro e u5 ⟨rfl, hb5⟩
            have B5u : Hid (Below U6.heap.size U6 u5) := hdr.out.trans hb5
            have s5 := B5u.out.size
            refine ⟨_, rfl, regrown_of_below B5u.out, ?_⟩
            simp only [Act.put, List.setIfInBounds_toArray, List.set_cons_zero, List.set_cons_succ]
            clear hb5
            refine call1 (md := .any) (f := 2) (i := 13) (dc := 56) (fn := 52) ⟨rfl, rfl, rfl, by decide⟩ (by kernel_rfl) ?run13 (Calls.mono (freshT_any S _ y.2.2.2.2 u5 (HM.out.same (Same.of_below (B6.out.trans (B5u.out.mono (by omega))) SR)) (fun b hb => by have := SR b hb; omega) (by rw [ENM.out]; omega) HKS.out) ?_)
            case run13 => go_simp
            rintro e u7 ⟨r, rfl, hr, hb7⟩
            obtain ⟨pm, qm, er⟩ := ownsRow_shape hr
            rw [ENM.out] at er
            subst er
            have R7 : Hid (Row u7 u5.heap.size 9 1 eS (.slice pm nm qm) y.2.2.2.2) := hr
            have B7u : Hid (Below U6.heap.size U6 u7) := B5u.out.trans (hb7.mono B5u.out.size)
            have B7 : Hid (Below wr.heap.size wr u7) := B6.out.trans (B7u.out.mono (by omega))
            refine ⟨_, rfl, regrown_of_below B7u.out, ?_⟩
            simp only [Act.put, List.setIfInBounds_toArray, List.set_cons_zero, List.set_cons_succ]
            clear hb7 hr
            have sUL := B7.out.size
            obtain ⟨ua, hua⟩ : ∃ V, V = u7.alloc (.cells #[.string y.1, .int .i64 y.2.1, .int .i64 y.2.2.1, .int .i64 y.2.2.2.1, .slice pm nm qm] 81) := ⟨_, rfl⟩
            have HUA : Hid (ua = u7.alloc (.cells #[.string y.1, .int .i64 y.2.1, .int .i64 y.2.2.1, .int .i64 y.2.2.2.1, .slice pm nm qm] 81)) := hua
            have sua : ua.heap.size ≤ u7.heap.size + 1 ∧ u7.heap.size + 1 ≤ ua.heap.size := by rw [hua]; simp
            have BAA : Hid (Below u7.heap.size u7 ua) := by rw [hua]; exact (Below.refl _ _).alloc (Nat.le_refl _) _
            have BA : Hid (Below wr.heap.size wr ua) := B7.out.trans (BAA.out.mono sUL)
            have HSRC : Hid (Src ua (.slice (some ⟨u7.heap.size, 0, none⟩) 1 1) 1 5 (#[.string y.1, .int .i64 y.2.1, .int .i64 y.2.2.1, .int .i64 y.2.2.2.1, .slice pm nm qm] : Array Value).toList) := by
              have h1 : ua.ownsRow 0 81 5 (.slice (some ⟨u7.heap.size, 0, none⟩) 1 1) 1 (#[.string y.1, .int .i64 y.2.1, .int .i64 y.2.2.1, .int .i64 y.2.2.2.1, .slice pm nm qm] : Array Value).toList := by
                rw [hua]; exact own_built (Nat.zero_le _) (by unfold maxLen; omega) rfl
              exact own_src h1
            have hlk : (a.2.1.take k).length = k := by rw [List.length_take, M1.out]; omega
            have HOWN : Hid (ua.ownsRow wA.heap.size 81 5 (.slice ov k kv) k xs) := by have := row_stable BA.out hB.out.row; rw [hlk] at this; exact this
            have HONE : Hid (∀ z ∈ (#[.string y.1, .int .i64 y.2.1, .int .i64 y.2.2.1, .int .i64 y.2.2.2.1, .slice pm nm qm] : Array Value).toList, z.oneCell' = true) := by intro z hz; simp at hz; rcases hz with rfl | rfl | rfl | rfl | rfl <;> rfl
            clear hua
            have BAU : Hid (Below U6.heap.size U6 (u7.alloc (.cells #[.string y.1, .int .i64 y.2.1, .int .i64 y.2.2.1, .int .i64 y.2.2.2.1, .slice pm nm qm] 81))) := (B7u.out.alloc (by have := B7u.out.size; omega) _)
            refine anyC_step (f := 1) [14] (by kernel_rfl) (by simp) (one_list ⟨by decide, _, rfl, rfl, .agg #[.string y.1, .int .i64 y.2.1, .int .i64 y.2.2.1, .int .i64 y.2.2.2.1, .slice pm nm qm], u7, ?runa, regrown_of_below B7u.out, ?_⟩)
            case runa => go_simp
            refine anyC_step (f := 0) [15] (by kernel_rfl) (by simp) (one_list ⟨by decide, _, rfl, rfl, .slice (some ⟨u7.heap.size, 0, none⟩) 1 1, u7.alloc (.cells #[.string y.1, .int .i64 y.2.1, .int .i64 y.2.2.1, .int .i64 y.2.2.2.1, .slice pm nm qm] 81), ?runb, regrown_of_below BAU.out, ?_⟩)
            case runb => go_simp
            refine ⟨by kernel_rfl, ?_⟩
            simp only [List.drop_succ_cons, List.drop_zero]
            rw [← HUA.out]
            go_wp2_with (first
              | (at_builtin;  refine wpList_app elSp rfl _ _ rfl rfl rfl HOWN.out HSRC.out HONE.out (by unfold maxLen; omega) (by omega) (by omega) ?_; intro v' u8 hown hgr hbk; obtain ⟨ov', kv', rfl⟩ := ownsRow_shape hown; have hg8 : u8.heap[gx]? = some (.cells #[.slice oA n0 kA, .slice ov k kv, .slice p2 n2 q2, .slice none 0 0, .int .i64 a.2.2.2.2] 33 (0, 0)) := (hgr.block gx (by omega) (fun e => by have := (World.ownsRow.lt HOWN.out gx e.symm).1; omega)).trans ((BA.out.block gx (by omega)).trans hG.out); obtain ⟨zc8, zf8⟩ := cell_row hg8 1 _ rfl; simp only [List.getElem_toArray, List.getElem_cons_zero, List.getElem_cons_succ] at  zc8))
            have SET := set_row hg8 1 (.slice ov' (k + 1) kv')
            have PUSH := Bld.push (x := y) (c := cs (#[.string y.1, .int .i64 y.2.1, .int .i64 y.2.2.1, .int .i64 y.2.2.2.1, .slice pm nm qm] : Array Value).toList) hB.out hNs BA.out (on_DClaimSpot.2 ⟨fun _ => False, (fun b => wr.heap.size ≤ b ∧ b < ua.heap.size), fun _ h => h.elim, fun _ h => h, ⟨rfl, z0⟩, fun _ => False, (fun b => wr.heap.size ≤ b ∧ b < ua.heap.size), fun _ h => h.elim, fun _ h => h, ⟨rfl, z1⟩, fun _ => False, (fun b => wr.heap.size ≤ b ∧ b < ua.heap.size), fun _ h => h.elim, fun _ h => h, ⟨rfl, z2⟩, fun _ => False, (fun b => wr.heap.size ≤ b ∧ b < ua.heap.size), fun _ h => h.elim, fun _ h => h, ⟨rfl, z3⟩, onS_row (row_stable BAA.out R7.out) (fun g hg => by have := World.ownsRow.lt R7.out g hg; exact ⟨by omega, by omega⟩) HOK.out⟩) hgr (by rw [hlk]; exact hown) (fun j hj => by rw [width_DClaimSpot] at hj; rcases (show j = 0 ∨ j = 1 ∨ j = 2 ∨ j = 3 ∨ j = 4 by omega) with rfl | rfl | rfl | rfl | rfl <;> rfl) hbk
            have BN : Hid (Bld wA.heap.size (u8.setCell ⟨gx, 1, none⟩ (.slice ov' (k + 1) kv')) 81 (.slice ov' (k + 1) kv') (a.2.1.take (k + 1)) (xs ++ (#[.string y.1, .int .i64 y.2.1, .int .i64 y.2.2.1, .int .i64 y.2.2.2.1, .slice pm nm qm] : Array Value).toList)) := by
              show Bld _ _ _ _ _ _
              rw [htk.out]
              exact PUSH.same (fun b h1 _ => Below.heap_setCell _ _ _ _ (by show b ≠ gx; omega)) (by simp)
            have GN : Hid ((u8.setCell ⟨gx, 1, none⟩ (.slice ov' (k + 1) kv')).heap[gx]? = some (.cells #[.slice oA n0 kA, .slice ov' (k + 1) kv', .slice p2 n2 q2, .slice none 0 0, .int .i64 a.2.2.2.2] 33 (0, 0))) := by simpa [Hid] using SET
            have NN : Hid (But (fun b => b = gx) wA (u8.setCell ⟨gx, 1, none⟩ (.slice ov' (k + 1) kv'))) := hN.out.round BA.out hgr (fun q hq => (World.ownsRow.lt HOWN.out q hq).1) 1 _
            go_roundw
            case rel => exact ⟨k + 1, ov', kv', _, by omega, by go_num, BN.out, GN.out, NN.out⟩
            case measure => simp [intOf]; omega
          · obtain rfl : n1 = k := by omega
            have BL1 : Hid (Bld wA.heap.size wr 81 (.slice ov n1 kv) a.2.1 xs) := by have := hB.out; rw [List.take_of_length_le (by rw [M1.out]; exact Nat.le_refl _)] at this; exact this
            clear hB
            have BUB : Hid (Below w.heap.size w wr) := bwr.out
            have Z0B : Hid (wr.heap[w.heap.size]? = some (.cells #[.slice o0 n0 k0, .slice o1 n1 k1, .slice o2 n2 k2, .slice o3 n3 k3, .int .i64 a.2.2.2.2] 33 (0, 0))) := hA1
            have ZX : Hid (wr.heap[gx]? = some (.cells #[.slice oA n0 kA, .slice ov n1 kv, .slice p2 n2 q2, .slice none 0 0, .int .i64 a.2.2.2.2] 33 (0, 0))) := hG.out
            have Z1B : Hid (wr.heap[w.heap.size + 1]? = some (.cells #[.slice none 0 0, .slice none 0 0, .slice none 0 0, .slice none 0 0, .int .i64 0] 33 (0, 0))) := (hN.out.block _ (by omega) (by omega)).trans Z1A.out
            have NB : Hid (But (fun b => b = gx) wA wr) := hN.out
            have sNB := hNs
            obtain ⟨wB, h'⟩ : ∃ x, x = wr := ⟨_, rfl⟩
            subst h'
            obtain ⟨oB, h'⟩ : ∃ x, x = ov := ⟨_, rfl⟩
            subst h'
            obtain ⟨kB, h'⟩ : ∃ x, x = kv := ⟨_, rfl⟩
            subst h'
            obtain ⟨xsB, h'⟩ : ∃ x, x = xs := ⟨_, rfl⟩
            subst h'
            clear hA1 hG hN bwr
            have swB := BUB.out.size
            obtain ⟨xu, _⟩ := cell_row Z0B.out 3 _ rfl
            simp only [List.getElem_toArray, List.getElem_cons_zero, List.getElem_cons_succ] at xu
            go_wp2_with fail
            clear xu
            go_loopw [65] (fun i wr => ∃ (k : Nat) (ov : Option Addr) (kv : Nat) (xs : List Value), k ≤ n3 ∧ i = .int .i64 k ∧ Hid (Bld wB.heap.size wr 50 (.slice ov k kv) (a.2.2.2.1.take k) xs) ∧ Hid (wr.heap[gx]? = some (.cells #[.slice oA n0 kA, .slice oB n1 kB, .slice p2 n2 q2, .slice ov k kv, .int .i64 a.2.2.2.2] 33 (0, 0))) ∧ Hid (But (fun b => b = gx) wB wr)) (fun i _ => n3 - (intOf i).toNat)
            case atStart => exact ⟨0, none, 0, [], Nat.zero_le _, rfl, by show Bld _ _ _ _ _ _; rw [List.take_zero]; exact Bld.nil _ _ _, ZX.out, But.refl _ _⟩
            case round =>
              obtain ⟨k, ov, kv, xs, hk, rfl, hB, hG, hN⟩ := hrel
              have hNs := hN.out.size
              have bwr : Hid (Below w.heap.size w wr) := BUB.out.trans (hN.out.below (B := w.heap.size) (fun b hb => by omega) (by omega))
              have hA1 := (hN.out.block w.heap.size (by omega) (by omega)).trans Z0B.out
              by_cases hlt : k < n3
              · have hatL := HH3.out wr bwr.out
                obtain ⟨oa, cp, ev, _, hc⟩ := hatL
                obtain ⟨b, off, eo, hbS, cc, hcell, hat⟩ := hc k (by rw [M3.out]; exact hlt)
                have eo1 : o3 = some ⟨b, off, none⟩ := by injection ev with h1 _ _; exact h1.trans eo
                subst eo1
                clear ev eo hc
                rw [width_DClaimPart] at hcell
                have e0 : wr.cell? ⟨b, off + k * 7, none⟩ = some (cc 0) := by have := hcell 0 (by omega); simpa using this
                have e1 : wr.cell? ⟨b, off + k * 7 + 1, none⟩ = some (cc 1) := by have := hcell 1 (by omega); simpa using this
                have e2 : wr.cell? ⟨b, off + k * 7 + 2, none⟩ = some (cc 2) := by have := hcell 2 (by omega); simpa using this
                have e3 : wr.cell? ⟨b, off + k * 7 + 3, none⟩ = some (cc 3) := by have := hcell 3 (by omega); simpa using this
                have e4 : wr.cell? ⟨b, off + k * 7 + 4, none⟩ = some (cc 4) := by have := hcell 4 (by omega); simpa using this
                have e5 : wr.cell? ⟨b, off + k * 7 + 5, none⟩ = some (cc 5) := by have := hcell 5 (by omega); simpa using this
                have e6 : wr.cell? ⟨b, off + k * 7 + 6, none⟩ = some (cc 6) := by have := hcell 6 (by omega); simpa using this
                rw [at_DClaimPart] at hat
                have hye := KE3.out k (by rw [M3.out]; exact hlt)
                have htk : Hid (a.2.2.2.1.take (k + 1) = a.2.2.2.1.take k ++ [a.2.2.2.1[k]'(by rw [M3.out]; exact hlt)]) := by
                  show _ = _
                  rw [List.take_add_one, List.getElem?_eq_getElem (by rw [M3.out]; exact hlt)]; rfl
                obtain ⟨y, ey⟩ : ∃ y, a.2.2.2.1[k]'(by rw [M3.out]; exact hlt) = y := ⟨_, rfl⟩
                rw [ey] at hat hye htk
                clear ey hcell
                obtain ⟨⟨g0, z0⟩, ⟨g1, z1⟩, b2, b3, b4, b5, g6⟩ := hat
                rw [tot_DClaimPart] at hye
                obtain ⟨ow2, vw2, em2, _⟩ := id b2
                obtain ⟨l2, en2⟩ : ∃ n, y.2.2.1.length = n := ⟨_, rfl⟩
                rw [en2] at em2
                rw [em2] at e2 b2
                obtain ⟨ow3, vw3, em3, _⟩ := id b3
                obtain ⟨l3, en3⟩ : ∃ n, y.2.2.2.1.length = n := ⟨_, rfl⟩
                rw [en3] at em3
                rw [em3] at e3 b3
                obtain ⟨ow4, vw4, em4, _⟩ := id b4
                obtain ⟨l4, en4⟩ : ∃ n, y.2.2.2.2.1.length = n := ⟨_, rfl⟩
                rw [en4] at em4
                rw [em4] at e4 b4
                obtain ⟨ow5, vw5, em5, _⟩ := id b5
                obtain ⟨l5, en5⟩ : ∃ n, y.2.2.2.2.2.1.length = n := ⟨_, rfl⟩
                rw [en5] at em5
                rw [em5] at e5 b5
                rw [g0] at e0
                rw [g1] at e1
                rw [g6] at e6
                have SR : ∀ b, S b → b < wr.heap.size := fun b hb => by have := hS b hb; have := bwr.out.size; omega
                have HWT : Hid (Lay.At S wr ((y.1, y.2.1, y.2.2.1, y.2.2.2.1, y.2.2.2.2.1, y.2.2.2.2.2.1) : DClaimWant) (cs [.int .i64 y.1, .int .i64 y.2.1, .slice ow2 l2 vw2, .slice ow3 l3 vw3, .slice ow4 l4 vw4, .slice ow5 l5 vw5])) := at_DClaimWant.2 ⟨⟨rfl, z0⟩, ⟨rfl, z1⟩, b2, b3, b4, b5⟩
                have htw : Hid (Lay.tot ((y.1, y.2.1, y.2.2.1, y.2.2.2.1, y.2.2.2.2.1, y.2.2.2.2.2.1) : DClaimWant) ≤ 1048576) := by show _ ≤ _; rw [tot_DClaimWant]; show _ ≤ _; omega
                have EL2 : Hid (y.2.2.1.length = l2) := en2
                have EL3 : Hid (y.2.2.2.1.length = l3) := en3
                have EL4 : Hid (y.2.2.2.2.1.length = l4) := en4
                have EL5 : Hid (y.2.2.2.2.2.1.length = l5) := en5
                clear g0 g1 g6 b2 b3 b4 b5 en2 en3 en4 en5 em2 em3 em4 em5
                obtain ⟨U6, hU6⟩ : ∃ V, V = wr.alloc (.cells #[.int .i64 y.1, .int .i64 y.2.1, .slice ow2 l2 vw2, .slice ow3 l3 vw3, .slice ow4 l4 vw4, .slice ow5 l5 vw5, .bool y.2.2.2.2.2.2] 50) := ⟨_, rfl⟩
                have B6 : Hid (Below wr.heap.size wr U6) := by rw [hU6]; exact (Below.refl _ _).alloc (Nat.le_refl _) _
                have s6 : U6.heap.size ≤ wr.heap.size + 1 ∧ wr.heap.size + 1 ≤ U6.heap.size := by rw [hU6]; simp
                have X6 : Hid (U6.heap[wr.heap.size]? = some (.cells #[.int .i64 y.1, .int .i64 y.2.1, .slice ow2 l2 vw2, .slice ow3 l3 vw3, .slice ow4 l4 vw4, .slice ow5 l5 vw5, .bool y.2.2.2.2.2.2] 50 (0, 0))) := by rw [hU6]; exact heap_alloc_new wr _
                have H6 : Hid (U6 = wr.alloc (.cells #[.int .i64 y.1, .int .i64 y.2.1, .slice ow2 l2 vw2, .slice ow3 l3 vw3, .slice ow4 l4 vw4, .slice ow5 l5 vw5, .bool y.2.2.2.2.2.2] 50)) := hU6
                have G6 : Hid (U6.heap[gx]? = _) := (B6.out.block gx (by omega)).trans hG.out
                clear hU6
                go_upto_region 15 with fail
                rw [← H6.out]
                have hdr : Hid (Below U6.heap.size U6 U6.drew) := (Below.refl _ _).drew
                clear H6 e0 e1 e2 e3 e4 e5 e6
                have CW : Hid (Calls Tryz.prog 54 #[.agg #[.int .i64 y.1, .int .i64 y.2.1, .slice ow2 l2 vw2, .slice ow3 l3 vw3, .slice ow4 l4 vw4, .slice ow5 l5 vw5]] U6.drew _) := freshW_any S ((y.1, y.2.1, y.2.2.1, y.2.2.2.1, y.2.2.2.2.1, y.2.2.2.2.2.1) : DClaimWant) (cs [.int .i64 y.1, .int .i64 y.2.1, .slice ow2 l2 vw2, .slice ow3 l3 vw3, .slice ow4 l4 vw4, .slice ow5 l5 vw5]) U6.drew (Lay.same HWT.out (Same.of_below (B6.out.trans (hdr.out.mono (by omega))) SR)) (fun b hb => by show b < U6.heap.size; have := SR b hb; omega) htw.out
                obtain ⟨yx, _⟩ := cell_row G6.out 3 _ rfl
                obtain ⟨c0, _⟩ := cell_row X6.out 0 _ rfl
                obtain ⟨c1, _⟩ := cell_row X6.out 1 _ rfl
                obtain ⟨c2, _⟩ := cell_row X6.out 2 _ rfl
                obtain ⟨c3, _⟩ := cell_row X6.out 3 _ rfl
                obtain ⟨c4, _⟩ := cell_row X6.out 4 _ rfl
                obtain ⟨c5, _⟩ := cell_row X6.out 5 _ rfl
                obtain ⟨c6, _⟩ := cell_row X6.out 6 _ rfl
                simp only [List.getElem_toArray, List.getElem_cons_zero, List.getElem_cons_succ] at yx c0 c1 c2 c3 c4 c5 c6
                have qx := fun d os => cell_regrown yx d os
                have q0 := fun d os => cell_regrown c0 d os
                have q1 := fun d os => cell_regrown c1 d os
                have q2 := fun d os => cell_regrown c2 d os
                have q3 := fun d os => cell_regrown c3 d os
                have q4 := fun d os => cell_regrown c4 d os
                have q5 := fun d os => cell_regrown c5 d os
                have q6 := fun d os => cell_regrown c6 d os
                refine wp_region_mix 9 [0, 1, 2, 3, 5, 6] (by kernel_rfl) (by kernel_rfl) ?_
                simp only [List.filterMap_cons, List.filterMap_nil, List.getElem?_cons_succ, List.getElem?_cons_zero]
                repeat (first | go_big_quiet_step (fail) | quiet_step (fail))
                refine wpQuiet_nil ?_
                clear yx qx c0 q0 c1 q1 c2 q2 c3 q3 c4 q4 c5 q5 c6 q6
                refine call1 (md := .any) (f := 2) (i := 4) (dc := 73) (fn := 54) ⟨rfl, rfl, rfl, by decide⟩ (by kernel_rfl) ?run4 (Calls.mono (CW.out) ?_)
                case run4 => go_simp
                rintro e u7 ⟨g, rfl, hg, hb7⟩
                have B7u : Hid (Below U6.heap.size U6 u7) := hdr.out.trans hb7
                have B7 : Hid (Below wr.heap.size wr u7) := B6.out.trans (B7u.out.mono (by omega))
                have HGW : Hid (Own.On (fun b => U6.heap.size ≤ b ∧ b < u7.heap.size) u7 ((y.1, y.2.1, y.2.2.1, y.2.2.2.1, y.2.2.2.2.1, y.2.2.2.2.2.1) : DClaimWant) g) := hg
                obtain ⟨⟨ge0, _⟩, ⟨ge1, _⟩, d2, d3, d4, d5⟩ := at_DClaimWant.1 (Own.on_at hg)
                clear hg
                obtain ⟨s2, r2, ge2, _⟩ := d2
                simp only at ge2
                rw [EL2.out] at ge2
                obtain ⟨s3, r3, ge3, _⟩ := d3
                simp only at ge3
                rw [EL3.out] at ge3
                obtain ⟨s4, r4, ge4, _⟩ := d4
                simp only at ge4
                rw [EL4.out] at ge4
                obtain ⟨s5, r5, ge5, _⟩ := d5
                simp only at ge5
                rw [EL5.out] at ge5
                simp only at ge0 ge1
                rw [ge0, ge1, ge2, ge3, ge4, ge5]
                have GE0 : Hid (g 0 = .int .i64 y.1) := ge0
                have GE1 : Hid (g 1 = .int .i64 y.2.1) := ge1
                have GE2 : Hid (g 2 = .slice s2 l2 r2) := ge2
                have GE3 : Hid (g 3 = .slice s3 l3 r3) := ge3
                have GE4 : Hid (g 4 = .slice s4 l4 r4) := ge4
                have GE5 : Hid (g 5 = .slice s5 l5 r5) := ge5
                clear ge0 ge1 ge2 ge3 ge4 ge5
                refine ⟨_, rfl, regrown_of_below B7u.out, ?_⟩
                simp only [Act.put, List.setIfInBounds_toArray, List.set_cons_zero, List.set_cons_succ]
                clear hb7 CW
                have sUL := B7.out.size
                obtain ⟨ua, hua⟩ : ∃ V, V = u7.alloc (.cells #[.int .i64 y.1, .int .i64 y.2.1, .slice s2 l2 r2, .slice s3 l3 r3, .slice s4 l4 r4, .slice s5 l5 r5, .bool y.2.2.2.2.2.2] 50) := ⟨_, rfl⟩
                have HUA : Hid (ua = u7.alloc (.cells #[.int .i64 y.1, .int .i64 y.2.1, .slice s2 l2 r2, .slice s3 l3 r3, .slice s4 l4 r4, .slice s5 l5 r5, .bool y.2.2.2.2.2.2] 50)) := hua
                have sua : ua.heap.size ≤ u7.heap.size + 1 ∧ u7.heap.size + 1 ≤ ua.heap.size := by rw [hua]; simp
                have BAA : Hid (Below u7.heap.size u7 ua) := by rw [hua]; exact (Below.refl _ _).alloc (Nat.le_refl _) _
                have BA : Hid (Below wr.heap.size wr ua) := B7.out.trans (BAA.out.mono sUL)
                have HSRC : Hid (Src ua (.slice (some ⟨u7.heap.size, 0, none⟩) 1 1) 1 7 (#[.int .i64 y.1, .int .i64 y.2.1, .slice s2 l2 r2, .slice s3 l3 r3, .slice s4 l4 r4, .slice s5 l5 r5, .bool y.2.2.2.2.2.2] : Array Value).toList) := by
                  have h1 : ua.ownsRow 0 50 7 (.slice (some ⟨u7.heap.size, 0, none⟩) 1 1) 1 (#[.int .i64 y.1, .int .i64 y.2.1, .slice s2 l2 r2, .slice s3 l3 r3, .slice s4 l4 r4, .slice s5 l5 r5, .bool y.2.2.2.2.2.2] : Array Value).toList := by
                    rw [hua]; exact own_built (Nat.zero_le _) (by unfold maxLen; omega) rfl
                  exact own_src h1
                have hlk : (a.2.2.2.1.take k).length = k := by rw [List.length_take, M3.out]; omega
                have HOWN : Hid (ua.ownsRow wB.heap.size 50 7 (.slice ov k kv) k xs) := by have := row_stable BA.out hB.out.row; rw [hlk] at this; exact this
                have HONE : Hid (∀ z ∈ (#[.int .i64 y.1, .int .i64 y.2.1, .slice s2 l2 r2, .slice s3 l3 r3, .slice s4 l4 r4, .slice s5 l5 r5, .bool y.2.2.2.2.2.2] : Array Value).toList, z.oneCell' = true) := by intro z hz; simp at hz; rcases hz with rfl | rfl | rfl | rfl | rfl | rfl | rfl <;> rfl
                clear hua
                have BAU : Hid (Below U6.heap.size U6 (u7.alloc (.cells #[.int .i64 y.1, .int .i64 y.2.1, .slice s2 l2 r2, .slice s3 l3 r3, .slice s4 l4 r4, .slice s5 l5 r5, .bool y.2.2.2.2.2.2] 50))) := (B7u.out.alloc (by have := B7u.out.size; omega) _)
                refine anyC_step (f := 1) [7] (by kernel_rfl) (by simp) (one_list ⟨by decide, _, rfl, rfl, .agg #[.int .i64 y.1, .int .i64 y.2.1, .slice s2 l2 r2, .slice s3 l3 r3, .slice s4 l4 r4, .slice s5 l5 r5, .bool y.2.2.2.2.2.2], u7, ?runa, regrown_of_below B7u.out, ?_⟩)
                case runa => go_simp
                refine anyC_step (f := 0) [8] (by kernel_rfl) (by simp) (one_list ⟨by decide, _, rfl, rfl, .slice (some ⟨u7.heap.size, 0, none⟩) 1 1, u7.alloc (.cells #[.int .i64 y.1, .int .i64 y.2.1, .slice s2 l2 r2, .slice s3 l3 r3, .slice s4 l4 r4, .slice s5 l5 r5, .bool y.2.2.2.2.2.2] 50), ?runb, regrown_of_below BAU.out, ?_⟩)
                case runb => go_simp
                refine ⟨by kernel_rfl, ?_⟩
                simp only [List.drop_succ_cons, List.drop_zero]
                rw [← HUA.out]
                go_wp2_with (first
                  | (at_builtin;  refine wpList_app elPt rfl _ _ rfl rfl rfl HOWN.out HSRC.out HONE.out (by unfold maxLen; omega) (by omega) (by omega) ?_; intro v' u8 hown hgr hbk; obtain ⟨ov', kv', rfl⟩ := ownsRow_shape hown; have hg8 : u8.heap[gx]? = some (.cells #[.slice oA n0 kA, .slice oB n1 kB, .slice p2 n2 q2, .slice ov k kv, .int .i64 a.2.2.2.2] 33 (0, 0)) := (hgr.block gx (by omega) (fun e => by have := (World.ownsRow.lt HOWN.out gx e.symm).1; omega)).trans ((BA.out.block gx (by omega)).trans hG.out); obtain ⟨zc8, zf8⟩ := cell_row hg8 3 _ rfl; simp only [List.getElem_toArray, List.getElem_cons_zero, List.getElem_cons_succ] at  zc8))
                have SET := set_row hg8 3 (.slice ov' (k + 1) kv')
                have PUSH := Bld.push (x := y) (c := cs (#[.int .i64 y.1, .int .i64 y.2.1, .slice s2 l2 r2, .slice s3 l3 r3, .slice s4 l4 r4, .slice s5 l5 r5, .bool y.2.2.2.2.2.2] : Array Value).toList) hB.out hNs BA.out (part_on (Own.on_up (Own.on_same HGW.out (Same.of_below BAA.out (fun b hb => hb.2))) (fun b hb => ⟨by omega, by omega⟩)) GE0.out.symm GE1.out.symm GE2.out.symm GE3.out.symm GE4.out.symm GE5.out.symm rfl) hgr (by rw [hlk]; exact hown) (fun j hj => by rw [width_DClaimPart] at hj; rcases (show j = 0 ∨ j = 1 ∨ j = 2 ∨ j = 3 ∨ j = 4 ∨ j = 5 ∨ j = 6 by omega) with rfl | rfl | rfl | rfl | rfl | rfl | rfl <;> rfl) hbk
                have BN : Hid (Bld wB.heap.size (u8.setCell ⟨gx, 3, none⟩ (.slice ov' (k + 1) kv')) 50 (.slice ov' (k + 1) kv') (a.2.2.2.1.take (k + 1)) (xs ++ (#[.int .i64 y.1, .int .i64 y.2.1, .slice s2 l2 r2, .slice s3 l3 r3, .slice s4 l4 r4, .slice s5 l5 r5, .bool y.2.2.2.2.2.2] : Array Value).toList)) := by
                  show Bld _ _ _ _ _ _
                  rw [htk.out]
                  exact PUSH.same (fun b h1 _ => Below.heap_setCell _ _ _ _ (by show b ≠ gx; omega)) (by simp)
                have GN : Hid ((u8.setCell ⟨gx, 3, none⟩ (.slice ov' (k + 1) kv')).heap[gx]? = some (.cells #[.slice oA n0 kA, .slice oB n1 kB, .slice p2 n2 q2, .slice ov' (k + 1) kv', .int .i64 a.2.2.2.2] 33 (0, 0))) := by simpa [Hid] using SET
                have NN : Hid (But (fun b => b = gx) wB (u8.setCell ⟨gx, 3, none⟩ (.slice ov' (k + 1) kv'))) := hN.out.round BA.out hgr (fun q hq => (World.ownsRow.lt HOWN.out q hq).1) 3 _
                go_roundw
                case rel => exact ⟨k + 1, ov', kv', _, by omega, by go_num, BN.out, GN.out, NN.out⟩
                case measure => simp [intOf]; omega
              · obtain rfl : n3 = k := by omega
                have BL3 : Hid (Bld wB.heap.size wr 50 (.slice ov n3 kv) a.2.2.2.1 xs) := by have := hB.out; rw [List.take_of_length_le (by rw [M3.out]; exact Nat.le_refl _)] at this; exact this
                clear hB
                have Z3 : Hid (wr.heap[w.heap.size + 1]? = some (.cells #[.slice none 0 0, .slice none 0 0, .slice none 0 0, .slice none 0 0, .int .i64 0] 33 (0, 0))) := (hN.out.block _ (by omega) (by omega)).trans Z1B.out
                obtain ⟨y0, _⟩ := cell_row hG.out 0 _ rfl
                obtain ⟨t0, f0⟩ := cell_row Z3.out 0 _ rfl
                obtain ⟨y1, _⟩ := cell_row hG.out 1 _ rfl
                obtain ⟨t1, f1⟩ := cell_row Z3.out 1 _ rfl
                obtain ⟨y2, _⟩ := cell_row hG.out 2 _ rfl
                obtain ⟨t2, f2⟩ := cell_row Z3.out 2 _ rfl
                obtain ⟨y3, _⟩ := cell_row hG.out 3 _ rfl
                obtain ⟨t3, f3⟩ := cell_row Z3.out 3 _ rfl
                obtain ⟨y4, _⟩ := cell_row hG.out 4 _ rfl
                obtain ⟨t4, f4⟩ := cell_row Z3.out 4 _ rfl
                simp only [List.getElem_toArray, List.getElem_cons_zero, List.getElem_cons_succ] at y0 t0 y1 t1 y2 t2 y3 t3 y4 t4
                obtain ⟨F0, F1, F2, F3⟩ := ret_5 Z3.out (.slice oA n0 kA) (.slice oB n1 kB) (.slice p2 n2 q2) (.slice ov n3 kv) (.int .i64 a.2.2.2.2)
                have g0 := (cell_row F0 0 _ rfl).1
                have g1 := (cell_row F0 1 _ rfl).1
                have g2 := (cell_row F0 2 _ rfl).1
                have g3 := (cell_row F0 3 _ rfl).1
                have g4 := (cell_row F0 4 _ rfl).1
                simp only [List.getElem_toArray, List.getElem_cons_zero, List.getElem_cons_succ] at g0 g1 g2 g3 g4
                have d2 := World.ownsRow.lt R2.out
                have x2 : ∀ g, (Value.slice p2 n2 q2).ownBlock = some g → g ≠ gx := fun g hg e => row_ne R2.out ZU.out (by decide) (e ▸ hg)
                have sA := NA.out.size
                have sB := NB.out.size
                have O2 : OnL (fun b => (Value.slice p2 n2 q2).ownBlock = some b) (((((wr.setCell ⟨w.heap.size + 1, 0, none⟩ (.slice oA n0 kA)).setCell ⟨w.heap.size + 1, 1, none⟩ (.slice oB n1 kB)).setCell ⟨w.heap.size + 1, 2, none⟩ (.slice p2 n2 q2)).setCell ⟨w.heap.size + 1, 3, none⟩ (.slice ov n3 kv)).setCell ⟨w.heap.size + 1, 4, none⟩ (.int .i64 a.2.2.2.2)) a.2.2.1 (.slice p2 n2 q2) := onS_row (by show World.ownsRow _ _ _ _ _ _ _; rw [M2.out]; exact ownsRow_kept R2.out (fun g hg => (F1 g (by have := d2 g hg; omega)).trans ((hN.out.block g (by have := d2 g hg; omega) (x2 g hg)).trans ((NB.out.block g (by have := d2 g hg; omega) (x2 g hg)).trans (NA.out.block g (d2 g hg).2 (x2 g hg)))))) (fun g hg => hg) K2.out
                have O0 : OnL (fun b => U.heap.size ≤ b ∧ b < wA.heap.size) (((((wr.setCell ⟨w.heap.size + 1, 0, none⟩ (.slice oA n0 kA)).setCell ⟨w.heap.size + 1, 1, none⟩ (.slice oB n1 kB)).setCell ⟨w.heap.size + 1, 2, none⟩ (.slice p2 n2 q2)).setCell ⟨w.heap.size + 1, 3, none⟩ (.slice ov n3 kv)).setCell ⟨w.heap.size + 1, 4, none⟩ (.int .i64 a.2.2.2.2)) a.1 (.slice oA n0 kA) := BL0.out.on.same (fun b hb => (F1 b (by omega)).trans ((hN.out.block b (by omega) (by omega)).trans (NB.out.block b hb.2 (by omega))))
                have O1 : OnL (fun b => wA.heap.size ≤ b ∧ b < wB.heap.size) (((((wr.setCell ⟨w.heap.size + 1, 0, none⟩ (.slice oA n0 kA)).setCell ⟨w.heap.size + 1, 1, none⟩ (.slice oB n1 kB)).setCell ⟨w.heap.size + 1, 2, none⟩ (.slice p2 n2 q2)).setCell ⟨w.heap.size + 1, 3, none⟩ (.slice ov n3 kv)).setCell ⟨w.heap.size + 1, 4, none⟩ (.int .i64 a.2.2.2.2)) a.2.1 (.slice oB n1 kB) := BL1.out.on.same (fun b hb => (F1 b (by omega)).trans (hN.out.block b hb.2 (by omega)))
                have O3 : OnL (fun b => wB.heap.size ≤ b ∧ b < wr.heap.size) (((((wr.setCell ⟨w.heap.size + 1, 0, none⟩ (.slice oA n0 kA)).setCell ⟨w.heap.size + 1, 1, none⟩ (.slice oB n1 kB)).setCell ⟨w.heap.size + 1, 2, none⟩ (.slice p2 n2 q2)).setCell ⟨w.heap.size + 1, 3, none⟩ (.slice ov n3 kv)).setCell ⟨w.heap.size + 1, 4, none⟩ (.int .i64 a.2.2.2.2)) a.2.2.2.1 (.slice ov n3 kv) := BL3.out.on.same (fun b hb => F1 b (by omega))
                have BF : Hid (Below w.heap.size w (((((wr.setCell ⟨w.heap.size + 1, 0, none⟩ (.slice oA n0 kA)).setCell ⟨w.heap.size + 1, 1, none⟩ (.slice oB n1 kB)).setCell ⟨w.heap.size + 1, 2, none⟩ (.slice p2 n2 q2)).setCell ⟨w.heap.size + 1, 3, none⟩ (.slice ov n3 kv)).setCell ⟨w.heap.size + 1, 4, none⟩ (.int .i64 a.2.2.2.2))) := bwr.out.trans (F3.mono (by omega))
                have ON : Hid (Own.On (fun b => w.heap.size ≤ b ∧ b < (((((wr.setCell ⟨w.heap.size + 1, 0, none⟩ (.slice oA n0 kA)).setCell ⟨w.heap.size + 1, 1, none⟩ (.slice oB n1 kB)).setCell ⟨w.heap.size + 1, 2, none⟩ (.slice p2 n2 q2)).setCell ⟨w.heap.size + 1, 3, none⟩ (.slice ov n3 kv)).setCell ⟨w.heap.size + 1, 4, none⟩ (.int .i64 a.2.2.2.2)).heap.size) (((((wr.setCell ⟨w.heap.size + 1, 0, none⟩ (.slice oA n0 kA)).setCell ⟨w.heap.size + 1, 1, none⟩ (.slice oB n1 kB)).setCell ⟨w.heap.size + 1, 2, none⟩ (.slice p2 n2 q2)).setCell ⟨w.heap.size + 1, 3, none⟩ (.slice ov n3 kv)).setCell ⟨w.heap.size + 1, 4, none⟩ (.int .i64 a.2.2.2.2)) a (cs [.slice oA n0 kA, .slice oB n1 kB, .slice p2 n2 q2, .slice ov n3 kv, .int .i64 a.2.2.2.2])) := on_DClaimBook.2 ⟨fun b => U.heap.size ≤ b ∧ b < wA.heap.size, fun b => (wA.heap.size ≤ b ∧ b < wr.heap.size) ∨ (Value.slice p2 n2 q2).ownBlock = some b, (fun b hb => ⟨⟨by omega, by rw [F2]; omega⟩, fun h => h.elim (fun h => by omega) (fun h => by have := d2 b h; omega)⟩), (fun b hb => hb.elim (fun h => ⟨by omega, by rw [F2]; omega⟩) (fun h => by have := d2 b h; exact ⟨by omega, by rw [F2]; omega⟩)), O0,
                  fun b => wA.heap.size ≤ b ∧ b < wB.heap.size, fun b => (wB.heap.size ≤ b ∧ b < wr.heap.size) ∨ (Value.slice p2 n2 q2).ownBlock = some b, (fun b hb => ⟨.inl ⟨hb.1, by omega⟩, fun h => h.elim (fun h => by omega) (fun h => by have := d2 b h; omega)⟩), (fun b hb => hb.elim (fun h => .inl ⟨by omega, h.2⟩) .inr), O1,
                  fun b => (Value.slice p2 n2 q2).ownBlock = some b, fun b => wB.heap.size ≤ b ∧ b < wr.heap.size, (fun b hb => ⟨.inr hb, fun h => by have := d2 b hb; omega⟩), (fun b hb => .inl hb), O2,
                  fun b => wB.heap.size ≤ b ∧ b < wr.heap.size, fun _ => False, (fun b hb => ⟨hb, fun h => h⟩), (fun _ h => h.elim), O3, ⟨rfl, z4⟩⟩
                go_wp2_with fail
                exact bodyPost_ret (v := .agg #[.slice oA n0 kA, .slice oB n1 kB, .slice p2 n2 q2, .slice ov n3 kv, .int .i64 a.2.2.2.2]) (by simp [results, Tryz.results24, go_sem, g0, g1, g2, g3, g4]) rfl ⟨cs [.slice oA n0 kA, .slice oB n1 kB, .slice p2 n2 q2, .slice ov n3 kv, .int .i64 a.2.2.2.2], rfl, ON.out, BF.out⟩

end Go.Proofs.YticojnepejboaacGreat
