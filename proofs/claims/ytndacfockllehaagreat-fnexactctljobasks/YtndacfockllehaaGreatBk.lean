/-
  A contract of the model's l31Of: what of a want is asked of a station, in memory of its own.
-/
import Derived.Test.YtndacfockllehaaGreatM24
import Derived.Test.YtndacfockllehaaGreatM31
import Derived.Test.YtndacfockllehaaGreatM12
import Derived.Deep.Cut
namespace Go.Proofs.YtndacfockllehaaGreat
open Go.RowKit

set_option maxRecDepth 100000 in
set_option maxHeartbeats 8000000 in
theorem ofS_any (B : Nat) (S : Nat → Prop) (v0 v1 v2 v3 : Value) (D : PD) (st : ByteArray) (a : DClaimWant) (c : Nat → Value) (w : World) (h : PAt B w v0 v1 v2 v3 D) (hB : B ≤ w.heap.size) (ha : Lay.At S w a c) (hS : ∀ b, S b → b < w.heap.size) (hi : WIn D a) (hm : a.2.2.1.length ≤ 1048576 ∧ a.2.2.2.1.length ≤ 1048576 ∧ a.2.2.2.2.1.length ≤ 1048576 ∧ a.2.2.2.2.2.length ≤ 1048576) :
    Calls Tryz.prog 77 #[.agg #[v0, v1, v2, v3], .string st, .agg #[c 0, c 1, c 2, c 3, c 4, c 5]] w fun e w' => ∃ g : Nat → Value, e = .returned (.agg #[g 0, g 1, g 2, g 3, g 4, g 5]) ∧ Own.On (fun b => w.heap.size ≤ b ∧ b < w'.heap.size) w' (ofD D st a) g ∧ Below w.heap.size w w' := by
  obtain ⟨hm2, hm3, hm4, hm5⟩ := hm
  obtain ⟨⟨e0, z0⟩, ⟨e1, z1⟩, H2, H3, H4, H5⟩ := at_DClaimWant.1 ha
  clear ha
  obtain ⟨o6, c6, e6, hx6⟩ := id h.p
  obtain ⟨o7, c7, e7, hx7⟩ := id h.v
  subst e6 e7
  clear hx6 hx7
  have hl2 := hm2
  obtain ⟨o2, k2, e2, hr⟩ := id H2
  clear hr
  rw [e2] at H2
  obtain ⟨n2, m2⟩ : ∃ n, a.2.2.1.length = n := ⟨_, rfl⟩
  rw [m2] at H2 e2 hl2
  have hl3 := hm3
  obtain ⟨o3, k3, e3, hr⟩ := id H3
  clear hr
  rw [e3] at H3
  obtain ⟨n3, m3⟩ : ∃ n, a.2.2.2.1.length = n := ⟨_, rfl⟩
  rw [m3] at H3 e3 hl3
  have hl4 := hm4
  obtain ⟨o4, k4, e4, hr⟩ := id H4
  clear hr
  rw [e4] at H4
  obtain ⟨n4, m4⟩ : ∃ n, a.2.2.2.2.1.length = n := ⟨_, rfl⟩
  rw [m4] at H4 e4 hl4
  have hl5 := hm5
  obtain ⟨o5, k5, e5, hr⟩ := id H5
  clear hr
  rw [e5] at H5
  obtain ⟨n5, m5⟩ : ∃ n, a.2.2.2.2.2.length = n := ⟨_, rfl⟩
  rw [m5] at H5 e5 hl5
  rw [e0, e1, e2, e3, e4, e5]
  clear e0 e1 e2 e3 e4 e5
  have KK2 : Hid _ := flatS.ok_all H2
  have KK3 : Hid _ := flatU.ok_all H3
  have KK4 : Hid _ := flatS.ok_all H4
  have KK5 : Hid _ := flatS.ok_all H5
  have HH2 : Hid (∀ w', Below w.heap.size w w' → AtL S w' a.2.2.1 (.slice o2 n2 k2)) := fun w' hb => H2.same (Same.of_below hb hS)
  have M2 : Hid (a.2.2.1.length = n2) := m2
  clear m2 H2
  have HH3 : Hid (∀ w', Below w.heap.size w w' → AtL S w' a.2.2.2.1 (.slice o3 n3 k3)) := fun w' hb => H3.same (Same.of_below hb hS)
  have M3 : Hid (a.2.2.2.1.length = n3) := m3
  clear m3 H3
  have HH4 : Hid (∀ w', Below w.heap.size w w' → AtL S w' a.2.2.2.2.1 (.slice o4 n4 k4)) := fun w' hb => H4.same (Same.of_below hb hS)
  have M4 : Hid (a.2.2.2.2.1.length = n4) := m4
  clear m4 H4
  have HH5 : Hid (∀ w', Below w.heap.size w w' → AtL S w' a.2.2.2.2.2 (.slice o5 n5 k5)) := fun w' hb => H5.same (Same.of_below hb hS)
  have M5 : Hid (a.2.2.2.2.2.length = n5) := m5
  clear m5 H5
  have H : Hid (∀ w', Below w.heap.size w w' → PAt B w' v0 v1 (.slice o6 D.np c6) (.slice o7 D.nv c7) D) := fun w' hb => h.kept hb hB
  clear h
  have hn2 : n2 ≤ 1048576 := by omega
  have hn3 : n3 ≤ 1048576 := by omega
  have hn4 : n4 ≤ 1048576 := by omega
  have hn5 : n5 ≤ 1048576 := by omega
  clear hm2 hm3 hm4 hm5 hl2 hl3 hl4 hl5
  have HI : Hid (WIn D a) := hi
  clear hi
  obtain ⟨W, hW⟩ : ∃ W, W = ((w.alloc (.cells #[v0, v1, .slice o6 D.np c6, .slice o7 D.nv c7] 40)).alloc (.cells #[.int .i64 a.1, .int .i64 a.2.1, .slice o2 n2 k2, .slice o3 n3 k3, .slice o4 n4 k4, .slice o5 n5 k5] 68)).alloc (.cells #[.int .i64 0, .int .i64 0, .slice none 0 0, .slice none 0 0, .slice none 0 0, .slice none 0 0] 68) := ⟨_, rfl⟩
  have HW : Hid (W = ((w.alloc (.cells #[v0, v1, .slice o6 D.np c6, .slice o7 D.nv c7] 40)).alloc (.cells #[.int .i64 a.1, .int .i64 a.2.1, .slice o2 n2 k2, .slice o3 n3 k3, .slice o4 n4 k4, .slice o5 n5 k5] 68)).alloc (.cells #[.int .i64 0, .int .i64 0, .slice none 0 0, .slice none 0 0, .slice none 0 0, .slice none 0 0] 68)) := hW
  have BW : Hid (Below w.heap.size w W) := by rw [hW]; exact (((Below.refl _ _).alloc (Nat.le_refl _) _).alloc (by simp) _).alloc (by simp; omega) _
  have sW : W.heap.size = w.heap.size + 1 + 1 + 1 := by rw [hW]; simp
  have X0 : Hid (W.heap[w.heap.size]? = some (.cells #[v0, v1, .slice o6 D.np c6, .slice o7 D.nv c7] 40 (0, 0))) := by rw [hW]; exact ((Below.heap_alloc _ _ _ (by simp; omega)).trans (Below.heap_alloc _ _ _ (by simp))).trans (heap_alloc_new w _)
  have V0 : Hid (W.heap[w.heap.size + 1]? = some (.cells #[.int .i64 a.1, .int .i64 a.2.1, .slice o2 n2 k2, .slice o3 n3 k3, .slice o4 n4 k4, .slice o5 n5 k5] 68 (0, 0))) := by rw [hW]; refine (Below.heap_alloc _ _ _ (by simp)).trans ?_; have := heap_alloc_new (w.alloc (.cells #[v0, v1, .slice o6 D.np c6, .slice o7 D.nv c7] 40)) (.cells #[.int .i64 a.1, .int .i64 a.2.1, .slice o2 n2 k2, .slice o3 n3 k3, .slice o4 n4 k4, .slice o5 n5 k5] 68); rw [World.size_alloc] at this; exact this
  have Y0 : Hid (W.heap[w.heap.size + 1 + 1]? = some (.cells #[.int .i64 0, .int .i64 0, .slice none 0 0, .slice none 0 0, .slice none 0 0, .slice none 0 0] 68 (0, 0))) := by rw [hW]; have := heap_alloc_new ((w.alloc (.cells #[v0, v1, .slice o6 D.np c6, .slice o7 D.nv c7] 40)).alloc (.cells #[.int .i64 a.1, .int .i64 a.2.1, .slice o2 n2 k2, .slice o3 n3 k3, .slice o4 n4 k4, .slice o5 n5 k5] 68)) (.cells #[.int .i64 0, .int .i64 0, .slice none 0 0, .slice none 0 0, .slice none 0 0, .slice none 0 0] 68); rw [World.size_alloc, World.size_alloc] at this; exact this
  clear hW
  go_enter Tryz.func77, Tryz.ntmps77
  go_upto_region 1 with fail
  rw [← HW.out]
  clear HW
  have HDX : Hid (W.drew.heap[w.heap.size + 1]? = some (.cells #[.int .i64 a.1, .int .i64 a.2.1, .slice o2 n2 k2, .slice o3 n3 k3, .slice o4 n4 k4, .slice o5 n5 k5] 68 (0, 0))) := V0.out
  refine wp_region_movesC (fun v => Below W.drew.heap.size W.drew v) 9 [] (by kernel_rfl) (by kernel_rfl) (Below.refl _ _) ?_
  simp only [List.filterMap_nil, movD]
  refine takeHQ (f := 8) (i := 0) (.pointer (some ⟨w.heap.size + 1, 0, none⟩)) ⟨rfl, rfl⟩ (by kernel_rfl) rfl (Below.refl _ _) ?r0 ?_
  case r0 => intro v hv; go_simp
  simp only [Act.put, List.setIfInBounds_toArray, List.set_cons_zero, List.set_cons_succ]
  refine takeHQ (f := 7) (i := 1) (.int .i64 a.1) ⟨rfl, rfl⟩ (by kernel_rfl) rfl (Below.refl _ _) ?r1 ?_
  case r1 => intro v hv; have k0 := (cell_row (box_stable hv HDX.out) 0 _ rfl).1; go_simp
  simp only [Act.put, List.setIfInBounds_toArray, List.set_cons_zero, List.set_cons_succ]
  refine takeHQ (f := 6) (i := 2) (.pointer (some ⟨w.heap.size + 1, 1, none⟩)) ⟨rfl, rfl⟩ (by kernel_rfl) rfl (Below.refl _ _) ?r2 ?_
  case r2 => intro v hv; go_simp
  simp only [Act.put, List.setIfInBounds_toArray, List.set_cons_zero, List.set_cons_succ]
  refine takeHQ (f := 5) (i := 3) (.int .i64 a.2.1) ⟨rfl, rfl⟩ (by kernel_rfl) rfl (Below.refl _ _) ?r3 ?_
  case r3 => intro v hv; have k0 := (cell_row (box_stable hv HDX.out) 1 _ rfl).1; go_simp
  simp only [Act.put, List.setIfInBounds_toArray, List.set_cons_zero, List.set_cons_succ]
  refine takeHQ (f := 4) (i := 4) (.pointer (some ⟨w.heap.size + 1, 2, none⟩)) ⟨rfl, rfl⟩ (by kernel_rfl) rfl (Below.refl _ _) ?r4 ?_
  case r4 => intro v hv; go_simp
  simp only [Act.put, List.setIfInBounds_toArray, List.set_cons_zero, List.set_cons_succ]
  refine takeHQ (f := 3) (i := 5) (.slice o2 n2 k2) ⟨rfl, rfl⟩ (by kernel_rfl) rfl (Below.refl _ _) ?r5 ?_
  case r5 => intro v hv; have k0 := (cell_row (box_stable hv HDX.out) 2 _ rfl).1; go_simp
  simp only [Act.put, List.setIfInBounds_toArray, List.set_cons_zero, List.set_cons_succ]
  refine growV_all [⟨6, 17, [], (fun w' f => w'.ownsRow W.heap.size 9 1 (f 17) n2 (enc 1 eS a.2.2.1))⟩, ⟨7, 18, [6], (fun w' f => f 18 = .agg #[.int .i64 a.1, .int .i64 a.2.1, f 17, .slice none 0 0, .slice none 0 0, .slice none 0 0])⟩, ⟨8, 7, [], (fun w' f => ∃ g, f 7 = .pointer (some ⟨g, 0, none⟩) ∧ W.heap.size ≤ g ∧ w'.heap[g]? = some (.cells #[.int .i64 0, .int .i64 0, .slice none 0 0, .slice none 0 0, .slice none 0 0, .slice none 0 0] 68 (0, 0)))⟩] (by kernel_rfl) (by kernel_rfl) ?hst ?hS (fun _ h => h) ?hK
  case hst =>
    intro m hm v v' f f' hb e hu
    simp only [List.mem_cons, List.not_mem_nil, or_false] at hm
    rcases hm with rfl | rfl | rfl
    · intro h
      simp only at e h ⊢
      rw [e]
      exact row_stable hb h
    · intro h
      have q1 := hu _ (List.mem_cons_self) (by simp)
      simp only at e h q1 ⊢
      rw [e, h, q1]
    · rintro ⟨g, h1, h2, h3⟩
      exact ⟨g, e.trans h1, h2, box_stable hb h3⟩
  case hS =>
    intro m hm
    simp only [List.mem_cons, List.not_mem_nil, or_false] at hm
    rcases hm with rfl | rfl | rfl
    · refine ⟨_, rfl, ?_⟩
      intro b v hA hb hu
      have e16 : b.tmps[16]?.getD undef = .slice o2 n2 k2 := by simpa [Act.eval] using (hA.off 16 (off_of 16 (by kernel_rfl))).trans (rfl : _ = (.slice o2 n2 k2 : Value))
      clear hA hu
      refine .inr ⟨109, #[.slice o2 n2 k2], ?_, (names21_any S _ a.2.2.1 v (HH2.out v (BW.out.drew.trans (hb.mono BW.out.size))) (by rw [M2.out]; omega) (fun b hb' => by have := hS b hb'; have := hb.size; have := BW.out.size; simp at *; omega)).mono ?_⟩
      · go_simp
      · rintro e u ⟨r, rfl, hr, hbu⟩
        refine ⟨_, rfl, ?_, hbu⟩
        show World.ownsRow _ _ _ _ (updV _ 17 _ 17) _ _
        rw [show updV (vals b) 17 r 17 = r from if_pos rfl, ← M2.out]
        exact Row.low hr hb.size
    · refine ⟨_, rfl, ?_⟩
      intro b v hA hb hu
      have e12 : b.tmps[12]?.getD undef = .int .i64 a.1 := by simpa [Act.eval] using (hA.off 12 (off_of 12 (by kernel_rfl))).trans (rfl : _ = (.int .i64 a.1 : Value))
      have e14 : b.tmps[14]?.getD undef = .int .i64 a.2.1 := by simpa [Act.eval] using (hA.off 14 (off_of 14 (by kernel_rfl))).trans (rfl : _ = (.int .i64 a.2.1 : Value))
      have h6 := hu _ (List.mem_cons_self) (by simp)
      obtain ⟨p2, q2, e17⟩ := ownsRow_shape h6
      have d17 : b.tmps[17]?.getD undef = .slice p2 n2 q2 := by simpa [vals, Act.eval] using e17
      clear hA hu h6
      refine .inl ⟨.agg #[.int .i64 a.1, .int .i64 a.2.1, .slice p2 n2 q2, .slice none 0 0, .slice none 0 0, .slice none 0 0], v, ?_, ?_, Below.refl _ _⟩
      · go_simp
      · show updV _ 18 _ 18 = _
        rw [show ∀ x, updV (vals b) 18 x 18 = x from fun _ => if_pos rfl, show ∀ x, updV (vals b) 18 x 17 = vals b 17 from fun _ => if_neg (by decide), e17]
    · refine ⟨_, rfl, ?_⟩
      intro b v hA hb hu
      clear hA hu
      refine .inl ⟨.pointer (some ⟨v.heap.size, 0, none⟩), v.alloc (.cells #[.int .i64 0, .int .i64 0, .slice none 0 0, .slice none 0 0, .slice none 0 0, .slice none 0 0] 68), ?_, ⟨v.heap.size, if_pos rfl, hb.size, heap_alloc_new v _⟩, (Below.refl _ _).alloc (Nat.le_refl _) _⟩
      go_simp
  case hK =>
    intro vv X hbX hF
    have r2 := hF _ (List.mem_cons_self)
    have e18 := hF _ (List.mem_cons_of_mem _ List.mem_cons_self)
    obtain ⟨gx, e7, hgx, hxx⟩ := hF _ (List.mem_cons_of_mem _ (List.mem_cons_of_mem _ List.mem_cons_self))
    clear hF
    simp only at r2 e18 e7 hxx
    obtain ⟨p2, q2, e17⟩ := ownsRow_shape r2
    rw [e17] at r2 e18
    refine ⟨by kernel_rfl, ?_⟩
    simp only [putG, Gv.g, List.map_cons, List.map_nil, List.foldl_cons, List.foldl_nil, Act.put, List.setIfInBounds_toArray, List.set_cons_zero, List.set_cons_succ, List.drop_succ_cons, List.drop_zero]
    rw [e17, e18, e7]
    clear e17 e18 e7
    have BX : Hid (Below w.heap.size w X) := BW.out.drew.trans (hbX.mono BW.out.size)
    have hXs : W.heap.size ≤ X.heap.size := hbX.size
    have hgl : gx < X.heap.size := (Array.getElem?_eq_some_iff.1 hxx).1
    have X1 : Hid (X.heap[w.heap.size]? = some (.cells #[v0, v1, .slice o6 D.np c6, .slice o7 D.nv c7] 40 (0, 0))) := box_stable hbX X0.out
    have V1 : Hid (X.heap[w.heap.size + 1]? = some (.cells #[.int .i64 a.1, .int .i64 a.2.1, .slice o2 n2 k2, .slice o3 n3 k3, .slice o4 n4 k4, .slice o5 n5 k5] 68 (0, 0))) := box_stable hbX V0.out
    have Y1 : Hid (X.heap[w.heap.size + 1 + 1]? = some (.cells #[.int .i64 0, .int .i64 0, .slice none 0 0, .slice none 0 0, .slice none 0 0, .slice none 0 0] 68 (0, 0))) := box_stable hbX Y0.out
    obtain ⟨l0, f0⟩ := cell_row hxx 0 (.int .i64 0) rfl
    obtain ⟨l1, f1⟩ := cell_row hxx 1 (.int .i64 0) rfl
    obtain ⟨l2, f2⟩ := cell_row hxx 2 (.slice none 0 0) rfl
    obtain ⟨l3, f3⟩ := cell_row hxx 3 (.slice none 0 0) rfl
    obtain ⟨l4, f4⟩ := cell_row hxx 4 (.slice none 0 0) rfl
    obtain ⟨l5, f5⟩ := cell_row hxx 5 (.slice none 0 0) rfl
    obtain ⟨F0, F1, F2, F3⟩ := ret_6 hxx (.int .i64 a.1) (.int .i64 a.2.1) (.slice p2 n2 q2) (.slice none 0 0) (.slice none 0 0) (.slice none 0 0)
    go_upto_region 2 with fail
    clear l0 l1 l2 l3 l4 l5 f0 f1 f2 f3 f4 f5
    have R2 : Hid (((((((X.setCell ⟨gx, 0, none⟩ (.int .i64 a.1)).setCell ⟨gx, 1, none⟩ (.int .i64 a.2.1)).setCell ⟨gx, 2, none⟩ (.slice p2 n2 q2)).setCell ⟨gx, 3, none⟩ (.slice none 0 0)).setCell ⟨gx, 4, none⟩ (.slice none 0 0)).setCell ⟨gx, 5, none⟩ (.slice none 0 0)).ownsRow W.heap.size 9 1 (.slice p2 n2 q2) n2 (enc 1 eS a.2.2.1)) := ownsRow_kept r2 (fun g hg => F1 g (fun e => row_ne r2 hxx (by decide) (e ▸ hg)))
    have Q2 : Hid (∀ g, (Value.slice p2 n2 q2).ownBlock = some g → W.heap.size ≤ g ∧ g < X.heap.size ∧ g ≠ gx) := fun g hg => ⟨(World.ownsRow.lt r2 g hg).1, (World.ownsRow.lt r2 g hg).2, fun e => row_ne r2 hxx (by decide) (e ▸ hg)⟩
    have X2 : Hid (((((((X.setCell ⟨gx, 0, none⟩ (.int .i64 a.1)).setCell ⟨gx, 1, none⟩ (.int .i64 a.2.1)).setCell ⟨gx, 2, none⟩ (.slice p2 n2 q2)).setCell ⟨gx, 3, none⟩ (.slice none 0 0)).setCell ⟨gx, 4, none⟩ (.slice none 0 0)).setCell ⟨gx, 5, none⟩ (.slice none 0 0)).heap[w.heap.size]? = some (.cells #[v0, v1, .slice o6 D.np c6, .slice o7 D.nv c7] 40 (0, 0))) := (F1 _ (by omega)).trans X1.out
    have V2 : Hid (((((((X.setCell ⟨gx, 0, none⟩ (.int .i64 a.1)).setCell ⟨gx, 1, none⟩ (.int .i64 a.2.1)).setCell ⟨gx, 2, none⟩ (.slice p2 n2 q2)).setCell ⟨gx, 3, none⟩ (.slice none 0 0)).setCell ⟨gx, 4, none⟩ (.slice none 0 0)).setCell ⟨gx, 5, none⟩ (.slice none 0 0)).heap[w.heap.size + 1]? = some (.cells #[.int .i64 a.1, .int .i64 a.2.1, .slice o2 n2 k2, .slice o3 n3 k3, .slice o4 n4 k4, .slice o5 n5 k5] 68 (0, 0))) := (F1 _ (by omega)).trans V1.out
    have Y2 : Hid (((((((X.setCell ⟨gx, 0, none⟩ (.int .i64 a.1)).setCell ⟨gx, 1, none⟩ (.int .i64 a.2.1)).setCell ⟨gx, 2, none⟩ (.slice p2 n2 q2)).setCell ⟨gx, 3, none⟩ (.slice none 0 0)).setCell ⟨gx, 4, none⟩ (.slice none 0 0)).setCell ⟨gx, 5, none⟩ (.slice none 0 0)).heap[w.heap.size + 1 + 1]? = some (.cells #[.int .i64 0, .int .i64 0, .slice none 0 0, .slice none 0 0, .slice none 0 0, .slice none 0 0] 68 (0, 0))) := (F1 _ (by omega)).trans Y1.out
    have G2 : Hid (((((((X.setCell ⟨gx, 0, none⟩ (.int .i64 a.1)).setCell ⟨gx, 1, none⟩ (.int .i64 a.2.1)).setCell ⟨gx, 2, none⟩ (.slice p2 n2 q2)).setCell ⟨gx, 3, none⟩ (.slice none 0 0)).setCell ⟨gx, 4, none⟩ (.slice none 0 0)).setCell ⟨gx, 5, none⟩ (.slice none 0 0)).heap[gx]? = some (.cells #[.int .i64 a.1, .int .i64 a.2.1, .slice p2 n2 q2, .slice none 0 0, .slice none 0 0, .slice none 0 0] 68 (0, 0))) := F0
    have B2 : Hid (Below w.heap.size w ((((((X.setCell ⟨gx, 0, none⟩ (.int .i64 a.1)).setCell ⟨gx, 1, none⟩ (.int .i64 a.2.1)).setCell ⟨gx, 2, none⟩ (.slice p2 n2 q2)).setCell ⟨gx, 3, none⟩ (.slice none 0 0)).setCell ⟨gx, 4, none⟩ (.slice none 0 0)).setCell ⟨gx, 5, none⟩ (.slice none 0 0))) := BX.out.trans (F3.mono (by omega))
    rw [← F2] at Q2 hgl hXs
    generalize ((((((X.setCell ⟨gx, 0, none⟩ (.int .i64 a.1)).setCell ⟨gx, 1, none⟩ (.int .i64 a.2.1)).setCell ⟨gx, 2, none⟩ (.slice p2 n2 q2)).setCell ⟨gx, 3, none⟩ (.slice none 0 0)).setCell ⟨gx, 4, none⟩ (.slice none 0 0)).setCell ⟨gx, 5, none⟩ (.slice none 0 0)) = U2 at R2 Q2 X2 V2 Y2 G2 B2 hgl hXs F2 ⊢
    clear F0 F1 F3 F2 X1 V1 Y1 BX r2 hxx hbX BW X0 V0 Y0 HDX
    go_wp2_with fail
    go_loopw [8] (fun i wr => ∃ (k : Nat) (ov : Option Addr) (kv : Nat), k ≤ n3 ∧ i = .int .i64 k ∧ Hid (wr.ownsRow U2.heap.size 95 3 (.slice ov (usL D st (a.2.2.2.1.take k)).length kv) (usL D st (a.2.2.2.1.take k)).length (enc 3 eU (usL D st (a.2.2.2.1.take k)))) ∧ Hid (wr.heap[gx]? = some (.cells #[.int .i64 a.1, .int .i64 a.2.1, .slice p2 n2 q2, .slice ov (usL D st (a.2.2.2.1.take k)).length kv, .slice none 0 0, .slice none 0 0] 68 (0, 0))) ∧ Hid (But (fun b => b = gx) U2 wr)) (fun i _ => n3 - (intOf i).toNat)
    case atStart => exact ⟨0, none, 0, Nat.zero_le _, rfl, World.ownsRow_nil _ _ _ _, G2.out, But.refl _ _⟩
    case round =>
      obtain ⟨k, ov, kv, hk, rfl, hO, hG, hN⟩ := hrel
      have hNs := hN.out.size
      have bwr : Hid (Below w.heap.size w wr) := B2.out.trans (hN.out.below (B := w.heap.size) (fun b hb => by omega) (by omega))
      have hA : Hid (wr.heap[w.heap.size]? = some (.cells #[v0, v1, .slice o6 D.np c6, .slice o7 D.nv c7] 40 (0, 0))) := (hN.out.block w.heap.size (by omega) (by omega)).trans X2.out
      have hV : Hid (wr.heap[w.heap.size + 1]? = some (.cells #[.int .i64 a.1, .int .i64 a.2.1, .slice o2 n2 k2, .slice o3 n3 k3, .slice o4 n4 k4, .slice o5 n5 k5] 68 (0, 0))) := (hN.out.block (w.heap.size + 1) (by omega) (by omega)).trans V2.out
      have zj := (cell_row hV.out 3 (.slice o3 n3 k3) rfl).1
      by_cases hlt : k < n3
      · obtain ⟨oa, cp, ev, _, hc⟩ := HH3.out wr bwr.out
        obtain ⟨b, off, eo, hbS, cc, hcell, hat⟩ := hc k (by rw [M3.out]; exact hlt)
        have eo1 : o3 = some ⟨b, off, none⟩ := by injection ev with h1 _ _; exact h1.trans eo
        subst eo1
        clear ev eo hc
        rw [width_DClaimUse] at hcell
        have e0 : wr.cell? ⟨b, off + k * 3, none⟩ = some (cc 0) := by have := hcell 0 (by omega); simpa using this
        have e1 : wr.cell? ⟨b, off + k * 3 + 1, none⟩ = some (cc 1) := by have := hcell 1 (by omega); simpa using this
        have e2 : wr.cell? ⟨b, off + k * 3 + 2, none⟩ = some (cc 2) := by have := hcell 2 (by omega); simpa using this
        rw [at_DClaimUse] at hat
        have htk : Hid (a.2.2.2.1.take (k + 1) = a.2.2.2.1.take k ++ [a.2.2.2.1[k]'(by rw [M3.out]; exact hlt)]) := by
          show _ = _
          rw [List.take_add_one, List.getElem?_eq_getElem (by rw [M3.out]; exact hlt)]; rfl
        have hin := HI.out.u (a.2.2.2.1[k]'(by rw [M3.out]; exact hlt)) (List.getElem_mem _)
        obtain ⟨y, ey⟩ : ∃ y, a.2.2.2.1[k]'(by rw [M3.out]; exact hlt) = y := ⟨_, rfl⟩
        rw [ey] at hat htk hin
        clear ey hcell
        obtain ⟨⟨g0, _⟩, ⟨g1, _, _⟩, ⟨g2, _, _⟩⟩ := hat
        rw [g0] at e0
        rw [g1] at e1
        rw [g2] at e2
        clear g0 g1 g2
        obtain ⟨kp, hkp, hkI, hkn, _⟩ := place_ix hin
        have HQ : Hid (∀ d os, Calls Tryz.prog 78 #[.agg #[v0, v1, .slice o6 D.np c6, .slice o7 D.nv c7], .string y.1] (Sort.grow (redrawn wr d) os) fun e w'' => e = .returned (.int .i64 (kp : Int)) ∧ ∃ p : Regrown, w'' = Sort.grow (redrawn wr p.d) p.os) := fun d os => by have := place_q B v0 v1 _ (.slice o7 D.nv c7) D.np D.fp y.1 wr (H.out wr bwr.out).p (Nat.le_trans hB bwr.out.size) d os; rw [hkI] at this; exact this
        have hst : stP D y.1 = (D.fp kp).2.2 := by unfold stP; rw [hkn]
        clear hin hkI hkn
        obtain ⟨oa, cp, ev, hnm, hcv⟩ := (H.out wr bwr.out).p
        obtain ⟨bb, of2, eo, hbB, hcell⟩ := hcv kp hkp
        have eo1 : o6 = some ⟨bb, of2, none⟩ := by injection ev with h1 _ _; exact h1.trans eo
        subst eo1
        clear ev eo hcv
        unfold maxLen at hnm
        have es : wr.cell? ⟨bb, of2 + kp * 3 + 2, none⟩ = some (.string (D.fp kp).2.2) := hcell 2 (by omega)
        clear hcell hbB
        have y0 := (cell_row hA.out 0 (v0) rfl).1
        have y1 := (cell_row hA.out 1 (v1) rfl).1
        have y2 := (cell_row hA.out 2 (.slice _ D.np c6) rfl).1
        have y3 := (cell_row hA.out 3 (.slice _ D.nv c7) rfl).1
        go_upto_region 5 with fail
        have q_zj := fun d os => cell_regrown zj d os
        have q_e0 := fun d os => cell_regrown e0 d os
        have q_es := fun d os => cell_regrown es d os
        have q_y0 := fun d os => cell_regrown y0 d os
        have q_y1 := fun d os => cell_regrown y1 d os
        have q_y2 := fun d os => cell_regrown y2 d os
        have q_y3 := fun d os => cell_regrown y3 d os
        refine wp_region_quiet_below (by kernel_rfl) (by kernel_rfl) ?_
        repeat (first | go_big_quiet_step (with_reducible exact HQ.out _ _) | quiet_step (with_reducible exact HQ.out _ _))
        refine wpQuiet_nil ?_
        intro _ hw'
        obtain ⟨⟨dq, osq⟩, hw''⟩ := hw'
        subst hw''
        clear q_zj q_e0 q_es q_y0 q_y1 q_y2 q_y3 HQ y0 y1 y2 y3 es
        obtain ⟨wq, hwq⟩ : ∃ V, V = Sort.grow (redrawn wr dq) osq := ⟨_, rfl⟩
        have BQ : Hid (Below wr.heap.size wr wq) := by rw [hwq]; exact below_regrown _ _ _
        rw [← hwq]
        clear hwq
        have sq := BQ.out.size
        have bwq : Hid (Below w.heap.size w wq) := bwr.out.trans (BQ.out.mono bwr.out.size)
        have hO2 : Hid (wq.ownsRow U2.heap.size 95 3 (.slice ov (usL D st (a.2.2.2.1.take k)).length kv) (usL D st (a.2.2.2.1.take k)).length (enc 3 eU (usL D st (a.2.2.2.1.take k)))) := row_stable BQ.out hO.out
        have hG2 : Hid (wq.heap[gx]? = some (.cells #[.int .i64 a.1, .int .i64 a.2.1, .slice p2 n2 q2, .slice ov (usL D st (a.2.2.2.1.take k)).length kv, .slice none 0 0, .slice none 0 0] 68 (0, 0))) := box_stable BQ.out hG.out
        have hN2 : Hid (But (fun b => b = gx) U2 wq) := hN.out.trans (But.of_below BQ.out)
        have hV2 : Hid (wq.heap[w.heap.size + 1]? = some (.cells #[.int .i64 a.1, .int .i64 a.2.1, .slice o2 n2 k2, .slice _ n3 k3, .slice o4 n4 k4, .slice o5 n5 k5] 68 (0, 0))) := box_stable BQ.out hV.out
        have x0 : wq.cell? ⟨b, off + k * 3, none⟩ = some (.string y.1) := (BQ.out.cell (p := ⟨b, off + k * 3, none⟩) (by show b < _; have := hS b hbS; have := bwr.out.size; omega)).trans e0
        have x1 : wq.cell? ⟨b, off + k * 3 + 1, none⟩ = some (.int .i64 y.2.1) := (BQ.out.cell (p := ⟨b, off + k * 3 + 1, none⟩) (by show b < _; have := hS b hbS; have := bwr.out.size; omega)).trans e1
        have x2 : wq.cell? ⟨b, off + k * 3 + 2, none⟩ = some (.int .i64 y.2.2) := (BQ.out.cell (p := ⟨b, off + k * 3 + 2, none⟩) (by show b < _; have := hS b hbS; have := bwr.out.size; omega)).trans e2
        clear zj e0 e1 e2 hO hG hN hV hA
        rw [← hst]
        cases c : eqB (stP D y.1) st
        · have hc : ((stP D y.1).toList == st.toList) = false := c
          rw [hc]
          go_wp2_with fail
          go_roundw
          case rel => exact ⟨k + 1, ov, kv, by omega, by go_num, by show World.ownsRow _ _ _ _ _ _ _; rw [htk.out, usL_no c]; exact hO2.out, by show _ = _; rw [htk.out, usL_no c]; exact hG2.out, hN2⟩
          case measure => simp [intOf]; omega
        · have hc : ((stP D y.1).toList == st.toList) = true := c
          rw [hc]
          have hll : (usL D st (a.2.2.2.1.take k)).length ≤ k := Nat.le_trans (usL_len D st _) (by rw [List.length_take]; omega)
          have zj := (cell_row hV2.out 3 _ rfl).1
          obtain ⟨yx, _⟩ := cell_row hG2.out 3 (.slice ov (usL D st (a.2.2.2.1.take k)).length kv) rfl
          simp only [List.getElem_toArray, List.getElem_cons_zero, List.getElem_cons_succ] at zj
          go_upto_region 6 with fail
          have qx := fun d os => cell_regrown yx d os
          have q_zj := fun d os => cell_regrown zj d os
          have q_x0 := fun d os => cell_regrown x0 d os
          have q_x1 := fun d os => cell_regrown x1 d os
          have q_x2 := fun d os => cell_regrown x2 d os
          have hdr : Hid (Below wq.heap.size wq wq.drew) := (Below.refl _ _).drew
          refine wp_region_mix 8 [0, 1, 2, 3, 4, 5, 6] (by kernel_rfl) (by kernel_rfl) ?_
          simp only [List.filterMap_cons, List.filterMap_nil, List.getElem?_cons_succ, List.getElem?_cons_zero]
          repeat (first | go_big_quiet_step (fail) | quiet_step (fail))
          refine wpQuiet_nil ?_
          clear yx qx q_zj q_x0 q_x1 q_x2
          obtain ⟨wd, hwd⟩ : ∃ V, V = wq.drew := ⟨_, rfl⟩
          have BD : Hid (Below wq.heap.size wq wd) := by rw [hwd]; exact hdr.out
          have sd : wq.heap.size ≤ wd.heap.size ∧ wd.heap.size ≤ wq.heap.size := by rw [hwd]; exact ⟨Nat.le_refl _, Nat.le_refl _⟩
          rw [← hwd]
          clear hwd
          have sUL := BD.out.size
          obtain ⟨ua, hua⟩ : ∃ V, V = wd.alloc (.cells #[.string y.1, .int .i64 y.2.1, .int .i64 y.2.2] 95) := ⟨_, rfl⟩
          have HUA : Hid (ua = wd.alloc (.cells #[.string y.1, .int .i64 y.2.1, .int .i64 y.2.2] 95)) := hua
          have sua : ua.heap.size ≤ wd.heap.size + 1 ∧ wd.heap.size + 1 ≤ ua.heap.size := by rw [hua]; simp
          have BA : Hid (Below wq.heap.size wq ua) := by rw [hua]; exact BD.out.alloc sUL _
          have HSRC : Hid (Src ua (.slice (some ⟨wd.heap.size, 0, none⟩) 1 1) 1 3 (#[.string y.1, .int .i64 y.2.1, .int .i64 y.2.2] : Array Value).toList) := by
            have h1 : ua.ownsRow 0 95 3 (.slice (some ⟨wd.heap.size, 0, none⟩) 1 1) 1 (#[.string y.1, .int .i64 y.2.1, .int .i64 y.2.2] : Array Value).toList := by
              rw [hua]; exact own_built (Nat.zero_le _) (by unfold maxLen; omega) rfl
            exact own_src h1
          have HOWN : Hid (ua.ownsRow U2.heap.size 95 3 (.slice ov (usL D st (a.2.2.2.1.take k)).length kv) (usL D st (a.2.2.2.1.take k)).length (enc 3 eU (usL D st (a.2.2.2.1.take k)))) := row_stable BA.out hO2.out
          have HONE : Hid (∀ z ∈ (#[.string y.1, .int .i64 y.2.1, .int .i64 y.2.2] : Array Value).toList, z.oneCell' = true) := by intro z hz; simp at hz; rcases hz with rfl | rfl | rfl <;> rfl
          clear hua
          refine anyC_step (f := 0) [7] (by kernel_rfl) (by simp) (one_list ⟨by decide, _, rfl, rfl, .slice (some ⟨wd.heap.size, 0, none⟩) 1 1, wd.alloc (.cells #[.string y.1, .int .i64 y.2.1, .int .i64 y.2.2] 95), ?runb, regrown_of_below (by have := BA.out; rw [HUA.out] at this; exact this), ?_⟩)
          case runb => go_simp
          refine ⟨by kernel_rfl, ?_⟩
          simp only [List.drop_succ_cons, List.drop_zero]
          rw [← HUA.out]
          go_wp2_with (first
            | (at_builtin; refine wpList_app elU rfl _ _ rfl rfl rfl HOWN.out HSRC.out HONE.out (by unfold maxLen; omega) (by omega) (by omega) ?_; intro v' u8 hown hgr hbk; obtain ⟨ov', kv', rfl⟩ := ownsRow_shape hown; have hg8 : u8.heap[gx]? = some (.cells #[.int .i64 a.1, .int .i64 a.2.1, .slice p2 n2 q2, .slice ov (usL D st (a.2.2.2.1.take k)).length kv, .slice none 0 0, .slice none 0 0] 68 (0, 0)) := (hgr.block gx (by omega) (fun e => by have := (World.ownsRow.lt HOWN.out gx e.symm).1; omega)).trans ((BA.out.block gx (by omega)).trans hG2.out); obtain ⟨zc8, zf8⟩ := cell_row hg8 3 (.slice ov (usL D st (a.2.2.2.1.take k)).length kv) rfl))
          have SET := set_row hg8 3 (.slice ov' ((usL D st (a.2.2.2.1.take k)).length + 1) kv')
          have RN : Hid ((u8.setCell ⟨gx, 3, none⟩ (.slice ov' ((usL D st (a.2.2.2.1.take k)).length + 1) kv')).ownsRow U2.heap.size 95 3 (.slice ov' (usL D st (a.2.2.2.1.take (k + 1))).length kv') (usL D st (a.2.2.2.1.take (k + 1))).length (enc 3 eU (usL D st (a.2.2.2.1.take (k + 1))))) := by
            show World.ownsRow _ _ _ _ _ _ _
            rw [htk.out, usL_yes c, List.length_append, enc_append]
            exact ownsRow_kept hown (fun g hg => Below.heap_setCell _ _ _ _ (by have := (World.ownsRow.lt hown g hg).1; show g ≠ gx; omega))
          have GN : Hid ((u8.setCell ⟨gx, 3, none⟩ (.slice ov' ((usL D st (a.2.2.2.1.take k)).length + 1) kv')).heap[gx]? = some (.cells #[.int .i64 a.1, .int .i64 a.2.1, .slice p2 n2 q2, .slice ov' (usL D st (a.2.2.2.1.take (k + 1))).length kv', .slice none 0 0, .slice none 0 0] 68 (0, 0))) := by
            show _ = _
            rw [htk.out, usL_yes c, List.length_append]
            exact SET
          have NN : Hid (But (fun b => b = gx) U2 (u8.setCell ⟨gx, 3, none⟩ (.slice ov' ((usL D st (a.2.2.2.1.take k)).length + 1) kv'))) := hN2.out.round BA.out hgr (fun q hq => (World.ownsRow.lt HOWN.out q hq).1) 3 _
          go_roundw
          case rel => exact ⟨k + 1, ov', kv', by omega, by go_num, RN.out, GN.out, NN.out⟩
          case measure => simp [intOf]; omega
      · have hkn : k = n3 := by omega
        rw [hkn] at hO hG
        rw [show a.2.2.2.1.take n3 = a.2.2.2.1 from List.take_of_length_le (by rw [M3.out]; exact Nat.le_refl _)] at hO hG
        have R3 : Hid (wr.ownsRow U2.heap.size 95 3 (.slice ov (usL D st a.2.2.2.1).length kv) (usL D st a.2.2.2.1).length (enc 3 eU (usL D st a.2.2.2.1))) := hO
        have Q3 : Hid (∀ g, (Value.slice ov (usL D st a.2.2.2.1).length kv).ownBlock = some g → U2.heap.size ≤ g ∧ g < wr.heap.size) := fun g hg => World.ownsRow.lt hO.out g hg
        have X3 := hA
        have V3 := hV
        have Y3 : Hid (wr.heap[w.heap.size + 1 + 1]? = some (.cells #[.int .i64 0, .int .i64 0, .slice none 0 0, .slice none 0 0, .slice none 0 0, .slice none 0 0] 68 (0, 0))) := (hN.out.block (w.heap.size + 1 + 1) (by omega) (by omega)).trans Y2.out
        have G3 : Hid (wr.heap[gx]? = some (.cells #[.int .i64 a.1, .int .i64 a.2.1, .slice p2 n2 q2, .slice ov (usL D st a.2.2.2.1).length kv, .slice none 0 0, .slice none 0 0] 68 (0, 0))) := hG
        have R2n : Hid (wr.ownsRow W.heap.size 9 1 (.slice p2 n2 q2) n2 (enc 1 eS a.2.2.1)) := ownsRow_kept R2.out (fun g hg => hN.out.block g (by have := (Q2.out g hg).2.1; omega) (Q2.out g hg).2.2)
        have B3 := bwr
        have hs3 := hNs
        obtain ⟨r3, hr⟩ : ∃ x, ov = x := ⟨_, rfl⟩
        obtain ⟨s3, hq⟩ : ∃ x, kv = x := ⟨_, rfl⟩
        obtain ⟨U3, hu⟩ : ∃ x, wr = x := ⟨_, rfl⟩
        rw [hr, hq, hu] at R3 Q3 G3
        rw [hu] at B3 hs3 X3 V3 Y3 zj R2n
        rw [hu]
        clear R2
        have R2 := R2n
        clear R2n
        clear hO hG hN bwr hA hV hNs hr hq hu
        go_wp2_with fail
        clear zj hk hlt hkn
        go_loopw [9] (fun i wr => ∃ (k : Nat) (ov : Option Addr) (kv : Nat), k ≤ n4 ∧ i = .int .i64 k ∧ Hid (wr.ownsRow U3.heap.size 9 1 (.slice ov (opL D st (a.2.2.2.2.1.take k)).length kv) (opL D st (a.2.2.2.2.1.take k)).length (enc 1 eS (opL D st (a.2.2.2.2.1.take k)))) ∧ Hid (wr.heap[gx]? = some (.cells #[.int .i64 a.1, .int .i64 a.2.1, .slice p2 n2 q2, .slice r3 (usL D st a.2.2.2.1).length s3, .slice ov (opL D st (a.2.2.2.2.1.take k)).length kv, .slice none 0 0] 68 (0, 0))) ∧ Hid (But (fun b => b = gx) U3 wr)) (fun i _ => n4 - (intOf i).toNat)
        case atStart => exact ⟨0, none, 0, Nat.zero_le _, rfl, World.ownsRow_nil _ _ _ _, G3.out, But.refl _ _⟩
        case round =>
          obtain ⟨k, ov, kv, hk, rfl, hO, hG, hN⟩ := hrel
          have hNs := hN.out.size
          have bwr : Hid (Below w.heap.size w wr) := B3.out.trans (hN.out.below (B := w.heap.size) (fun b hb => by omega) (by omega))
          have hA : Hid (wr.heap[w.heap.size]? = some (.cells #[v0, v1, .slice o6 D.np c6, .slice o7 D.nv c7] 40 (0, 0))) := (hN.out.block w.heap.size (by omega) (by omega)).trans X3.out
          have hV : Hid (wr.heap[w.heap.size + 1]? = some (.cells #[.int .i64 a.1, .int .i64 a.2.1, .slice o2 n2 k2, .slice o3 n3 k3, .slice o4 n4 k4, .slice o5 n5 k5] 68 (0, 0))) := (hN.out.block (w.heap.size + 1) (by omega) (by omega)).trans V3.out
          have zj := (cell_row hV.out 4 (.slice o4 n4 k4) rfl).1
          by_cases hlt : k < n4
          · obtain ⟨oa, cp, ev, _, hc⟩ := HH4.out wr bwr.out
            obtain ⟨b, off, eo, hbS, cc, hcell, hat⟩ := hc k (by rw [M4.out]; exact hlt)
            have eo1 : o4 = some ⟨b, off, none⟩ := by injection ev with h1 _ _; exact h1.trans eo
            subst eo1
            clear ev eo hc
            rw [width_str] at hcell
            have e0 : wr.cell? ⟨b, off + k, none⟩ = some (cc 0) := by have := hcell 0 (by omega); simpa using this
            rw [at_str] at hat
            have htk : Hid (a.2.2.2.2.1.take (k + 1) = a.2.2.2.2.1.take k ++ [a.2.2.2.2.1[k]'(by rw [M4.out]; exact hlt)]) := by
              show _ = _
              rw [List.take_add_one, List.getElem?_eq_getElem (by rw [M4.out]; exact hlt)]; rfl
            have hin := HI.out.o (a.2.2.2.2.1[k]'(by rw [M4.out]; exact hlt)) (List.getElem_mem _)
            obtain ⟨y, ey⟩ : ∃ y, a.2.2.2.2.1[k]'(by rw [M4.out]; exact hlt) = y := ⟨_, rfl⟩
            rw [ey] at hat htk hin
            clear ey hcell
            rw [hat.1] at e0
            clear hat
            obtain ⟨kp, hkp, hkI, hkn, _⟩ := val_ix hin
            have HQ : Hid (∀ d os, Calls Tryz.prog 107 #[.agg #[v0, v1, .slice o6 D.np c6, .slice o7 D.nv c7], .string y] (Sort.grow (redrawn wr d) os) fun e w'' => e = .returned (.int .i64 (kp : Int)) ∧ ∃ p : Regrown, w'' = Sort.grow (redrawn wr p.d) p.os) := fun d os => by have := val_q B v0 v1 (.slice o6 D.np c6) _ D.nv D.fv y wr (H.out wr bwr.out).v (Nat.le_trans hB bwr.out.size) d os; rw [hkI] at this; exact this
            have hst : stV D y = (D.fv kp).2.2.2 := by unfold stV; rw [hkn]
            clear hin hkI hkn
            obtain ⟨oa, cp, ev, hnm, hcv⟩ := (H.out wr bwr.out).v
            obtain ⟨bb, of2, eo, hbB, hcell⟩ := hcv kp hkp
            have eo1 : o7 = some ⟨bb, of2, none⟩ := by injection ev with h1 _ _; exact h1.trans eo
            subst eo1
            clear ev eo hcv
            unfold maxLen at hnm
            have es : wr.cell? ⟨bb, of2 + kp * 4 + 3, none⟩ = some (.string (D.fv kp).2.2.2) := hcell 3 (by omega)
            clear hcell hbB
            have y0 := (cell_row hA.out 0 (v0) rfl).1
            have y1 := (cell_row hA.out 1 (v1) rfl).1
            have y2 := (cell_row hA.out 2 (.slice _ D.np c6) rfl).1
            have y3 := (cell_row hA.out 3 (.slice _ D.nv c7) rfl).1
            go_upto_region 10 with fail
            have q_zj := fun d os => cell_regrown zj d os
            have q_e0 := fun d os => cell_regrown e0 d os
            have q_es := fun d os => cell_regrown es d os
            have q_y0 := fun d os => cell_regrown y0 d os
            have q_y1 := fun d os => cell_regrown y1 d os
            have q_y2 := fun d os => cell_regrown y2 d os
            have q_y3 := fun d os => cell_regrown y3 d os
            refine wp_region_quiet_below (by kernel_rfl) (by kernel_rfl) ?_
            repeat (first | go_big_quiet_step (with_reducible exact HQ.out _ _) | quiet_step (with_reducible exact HQ.out _ _))
            refine wpQuiet_nil ?_
            intro _ hw'
            obtain ⟨⟨dq, osq⟩, hw''⟩ := hw'
            subst hw''
            clear q_zj q_e0 q_es q_y0 q_y1 q_y2 q_y3 HQ y0 y1 y2 y3 es
            obtain ⟨wq, hwq⟩ : ∃ V, V = Sort.grow (redrawn wr dq) osq := ⟨_, rfl⟩
            have BQ : Hid (Below wr.heap.size wr wq) := by rw [hwq]; exact below_regrown _ _ _
            rw [← hwq]
            clear hwq
            have sq := BQ.out.size
            have bwq : Hid (Below w.heap.size w wq) := bwr.out.trans (BQ.out.mono bwr.out.size)
            have hO2 : Hid (wq.ownsRow U3.heap.size 9 1 (.slice ov (opL D st (a.2.2.2.2.1.take k)).length kv) (opL D st (a.2.2.2.2.1.take k)).length (enc 1 eS (opL D st (a.2.2.2.2.1.take k)))) := row_stable BQ.out hO.out
            have hG2 : Hid (wq.heap[gx]? = some (.cells #[.int .i64 a.1, .int .i64 a.2.1, .slice p2 n2 q2, .slice r3 (usL D st a.2.2.2.1).length s3, .slice ov (opL D st (a.2.2.2.2.1.take k)).length kv, .slice none 0 0] 68 (0, 0))) := box_stable BQ.out hG.out
            have hN2 : Hid (But (fun b => b = gx) U3 wq) := hN.out.trans (But.of_below BQ.out)
            have hV2 : Hid (wq.heap[w.heap.size + 1]? = some (.cells #[.int .i64 a.1, .int .i64 a.2.1, .slice o2 n2 k2, .slice o3 n3 k3, .slice _ n4 k4, .slice o5 n5 k5] 68 (0, 0))) := box_stable BQ.out hV.out
            have x0 : wq.cell? ⟨b, off + k, none⟩ = some (.string y) := (BQ.out.cell (p := ⟨b, off + k, none⟩) (by show b < _; have := hS b hbS; have := bwr.out.size; omega)).trans e0
            clear zj e0 hO hG hN hV hA
            rw [← hst]
            cases c : eqB (stV D y) st
            · have hc : ((stV D y).toList == st.toList) = false := c
              rw [hc]
              go_wp2_with fail
              go_roundw
              case rel => exact ⟨k + 1, ov, kv, by omega, by go_num, by show World.ownsRow _ _ _ _ _ _ _; rw [htk.out, opL_no c]; exact hO2.out, by show _ = _; rw [htk.out, opL_no c]; exact hG2.out, hN2⟩
              case measure => simp [intOf]; omega
            · have hc : ((stV D y).toList == st.toList) = true := c
              rw [hc]
              have hll : (opL D st (a.2.2.2.2.1.take k)).length ≤ k := Nat.le_trans (opL_len D st _) (by rw [List.length_take]; omega)
              have zj := (cell_row hV2.out 4 _ rfl).1
              obtain ⟨yx, _⟩ := cell_row hG2.out 4 (.slice ov (opL D st (a.2.2.2.2.1.take k)).length kv) rfl
              simp only [List.getElem_toArray, List.getElem_cons_zero, List.getElem_cons_succ] at zj
              go_upto_region 11 with fail
              have qx := fun d os => cell_regrown yx d os
              have q_zj := fun d os => cell_regrown zj d os
              have q_x0 := fun d os => cell_regrown x0 d os
              have hdr : Hid (Below wq.heap.size wq wq.drew) := (Below.refl _ _).drew
              refine wp_region_mix 8 [0, 1, 2, 3, 4, 5, 6] (by kernel_rfl) (by kernel_rfl) ?_
              simp only [List.filterMap_cons, List.filterMap_nil, List.getElem?_cons_succ, List.getElem?_cons_zero]
              repeat (first | go_big_quiet_step (fail) | quiet_step (fail))
              refine wpQuiet_nil ?_
              clear yx qx q_zj q_x0
              obtain ⟨wd, hwd⟩ : ∃ V, V = wq.drew := ⟨_, rfl⟩
              have BD : Hid (Below wq.heap.size wq wd) := by rw [hwd]; exact hdr.out
              have sd : wq.heap.size ≤ wd.heap.size ∧ wd.heap.size ≤ wq.heap.size := by rw [hwd]; exact ⟨Nat.le_refl _, Nat.le_refl _⟩
              rw [← hwd]
              clear hwd
              have sUL := BD.out.size
              obtain ⟨ua, hua⟩ : ∃ V, V = wd.alloc (.cells #[.string y] 9) := ⟨_, rfl⟩
              have HUA : Hid (ua = wd.alloc (.cells #[.string y] 9)) := hua
              have sua : ua.heap.size ≤ wd.heap.size + 1 ∧ wd.heap.size + 1 ≤ ua.heap.size := by rw [hua]; simp
              have BA : Hid (Below wq.heap.size wq ua) := by rw [hua]; exact BD.out.alloc sUL _
              have HSRC : Hid (Src ua (.slice (some ⟨wd.heap.size, 0, none⟩) 1 1) 1 1 (#[.string y] : Array Value).toList) := by
                have h1 : ua.ownsRow 0 9 1 (.slice (some ⟨wd.heap.size, 0, none⟩) 1 1) 1 (#[.string y] : Array Value).toList := by
                  rw [hua]; exact own_built (Nat.zero_le _) (by unfold maxLen; omega) rfl
                exact own_src h1
              have HOWN : Hid (ua.ownsRow U3.heap.size 9 1 (.slice ov (opL D st (a.2.2.2.2.1.take k)).length kv) (opL D st (a.2.2.2.2.1.take k)).length (enc 1 eS (opL D st (a.2.2.2.2.1.take k)))) := row_stable BA.out hO2.out
              have HONE : Hid (∀ z ∈ (#[.string y] : Array Value).toList, z.oneCell' = true) := by intro z hz; simp at hz; subst hz; rfl
              clear hua
              refine anyC_step (f := 0) [7] (by kernel_rfl) (by simp) (one_list ⟨by decide, _, rfl, rfl, .slice (some ⟨wd.heap.size, 0, none⟩) 1 1, wd.alloc (.cells #[.string y] 9), ?runb, regrown_of_below (by have := BA.out; rw [HUA.out] at this; exact this), ?_⟩)
              case runb => go_simp
              refine ⟨by kernel_rfl, ?_⟩
              simp only [List.drop_succ_cons, List.drop_zero]
              rw [← HUA.out]
              go_wp2_with (first
                | (at_builtin; refine wpList_app elS rfl _ _ rfl rfl rfl HOWN.out HSRC.out HONE.out (by unfold maxLen; omega) (by omega) (by omega) ?_; intro v' u8 hown hgr hbk; obtain ⟨ov', kv', rfl⟩ := ownsRow_shape hown; have hg8 : u8.heap[gx]? = some (.cells #[.int .i64 a.1, .int .i64 a.2.1, .slice p2 n2 q2, .slice r3 (usL D st a.2.2.2.1).length s3, .slice ov (opL D st (a.2.2.2.2.1.take k)).length kv, .slice none 0 0] 68 (0, 0)) := (hgr.block gx (by omega) (fun e => by have := (World.ownsRow.lt HOWN.out gx e.symm).1; omega)).trans ((BA.out.block gx (by omega)).trans hG2.out); obtain ⟨zc8, zf8⟩ := cell_row hg8 4 (.slice ov (opL D st (a.2.2.2.2.1.take k)).length kv) rfl))
              have SET := set_row hg8 4 (.slice ov' ((opL D st (a.2.2.2.2.1.take k)).length + 1) kv')
              have RN : Hid ((u8.setCell ⟨gx, 4, none⟩ (.slice ov' ((opL D st (a.2.2.2.2.1.take k)).length + 1) kv')).ownsRow U3.heap.size 9 1 (.slice ov' (opL D st (a.2.2.2.2.1.take (k + 1))).length kv') (opL D st (a.2.2.2.2.1.take (k + 1))).length (enc 1 eS (opL D st (a.2.2.2.2.1.take (k + 1))))) := by
                show World.ownsRow _ _ _ _ _ _ _
                rw [htk.out, opL_yes c, List.length_append, enc_append]
                exact ownsRow_kept hown (fun g hg => Below.heap_setCell _ _ _ _ (by have := (World.ownsRow.lt hown g hg).1; show g ≠ gx; omega))
              have GN : Hid ((u8.setCell ⟨gx, 4, none⟩ (.slice ov' ((opL D st (a.2.2.2.2.1.take k)).length + 1) kv')).heap[gx]? = some (.cells #[.int .i64 a.1, .int .i64 a.2.1, .slice p2 n2 q2, .slice r3 (usL D st a.2.2.2.1).length s3, .slice ov' (opL D st (a.2.2.2.2.1.take (k + 1))).length kv', .slice none 0 0] 68 (0, 0))) := by
                show _ = _
                rw [htk.out, opL_yes c, List.length_append]
                exact SET
              have NN : Hid (But (fun b => b = gx) U3 (u8.setCell ⟨gx, 4, none⟩ (.slice ov' ((opL D st (a.2.2.2.2.1.take k)).length + 1) kv'))) := hN2.out.round BA.out hgr (fun q hq => (World.ownsRow.lt HOWN.out q hq).1) 4 _
              go_roundw
              case rel => exact ⟨k + 1, ov', kv', by omega, by go_num, RN.out, GN.out, NN.out⟩
              case measure => simp [intOf]; omega
          · have hkn : k = n4 := by omega
            rw [hkn] at hO hG
            rw [show a.2.2.2.2.1.take n4 = a.2.2.2.2.1 from List.take_of_length_le (by rw [M4.out]; exact Nat.le_refl _)] at hO hG
            have R4 : Hid (wr.ownsRow U3.heap.size 9 1 (.slice ov (opL D st a.2.2.2.2.1).length kv) (opL D st a.2.2.2.2.1).length (enc 1 eS (opL D st a.2.2.2.2.1))) := hO
            have Q4 : Hid (∀ g, (Value.slice ov (opL D st a.2.2.2.2.1).length kv).ownBlock = some g → U3.heap.size ≤ g ∧ g < wr.heap.size) := fun g hg => World.ownsRow.lt hO.out g hg
            have X4 := hA
            have V4 := hV
            have Y4 : Hid (wr.heap[w.heap.size + 1 + 1]? = some (.cells #[.int .i64 0, .int .i64 0, .slice none 0 0, .slice none 0 0, .slice none 0 0, .slice none 0 0] 68 (0, 0))) := (hN.out.block (w.heap.size + 1 + 1) (by omega) (by omega)).trans Y3.out
            have G4 : Hid (wr.heap[gx]? = some (.cells #[.int .i64 a.1, .int .i64 a.2.1, .slice p2 n2 q2, .slice r3 (usL D st a.2.2.2.1).length s3, .slice ov (opL D st a.2.2.2.2.1).length kv, .slice none 0 0] 68 (0, 0))) := hG
            have R2n : Hid (wr.ownsRow W.heap.size 9 1 (.slice p2 n2 q2) n2 (enc 1 eS a.2.2.1)) := ownsRow_kept R2.out (fun g hg => hN.out.block g (by have := (Q2.out g hg).2.1; omega) (Q2.out g hg).2.2)
            have R3n := ownsRow_kept (w' := wr) R3.out (fun g hg => hN.out.block g (by have := (Q3.out g hg).2; omega) (by have := (Q3.out g hg).1; omega))
            have B4 := bwr
            have hs4 := hNs
            obtain ⟨r4, hr⟩ : ∃ x, ov = x := ⟨_, rfl⟩
            obtain ⟨s4, hq⟩ : ∃ x, kv = x := ⟨_, rfl⟩
            obtain ⟨U4, hu⟩ : ∃ x, wr = x := ⟨_, rfl⟩
            rw [hr, hq, hu] at R4 Q4 G4
            rw [hu] at B4 hs4 X4 V4 Y4 zj R2n R3n
            rw [hu]
            clear R2
            have R2 := R2n
            clear R2n
            clear R3
            have R3 : Hid (U4.ownsRow _ _ _ _ _ _) := R3n
            clear R3n
            clear hO hG hN bwr hA hV hNs hr hq hu
            go_wp2_with fail
            clear zj hk hlt hkn
            go_loopw [10] (fun i wr => ∃ (k : Nat) (ov : Option Addr) (kv : Nat), k ≤ n5 ∧ i = .int .i64 k ∧ Hid (wr.ownsRow U4.heap.size 9 1 (.slice ov (opL D st (a.2.2.2.2.2.take k)).length kv) (opL D st (a.2.2.2.2.2.take k)).length (enc 1 eS (opL D st (a.2.2.2.2.2.take k)))) ∧ Hid (wr.heap[gx]? = some (.cells #[.int .i64 a.1, .int .i64 a.2.1, .slice p2 n2 q2, .slice r3 (usL D st a.2.2.2.1).length s3, .slice r4 (opL D st a.2.2.2.2.1).length s4, .slice ov (opL D st (a.2.2.2.2.2.take k)).length kv] 68 (0, 0))) ∧ Hid (But (fun b => b = gx) U4 wr)) (fun i _ => n5 - (intOf i).toNat)
            case atStart => exact ⟨0, none, 0, Nat.zero_le _, rfl, World.ownsRow_nil _ _ _ _, G4.out, But.refl _ _⟩
            case round =>
              obtain ⟨k, ov, kv, hk, rfl, hO, hG, hN⟩ := hrel
              have hNs := hN.out.size
              have bwr : Hid (Below w.heap.size w wr) := B4.out.trans (hN.out.below (B := w.heap.size) (fun b hb => by omega) (by omega))
              have hA : Hid (wr.heap[w.heap.size]? = some (.cells #[v0, v1, .slice o6 D.np c6, .slice o7 D.nv c7] 40 (0, 0))) := (hN.out.block w.heap.size (by omega) (by omega)).trans X4.out
              have hV : Hid (wr.heap[w.heap.size + 1]? = some (.cells #[.int .i64 a.1, .int .i64 a.2.1, .slice o2 n2 k2, .slice o3 n3 k3, .slice o4 n4 k4, .slice o5 n5 k5] 68 (0, 0))) := (hN.out.block (w.heap.size + 1) (by omega) (by omega)).trans V4.out
              have zj := (cell_row hV.out 5 (.slice o5 n5 k5) rfl).1
              by_cases hlt : k < n5
              · obtain ⟨oa, cp, ev, _, hc⟩ := HH5.out wr bwr.out
                obtain ⟨b, off, eo, hbS, cc, hcell, hat⟩ := hc k (by rw [M5.out]; exact hlt)
                have eo1 : o5 = some ⟨b, off, none⟩ := by injection ev with h1 _ _; exact h1.trans eo
                subst eo1
                clear ev eo hc
                rw [width_str] at hcell
                have e0 : wr.cell? ⟨b, off + k, none⟩ = some (cc 0) := by have := hcell 0 (by omega); simpa using this
                rw [at_str] at hat
                have htk : Hid (a.2.2.2.2.2.take (k + 1) = a.2.2.2.2.2.take k ++ [a.2.2.2.2.2[k]'(by rw [M5.out]; exact hlt)]) := by
                  show _ = _
                  rw [List.take_add_one, List.getElem?_eq_getElem (by rw [M5.out]; exact hlt)]; rfl
                have hin := HI.out.s (a.2.2.2.2.2[k]'(by rw [M5.out]; exact hlt)) (List.getElem_mem _)
                obtain ⟨y, ey⟩ : ∃ y, a.2.2.2.2.2[k]'(by rw [M5.out]; exact hlt) = y := ⟨_, rfl⟩
                rw [ey] at hat htk hin
                clear ey hcell
                rw [hat.1] at e0
                clear hat
                obtain ⟨kp, hkp, hkI, hkn, _⟩ := val_ix hin
                have HQ : Hid (∀ d os, Calls Tryz.prog 107 #[.agg #[v0, v1, .slice o6 D.np c6, .slice o7 D.nv c7], .string y] (Sort.grow (redrawn wr d) os) fun e w'' => e = .returned (.int .i64 (kp : Int)) ∧ ∃ p : Regrown, w'' = Sort.grow (redrawn wr p.d) p.os) := fun d os => by have := val_q B v0 v1 (.slice o6 D.np c6) _ D.nv D.fv y wr (H.out wr bwr.out).v (Nat.le_trans hB bwr.out.size) d os; rw [hkI] at this; exact this
                have hst : stV D y = (D.fv kp).2.2.2 := by unfold stV; rw [hkn]
                clear hin hkI hkn
                obtain ⟨oa, cp, ev, hnm, hcv⟩ := (H.out wr bwr.out).v
                obtain ⟨bb, of2, eo, hbB, hcell⟩ := hcv kp hkp
                have eo1 : o7 = some ⟨bb, of2, none⟩ := by injection ev with h1 _ _; exact h1.trans eo
                subst eo1
                clear ev eo hcv
                unfold maxLen at hnm
                have es : wr.cell? ⟨bb, of2 + kp * 4 + 3, none⟩ = some (.string (D.fv kp).2.2.2) := hcell 3 (by omega)
                clear hcell hbB
                have y0 := (cell_row hA.out 0 (v0) rfl).1
                have y1 := (cell_row hA.out 1 (v1) rfl).1
                have y2 := (cell_row hA.out 2 (.slice _ D.np c6) rfl).1
                have y3 := (cell_row hA.out 3 (.slice _ D.nv c7) rfl).1
                go_upto_region 15 with fail
                have q_zj := fun d os => cell_regrown zj d os
                have q_e0 := fun d os => cell_regrown e0 d os
                have q_es := fun d os => cell_regrown es d os
                have q_y0 := fun d os => cell_regrown y0 d os
                have q_y1 := fun d os => cell_regrown y1 d os
                have q_y2 := fun d os => cell_regrown y2 d os
                have q_y3 := fun d os => cell_regrown y3 d os
                refine wp_region_quiet_below (by kernel_rfl) (by kernel_rfl) ?_
                repeat (first | go_big_quiet_step (with_reducible exact HQ.out _ _) | quiet_step (with_reducible exact HQ.out _ _))
                refine wpQuiet_nil ?_
                intro _ hw'
                obtain ⟨⟨dq, osq⟩, hw''⟩ := hw'
                subst hw''
                clear q_zj q_e0 q_es q_y0 q_y1 q_y2 q_y3 HQ y0 y1 y2 y3 es
                obtain ⟨wq, hwq⟩ : ∃ V, V = Sort.grow (redrawn wr dq) osq := ⟨_, rfl⟩
                have BQ : Hid (Below wr.heap.size wr wq) := by rw [hwq]; exact below_regrown _ _ _
                rw [← hwq]
                clear hwq
                have sq := BQ.out.size
                have bwq : Hid (Below w.heap.size w wq) := bwr.out.trans (BQ.out.mono bwr.out.size)
                have hO2 : Hid (wq.ownsRow U4.heap.size 9 1 (.slice ov (opL D st (a.2.2.2.2.2.take k)).length kv) (opL D st (a.2.2.2.2.2.take k)).length (enc 1 eS (opL D st (a.2.2.2.2.2.take k)))) := row_stable BQ.out hO.out
                have hG2 : Hid (wq.heap[gx]? = some (.cells #[.int .i64 a.1, .int .i64 a.2.1, .slice p2 n2 q2, .slice r3 (usL D st a.2.2.2.1).length s3, .slice r4 (opL D st a.2.2.2.2.1).length s4, .slice ov (opL D st (a.2.2.2.2.2.take k)).length kv] 68 (0, 0))) := box_stable BQ.out hG.out
                have hN2 : Hid (But (fun b => b = gx) U4 wq) := hN.out.trans (But.of_below BQ.out)
                have hV2 : Hid (wq.heap[w.heap.size + 1]? = some (.cells #[.int .i64 a.1, .int .i64 a.2.1, .slice o2 n2 k2, .slice o3 n3 k3, .slice o4 n4 k4, .slice _ n5 k5] 68 (0, 0))) := box_stable BQ.out hV.out
                have x0 : wq.cell? ⟨b, off + k, none⟩ = some (.string y) := (BQ.out.cell (p := ⟨b, off + k, none⟩) (by show b < _; have := hS b hbS; have := bwr.out.size; omega)).trans e0
                clear zj e0 hO hG hN hV hA
                rw [← hst]
                cases c : eqB (stV D y) st
                · have hc : ((stV D y).toList == st.toList) = false := c
                  rw [hc]
                  go_wp2_with fail
                  go_roundw
                  case rel => exact ⟨k + 1, ov, kv, by omega, by go_num, by show World.ownsRow _ _ _ _ _ _ _; rw [htk.out, opL_no c]; exact hO2.out, by show _ = _; rw [htk.out, opL_no c]; exact hG2.out, hN2⟩
                  case measure => simp [intOf]; omega
                · have hc : ((stV D y).toList == st.toList) = true := c
                  rw [hc]
                  have hll : (opL D st (a.2.2.2.2.2.take k)).length ≤ k := Nat.le_trans (opL_len D st _) (by rw [List.length_take]; omega)
                  have zj := (cell_row hV2.out 5 _ rfl).1
                  obtain ⟨yx, _⟩ := cell_row hG2.out 5 (.slice ov (opL D st (a.2.2.2.2.2.take k)).length kv) rfl
                  simp only [List.getElem_toArray, List.getElem_cons_zero, List.getElem_cons_succ] at zj
                  go_upto_region 16 with fail
                  have qx := fun d os => cell_regrown yx d os
                  have q_zj := fun d os => cell_regrown zj d os
                  have q_x0 := fun d os => cell_regrown x0 d os
                  have hdr : Hid (Below wq.heap.size wq wq.drew) := (Below.refl _ _).drew
                  refine wp_region_mix 8 [0, 1, 2, 3, 4, 5, 6] (by kernel_rfl) (by kernel_rfl) ?_
                  simp only [List.filterMap_cons, List.filterMap_nil, List.getElem?_cons_succ, List.getElem?_cons_zero]
                  repeat (first | go_big_quiet_step (fail) | quiet_step (fail))
                  refine wpQuiet_nil ?_
                  clear yx qx q_zj q_x0
                  obtain ⟨wd, hwd⟩ : ∃ V, V = wq.drew := ⟨_, rfl⟩
                  have BD : Hid (Below wq.heap.size wq wd) := by rw [hwd]; exact hdr.out
                  have sd : wq.heap.size ≤ wd.heap.size ∧ wd.heap.size ≤ wq.heap.size := by rw [hwd]; exact ⟨Nat.le_refl _, Nat.le_refl _⟩
                  rw [← hwd]
                  clear hwd
                  have sUL := BD.out.size
                  obtain ⟨ua, hua⟩ : ∃ V, V = wd.alloc (.cells #[.string y] 9) := ⟨_, rfl⟩
                  have HUA : Hid (ua = wd.alloc (.cells #[.string y] 9)) := hua
                  have sua : ua.heap.size ≤ wd.heap.size + 1 ∧ wd.heap.size + 1 ≤ ua.heap.size := by rw [hua]; simp
                  have BA : Hid (Below wq.heap.size wq ua) := by rw [hua]; exact BD.out.alloc sUL _
                  have HSRC : Hid (Src ua (.slice (some ⟨wd.heap.size, 0, none⟩) 1 1) 1 1 (#[.string y] : Array Value).toList) := by
                    have h1 : ua.ownsRow 0 9 1 (.slice (some ⟨wd.heap.size, 0, none⟩) 1 1) 1 (#[.string y] : Array Value).toList := by
                      rw [hua]; exact own_built (Nat.zero_le _) (by unfold maxLen; omega) rfl
                    exact own_src h1
                  have HOWN : Hid (ua.ownsRow U4.heap.size 9 1 (.slice ov (opL D st (a.2.2.2.2.2.take k)).length kv) (opL D st (a.2.2.2.2.2.take k)).length (enc 1 eS (opL D st (a.2.2.2.2.2.take k)))) := row_stable BA.out hO2.out
                  have HONE : Hid (∀ z ∈ (#[.string y] : Array Value).toList, z.oneCell' = true) := by intro z hz; simp at hz; subst hz; rfl
                  clear hua
                  refine anyC_step (f := 0) [7] (by kernel_rfl) (by simp) (one_list ⟨by decide, _, rfl, rfl, .slice (some ⟨wd.heap.size, 0, none⟩) 1 1, wd.alloc (.cells #[.string y] 9), ?runb, regrown_of_below (by have := BA.out; rw [HUA.out] at this; exact this), ?_⟩)
                  case runb => go_simp
                  refine ⟨by kernel_rfl, ?_⟩
                  simp only [List.drop_succ_cons, List.drop_zero]
                  rw [← HUA.out]
                  go_wp2_with (first
                    | (at_builtin; refine wpList_app elS rfl _ _ rfl rfl rfl HOWN.out HSRC.out HONE.out (by unfold maxLen; omega) (by omega) (by omega) ?_; intro v' u8 hown hgr hbk; obtain ⟨ov', kv', rfl⟩ := ownsRow_shape hown; have hg8 : u8.heap[gx]? = some (.cells #[.int .i64 a.1, .int .i64 a.2.1, .slice p2 n2 q2, .slice r3 (usL D st a.2.2.2.1).length s3, .slice r4 (opL D st a.2.2.2.2.1).length s4, .slice ov (opL D st (a.2.2.2.2.2.take k)).length kv] 68 (0, 0)) := (hgr.block gx (by omega) (fun e => by have := (World.ownsRow.lt HOWN.out gx e.symm).1; omega)).trans ((BA.out.block gx (by omega)).trans hG2.out); obtain ⟨zc8, zf8⟩ := cell_row hg8 5 (.slice ov (opL D st (a.2.2.2.2.2.take k)).length kv) rfl))
                  have SET := set_row hg8 5 (.slice ov' ((opL D st (a.2.2.2.2.2.take k)).length + 1) kv')
                  have RN : Hid ((u8.setCell ⟨gx, 5, none⟩ (.slice ov' ((opL D st (a.2.2.2.2.2.take k)).length + 1) kv')).ownsRow U4.heap.size 9 1 (.slice ov' (opL D st (a.2.2.2.2.2.take (k + 1))).length kv') (opL D st (a.2.2.2.2.2.take (k + 1))).length (enc 1 eS (opL D st (a.2.2.2.2.2.take (k + 1))))) := by
                    show World.ownsRow _ _ _ _ _ _ _
                    rw [htk.out, opL_yes c, List.length_append, enc_append]
                    exact ownsRow_kept hown (fun g hg => Below.heap_setCell _ _ _ _ (by have := (World.ownsRow.lt hown g hg).1; show g ≠ gx; omega))
                  have GN : Hid ((u8.setCell ⟨gx, 5, none⟩ (.slice ov' ((opL D st (a.2.2.2.2.2.take k)).length + 1) kv')).heap[gx]? = some (.cells #[.int .i64 a.1, .int .i64 a.2.1, .slice p2 n2 q2, .slice r3 (usL D st a.2.2.2.1).length s3, .slice r4 (opL D st a.2.2.2.2.1).length s4, .slice ov' (opL D st (a.2.2.2.2.2.take (k + 1))).length kv'] 68 (0, 0))) := by
                    show _ = _
                    rw [htk.out, opL_yes c, List.length_append]
                    exact SET
                  have NN : Hid (But (fun b => b = gx) U4 (u8.setCell ⟨gx, 5, none⟩ (.slice ov' ((opL D st (a.2.2.2.2.2.take k)).length + 1) kv'))) := hN2.out.round BA.out hgr (fun q hq => (World.ownsRow.lt HOWN.out q hq).1) 5 _
                  go_roundw
                  case rel => exact ⟨k + 1, ov', kv', by omega, by go_num, RN.out, GN.out, NN.out⟩
                  case measure => simp [intOf]; omega
              · have hkn : k = n5 := by omega
                rw [hkn] at hO hG
                rw [show a.2.2.2.2.2.take n5 = a.2.2.2.2.2 from List.take_of_length_le (by rw [M5.out]; exact Nat.le_refl _)] at hO hG
                have R5 : Hid (wr.ownsRow U4.heap.size 9 1 (.slice ov (opL D st a.2.2.2.2.2).length kv) (opL D st a.2.2.2.2.2).length (enc 1 eS (opL D st a.2.2.2.2.2))) := hO
                have Q5 : Hid (∀ g, (Value.slice ov (opL D st a.2.2.2.2.2).length kv).ownBlock = some g → U4.heap.size ≤ g ∧ g < wr.heap.size) := fun g hg => World.ownsRow.lt hO.out g hg
                have X5 := hA
                have V5 := hV
                have Y5 : Hid (wr.heap[w.heap.size + 1 + 1]? = some (.cells #[.int .i64 0, .int .i64 0, .slice none 0 0, .slice none 0 0, .slice none 0 0, .slice none 0 0] 68 (0, 0))) := (hN.out.block (w.heap.size + 1 + 1) (by omega) (by omega)).trans Y4.out
                have G5 : Hid (wr.heap[gx]? = some (.cells #[.int .i64 a.1, .int .i64 a.2.1, .slice p2 n2 q2, .slice r3 (usL D st a.2.2.2.1).length s3, .slice r4 (opL D st a.2.2.2.2.1).length s4, .slice ov (opL D st a.2.2.2.2.2).length kv] 68 (0, 0))) := hG
                have R2n : Hid (wr.ownsRow W.heap.size 9 1 (.slice p2 n2 q2) n2 (enc 1 eS a.2.2.1)) := ownsRow_kept R2.out (fun g hg => hN.out.block g (by have := (Q2.out g hg).2.1; omega) (Q2.out g hg).2.2)
                have R3n := ownsRow_kept (w' := wr) R3.out (fun g hg => hN.out.block g (by have := (Q3.out g hg).2; omega) (by have := (Q3.out g hg).1; omega))
                have R4n := ownsRow_kept (w' := wr) R4.out (fun g hg => hN.out.block g (by have := (Q4.out g hg).2; omega) (by have := (Q4.out g hg).1; omega))
                obtain ⟨l0, _⟩ := cell_row G5.out 0 (.int .i64 a.1) rfl
                obtain ⟨t0', f0'⟩ := cell_row Y5.out 0 (.int .i64 0) rfl
                obtain ⟨l1, _⟩ := cell_row G5.out 1 (.int .i64 a.2.1) rfl
                obtain ⟨t1', f1'⟩ := cell_row Y5.out 1 (.int .i64 0) rfl
                obtain ⟨l2, _⟩ := cell_row G5.out 2 (.slice p2 n2 q2) rfl
                obtain ⟨t2', f2'⟩ := cell_row Y5.out 2 (.slice none 0 0) rfl
                obtain ⟨l3, _⟩ := cell_row G5.out 3 (.slice r3 (usL D st a.2.2.2.1).length s3) rfl
                obtain ⟨t3', f3'⟩ := cell_row Y5.out 3 (.slice none 0 0) rfl
                obtain ⟨l4, _⟩ := cell_row G5.out 4 (.slice r4 (opL D st a.2.2.2.2.1).length s4) rfl
                obtain ⟨t4', f4'⟩ := cell_row Y5.out 4 (.slice none 0 0) rfl
                obtain ⟨l5, _⟩ := cell_row G5.out 5 (.slice ov (opL D st a.2.2.2.2.2).length kv) rfl
                obtain ⟨t5', f5'⟩ := cell_row Y5.out 5 (.slice none 0 0) rfl
                obtain ⟨F0, F1, F2, F3⟩ := ret_6 Y5.out (.int .i64 a.1) (.int .i64 a.2.1) (.slice p2 n2 q2) (.slice r3 (usL D st a.2.2.2.1).length s3) (.slice r4 (opL D st a.2.2.2.2.1).length s4) (.slice ov (opL D st a.2.2.2.2.2).length kv)
                go_wp2_with fail
                obtain ⟨FW, hF⟩ : ∃ u, u = ((((((wr.setCell ⟨w.heap.size + 1 + 1, 0, none⟩ (.int .i64 a.1)).setCell ⟨w.heap.size + 1 + 1, 1, none⟩ (.int .i64 a.2.1)).setCell ⟨w.heap.size + 1 + 1, 2, none⟩ (.slice p2 n2 q2)).setCell ⟨w.heap.size + 1 + 1, 3, none⟩ (.slice r3 (usL D st a.2.2.2.1).length s3)).setCell ⟨w.heap.size + 1 + 1, 4, none⟩ (.slice r4 (opL D st a.2.2.2.2.1).length s4)).setCell ⟨w.heap.size + 1 + 1, 5, none⟩ (.slice ov (opL D st a.2.2.2.2.2).length kv)) := ⟨_, rfl⟩
                rw [← hF]
                rw [← hF] at F0 F1 F2 F3
                have t0 := (cell_row F0 0 (.int .i64 a.1) rfl).1
                have t1 := (cell_row F0 1 (.int .i64 a.2.1) rfl).1
                have t2 := (cell_row F0 2 (.slice p2 n2 q2) rfl).1
                have t3 := (cell_row F0 3 (.slice r3 (usL D st a.2.2.2.1).length s3) rfl).1
                have t4 := (cell_row F0 4 (.slice r4 (opL D st a.2.2.2.2.1).length s4) rfl).1
                have t5 := (cell_row F0 5 (.slice ov (opL D st a.2.2.2.2.2).length kv) rfl).1
                have BF : Below w.heap.size w FW := bwr.out.trans (F3.mono (by omega))
                have K2 := ownsRow_kept (w' := FW) R2n.out (fun g hg => F1 g (by have := (Q2.out g hg).1; omega))
                have K3 := ownsRow_kept (w' := FW) R3n (fun g hg => F1 g (by have := (Q3.out g hg).1; omega))
                have K4 := ownsRow_kept (w' := FW) R4n (fun g hg => F1 g (by have := (Q4.out g hg).1; omega))
                have K5 := ownsRow_kept (w' := FW) R5.out (fun g hg => F1 g (by have := (Q5.out g hg).1; omega))
                have o2 : OnL (fun b => W.heap.size ≤ b ∧ b < U2.heap.size) FW a.2.2.1 (.slice p2 n2 q2) := onS_row (B := W.heap.size) (t := 9) (by show World.ownsRow _ _ _ _ _ _ _; rw [M2.out]; exact K2) (fun g hg => ⟨(Q2.out g hg).1, (Q2.out g hg).2.1⟩) KK2.out
                have o3 : OnL (fun b => U2.heap.size ≤ b ∧ b < U3.heap.size) FW (usL D st a.2.2.2.1) (.slice r3 (usL D st a.2.2.2.1).length s3) := onU_row K3 (fun g hg => Q3.out g hg) (fun x hx => KK3.out x (List.mem_filter.1 hx).1)
                have o4 : OnL (fun b => U3.heap.size ≤ b ∧ b < U4.heap.size) FW (opL D st a.2.2.2.2.1) (.slice r4 (opL D st a.2.2.2.2.1).length s4) := onS_row K4 (fun g hg => Q4.out g hg) (fun x hx => KK4.out x (List.mem_filter.1 hx).1)
                have o5 : OnL (fun b => U4.heap.size ≤ b ∧ b < FW.heap.size) FW (opL D st a.2.2.2.2.2) (.slice ov (opL D st a.2.2.2.2.2).length kv) := onS_row K5 (fun g hg => ⟨(Q5.out g hg).1, by rw [F2]; exact (Q5.out g hg).2⟩) (fun x hx => KK5.out x (List.mem_filter.1 hx).1)
                exact bodyPost_ret (v := .agg #[.int .i64 a.1, .int .i64 a.2.1, .slice p2 n2 q2, .slice r3 (usL D st a.2.2.2.1).length s3, .slice r4 (opL D st a.2.2.2.2.1).length s4, .slice ov (opL D st a.2.2.2.2.2).length kv]) (by simp [results, Tryz.results77, go_sem, t0, t1, t2, t3, t4, t5]) rfl ⟨cs [.int .i64 a.1, .int .i64 a.2.1, .slice p2 n2 q2, .slice r3 (usL D st a.2.2.2.1).length s3, .slice r4 (opL D st a.2.2.2.2.1).length s4, .slice ov (opL D st a.2.2.2.2.2).length kv], rfl, on_DClaimWant.2 ⟨fun _ => False, fun b => w.heap.size ≤ b ∧ b < FW.heap.size, fun _ h => h.elim, fun b hb => hb, ⟨rfl, z0⟩, fun _ => False, fun b => w.heap.size ≤ b ∧ b < FW.heap.size, fun _ h => h.elim, fun b hb => hb, ⟨rfl, z1⟩, fun b => W.heap.size ≤ b ∧ b < U2.heap.size, fun b => U2.heap.size ≤ b ∧ b < FW.heap.size, fun b hb => ⟨⟨by omega, by omega⟩, by omega⟩, fun b hb => ⟨by omega, hb.2⟩, o2, fun b => U2.heap.size ≤ b ∧ b < U3.heap.size, fun b => U3.heap.size ≤ b ∧ b < FW.heap.size, fun b hb => ⟨⟨hb.1, by omega⟩, by omega⟩, fun b hb => ⟨by omega, hb.2⟩, o3, fun b => U3.heap.size ≤ b ∧ b < U4.heap.size, fun b => U4.heap.size ≤ b ∧ b < FW.heap.size, fun b hb => ⟨⟨hb.1, by omega⟩, by omega⟩, fun b hb => ⟨by omega, hb.2⟩, o4, o5⟩, BF⟩

end Go.Proofs.YtndacfockllehaaGreat
