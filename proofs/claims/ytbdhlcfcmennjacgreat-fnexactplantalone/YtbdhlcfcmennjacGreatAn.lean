/-
  The law FnExactPlantAlone, walked: whatever the plant, the names and the route, the call returns true, and nothing that was there before has turned.
-/
import Derived.Test.YtbdhlcfcmennjacGreatAm
import Derived.Test.YtbdhlcfcmennjacGreatKi
namespace Go.Proofs.YtbdhlcfcmennjacGreat
open Go.RowKit

theorem RI_RS (D : PD) (m : Nat) (P : Nat → ByteArray) (k : Nat) (Q : Nat → ByteArray) (X : Prop) : (D.V ∧ RI D m P k Q ∧ X) ↔ (D.V ∧ RS D m P k Q ∧ X) :=
  ⟨fun h => ⟨h.1, (RI_iff h.1 m P k Q).1 h.2.1, h.2.2⟩, fun h => ⟨h.1, (RI_iff h.1 m P k Q).2 h.2.1, h.2.2⟩⟩
theorem PAt.up {B B' : Nat} {w : World} {v0 v1 v2 v3 : Value} {D : PD} (h : PAt B w v0 v1 v2 v3 D) (hB : B ≤ B') : PAt B' w v0 v1 v2 v3 D := ⟨h.s.up hB, h.f.up hB, h.p.up hB, h.v.up hB⟩

open Go.Sort in
set_option maxRecDepth 100000 in
set_option maxHeartbeats 16000000 in
theorem lawPa_any (B : Nat) (v0 v1 v2 v3 vo vp vv : Value) (D : PD) (m k no : Nat) (P Q fo : Nat → ByteArray) (w : World) (h : PAt B w v0 v1 v2 v3 D) (ho : Lst B w vo no 1 (cS fo)) (hr : RAt B w vp vv m P k Q) (hB : B ≤ w.heap.size) (hz : D.All) (hzo : ∀ i, i < no → (fo i).size ≤ maxLen) (hp : ∀ i, i < m → (P i).size ≤ maxLen) (hq : ∀ i, i < k → (Q i).size ≤ maxLen) :
    Calls Tryz.prog 4 #[.agg #[v0, v1, v2, v3], vo, .agg #[vp, vv]] w fun e w' => e = .returned (.bool true) ∧ Below w.heap.size w w' := by
  have H : Hid (∀ w', Below w.heap.size w w' → PAt B w' v0 v1 v2 v3 D ∧ Lst B w' vo no 1 (cS fo) ∧ RAt B w' vp vv m P k Q) := fun w' hb => ⟨h.kept hb hB, ho.kept hb hB, hr.kept hb hB⟩
  clear h ho hr
  obtain ⟨W, hW⟩ : ∃ W, W = (w.alloc (.cells #[v0, v1, v2, v3] 27)).alloc (.cells #[vp, vv] 46) := ⟨_, rfl⟩
  have kW : Hid (Below (w.heap.size + 1 + 1) W W) := Below.refl _ _
  have sW : w.heap.size + 1 + 1 ≤ W.heap.size := by rw [hW]; simp
  have eW : Hid (W = (w.alloc (.cells #[v0, v1, v2, v3] 27)).alloc (.cells #[vp, vv] 46)) := hW
  have bx : Hid (∀ wr, Below (w.heap.size + 1 + 1) W wr → ((wr.cell? ⟨w.heap.size, 0, none⟩ = some v0 ∧ wr.cell? ⟨w.heap.size, 1, none⟩ = some v1 ∧ wr.cell? ⟨w.heap.size, 2, none⟩ = some v2 ∧ wr.cell? ⟨w.heap.size, 3, none⟩ = some v3) ∧ wr.cell? ⟨w.heap.size + 1, 0, none⟩ = some vp ∧ wr.cell? ⟨w.heap.size + 1, 1, none⟩ = some vv) ∧ Below w.heap.size w wr) := fun wr hb => by
    rw [hW] at hb
    obtain ⟨h1, h2⟩ := two_box hb
    exact ⟨⟨⟨h1 0 _ rfl, h1 1 _ rfl, h1 2 _ rfl, h1 3 _ rfl⟩, h2 0 _ rfl, h2 1 _ rfl⟩, two_end hb⟩
  clear hW
  go_enter Tryz.func4, Tryz.ntmps4
  go_upto_region 1 with fail
  rw [← eW.out]
  obtain ⟨⟨⟨x0, x1, x2, x3⟩, y0, y1⟩, hbw⟩ := bx.out W kW.out
  go_wp2_with fail
  refine (szPlant_le B v0 v1 v2 v3 D _ (H.out W hbw).1 (Nat.le_trans hB hbw.size) hz).mono ?_; rintro e w1 ⟨n1, rfl, hn1, hsm1, hb1⟩
  have k1 : Hid (Below (w.heap.size + 1 + 1) W w1) := kW.out.trans (hb1.mono (by omega))
  have HS1 : Hid _ := hsm1
  clear hsm1 hb1 hbw x0 x1 x2 x3 y0 y1
  by_cases hg1 : n1 < 0
  · go_wp2_with fail
    go_ret
    exact ⟨rfl, (bx.out _ k1.out).2⟩
  have s1 : w.heap.size + 1 + 1 ≤ w1.heap.size := by have := k1.out.size; omega
  go_wp2_with fail
  refine (szS_any B vo no fo n1 _ (H.out _ (bx.out _ k1.out).2).2.1 hzo (by omega) hn1).mono ?_; rintro e w2a ⟨n2, rfl, hn2, hsm2, hb2⟩
  have k2a : Hid (Below (w.heap.size + 1 + 1) W w2a) := k1.out.trans (hb2.mono s1)
  have HS2 : Hid _ := hsm2
  clear hsm2 hb2
  by_cases hg2 : n2 < 0
  · go_wp2_with fail
    go_ret
    exact ⟨rfl, (bx.out _ k2a.out).2⟩
  obtain ⟨⟨⟨x0, x1, x2, x3⟩, y0, y1⟩, hbw⟩ := bx.out w2a k2a.out
  have s2a : w.heap.size + 1 + 1 ≤ w2a.heap.size := by have := k2a.out.size; omega
  go_wp2_with fail
  refine (szRoute_any B vp vv m k P Q n2 _ (H.out w2a hbw).2.2 (Nat.le_trans hB hbw.size) hp hq (by omega) (by omega)).mono ?_; rintro e w2 ⟨n3, rfl, hn3, hsm3, hb3⟩
  have k2 : Hid (Below (w.heap.size + 1 + 1) W w2) := k2a.out.trans (hb3.mono s2a)
  have HS3 : Hid _ := hsm3
  clear hsm3 hb3 hbw x0 x1 x2 x3 y0 y1
  by_cases hg3 : n3 < 0
  · go_wp2_with fail
    go_ret
    exact ⟨rfl, (bx.out _ k2.out).2⟩
  have HM : Hid (D.ns ≤ 1048576 ∧ D.nf ≤ 1048576 ∧ D.np ≤ 1048576 ∧ D.nv ≤ 1048576) := HS1.out (by omega)
  have hno : no ≤ 1048576 := HS2.out (by omega)
  obtain ⟨hm, hk⟩ := HS3.out (by omega)
  have s2 : w.heap.size + 1 + 1 ≤ w2.heap.size := by have := k2.out.size; omega
  have MODEL : Hid (∀ (wr : World), Below (w.heap.size + 1 + 1) W wr → Calls Tryz.prog 8 #[.agg #[v0, v1, v2, v3]] wr fun e w' => ∃ u0 u1 u2 u3, e = .returned (.agg #[u0, u1, u2, u3]) ∧ PAt w'.heap.size w' u0 u1 u2 u3 D ∧ Below wr.heap.size wr w') := fun wr hb => toPlant_any B v0 v1 v2 v3 D wr (H.out wr (bx.out wr hb).2).1 (Nat.le_trans hB (bx.out wr hb).2.size) HM.out
  have OPEN : Hid (∀ (wr : World), Below (w.heap.size + 1 + 1) W wr → Calls Tryz.prog 9 #[vo] wr fun e w' => e = .returned (.slice (some ⟨wr.heap.size, 0, none⟩) no no) ∧ Lst w'.heap.size w' (.slice (some ⟨wr.heap.size, 0, none⟩) no no) no 1 (cS fo) ∧ Blk w'.heap.size w' wr.heap.size 9 no ∧ Below wr.heap.size wr w') := fun wr hb => toS_blk B vo no fo wr (H.out wr (bx.out wr hb).2).2.1 (Nat.le_trans hB (bx.out wr hb).2.size) hno
  have ROUTE : Hid (∀ (wr : World), Below (w.heap.size + 1 + 1) W wr → Calls Tryz.prog 20 #[.agg #[vp, vv]] wr fun e w' => ∃ g0 g1, e = .returned (.agg #[sl g0 m, sl g1 k]) ∧ RAt w'.heap.size w' (sl g0 m) (sl g1 k) m P k Q ∧ Below wr.heap.size wr w') := fun wr hb => toRoute_any B vp vv m k P Q wr (H.out wr (bx.out wr hb).2).2.2 (Nat.le_trans hB (bx.out wr hb).2.size) hm hk
  obtain ⟨⟨⟨x0, x1, x2, x3⟩, y0, y1⟩, hbw⟩ := bx.out w2 k2.out
  have qx0 := fun d os => cell_regrown x0 d os
  have qx1 := fun d os => cell_regrown x1 d os
  have qx2 := fun d os => cell_regrown x2 d os
  have qx3 := fun d os => cell_regrown x3 d os
  have qy0 := fun d os => cell_regrown y0 d os
  have qy1 := fun d os => cell_regrown y1 d os
  go_wp2_with fail
  have hdr2 : Hid (Below w2.heap.size w2 w2.drew) := (Below.refl _ _).drew
  refine wp_region_mix 6 [0, 2, 4] (by kernel_rfl) (by kernel_rfl) ?_
  simp only [List.filterMap_cons, List.filterMap_nil, List.getElem?_cons_succ, List.getElem?_cons_zero]
  repeat (first | go_big_quiet_step (fail) | quiet_step (fail))
  refine wpQuiet_nil ?_
  clear qx0 qx1 qx2 qx3 qy0 qy1 x0 x1 x2 x3 y0 y1 hbw
  refine call1 (md := .any) (f := 2) (i := 1) (dc := 29) (fn := 8) ⟨rfl, rfl, rfl, by decide⟩ (by kernel_rfl) ?run ((MODEL.out w2.drew (k2.out.trans (hdr2.out.mono s2))).mono ?_)
  case run => go_simp
  rintro e w3 ⟨p0, p1, p2, p3, rfl, P1, hbw3⟩
  have HBw3 : Hid (Below w2.heap.size w2 w3) := hdr2.out.trans hbw3
  have HP1 : Hid (PAt w3.heap.size w3 p0 p1 p2 p3 D) := P1
  refine ⟨_, rfl, regrown_of_below HBw3.out, ?_⟩
  clear P1 hbw3
  simp only [Act.put, List.setIfInBounds_toArray]
  refine call1 (md := .any) (f := 1) (i := 3) (dc := 31) (fn := 9) ⟨rfl, rfl, rfl, by decide⟩ (by kernel_rfl) ?run ((OPEN.out w3 (k2.out.trans (HBw3.out.mono s2))).mono ?_)
  case run => go_simp
  rintro e w3o ⟨rfl, O1, _, hbw3o⟩
  have HBw3o : Hid (Below w2.heap.size w2 w3o) := HBw3.out.trans (hbw3o.mono HBw3.out.size)
  have HO1 : Hid (Lst w3o.heap.size w3o (.slice (some ⟨w3.heap.size, 0, none⟩) no no) no 1 (cS fo)) := O1
  have HP1o : Hid (PAt w3o.heap.size w3o p0 p1 p2 p3 D) := (HP1.out.kept hbw3o (Nat.le_refl _)).up hbw3o.size
  refine ⟨_, rfl, regrown_of_below HBw3o.out, ?_⟩
  clear O1 hbw3o HP1
  simp only [Act.put, List.setIfInBounds_toArray]
  refine call1 (md := .any) (f := 0) (i := 5) (dc := 33) (fn := 20) ⟨rfl, rfl, rfl, by decide⟩ (by kernel_rfl) ?run ((ROUTE.out w3o (k2.out.trans (HBw3o.out.mono s2))).mono ?_)
  case run => go_simp
  rintro e w4 ⟨r0, r1, rfl, R1, hbw4⟩
  have HBw4 : Hid (Below w2.heap.size w2 w4) := HBw3o.out.trans (hbw4.mono HBw3o.out.size)
  have HR1 : Hid (RAt w4.heap.size w4 (sl r0 m) (sl r1 k) m P k Q) := R1
  have HP2 : Hid (PAt w4.heap.size w4 p0 p1 p2 p3 D) := (HP1o.out.kept hbw4 (Nat.le_refl _)).up hbw4.size
  have HO2 : Hid (Lst w4.heap.size w4 (.slice (some ⟨w3.heap.size, 0, none⟩) no no) no 1 (cS fo)) := (HO1.out.kept hbw4 (Nat.le_refl _)).up hbw4.size
  refine ⟨_, rfl, regrown_of_below HBw4.out, ?_⟩
  clear R1 hbw4 HP1o HO1
  refine ⟨by kernel_rfl, ?_⟩
  simp only [List.drop_succ_cons, List.drop_zero, Act.put, List.setIfInBounds_toArray, List.set_cons_zero, List.set_cons_succ]
  have s4 : w2.heap.size ≤ w4.heap.size := HBw4.out.size
  go_wp2_with fail
  refine (aloneS_any w4.heap.size p0 p1 p2 p3 _ D _ _ m k m k no P Q fo _ HP2.out HR1.out.p HR1.out.v HO2.out (Nat.le_refl _) (Nat.le_refl _) hz.sz).mono ?_; rintro e w5 ⟨bs, rfl, is, hb5⟩
  have IS : Hid _ := is
  have k5 : Hid (Below (w.heap.size + 1 + 1) W w5) := k2.out.trans ((HBw4.out.trans (hb5.mono s4)).mono s2)
  clear is hb5 HP2 HR1 HO2 HBw4 HBw3 HBw3o k2
  have s5 : w.heap.size + 1 + 1 ≤ w5.heap.size := by have := k5.out.size; omega
  obtain ⟨⟨⟨x0, x1, x2, x3⟩, y0, y1⟩, hbw⟩ := bx.out w5 k5.out
  go_wp2_with fail
  refine (toPlant_blk B v0 v1 v2 v3 D _ (H.out w5 hbw).1 (Nat.le_trans hB hbw.size) HM.out).mono ?_; rintro e w6 ⟨g0, g1, g2, g3, rfl, P2, _, hb6⟩
  have HP2 : Hid (PAt w6.heap.size w6 (sl g0 D.ns) (sl g1 D.nf) (sl g2 D.np) (sl g3 D.nv) D) := P2
  have s6 : w5.heap.size ≤ w6.heap.size := hb6.size
  obtain ⟨w6a, hw6a⟩ : ∃ u, u = w6.alloc (.cells #[sl g0 D.ns, sl g1 D.nf, sl g2 D.np, sl g3 D.nv] 36) := ⟨_, rfl⟩
  have HW6 : Hid (w6a = w6.alloc (.cells #[sl g0 D.ns, sl g1 D.nf, sl g2 D.np, sl g3 D.nv] 36)) := hw6a
  have b6 : Hid (Below w6.heap.size w6 w6a) := by rw [hw6a]; exact (Below.refl _ _).alloc (Nat.le_refl _) _
  have X6 : Hid (w6a.heap[w6.heap.size]? = some (.cells #[sl g0 D.ns, sl g1 D.nf, sl g2 D.np, sl g3 D.nv] 36 (0, 0))) := by rw [hw6a]; exact heap_alloc_new w6 _
  have s6a : w6.heap.size < w6a.heap.size := by rw [hw6a]; simp
  have k6a : Hid (Below (w.heap.size + 1 + 1) W w6a) := (k5.out.trans (hb6.mono s5)).trans (b6.out.mono (by omega))
  clear hw6a P2 hb6 hbw x0 x1 x2 x3 y0 y1
  go_upto_region 13 with fail
  rw [← HW6.out]
  go_wp2_with fail
  refine (OPEN.out w6a k6a.out).mono ?_; rintro e w7o ⟨rfl, O2, _, hb7o⟩
  have HO7 : Hid (Lst w7o.heap.size w7o (.slice (some ⟨w6a.heap.size, 0, none⟩) no no) no 1 (cS fo)) := O2
  have s7o : w6a.heap.size ≤ w7o.heap.size := hb7o.size
  have b7o : Hid (Below w6a.heap.size w6a w7o) := hb7o
  have k7o : Hid (Below (w.heap.size + 1 + 1) W w7o) := k6a.out.trans (hb7o.mono (by omega))
  clear O2 hb7o
  obtain ⟨⟨⟨x0, x1, x2, x3⟩, y0, y1⟩, hbw⟩ := bx.out w7o k7o.out
  go_wp2_with fail
  refine (toRoute_any B vp vv m k P Q _ (H.out w7o hbw).2.2 (Nat.le_trans hB hbw.size) hm hk).mono ?_; rintro e w7 ⟨h0, h1, rfl, R2, hb7⟩
  have HR2 : Hid (RAt w7.heap.size w7 (sl h0 m) (sl h1 k) m P k Q) := R2
  have s7 : w7o.heap.size ≤ w7.heap.size := hb7.size
  have HB7 : Hid (Below w7o.heap.size w7o w7) := hb7
  obtain ⟨w8, hw8⟩ : ∃ u, u = w7.alloc (.cells #[sl h0 m, sl h1 k] 49) := ⟨_, rfl⟩
  have HW8 : Hid (w8 = w7.alloc (.cells #[sl h0 m, sl h1 k] 49)) := hw8
  have b8 : Hid (Below w7.heap.size w7 w8) := by rw [hw8]; exact (Below.refl _ _).alloc (Nat.le_refl _) _
  have X8 : Hid (w8.heap[w7.heap.size]? = some (.cells #[sl h0 m, sl h1 k] 49 (0, 0))) := by rw [hw8]; exact heap_alloc_new w7 _
  have s8 : w7.heap.size < w8.heap.size := by rw [hw8]; simp
  have b7o8 : Hid (Below w7o.heap.size w7o w8) := hb7.trans (b8.out.mono s7)
  have bW8 : Hid (Below w6.heap.size w6 w8) := (b6.out.trans (b7o.out.mono (by omega))).trans (b7o8.out.mono (by omega))
  have X68 : Hid (w8.heap[w6.heap.size]? = some (.cells #[sl g0 D.ns, sl g1 D.nf, sl g2 D.np, sl g3 D.nv] 36 (0, 0))) := (b7o8.out.block _ (by omega)).trans ((b7o.out.block _ (by omega)).trans X6.out)
  have k8 : Hid (Below (w.heap.size + 1 + 1) W w8) := k7o.out.trans (b7o8.out.mono (by omega))
  clear hw8 R2 hb7 hbw x0 x1 x2 x3 y0 y1
  go_upto_region 15 with fail
  rw [← HW8.out]
  obtain ⟨d0, _⟩ := cell_row X68.out 0 _ rfl
  obtain ⟨d1, _⟩ := cell_row X68.out 1 _ rfl
  obtain ⟨d2, _⟩ := cell_row X68.out 2 _ rfl
  obtain ⟨d3, _⟩ := cell_row X68.out 3 _ rfl
  obtain ⟨f0, _⟩ := cell_row X8.out 0 _ rfl
  obtain ⟨f1, _⟩ := cell_row X8.out 1 _ rfl
  simp only [List.getElem_toArray, List.getElem_cons_zero, List.getElem_cons_succ] at d0 d1 d2 d3 f0 f1
  go_wp2_with fail
  refine (aloneI_any w8.heap.size _ _ _ _ _ D _ _ m k m k no P Q fo _ ((HP2.out.kept bW8.out (Nat.le_refl _)).up (by omega)) ((HR2.out.kept b8.out (Nat.le_refl _)).p.up (by omega)) ((HR2.out.kept b8.out (Nat.le_refl _)).v.up (by omega)) ((HO7.out.kept b7o8.out (Nat.le_refl _)).up (by omega)) (Nat.le_refl _) (Nat.le_refl _) hz.sz).mono ?_; rintro e w9 ⟨bi, rfl, ii, hb9⟩
  have hbe : bi = bs := bool_same (ii.trans (RI_RS D m P k Q _)) IS.out
  subst hbe
  clear ii d0 d1 d2 d3 f0 f1 IS
  have s9 : w8.heap.size ≤ w9.heap.size := hb9.size
  have b89 : Hid (Below w8.heap.size w8 w9) := hb9
  have k9 : Hid (Below (w.heap.size + 1 + 1) W w9) := k8.out.trans (hb9.mono (by omega))
  have t9 : w.heap.size + 1 + 1 ≤ w9.heap.size := by omega
  have X69 : Hid (w9.heap[w6.heap.size]? = some (.cells #[sl g0 D.ns, sl g1 D.nf, sl g2 D.np, sl g3 D.nv] 36 (0, 0))) := (b89.out.block _ (by omega)).trans X68.out
  have X89 : Hid (w9.heap[w7.heap.size]? = some (.cells #[sl h0 m, sl h1 k] 49 (0, 0))) := (b89.out.block _ (by omega)).trans X8.out
  clear hb9
  obtain ⟨d0, _⟩ := cell_row X69.out 0 _ rfl
  obtain ⟨d1, _⟩ := cell_row X69.out 1 _ rfl
  obtain ⟨d2, _⟩ := cell_row X69.out 2 _ rfl
  obtain ⟨d3, _⟩ := cell_row X69.out 3 _ rfl
  simp only [List.getElem_toArray, List.getElem_cons_zero, List.getElem_cons_succ] at d0 d1 d2 d3
  obtain ⟨⟨⟨x0, x1, x2, x3⟩, y0, y1⟩, hbw⟩ := bx.out w9 k9.out
  have qx0 := fun d os => cell_regrown x0 d os
  have qx1 := fun d os => cell_regrown x1 d os
  have qx2 := fun d os => cell_regrown x2 d os
  have qx3 := fun d os => cell_regrown x3 d os
  have qd0 := fun d os => cell_regrown d0 d os
  have qd1 := fun d os => cell_regrown d1 d os
  have qd2 := fun d os => cell_regrown d2 d os
  have qd3 := fun d os => cell_regrown d3 d os
  have hbb : ∀ b : Bool, (b != b) = false := fun b => by cases b <;> rfl
  go_wp2_with fail
  have hdr9 : Hid (Below w9.heap.size w9 w9.drew) := (Below.refl _ _).drew
  refine wp_region_mix 3 [0, 1] (by kernel_rfl) (by kernel_rfl) ?_
  simp only [List.filterMap_cons, List.filterMap_nil, List.getElem?_cons_succ, List.getElem?_cons_zero]
  repeat (first | go_big_quiet_step (fail) | quiet_step (fail))
  refine wpQuiet_nil ?_
  refine call1 (md := .any) (f := 0) (i := 2) (dc := 50) (fn := 8) ⟨rfl, rfl, rfl, by decide⟩ (by kernel_rfl) ?run ((MODEL.out w9.drew (k9.out.trans (hdr9.out.mono t9))).mono ?_)
  case run => go_simp
  rintro e w11 ⟨p0, p1, p2, p3, rfl, P3, hbw11⟩
  have HBw11 : Hid (Below w9.heap.size w9 w11) := hdr9.out.trans hbw11
  have HP3 : Hid (PAt w11.heap.size w11 p0 p1 p2 p3 D) := P3
  clear P3 hbw11 qx0 qx1 qx2 qx3 qd0 qd1 qd2 qd3 d0 d1 d2 d3 x0 x1 x2 x3 y0 y1 hbw
  refine ⟨_, rfl, regrown_of_below HBw11.out, ?_⟩
  refine ⟨by kernel_rfl, ?_⟩
  simp only [List.drop_succ_cons, List.drop_zero, Act.put, List.setIfInBounds_toArray, List.set_cons_zero, List.set_cons_succ]
  have s11 : w9.heap.size ≤ w11.heap.size := HBw11.out.size
  have b611 : Hid (Below w6.heap.size w6 w11) := (bW8.out.trans (b89.out.mono (by omega))).trans (HBw11.out.mono (by omega))
  go_wp2_with fail
  refine (eqPlant_any w6.heap.size w11.heap.size _ _ _ _ p0 p1 p2 p3 D _ (HP2.out.kept b611.out (Nat.le_refl _)) HP3.out (by omega) (Nat.le_refl _)).mono ?_; rintro e w12 ⟨rfl, hb12⟩
  have s12 : w11.heap.size ≤ w12.heap.size := hb12.size
  have b912 : Hid (Below w9.heap.size w9 w12) := HBw11.out.trans (hb12.mono (by omega))
  have k12 : Hid (Below (w.heap.size + 1 + 1) W w12) := k9.out.trans (b912.out.mono (by omega))
  clear hb12 HP3 HBw11
  go_wp2_with fail
  refine (OPEN.out w12 k12.out).mono ?_; rintro e w13 ⟨rfl, O3, _, hb13⟩
  have HO3 : Hid (Lst w13.heap.size w13 (.slice (some ⟨w12.heap.size, 0, none⟩) no no) no 1 (cS fo)) := O3
  have s13 : w12.heap.size ≤ w13.heap.size := hb13.size
  have b913 : Hid (Below w9.heap.size w9 w13) := b912.out.trans (hb13.mono (by omega))
  have b713 : Hid (Below w7o.heap.size w7o w13) := (b7o8.out.trans (b89.out.mono (by omega))).trans (b913.out.mono (by omega))
  clear O3 hb13
  go_wp2_with fail
  refine (eqS_lst w7o.heap.size w13.heap.size _ _ no fo _ (HO7.out.kept b713.out (Nat.le_refl _)) HO3.out (by omega) (Nat.le_refl _)).mono ?_; rintro e w14 ⟨rfl, hb14⟩
  have s14 : w13.heap.size ≤ w14.heap.size := hb14.size
  have b914 : Hid (Below w9.heap.size w9 w14) := b913.out.trans (hb14.mono (by omega))
  have k14 : Hid (Below (w.heap.size + 1 + 1) W w14) := k9.out.trans (b914.out.mono (by omega))
  have t14 : w.heap.size + 1 + 1 ≤ w14.heap.size := by omega
  have X814 : Hid (w14.heap[w7.heap.size]? = some (.cells #[sl h0 m, sl h1 k] 49 (0, 0))) := (b914.out.block _ (by omega)).trans X89.out
  clear hb14 HO3
  obtain ⟨f0, _⟩ := cell_row X814.out 0 _ rfl
  obtain ⟨f1, _⟩ := cell_row X814.out 1 _ rfl
  simp only [List.getElem_toArray, List.getElem_cons_zero, List.getElem_cons_succ] at f0 f1
  obtain ⟨⟨⟨x0, x1, x2, x3⟩, y0, y1⟩, hbw⟩ := bx.out w14 k14.out
  have qy0 := fun d os => cell_regrown y0 d os
  have qy1 := fun d os => cell_regrown y1 d os
  have qf0 := fun d os => cell_regrown f0 d os
  have qf1 := fun d os => cell_regrown f1 d os
  go_wp2_with fail
  have hdr14 : Hid (Below w14.heap.size w14 w14.drew) := (Below.refl _ _).drew
  refine wp_region_mix 3 [0, 1] (by kernel_rfl) (by kernel_rfl) ?_
  simp only [List.filterMap_cons, List.filterMap_nil, List.getElem?_cons_succ, List.getElem?_cons_zero]
  repeat (first | go_big_quiet_step (fail) | quiet_step (fail))
  refine wpQuiet_nil ?_
  refine call1 (md := .any) (f := 0) (i := 2) (dc := 60) (fn := 20) ⟨rfl, rfl, rfl, by decide⟩ (by kernel_rfl) ?run ((ROUTE.out w14.drew (k14.out.trans (hdr14.out.mono t14))).mono ?_)
  case run => go_simp
  rintro e w15 ⟨r0, r1, rfl, R3, hbw15⟩
  have HBw15 : Hid (Below w14.heap.size w14 w15) := hdr14.out.trans hbw15
  have HR3 : Hid (RAt w15.heap.size w15 (sl r0 m) (sl r1 k) m P k Q) := R3
  clear R3 hbw15 qy0 qy1 qf0 qf1 f0 f1 x0 x1 x2 x3 y0 y1 hbw
  refine ⟨_, rfl, regrown_of_below HBw15.out, ?_⟩
  refine ⟨by kernel_rfl, ?_⟩
  simp only [List.drop_succ_cons, List.drop_zero, Act.put, List.setIfInBounds_toArray, List.set_cons_zero, List.set_cons_succ]
  have s15 : w14.heap.size ≤ w15.heap.size := HBw15.out.size
  have b715 : Hid (Below w7.heap.size w7 w15) := ((b8.out.trans (b89.out.mono (by omega))).trans (b914.out.mono (by omega))).trans (HBw15.out.mono (by omega))
  go_wp2_with fail
  refine (eqRoute_any w7.heap.size w15.heap.size _ _ _ _ m k P Q _ (HR2.out.kept b715.out (Nat.le_refl _)) HR3.out (by omega) (Nat.le_refl _)).mono ?_; rintro e w16 ⟨rfl, hb16⟩
  have k16 : Hid (Below (w.heap.size + 1 + 1) W w16) := (k14.out.trans (HBw15.out.mono t14)).trans (hb16.mono (by omega))
  clear hb16
  go_wp2_with fail
  go_ret
  exact ⟨rfl, (bx.out _ k16.out).2⟩

end Go.Proofs.YtbdhlcfcmennjacGreat
