/-
  The law FnExactPlantGuards, walked: whatever the plant and the route, the call returns true, and nothing that was there before has turned.
-/
import Derived.Test.YtciembgenlcogabKh
import Derived.Test.YtciembgenlcogabKi
import Derived.Test.YtciembgenlcogabKm
namespace Go.Proofs.Ytciembgenlcogab
open Go.RowKit

theorem gdL_len (b : Bool) (D : PD) (m : Nat) (P : Nat → ByteArray) (k : Nat) (Q : Nat → ByteArray) (hm : D.nv ≤ 1048576) : (gdL b D m P k Q).length ≤ 1048576 := by
  cases b
  · exact Nat.zero_le _
  · have := gdN_len D m P k Q D.nv
    simp only [gdL, cond_true]; omega
theorem RI_RS (D : PD) (m : Nat) (P : Nat → ByteArray) (k : Nat) (Q : Nat → ByteArray) : (D.V ∧ RI D m P k Q) ↔ (D.V ∧ RS D m P k Q) :=
  ⟨fun h => ⟨h.1, (RI_iff h.1 m P k Q).1 h.2⟩, fun h => ⟨h.1, (RI_iff h.1 m P k Q).2 h.2⟩⟩

theorem PAt.up {B B' : Nat} {w : World} {v0 v1 v2 v3 : Value} {D : PD} (h : PAt B w v0 v1 v2 v3 D) (hB : B ≤ B') : PAt B' w v0 v1 v2 v3 D := ⟨h.s.up hB, h.f.up hB, h.p.up hB, h.v.up hB⟩
theorem Blk.outs {B L H : Nat} {w w' : World} {g t m : Nat} (h : Blk B w g t m) (ho : Outs L H w w') : Blk B w' g t m := ⟨h.1, ho.blk g t m h.2⟩

open Go.Sort in
set_option maxRecDepth 100000 in
set_option maxHeartbeats 16000000 in
theorem lawPg_any (B : Nat) (v0 v1 v2 v3 vp vv : Value) (D : PD) (m k : Nat) (P Q : Nat → ByteArray) (w : World) (h : PAt B w v0 v1 v2 v3 D) (hr : RAt B w vp vv m P k Q) (hB : B ≤ w.heap.size) (hz : D.All) (hp : ∀ i, i < m → (P i).size ≤ maxLen) (hq : ∀ i, i < k → (Q i).size ≤ maxLen) :
    Calls Try.prog 3 #[.agg #[v0, v1, v2, v3], .agg #[vp, vv]] w fun e w' => e = .returned (.bool true) ∧ Below w.heap.size w w' := by
  have H : Hid (∀ w', Below w.heap.size w w' → PAt B w' v0 v1 v2 v3 D ∧ RAt B w' vp vv m P k Q) := fun w' hb => ⟨h.kept hb hB, hr.kept hb hB⟩
  clear h hr
  obtain ⟨W, hW⟩ : ∃ W, W = (w.alloc (.cells #[v0, v1, v2, v3] 27)).alloc (.cells #[vp, vv] 29) := ⟨_, rfl⟩
  have kW : Hid (Below (w.heap.size + 1 + 1) W W) := Below.refl _ _
  have sW : W.heap.size = w.heap.size + 1 + 1 := by rw [hW]; simp
  have eW : Hid (W = (w.alloc (.cells #[v0, v1, v2, v3] 27)).alloc (.cells #[vp, vv] 29)) := hW
  have bx : Hid (∀ wr, Below (w.heap.size + 1 + 1) W wr → ((wr.cell? ⟨w.heap.size, 0, none⟩ = some v0 ∧ wr.cell? ⟨w.heap.size, 1, none⟩ = some v1 ∧ wr.cell? ⟨w.heap.size, 2, none⟩ = some v2 ∧ wr.cell? ⟨w.heap.size, 3, none⟩ = some v3) ∧ wr.cell? ⟨w.heap.size + 1, 0, none⟩ = some vp ∧ wr.cell? ⟨w.heap.size + 1, 1, none⟩ = some vv) ∧ Below w.heap.size w wr) := fun wr hb => by
    rw [hW] at hb
    obtain ⟨h1, h2⟩ := two_box hb
    exact ⟨⟨⟨h1 0 _ rfl, h1 1 _ rfl, h1 2 _ rfl, h1 3 _ rfl⟩, h2 0 _ rfl, h2 1 _ rfl⟩, two_end hb⟩
  clear hW
  go_enter Try.func3, Try.ntmps3
  go_upto_region 1 with fail
  rw [← eW.out]
  obtain ⟨⟨⟨x0, x1, x2, x3⟩, y0, y1⟩, hbw⟩ := bx.out W kW.out
  go_wp2_with fail
  refine (szPlant_le B v0 v1 v2 v3 D _ (H.out W hbw).1 (Nat.le_trans hB hbw.size) hz).mono ?_; rintro e w1 ⟨n1, rfl, hn1, hsm1, hb1⟩
  have k1 : Hid (Below (w.heap.size + 1 + 1) W w1) := kW.out.trans (hb1.mono (by omega))
  have HS1 : Hid _ := hsm1
  clear hsm1 hb1 hbw x0 x1 x2 x3 y0 y1
  by_cases hg1 : n1 < 0
  · go_wp2_with fail
    go_ret
    exact ⟨rfl, (bx.out _ k1.out).2⟩
  obtain ⟨⟨⟨x0, x1, x2, x3⟩, y0, y1⟩, hbw⟩ := bx.out w1 k1.out
  have s1 : w.heap.size + 1 + 1 ≤ w1.heap.size := by have := k1.out.size; omega
  go_wp2_with fail
  refine (szRoute_any B vp vv m k P Q n1 _ (H.out w1 hbw).2 (Nat.le_trans hB hbw.size) hp hq (by omega) hn1).mono ?_; rintro e w2 ⟨n2, rfl, hn2, hsm2, hb2⟩
  have k2 : Hid (Below (w.heap.size + 1 + 1) W w2) := k1.out.trans (hb2.mono s1)
  have HS2 : Hid _ := hsm2
  clear hsm2 hb2 hbw x0 x1 x2 x3 y0 y1
  by_cases hg2 : n2 < 0
  · go_wp2_with fail
    go_ret
    exact ⟨rfl, (bx.out _ k2.out).2⟩
  have HM : Hid (D.ns ≤ 1048576 ∧ D.nf ≤ 1048576 ∧ D.np ≤ 1048576 ∧ D.nv ≤ 1048576) := HS1.out (by omega)
  obtain ⟨hm, hk⟩ := HS2.out (by omega)
  have hnv : D.nv ≤ 1048576 := HM.out.2.2.2
  have s2 : w.heap.size + 1 + 1 ≤ w2.heap.size := by have := k2.out.size; omega
  -- the model's answer
  have MODEL : Hid (∀ (wr : World), Below (w.heap.size + 1 + 1) W wr → Calls Try.prog 7 #[.agg #[v0, v1, v2, v3]] wr fun e w' => ∃ u0 u1 u2 u3, e = .returned (.agg #[u0, u1, u2, u3]) ∧ PAt w'.heap.size w' u0 u1 u2 u3 D ∧ Below wr.heap.size wr w') := fun wr hb => toPlant_any B v0 v1 v2 v3 D wr (H.out wr (bx.out wr hb).2).1 (Nat.le_trans hB (bx.out wr hb).2.size) HM.out
  have ROUTE : Hid (∀ (wr : World), Below (w.heap.size + 1 + 1) W wr → Calls Try.prog 8 #[.agg #[vp, vv]] wr fun e w' => ∃ g0 g1, e = .returned (.agg #[sl g0 m, sl g1 k]) ∧ RAt w'.heap.size w' (sl g0 m) (sl g1 k) m P k Q ∧ Below wr.heap.size wr w') := fun wr hb => toRoute_any B vp vv m k P Q wr (H.out wr (bx.out wr hb).2).2 (Nat.le_trans hB (bx.out wr hb).2.size) hm hk
  obtain ⟨⟨⟨x0, x1, x2, x3⟩, y0, y1⟩, hbw⟩ := bx.out w2 k2.out
  have qx0 := fun d os => cell_regrown x0 d os
  have qx1 := fun d os => cell_regrown x1 d os
  have qx2 := fun d os => cell_regrown x2 d os
  have qx3 := fun d os => cell_regrown x3 d os
  have qy0 := fun d os => cell_regrown y0 d os
  have qy1 := fun d os => cell_regrown y1 d os
  go_wp2_with fail
  have hdr_w2 : Hid (Below w2.heap.size w2 w2.drew) := (Below.refl _ _).drew
  refine wp_region_mix 4 [0, 2] (by kernel_rfl) (by kernel_rfl) ?_
  simp only [List.filterMap_cons, List.filterMap_nil, List.getElem?_cons_succ, List.getElem?_cons_zero]
  repeat (first | go_big_quiet_step (fail) | quiet_step (fail))
  refine wpQuiet_nil ?_
  clear qx0 qx1 qx2 qx3 qy0 qy1 x0 x1 x2 x3 y0 y1 hbw
  refine call1 (md := .any) (f := 1) (i := 1) (dc := 25) (fn := 7) ⟨rfl, rfl, rfl, by decide⟩ (by kernel_rfl) ?run ((MODEL.out w2.drew (k2.out.trans (hdr_w2.out.mono s2))).mono ?_)
  case run => go_simp
  rintro e w3 ⟨p0, p1, p2, p3, rfl, P1, hbw3⟩
  have HBw3 : Hid (Below w2.heap.size w2 w3) := hdr_w2.out.trans hbw3
  have HP1 : Hid (PAt w3.heap.size w3 p0 p1 p2 p3 D) := P1
  refine ⟨_, rfl, regrown_of_below HBw3.out, ?_⟩
  clear P1 hbw3
  simp only [Act.put, List.setIfInBounds_toArray]
  refine call1 (md := .any) (f := 0) (i := 3) (dc := 27) (fn := 8) ⟨rfl, rfl, rfl, by decide⟩ (by kernel_rfl) ?run ((ROUTE.out w3 (k2.out.trans (HBw3.out.mono s2))).mono ?_)
  case run => go_simp
  rintro e w4 ⟨r0, r1, rfl, R1, hbw4⟩
  have HBw4 : Hid (Below w2.heap.size w2 w4) := HBw3.out.trans (hbw4.mono HBw3.out.size)
  have HR1 : Hid (RAt w4.heap.size w4 (sl r0 m) (sl r1 k) m P k Q) := R1
  have HP2 : Hid (PAt w4.heap.size w4 p0 p1 p2 p3 D) := (HP1.out.kept hbw4 (Nat.le_refl _)).up hbw4.size
  refine ⟨_, rfl, regrown_of_below HBw4.out, ?_⟩
  clear R1 hbw4 HP1
  refine ⟨by kernel_rfl, ?_⟩
  simp only [List.drop_succ_cons, List.drop_zero, Act.put, List.setIfInBounds_toArray, List.set_cons_zero, List.set_cons_succ]
  have s4 : w2.heap.size ≤ w4.heap.size := HBw4.out.size
  go_wp2_with fail
  refine (guardsS_any w4.heap.size p0 p1 p2 p3 D _ _ m k m k P Q _ HP2.out HR1.out.p HR1.out.v (Nat.le_refl _) (Nat.le_refl _) hz.sz hnv).mono ?_; rintro e w5 ⟨u0, bs, rfl, is, ow0, hb5⟩
  have IS : Hid _ := is
  have hlen := gdL_len bs D m P k Q hnv
  have k5 : Hid (Below (w.heap.size + 1 + 1) W w5) := k2.out.trans ((HBw4.out.trans (hb5.mono s4)).mono s2)
  have L0 : Hid (Lst w5.heap.size w5 u0 (gdL bs D m P k Q).length 1 (cS (nthB (gdL bs D m P k Q)))) := own_lst ow0 hlen
  clear is ow0 hb5 HP2 HR1 HBw4 HBw3 k2
  generalize hLL : gdL bs D m P k Q = LL at hlen L0
  have HLL : Hid (gdL bs D m P k Q = LL) := hLL
  clear hLL
  have s5 : w.heap.size + 1 + 1 ≤ w5.heap.size := by have := k5.out.size; omega
  obtain ⟨⟨⟨x0, x1, x2, x3⟩, y0, y1⟩, hbw⟩ := bx.out w5 k5.out
  go_wp2_with fail
  refine (toPlant_blk B v0 v1 v2 v3 D _ (H.out w5 hbw).1 (Nat.le_trans hB hbw.size) HM.out).mono ?_; rintro e w6 ⟨g0, g1, g2, g3, rfl, P2, PB, hb6⟩
  have HP2 : Hid (PAt w6.heap.size w6 (sl g0 D.ns) (sl g1 D.nf) (sl g2 D.np) (sl g3 D.nv) D) := P2
  have HPB : Hid (PBlk w5.heap.size w6.heap.size w6 g0 g1 g2 g3 D) := PB
  have s6 : w5.heap.size ≤ w6.heap.size := hb6.size
  obtain ⟨w6a, hw6a⟩ : ∃ u, u = w6.alloc (.cells #[sl g0 D.ns, sl g1 D.nf, sl g2 D.np, sl g3 D.nv] 37) := ⟨_, rfl⟩
  have HW6 : Hid (w6a = w6.alloc (.cells #[sl g0 D.ns, sl g1 D.nf, sl g2 D.np, sl g3 D.nv] 37)) := hw6a
  have b6 : Hid (Below w6.heap.size w6 w6a) := by rw [hw6a]; exact (Below.refl _ _).alloc (Nat.le_refl _) _
  have X6 : Hid (w6a.heap[w6.heap.size]? = some (.cells #[sl g0 D.ns, sl g1 D.nf, sl g2 D.np, sl g3 D.nv] 37 (0, 0))) := by rw [hw6a]; exact heap_alloc_new w6 _
  have s6a : w6a.heap.size = w6.heap.size + 1 := by rw [hw6a]; simp
  have k6a : Hid (Below (w.heap.size + 1 + 1) W w6a) := (k5.out.trans (hb6.mono s5)).trans (b6.out.mono (by omega))
  have b5 : Hid (Below w5.heap.size w5 w6a) := hb6.trans (b6.out.mono s6)
  clear hw6a P2 PB hb6 hbw x0 x1 x2 x3 y0 y1
  go_upto_region 10 with fail
  rw [← HW6.out]
  obtain ⟨⟨⟨x0, x1, x2, x3⟩, y0, y1⟩, hbw⟩ := bx.out w6a k6a.out
  go_wp2_with fail
  refine (toRoute_blk B vp vv m k P Q _ (H.out w6a hbw).2 (Nat.le_trans hB hbw.size) hm hk).mono ?_; rintro e w7 ⟨h0, h1, rfl, R2, ⟨ha0, ha1⟩, RB0, RB1, hb7⟩
  have HR2 : Hid (RAt w7.heap.size w7 (sl h0 m) (sl h1 k) m P k Q) := R2
  have HRB0 : Hid (Blk w7.heap.size w7 h0 9 m) := RB0
  have HRB1 : Hid (Blk w7.heap.size w7 h1 9 k) := RB1
  have s7 : w6a.heap.size ≤ w7.heap.size := hb7.size
  obtain ⟨w8, hw8⟩ : ∃ u, u = w7.alloc (.cells #[sl h0 m, sl h1 k] 39) := ⟨_, rfl⟩
  have HW8 : Hid (w8 = w7.alloc (.cells #[sl h0 m, sl h1 k] 39)) := hw8
  have b8 : Hid (Below w7.heap.size w7 w8) := by rw [hw8]; exact (Below.refl _ _).alloc (Nat.le_refl _) _
  have X8 : Hid (w8.heap[w7.heap.size]? = some (.cells #[sl h0 m, sl h1 k] 39 (0, 0))) := by rw [hw8]; exact heap_alloc_new w7 _
  have s8 : w8.heap.size = w7.heap.size + 1 := by rw [hw8]; simp
  have X68 : Hid (w8.heap[w6.heap.size]? = some (.cells #[sl g0 D.ns, sl g1 D.nf, sl g2 D.np, sl g3 D.nv] 37 (0, 0))) := (b8.out.block _ (by omega)).trans ((hb7.block _ (by omega)).trans X6.out)
  have b78 : Hid (Below w6a.heap.size w6a w8) := hb7.trans (b8.out.mono s7)
  have k8 : Hid (Below (w.heap.size + 1 + 1) W w8) := k6a.out.trans (b78.out.mono (by omega))
  clear hw8 R2 RB0 RB1 hb7 hbw x0 x1 x2 x3 y0 y1
  go_upto_region 11 with fail
  rw [← HW8.out]
  obtain ⟨d0, _⟩ := cell_row X68.out 0 _ rfl
  obtain ⟨d1, _⟩ := cell_row X68.out 1 _ rfl
  obtain ⟨d2, _⟩ := cell_row X68.out 2 _ rfl
  obtain ⟨d3, _⟩ := cell_row X68.out 3 _ rfl
  obtain ⟨f0, _⟩ := cell_row X8.out 0 _ rfl
  obtain ⟨f1, _⟩ := cell_row X8.out 1 _ rfl
  simp only [List.getElem_toArray, List.getElem_cons_zero, List.getElem_cons_succ] at d0 d1 d2 d3 f0 f1
  have bW8 : Hid (Below w6.heap.size w6 w8) := b6.out.trans (b78.out.mono (by omega))
  go_wp2_with fail
  refine (guardsI_any w8.heap.size _ _ _ _ D _ _ m k m k P Q _ ((HP2.out.kept bW8.out (Nat.le_refl _)).up (by omega)) ((HR2.out.kept b8.out (Nat.le_refl _)).p.up (by omega)) ((HR2.out.kept b8.out (Nat.le_refl _)).v.up (by omega)) (Nat.le_refl _) (Nat.le_refl _) hz.sz hnv).mono ?_; rintro e w9 ⟨u1, bi, rfl, ii, ow1, hb9⟩
  have hbe : bi = bs := bool_same (ii.trans (RI_RS D m P k Q)) IS.out
  subst hbe
  rw [HLL.out] at ow1
  clear ii d0 d1 d2 d3 f0 f1
  have s9 : w8.heap.size ≤ w9.heap.size := hb9.size
  have OW1 : Hid (w9.ownsRow w8.heap.size 9 1 u1 LL.length (LL.map .string)) := ow1
  have b89 : Hid (Below w8.heap.size w8 w9) := hb9
  have k9 : Hid (Below (w.heap.size + 1 + 1) W w9) := k8.out.trans (hb9.mono (by omega))
  have b59 : Hid (Below w5.heap.size w5 w9) := (b5.out.trans (b78.out.mono (by omega))).trans (b89.out.mono (by omega))
  have L9 : Hid (Lst w5.heap.size w9 u0 LL.length 1 (cS (nthB LL))) := L0.out.kept b59.out (Nat.le_refl _)
  clear ow1 hb9
  go_wp2_with fail
  refine (eqS_lst w9.heap.size w5.heap.size u1 u0 LL.length (nthB LL) _ (own_lst OW1.out hlen) L9.out (Nat.le_refl _) (by omega)).mono ?_; rintro e w10 ⟨rfl, hb10⟩
  have s10 : w9.heap.size ≤ w10.heap.size := hb10.size
  have b910 : Hid (Below w9.heap.size w9 w10) := hb10
  have k10 : Hid (Below (w.heap.size + 1 + 1) W w10) := k9.out.trans (hb10.mono (by omega))
  have t10 : w.heap.size + 1 + 1 ≤ w10.heap.size := by omega
  have X610 : Hid (w10.heap[w6.heap.size]? = some (.cells #[sl g0 D.ns, sl g1 D.nf, sl g2 D.np, sl g3 D.nv] 37 (0, 0))) := (hb10.block _ (by omega)).trans ((b89.out.block _ (by omega)).trans X68.out)
  have X810 : Hid (w10.heap[w7.heap.size]? = some (.cells #[sl h0 m, sl h1 k] 39 (0, 0))) := (hb10.block _ (by omega)).trans ((b89.out.block _ (by omega)).trans X8.out)
  clear hb10
  obtain ⟨d0, _⟩ := cell_row X610.out 0 _ rfl
  obtain ⟨d1, _⟩ := cell_row X610.out 1 _ rfl
  obtain ⟨d2, _⟩ := cell_row X610.out 2 _ rfl
  obtain ⟨d3, _⟩ := cell_row X610.out 3 _ rfl
  simp only [List.getElem_toArray, List.getElem_cons_zero, List.getElem_cons_succ] at d0 d1 d2 d3
  obtain ⟨⟨⟨x0, x1, x2, x3⟩, y0, y1⟩, hbw⟩ := bx.out w10 k10.out
  have qx0 := fun d os => cell_regrown x0 d os
  have qx1 := fun d os => cell_regrown x1 d os
  have qx2 := fun d os => cell_regrown x2 d os
  have qx3 := fun d os => cell_regrown x3 d os
  have qd0 := fun d os => cell_regrown d0 d os
  have qd1 := fun d os => cell_regrown d1 d os
  have qd2 := fun d os => cell_regrown d2 d os
  have qd3 := fun d os => cell_regrown d3 d os
  go_wp2_with fail
  have hdr_w10 : Hid (Below w10.heap.size w10 w10.drew) := (Below.refl _ _).drew
  refine wp_region_mix 3 [0, 1] (by kernel_rfl) (by kernel_rfl) ?_
  simp only [List.filterMap_cons, List.filterMap_nil, List.getElem?_cons_succ, List.getElem?_cons_zero]
  repeat (first | go_big_quiet_step (fail) | quiet_step (fail))
  refine wpQuiet_nil ?_
  refine call1 (md := .any) (f := 0) (i := 2) (dc := 42) (fn := 7) ⟨rfl, rfl, rfl, by decide⟩ (by kernel_rfl) ?run ((MODEL.out w10.drew (k10.out.trans (hdr_w10.out.mono t10))).mono ?_)
  case run => go_simp
  rintro e w11 ⟨p0, p1, p2, p3, rfl, P3, hbw11⟩
  have HBw11 : Hid (Below w10.heap.size w10 w11) := hdr_w10.out.trans hbw11
  have HP3 : Hid (PAt w11.heap.size w11 p0 p1 p2 p3 D) := P3
  clear P3 hbw11 qx0 qx1 qx2 qx3 qd0 qd1 qd2 qd3 d0 d1 d2 d3 x0 x1 x2 x3 y0 y1 hbw
  refine ⟨_, rfl, regrown_of_below HBw11.out, ?_⟩
  refine ⟨by kernel_rfl, ?_⟩
  simp only [List.drop_succ_cons, List.drop_zero, Act.put, List.setIfInBounds_toArray, List.set_cons_zero, List.set_cons_succ]
  have s11 : w10.heap.size ≤ w11.heap.size := HBw11.out.size
  have b911 : Hid (Below w9.heap.size w9 w11) := b910.out.trans (HBw11.out.mono s10)
  have b611 : Hid (Below w6.heap.size w6 w11) := (bW8.out.trans (b89.out.mono (by omega))).trans (b911.out.mono (by omega))
  go_wp2_with fail
  refine (eqPlant_any w6.heap.size w11.heap.size _ _ _ _ p0 p1 p2 p3 D _ (HP2.out.kept b611.out (Nat.le_refl _)) HP3.out (by omega) (Nat.le_refl _)).mono ?_; rintro e w12 ⟨rfl, hb12⟩
  have s12 : w11.heap.size ≤ w12.heap.size := hb12.size
  have b912 : Hid (Below w9.heap.size w9 w12) := b911.out.trans (hb12.mono (by omega))
  have k12 : Hid (Below (w.heap.size + 1 + 1) W w12) := k9.out.trans (b912.out.mono (by omega))
  have t12 : w.heap.size + 1 + 1 ≤ w12.heap.size := by omega
  have X612 : Hid (w12.heap[w6.heap.size]? = some (.cells #[sl g0 D.ns, sl g1 D.nf, sl g2 D.np, sl g3 D.nv] 37 (0, 0))) := (b912.out.block _ (by omega)).trans ((b89.out.block _ (by omega)).trans X68.out)
  have X812 : Hid (w12.heap[w7.heap.size]? = some (.cells #[sl h0 m, sl h1 k] 39 (0, 0))) := (b912.out.block _ (by omega)).trans ((b89.out.block _ (by omega)).trans X8.out)
  clear hb12 HP3 HBw11
  obtain ⟨f0, _⟩ := cell_row X812.out 0 _ rfl
  obtain ⟨f1, _⟩ := cell_row X812.out 1 _ rfl
  simp only [List.getElem_toArray, List.getElem_cons_zero, List.getElem_cons_succ] at f0 f1
  obtain ⟨⟨⟨x0, x1, x2, x3⟩, y0, y1⟩, hbw⟩ := bx.out w12 k12.out
  have qy0 := fun d os => cell_regrown y0 d os
  have qy1 := fun d os => cell_regrown y1 d os
  have qf0 := fun d os => cell_regrown f0 d os
  have qf1 := fun d os => cell_regrown f1 d os
  go_wp2_with fail
  have hdr_w12 : Hid (Below w12.heap.size w12 w12.drew) := (Below.refl _ _).drew
  refine wp_region_mix 3 [0, 1] (by kernel_rfl) (by kernel_rfl) ?_
  simp only [List.filterMap_cons, List.filterMap_nil, List.getElem?_cons_succ, List.getElem?_cons_zero]
  repeat (first | go_big_quiet_step (fail) | quiet_step (fail))
  refine wpQuiet_nil ?_
  refine call1 (md := .any) (f := 0) (i := 2) (dc := 47) (fn := 8) ⟨rfl, rfl, rfl, by decide⟩ (by kernel_rfl) ?run ((ROUTE.out w12.drew (k12.out.trans (hdr_w12.out.mono t12))).mono ?_)
  case run => go_simp
  rintro e w13 ⟨r0, r1, rfl, R3, hbw13⟩
  have HBw13 : Hid (Below w12.heap.size w12 w13) := hdr_w12.out.trans hbw13
  have HR3 : Hid (RAt w13.heap.size w13 (sl r0 m) (sl r1 k) m P k Q) := R3
  clear R3 hbw13 qy0 qy1 qf0 qf1 f0 f1 x0 x1 x2 x3 y0 y1 hbw
  refine ⟨_, rfl, regrown_of_below HBw13.out, ?_⟩
  refine ⟨by kernel_rfl, ?_⟩
  simp only [List.drop_succ_cons, List.drop_zero, Act.put, List.setIfInBounds_toArray, List.set_cons_zero, List.set_cons_succ]
  have s13 : w12.heap.size ≤ w13.heap.size := HBw13.out.size
  have b913 : Hid (Below w9.heap.size w9 w13) := b912.out.trans (HBw13.out.mono (by omega))
  have b713 : Hid (Below w7.heap.size w7 w13) := (b8.out.trans (b89.out.mono (by omega))).trans (b913.out.mono (by omega))
  go_wp2_with fail
  refine (eqRoute_any w7.heap.size w13.heap.size _ _ _ _ m k P Q _ (HR2.out.kept b713.out (Nat.le_refl _)) HR3.out (by omega) (Nat.le_refl _)).mono ?_; rintro e w14 ⟨rfl, hb14⟩
  have s14 : w13.heap.size ≤ w14.heap.size := hb14.size
  have b914 : Hid (Below w9.heap.size w9 w14) := b913.out.trans (hb14.mono (by omega))
  have b614 : Hid (Below w6.heap.size w6 w14) := (bW8.out.trans (b89.out.mono (by omega))).trans (b914.out.mono (by omega))
  have b714 : Hid (Below w7.heap.size w7 w14) := b713.out.trans (hb14.mono (by omega))
  have k14 : Hid (Below (w.heap.size + 1 + 1) W w14) := k9.out.trans (b914.out.mono (by omega))
  have X614 : Hid (w14.heap[w6.heap.size]? = some (.cells #[sl g0 D.ns, sl g1 D.nf, sl g2 D.np, sl g3 D.nv] 37 (0, 0))) := (b914.out.block _ (by omega)).trans ((b89.out.block _ (by omega)).trans X68.out)
  have X814 : Hid (w14.heap[w7.heap.size]? = some (.cells #[sl h0 m, sl h1 k] 39 (0, 0))) := (b914.out.block _ (by omega)).trans ((b89.out.block _ (by omega)).trans X8.out)
  have OW14 : Hid (w14.ownsRow w8.heap.size 9 1 u1 LL.length (LL.map .string)) := own_belowR OW1.out b914.out
  have L14 : Hid (Lst w5.heap.size w14 u0 LL.length 1 (cS (nthB LL))) := L9.out.kept b914.out (by omega)
  clear hb14 HR3 HBw13
  obtain ⟨d0, _⟩ := cell_row X614.out 0 _ rfl
  obtain ⟨d1, _⟩ := cell_row X614.out 1 _ rfl
  obtain ⟨d2, _⟩ := cell_row X614.out 2 _ rfl
  obtain ⟨d3, _⟩ := cell_row X614.out 3 _ rfl
  simp only [List.getElem_toArray, List.getElem_cons_zero, List.getElem_cons_succ] at d0 d1 d2 d3
  have pb14 : Hid (PBlk w5.heap.size w6.heap.size w14 g0 g1 g2 g3 D) := ⟨HPB.out.a, HPB.out.s.kept b614.out (Nat.le_refl _), HPB.out.f.kept b614.out (Nat.le_refl _), HPB.out.p.kept b614.out (Nat.le_refl _), HPB.out.v.kept b614.out (Nat.le_refl _)⟩
  go_wp2_with fail
  refine (markPlant_le w5.heap.size w6.heap.size g0 g1 g2 g3 D _ pb14.out (by omega) s6 HM.out).mono ?_; rintro e w15 ⟨kk, rfl, ⟨hkk1, hkk2⟩, o15⟩
  have O15 : Hid (Outs w5.heap.size w6.heap.size w14 w15) := o15
  have s15 : w14.heap.size ≤ w15.heap.size := o15.bel.size
  have X815 : Hid (w15.heap[w7.heap.size]? = some (.cells #[sl h0 m, sl h1 k] 39 (0, 0))) := (o15.out _ (by omega) (by omega)).trans X814.out
  have rb0 : Hid (Blk w7.heap.size w15 h0 9 m) := (HRB0.out.kept b714.out (Nat.le_refl _)).outs o15
  have rb1 : Hid (Blk w7.heap.size w15 h1 9 k) := (HRB1.out.kept b714.out (Nat.le_refl _)).outs o15
  clear o15 d0 d1 d2 d3
  obtain ⟨f0, _⟩ := cell_row X815.out 0 _ rfl
  obtain ⟨f1, _⟩ := cell_row X815.out 1 _ rfl
  simp only [List.getElem_toArray, List.getElem_cons_zero, List.getElem_cons_succ] at f0 f1
  go_wp2_with fail
  refine (markRoute_any w6a.heap.size w7.heap.size h0 h1 m k kk _ ha0 ha1 rb0.out rb1.out (by omega) hm hk hkk1 (by omega)).mono ?_; rintro e w16 ⟨kj, rfl, ⟨hkj1, hkj2⟩, o16⟩
  have O16 : Hid (Outs w6a.heap.size w7.heap.size w15 w16) := o16
  have s16 : w15.heap.size ≤ w16.heap.size := o16.bel.size
  clear o16 f0 f1
  have OW16 : Hid (w16.ownsRow w8.heap.size 9 1 u1 LL.length (LL.map .string)) := own_outs (own_outs OW14.out O15.out (by omega)) O16.out (by omega)
  have L16 : Hid (Lst w5.heap.size w16 u0 LL.length 1 (cS (nthB LL))) := (L14.out.kept O15.out.bel (Nat.le_refl _)).kept O16.out.bel (by omega)
  have k16 : Hid (Below (w.heap.size + 1 + 1) W w16) := (k14.out.trans (O15.out.bel.mono s5)).trans (O16.out.bel.mono (by omega))
  have dkj : decide (kj < 0) = false := by simp; omega
  go_wp2_with fail
  refine (eqS_lst w16.heap.size w5.heap.size u1 u0 LL.length (nthB LL) _ (own_lst OW16.out hlen) L16.out (Nat.le_refl _) (by omega)).mono ?_; rintro e w17 ⟨rfl, hb17⟩
  have s17 : w16.heap.size ≤ w17.heap.size := hb17.size
  have HB17 : Hid (Below w16.heap.size w16 w17) := hb17
  clear hb17
  go_wp2_with fail
  refine (mark_own w8.heap.size u1 LL.length _ _ hlen (own_belowR OW16.out HB17.out)).mono ?_; rintro e w18 ⟨rfl, hb18, hl18⟩
  have s18 : w17.heap.size ≤ w18.heap.size := hb18.size
  have HB18 : Hid (Below w8.heap.size w17 w18) := hb18
  have L18 : Hid (Lst w18.heap.size w18 u1 LL.length 1 (cS (mkF 1))) := hl18
  clear hb18 hl18
  have k18 : Hid (Below (w.heap.size + 1 + 1) W w18) := (k16.out.trans (HB17.out.mono (by omega))).trans (HB18.out.mono (by omega))
  have M18 : Hid (Lst w5.heap.size w18 u0 LL.length 1 (cS (nthB LL))) := (L16.out.kept HB17.out (by omega)).kept HB18.out (by omega)
  go_wp2_with fail
  refine (heldS_lst w18.heap.size u1 LL.length 1 _ L18.out (Nat.le_refl _) (by omega) (by omega)).mono ?_; rintro e w19 ⟨rfl, hb19⟩
  have s19 : w18.heap.size ≤ w19.heap.size := hb19.size
  have HB19 : Hid (Below w18.heap.size w18 w19) := hb19
  have k19 : Hid (Below (w.heap.size + 1 + 1) W w19) := k18.out.trans (hb19.mono (by omega))
  have t19 : w.heap.size + 1 + 1 ≤ w19.heap.size := by omega
  clear hb19
  obtain ⟨⟨⟨x0, x1, x2, x3⟩, y0, y1⟩, hbw⟩ := bx.out w19 k19.out
  have qx0 := fun d os => cell_regrown x0 d os
  have qx1 := fun d os => cell_regrown x1 d os
  have qx2 := fun d os => cell_regrown x2 d os
  have qx3 := fun d os => cell_regrown x3 d os
  have qy0 := fun d os => cell_regrown y0 d os
  have qy1 := fun d os => cell_regrown y1 d os
  go_wp2_with fail
  have hdr_w19 : Hid (Below w19.heap.size w19 w19.drew) := (Below.refl _ _).drew
  refine wp_region_mix 4 [0, 2] (by kernel_rfl) (by kernel_rfl) ?_
  simp only [List.filterMap_cons, List.filterMap_nil, List.getElem?_cons_succ, List.getElem?_cons_zero]
  repeat (first | go_big_quiet_step (fail) | quiet_step (fail))
  refine wpQuiet_nil ?_
  clear qx0 qx1 qx2 qx3 qy0 qy1 x0 x1 x2 x3 y0 y1 hbw
  refine call1 (md := .any) (f := 1) (i := 1) (dc := 76) (fn := 7) ⟨rfl, rfl, rfl, by decide⟩ (by kernel_rfl) ?run ((MODEL.out w19.drew (k19.out.trans (hdr_w19.out.mono t19))).mono ?_)
  case run => go_simp
  rintro e w20 ⟨p0, p1, p2, p3, rfl, P1, hbw20⟩
  have HBw20 : Hid (Below w19.heap.size w19 w20) := hdr_w19.out.trans hbw20
  have HP1 : Hid (PAt w20.heap.size w20 p0 p1 p2 p3 D) := P1
  refine ⟨_, rfl, regrown_of_below HBw20.out, ?_⟩
  clear P1 hbw20
  simp only [Act.put, List.setIfInBounds_toArray]
  refine call1 (md := .any) (f := 0) (i := 3) (dc := 78) (fn := 8) ⟨rfl, rfl, rfl, by decide⟩ (by kernel_rfl) ?run ((ROUTE.out w20 (k19.out.trans (HBw20.out.mono t19))).mono ?_)
  case run => go_simp
  rintro e w21 ⟨r0, r1, rfl, R1, hbw21⟩
  have HBw21 : Hid (Below w19.heap.size w19 w21) := HBw20.out.trans (hbw21.mono HBw20.out.size)
  have HR1 : Hid (RAt w21.heap.size w21 (sl r0 m) (sl r1 k) m P k Q) := R1
  have HP2 : Hid (PAt w21.heap.size w21 p0 p1 p2 p3 D) := (HP1.out.kept hbw21 (Nat.le_refl _)).up hbw21.size
  refine ⟨_, rfl, regrown_of_below HBw21.out, ?_⟩
  clear R1 hbw21 HP1
  refine ⟨by kernel_rfl, ?_⟩
  simp only [List.drop_succ_cons, List.drop_zero, Act.put, List.setIfInBounds_toArray, List.set_cons_zero, List.set_cons_succ]
  have s21 : w19.heap.size ≤ w21.heap.size := HBw21.out.size
  go_wp2_with fail
  refine (guardsI_any w21.heap.size p0 p1 p2 p3 D _ _ m k m k P Q _ HP2.out HR1.out.p HR1.out.v (Nat.le_refl _) (Nat.le_refl _) hz.sz hnv).mono ?_; rintro e w22 ⟨u2, b2, rfl, i2, ow2, hb22⟩
  have hb2e : b2 = bi := bool_same (i2.trans (RI_RS D m P k Q)) IS.out
  rw [hb2e, HLL.out] at ow2
  clear i2 hb2e
  have s22 : w21.heap.size ≤ w22.heap.size := hb22.size
  have OW2 : Hid (w22.ownsRow w21.heap.size 9 1 u2 LL.length (LL.map .string)) := ow2
  have b1822 : Hid (Below w18.heap.size w18 w22) := (HB19.out.trans (HBw21.out.mono s19)).trans (hb22.mono (by omega))
  have M22 : Hid (Lst w5.heap.size w22 u0 LL.length 1 (cS (nthB LL))) := M18.out.kept b1822.out (by omega)
  clear ow2 hb22
  go_wp2_with fail
  refine (eqS_lst w22.heap.size w5.heap.size u2 u0 LL.length (nthB LL) _ (own_lst OW2.out hlen) M22.out (Nat.le_refl _) (by omega)).mono ?_; rintro e w23 ⟨rfl, hb23⟩
  have s23 : w22.heap.size ≤ w23.heap.size := hb23.size
  have b1823 : Hid (Below w18.heap.size w18 w23) := b1822.out.trans (hb23.mono (by omega))
  clear hb23
  go_wp2_with fail
  refine (heldS_lst w18.heap.size u1 LL.length 1 _ (L18.out.kept b1823.out (Nat.le_refl _)) (by omega) (by omega) (by omega)).mono ?_; rintro e w24 ⟨rfl, hb24⟩
  have k24 : Hid (Below (w.heap.size + 1 + 1) W w24) := (k18.out.trans (b1823.out.mono (by omega))).trans (hb24.mono (by omega))
  clear hb24
  go_wp2_with fail
  go_ret
  exact ⟨rfl, (bx.out _ k24.out).2⟩

end Go.Proofs.Ytciembgenlcogab
