/-
  The law FnExactCtlJobAsks, walked: whatever the plant and the job, the call returns true, and nothing that was there before has turned.
-/
import Derived.Test.YtndacfockllehaaGreatM46
import Derived.Test.YtndacfockllehaaGreatM48
import Derived.Test.YtndacfockllehaaGreatM49
import Derived.Test.YtndacfockllehaaGreatM11
namespace Go.Proofs.YtndacfockllehaaGreat
open Go.RowKit

open Go.Sort in
set_option maxRecDepth 100000 in
set_option maxHeartbeats 16000000 in
theorem lawJq_any (B : Nat) (v0 v1 v2 v3' : Value) (D : PD) (num kind am st mv : Int) (dn : Bool) (vp vv v3 v4 v7 : Value) (m k n3 n4 n7 : Nat) (P Q f3 f4 f7 : Nat → ByteArray) (w : World) (h : PAt B w v0 v1 v2 v3' D) (hj : JAt B w vp vv v3 v4 v7 m P k Q n3 f3 n4 f4 n7 f7) (hB : B ≤ w.heap.size) (hz : D.All) (hjz : JZ m P k Q n3 f3 n4 f4 n7 f7) (hn : OkI num) (hd : OkI kind) (ha : OkI am) :
    Calls Tryz.prog 3 #[.agg #[v0, v1, v2, v3'], .agg #[.int .i64 num, .int .i64 kind, vp, vv, v3, v4, .int .i64 am, .int .i64 st, v7, .int .i64 mv, .bool dn]] w fun e w' => e = .returned (.bool true) ∧ Below w.heap.size w w' := by
  have H : Hid (∀ w', Below w.heap.size w w' → PAt B w' v0 v1 v2 v3' D ∧ JAt B w' vp vv v3 v4 v7 m P k Q n3 f3 n4 f4 n7 f7) := fun w' hb => ⟨h.kept hb hB, hj.kept hb hB⟩
  have HZ : Hid (JZ m P k Q n3 f3 n4 f4 n7 f7) := hjz
  have HSL : Hid (D.V → (stnL D).length ≤ 1048576) := fun hv => by have a1 := stnL_len D; have a2 : D.np ≤ 14 := hv.2.1.1; have a3 : D.nv ≤ 18 := hv.2.2.1; omega
  clear h hj hjz
  obtain ⟨W, hW⟩ : ∃ W, W = (w.alloc (.cells #[v0, v1, v2, v3'] 27)).alloc (.cells #[.int .i64 num, .int .i64 kind, vp, vv, v3, v4, .int .i64 am, .int .i64 st, v7, .int .i64 mv, .bool dn] 31) := ⟨_, rfl⟩
  have kW : Hid (Below (w.heap.size + 1 + 1) W W) := Below.refl _ _
  have sW : W.heap.size ≤ w.heap.size + 1 + 1 ∧ w.heap.size + 1 + 1 ≤ W.heap.size := by rw [hW]; simp
  have eW : Hid (W = (w.alloc (.cells #[v0, v1, v2, v3'] 27)).alloc (.cells #[.int .i64 num, .int .i64 kind, vp, vv, v3, v4, .int .i64 am, .int .i64 st, v7, .int .i64 mv, .bool dn] 31)) := hW
  have bx : Hid (∀ wr, Below (w.heap.size + 1 + 1) W wr → ((wr.cell? ⟨w.heap.size, 0, none⟩ = some v0 ∧ wr.cell? ⟨w.heap.size, 1, none⟩ = some v1 ∧ wr.cell? ⟨w.heap.size, 2, none⟩ = some v2 ∧ wr.cell? ⟨w.heap.size, 3, none⟩ = some v3') ∧ wr.cell? ⟨w.heap.size + 1, 0, none⟩ = some (.int .i64 num) ∧ wr.cell? ⟨w.heap.size + 1, 1, none⟩ = some (.int .i64 kind) ∧ wr.cell? ⟨w.heap.size + 1, 2, none⟩ = some (vp) ∧ wr.cell? ⟨w.heap.size + 1, 3, none⟩ = some (vv) ∧ wr.cell? ⟨w.heap.size + 1, 4, none⟩ = some (v3) ∧ wr.cell? ⟨w.heap.size + 1, 5, none⟩ = some (v4) ∧ wr.cell? ⟨w.heap.size + 1, 6, none⟩ = some (.int .i64 am) ∧ wr.cell? ⟨w.heap.size + 1, 7, none⟩ = some (.int .i64 st) ∧ wr.cell? ⟨w.heap.size + 1, 8, none⟩ = some (v7) ∧ wr.cell? ⟨w.heap.size + 1, 9, none⟩ = some (.int .i64 mv) ∧ wr.cell? ⟨w.heap.size + 1, 10, none⟩ = some (.bool dn)) ∧ Below w.heap.size w wr) := fun wr hb => by
    rw [hW] at hb
    obtain ⟨h1, h2⟩ := two_box hb
    exact ⟨⟨⟨h1 0 _ rfl, h1 1 _ rfl, h1 2 _ rfl, h1 3 _ rfl⟩, h2 0 _ rfl, h2 1 _ rfl, h2 2 _ rfl, h2 3 _ rfl, h2 4 _ rfl, h2 5 _ rfl, h2 6 _ rfl, h2 7 _ rfl, h2 8 _ rfl, h2 9 _ rfl, h2 10 _ rfl⟩, two_end hb⟩
  clear hW
  go_enter Tryz.func3, Tryz.ntmps3
  go_upto_region 1 with fail
  rw [← eW.out]
  obtain ⟨⟨⟨x0, x1, x2, x3⟩, y0, y1, y2, y3, y4, y5, y6, y7, y8, y9, y10⟩, hbw⟩ := bx.out W kW.out
  go_wp2_with fail
  refine (szPlant_le B v0 v1 v2 v3' D _ (H.out W hbw).1 (Nat.le_trans hB hbw.size) hz).mono ?_; rintro e w1 ⟨s1, rfl, hn1, hsm1, hb1⟩
  have k1 : Hid (Below (w.heap.size + 1 + 1) W w1) := kW.out.trans (hb1.mono (by omega))
  have HS1 : Hid _ := hsm1
  clear hsm1 hb1 hbw x0 x1 x2 x3 y0 y1 y2 y3 y4 y5 y6 y7 y8 y9 y10
  by_cases hg1 : s1 < 0
  · go_wp2_with fail
    go_ret
    exact ⟨rfl, (bx.out _ k1.out).2⟩
  obtain ⟨⟨⟨x0, x1, x2, x3⟩, y0, y1, y2, y3, y4, y5, y6, y7, y8, y9, y10⟩, hbw⟩ := bx.out w1 k1.out
  have z1 : w.heap.size + 1 + 1 ≤ w1.heap.size := by have := k1.out.size; omega
  go_wp2_with fail
  refine (szJob_any B num kind am st mv dn vp vv v3 v4 v7 m k n3 n4 n7 P Q f3 f4 f7 s1 _ (H.out w1 hbw).2 (Nat.le_trans hB hbw.size) HZ.out (by omega) hn1).mono ?_; rintro e w2 ⟨s2, rfl, hn2, hsm2, hb2⟩
  have k2 : Hid (Below (w.heap.size + 1 + 1) W w2) := k1.out.trans (hb2.mono z1)
  have HS2 : Hid _ := hsm2
  clear hsm2 hb2 hbw x0 x1 x2 x3 y0 y1 y2 y3 y4 y5 y6 y7 y8 y9 y10
  by_cases hg2 : s2 < 0
  · go_wp2_with fail
    go_ret
    exact ⟨rfl, (bx.out _ k2.out).2⟩
  have HM : Hid (D.ns ≤ 1048576 ∧ D.nf ≤ 1048576 ∧ D.np ≤ 1048576 ∧ D.nv ≤ 1048576) := HS1.out (by omega)
  obtain ⟨hjm, hzt⟩ := HS2.out (by omega)
  have HJM : Hid (JM m k n3 n4 n7) := hjm
  have HZT : Hid (∀ x ∈ ((List.range n4).map f4), x.size ≤ 1048576) := fun x hx => by
    obtain ⟨i, hi, rfl⟩ := List.mem_map.1 hx
    exact hzt i (List.mem_range.1 hi)
  have HTL : Hid ((((List.range n4).map f4)).length ≤ 1048576) := by have := hjm.b; show _ ≤ _; simp; omega
  clear hzt hjm
  have z2 : w.heap.size + 1 + 1 ≤ w2.heap.size := by have := k2.out.size; omega
  have MODEL : Hid (∀ (wr : World), Below (w.heap.size + 1 + 1) W wr → Calls Tryz.prog 7 #[.agg #[v0, v1, v2, v3']] wr fun e w' => ∃ u0 u1 u2 u3, e = .returned (.agg #[u0, u1, u2, u3]) ∧ PAt w'.heap.size w' u0 u1 u2 u3 D ∧ Below wr.heap.size wr w') := fun wr hb => toPlant_any B v0 v1 v2 v3' D wr (H.out wr (bx.out wr hb).2).1 (Nat.le_trans hB (bx.out wr hb).2.size) HM.out
  have JOB : Hid (∀ (wr : World), Below (w.heap.size + 1 + 1) W wr → Calls Tryz.prog 8 #[.agg #[.int .i64 num, .int .i64 kind, vp, vv, v3, v4, .int .i64 am, .int .i64 st, v7, .int .i64 mv, .bool dn]] wr fun e w' => ∃ g0 g1 g3 g4 g7, e = .returned (.agg #[.int .i64 num, .int .i64 kind, sl g0 m, sl g1 k, sl g3 n3, sl g4 n4, .int .i64 am, .int .i64 st, sl g7 n7, .int .i64 mv, .bool dn]) ∧ JAt w'.heap.size w' (sl g0 m) (sl g1 k) (sl g3 n3) (sl g4 n4) (sl g7 n7) m P k Q n3 f3 n4 f4 n7 f7 ∧ JBlk wr.heap.size w'.heap.size w' g0 g1 g3 g4 g7 m k n3 n4 n7 ∧ Below wr.heap.size wr w') := fun wr hb => toJob_blk B num kind am st mv dn vp vv v3 v4 v7 m k n3 n4 n7 P Q f3 f4 f7 wr (H.out wr (bx.out wr hb).2).2 (Nat.le_trans hB (bx.out wr hb).2.size) HJM.out
  obtain ⟨⟨⟨x0, x1, x2, x3⟩, y0, y1, y2, y3, y4, y5, y6, y7, y8, y9, y10⟩, hbw⟩ := bx.out w2 k2.out
  have qx0 := fun d os => cell_regrown x0 d os
  have qx1 := fun d os => cell_regrown x1 d os
  have qx2 := fun d os => cell_regrown x2 d os
  have qx3 := fun d os => cell_regrown x3 d os
  have qy0 := fun d os => cell_regrown y0 d os
  have qy1 := fun d os => cell_regrown y1 d os
  have qy2 := fun d os => cell_regrown y2 d os
  have qy3 := fun d os => cell_regrown y3 d os
  have qy4 := fun d os => cell_regrown y4 d os
  have qy5 := fun d os => cell_regrown y5 d os
  have qy6 := fun d os => cell_regrown y6 d os
  have qy7 := fun d os => cell_regrown y7 d os
  have qy8 := fun d os => cell_regrown y8 d os
  have qy9 := fun d os => cell_regrown y9 d os
  have qy10 := fun d os => cell_regrown y10 d os
  go_wp2_with fail
  have hdr_w2 : Hid (Below w2.heap.size w2 w2.drew) := (Below.refl _ _).drew
  refine wp_region_mix 4 [0, 2] (by kernel_rfl) (by kernel_rfl) ?_
  simp only [List.filterMap_cons, List.filterMap_nil, List.getElem?_cons_succ, List.getElem?_cons_zero]
  repeat (first | go_big_quiet_step (fail) | quiet_step (fail))
  refine wpQuiet_nil ?_
  clear qx0 qx1 qx2 qx3 qy0 qy1 qy2 qy3 qy4 qy5 qy6 qy7 qy8 qy9 qy10 x0 x1 x2 x3 y0 y1 y2 y3 y4 y5 y6 y7 y8 y9 y10 hbw
  refine call1 (md := .any) (f := 1) (i := 1) (dc := 25) (fn := 7) ⟨rfl, rfl, rfl, by decide⟩ (by kernel_rfl) ?run ((MODEL.out w2.drew (k2.out.trans (hdr_w2.out.mono z2))).mono ?_)
  case run => go_simp
  rintro e w3 ⟨p0, p1, p2, p3, rfl, P1, hbw3⟩
  have HB1 : Hid (Below w2.heap.size w2 w3) := hdr_w2.out.trans hbw3
  have HP1 : Hid (PAt w3.heap.size w3 p0 p1 p2 p3 D) := P1
  refine ⟨_, rfl, regrown_of_below HB1.out, ?_⟩
  clear P1 hbw3
  simp only [Act.put, List.setIfInBounds_toArray, List.set_cons_zero, List.set_cons_succ]
  refine call1 (md := .any) (f := 0) (i := 3) (dc := 27) (fn := 8) ⟨rfl, rfl, rfl, by decide⟩ (by kernel_rfl) ?run ((JOB.out w3 (k2.out.trans (HB1.out.mono z2))).mono ?_)
  case run => go_simp
  rintro e w4 ⟨r0, r1, r3, r4, r7, rfl, R1, _, hbw4⟩
  have HB2 : Hid (Below w2.heap.size w2 w4) := HB1.out.trans (hbw4.mono HB1.out.size)
  have HR1 : Hid (JAt w4.heap.size w4 (sl r0 m) (sl r1 k) (sl r3 n3) (sl r4 n4) (sl r7 n7) m P k Q n3 f3 n4 f4 n7 f7) := R1
  have HPc : Hid (PAt w4.heap.size w4 p0 p1 p2 p3 D) := (HP1.out.kept hbw4 (Nat.le_refl _)).up hbw4.size
  refine ⟨_, rfl, regrown_of_below HB2.out, ?_⟩
  clear R1 hbw4 HP1
  refine ⟨by kernel_rfl, ?_⟩
  simp only [List.drop_succ_cons, List.drop_zero, Act.put, List.setIfInBounds_toArray, List.set_cons_zero, List.set_cons_succ]
  have z4 : w2.heap.size ≤ w4.heap.size := HB2.out.size
  have kw4 : Hid (Below (w.heap.size + 1 + 1) W w4) := k2.out.trans (HB2.out.mono z2)
  go_wp2_with fail
  refine (jobAsksS_any w4.heap.size (fun b => b < w4.heap.size) p0 p1 p2 p3 D num kind am st mv dn _ _ m k m k P Q ((List.range n4).map f4) ((List.range n3).map f3) _ _ _ _ HPc.out HR1.out.r.p HR1.out.r.v (Nat.le_refl _) hz.sz (Nat.le_refl _) HJM.out.p HJM.out.q HZ.out.p HZ.out.q (at_lst HR1.out.b HZ.out.b) (at_lst HR1.out.a HZ.out.a) (fun _ h => h) HTL.out hn hd ha HSL.out).mono ?_; rintro e w5 ⟨⟨u0, q, rfl, is, on0⟩, hb5⟩
  have IS : Hid (JaIs D num kind am m P k Q ((List.range n4).map f4) ((List.range n3).map f3) q) := is
  have CN : Hid (cntL q ≤ 40000000) := ja_cnt is HTL.out
  have k5 : Hid (Below (w.heap.size + 1 + 1) W w5) := kw4.out.trans (hb5.mono (by omega))
  have ON0 : Hid (OnL (fun b => w4.heap.size ≤ b ∧ b < w5.heap.size) w5 q u0) := on0
  have z45 := hb5.size
  clear is on0 hb5 HPc HR1 HB1 HB2 kw4 k2
  have z5 : w.heap.size + 1 + 1 ≤ w5.heap.size := by have := k5.out.size; omega
  obtain ⟨⟨⟨x0, x1, x2, x3⟩, y0, y1, y2, y3, y4, y5, y6, y7, y8, y9, y10⟩, hbw⟩ := bx.out w5 k5.out
  go_wp2_with fail
  refine (toPlant_blk B v0 v1 v2 v3' D _ (H.out w5 hbw).1 (Nat.le_trans hB hbw.size) HM.out).mono ?_; rintro e w6 ⟨g0, g1, g2, g3, rfl, P2, PB0, hb6⟩
  have HP2 : Hid (PAt w6.heap.size w6 (sl g0 D.ns) (sl g1 D.nf) (sl g2 D.np) (sl g3 D.nv) D) := P2
  have HPB : Hid (PBlk w5.heap.size w6.heap.size w6 g0 g1 g2 g3 D) := PB0
  have z6 : w5.heap.size ≤ w6.heap.size := hb6.size
  obtain ⟨w6a, hw6a⟩ : ∃ u, u = w6.alloc (.cells #[sl g0 D.ns, sl g1 D.nf, sl g2 D.np, sl g3 D.nv] 40) := ⟨_, rfl⟩
  have HW6 : Hid (w6a = w6.alloc (.cells #[sl g0 D.ns, sl g1 D.nf, sl g2 D.np, sl g3 D.nv] 40)) := hw6a
  have b6 : Hid (Below w6.heap.size w6 w6a) := by rw [hw6a]; exact (Below.refl _ _).alloc (Nat.le_refl _) _
  have X6 : Hid (w6a.heap[w6.heap.size]? = some (.cells #[sl g0 D.ns, sl g1 D.nf, sl g2 D.np, sl g3 D.nv] 40 (0, 0))) := by rw [hw6a]; exact heap_alloc_new w6 _
  have z6a : w6a.heap.size ≤ w6.heap.size + 1 ∧ w6.heap.size + 1 ≤ w6a.heap.size := by rw [hw6a]; simp
  have k6a : Hid (Below (w.heap.size + 1 + 1) W w6a) := (k5.out.trans (hb6.mono z5)).trans (b6.out.mono (by omega))
  have b5 : Hid (Below w5.heap.size w5 w6a) := hb6.trans (b6.out.mono z6)
  clear hw6a P2 PB0 hb6 hbw x0 x1 x2 x3 y0 y1 y2 y3 y4 y5 y6 y7 y8 y9 y10
  go_upto_region 10 with fail
  rw [← HW6.out]
  obtain ⟨⟨⟨x0, x1, x2, x3⟩, y0, y1, y2, y3, y4, y5, y6, y7, y8, y9, y10⟩, hbw⟩ := bx.out w6a k6a.out
  go_wp2_with fail
  refine (JOB.out w6a k6a.out).mono ?_; rintro e w7 ⟨h0, h1, h3, h4, h7, rfl, R2, RB, hb7⟩
  have HR2 : Hid (JAt w7.heap.size w7 (sl h0 m) (sl h1 k) (sl h3 n3) (sl h4 n4) (sl h7 n7) m P k Q n3 f3 n4 f4 n7 f7) := R2
  have HRB : Hid (JBlk w6a.heap.size w7.heap.size w7 h0 h1 h3 h4 h7 m k n3 n4 n7) := RB
  have z7 : w6a.heap.size ≤ w7.heap.size := hb7.size
  obtain ⟨w8, hw8⟩ : ∃ u, u = w7.alloc (.cells #[.int .i64 num, .int .i64 kind, sl h0 m, sl h1 k, sl h3 n3, sl h4 n4, .int .i64 am, .int .i64 st, sl h7 n7, .int .i64 mv, .bool dn] 44) := ⟨_, rfl⟩
  have HW8 : Hid (w8 = w7.alloc (.cells #[.int .i64 num, .int .i64 kind, sl h0 m, sl h1 k, sl h3 n3, sl h4 n4, .int .i64 am, .int .i64 st, sl h7 n7, .int .i64 mv, .bool dn] 44)) := hw8
  have b8 : Hid (Below w7.heap.size w7 w8) := by rw [hw8]; exact (Below.refl _ _).alloc (Nat.le_refl _) _
  have X8 : Hid (w8.heap[w7.heap.size]? = some (.cells #[.int .i64 num, .int .i64 kind, sl h0 m, sl h1 k, sl h3 n3, sl h4 n4, .int .i64 am, .int .i64 st, sl h7 n7, .int .i64 mv, .bool dn] 44 (0, 0))) := by rw [hw8]; exact heap_alloc_new w7 _
  have z8 : w8.heap.size ≤ w7.heap.size + 1 ∧ w7.heap.size + 1 ≤ w8.heap.size := by rw [hw8]; simp
  have X68 : Hid (w8.heap[w6.heap.size]? = some (.cells #[sl g0 D.ns, sl g1 D.nf, sl g2 D.np, sl g3 D.nv] 40 (0, 0))) := (b8.out.block _ (by omega)).trans ((hb7.block _ (by omega)).trans X6.out)
  have b78 : Hid (Below w6a.heap.size w6a w8) := hb7.trans (b8.out.mono z7)
  have k8 : Hid (Below (w.heap.size + 1 + 1) W w8) := k6a.out.trans (b78.out.mono (by omega))
  clear hw8 R2 RB hb7 hbw x0 x1 x2 x3 y0 y1 y2 y3 y4 y5 y6 y7 y8 y9 y10
  go_upto_region 11 with fail
  rw [← HW8.out]
  have d0 := (cell_row X68.out 0 (sl g0 D.ns) rfl).1
  have d1 := (cell_row X68.out 1 (sl g1 D.nf) rfl).1
  have d2 := (cell_row X68.out 2 (sl g2 D.np) rfl).1
  have d3 := (cell_row X68.out 3 (sl g3 D.nv) rfl).1
  have f_0 := (cell_row X8.out 0 (.int .i64 num) rfl).1
  have f_1 := (cell_row X8.out 1 (.int .i64 kind) rfl).1
  have f_2 := (cell_row X8.out 2 (sl h0 m) rfl).1
  have f_3 := (cell_row X8.out 3 (sl h1 k) rfl).1
  have f_4 := (cell_row X8.out 4 (sl h3 n3) rfl).1
  have f_5 := (cell_row X8.out 5 (sl h4 n4) rfl).1
  have f_6 := (cell_row X8.out 6 (.int .i64 am) rfl).1
  have f_7 := (cell_row X8.out 7 (.int .i64 st) rfl).1
  have f_8 := (cell_row X8.out 8 (sl h7 n7) rfl).1
  have f_9 := (cell_row X8.out 9 (.int .i64 mv) rfl).1
  have f_10 := (cell_row X8.out 10 (.bool dn) rfl).1
  have bW8 : Hid (Below w6.heap.size w6 w8) := b6.out.trans (b78.out.mono (by omega))
  go_wp2_with fail
  refine (jobAsksI_any w8.heap.size (fun b => b < w8.heap.size) _ _ _ _ D num kind am st mv dn _ _ m k m k P Q ((List.range n4).map f4) ((List.range n3).map f3) _ _ _ _ ((HP2.out.kept bW8.out (Nat.le_refl _)).up (by omega)) ((HR2.out.kept b8.out (Nat.le_refl _)).up (by omega)).r.p ((HR2.out.kept b8.out (Nat.le_refl _)).up (by omega)).r.v (Nat.le_refl _) hz.sz (Nat.le_refl _) (at_lst ((HR2.out.kept b8.out (Nat.le_refl _)).up (by omega)).b HZ.out.b) (at_lst ((HR2.out.kept b8.out (Nat.le_refl _)).up (by omega)).a HZ.out.a) (fun _ h => h) HTL.out HZT.out hn hd ha HSL.out).mono ?_; rintro e w9 ⟨⟨u1, q1, rfl, ii, on1⟩, hb9⟩
  have hqe : q1 = q := ja_same IS.out ii
  rw [hqe] at on1
  clear ii hqe d0 d1 d2 d3 f_0 f_1 f_2 f_3 f_4 f_5 f_6 f_7 f_8 f_9 f_10 q1
  have z9 : w8.heap.size ≤ w9.heap.size := hb9.size
  have ON1 : Hid (OnL (fun b => w8.heap.size ≤ b ∧ b < w9.heap.size) w9 q u1) := on1
  have b89 : Hid (Below w8.heap.size w8 w9) := hb9
  have k9 : Hid (Below (w.heap.size + 1 + 1) W w9) := k8.out.trans (hb9.mono (by omega))
  have b59 : Hid (Below w5.heap.size w5 w9) := (b5.out.trans (b78.out.mono (by omega))).trans (b89.out.mono (by omega))
  have ON09 : Hid (OnL (fun b => w4.heap.size ≤ b ∧ b < w5.heap.size) w9 q u0) := ON0.out.same (fun b hb => b59.out.block b hb.2)
  clear on1 hb9
  go_wp2_with fail
  refine (eqCtlAskS_any _ _ q u1 u0 w9 ON1.out.at_ ON09.out.at_ (fun b hb => hb.2) (fun b hb => by omega)).mono ?_; rintro e w10 ⟨rfl, hb10⟩
  have z10 : w9.heap.size ≤ w10.heap.size := hb10.size
  have b910 : Hid (Below w9.heap.size w9 w10) := hb10
  have k10 : Hid (Below (w.heap.size + 1 + 1) W w10) := k9.out.trans (hb10.mono (by omega))
  have t10 : w.heap.size + 1 + 1 ≤ w10.heap.size := by omega
  have X610 : Hid (w10.heap[w6.heap.size]? = some (.cells #[sl g0 D.ns, sl g1 D.nf, sl g2 D.np, sl g3 D.nv] 40 (0, 0))) := (hb10.block _ (by omega)).trans ((b89.out.block _ (by omega)).trans X68.out)
  clear hb10
  have d0 := (cell_row X610.out 0 (sl g0 D.ns) rfl).1
  have d1 := (cell_row X610.out 1 (sl g1 D.nf) rfl).1
  have d2 := (cell_row X610.out 2 (sl g2 D.np) rfl).1
  have d3 := (cell_row X610.out 3 (sl g3 D.nv) rfl).1
  obtain ⟨⟨⟨x0, x1, x2, x3⟩, y0, y1, y2, y3, y4, y5, y6, y7, y8, y9, y10⟩, hbw⟩ := bx.out w10 k10.out
  have qx0 := fun d os => cell_regrown x0 d os
  have qx1 := fun d os => cell_regrown x1 d os
  have qx2 := fun d os => cell_regrown x2 d os
  have qx3 := fun d os => cell_regrown x3 d os
  have qd0 := fun d os => cell_regrown d0 d os
  have qd1 := fun d os => cell_regrown d1 d os
  have qd2 := fun d os => cell_regrown d2 d os
  have qd3 := fun d os => cell_regrown d3 d os
  go_wp2_with fail
  have hdr_w10 : Hid (Below w10.heap.size w10 w10.drew) := (Below.refl _ _).drew
  refine wp_region_mix 3 [0, 1] (by kernel_rfl) (by kernel_rfl) ?_
  simp only [List.filterMap_cons, List.filterMap_nil, List.getElem?_cons_succ, List.getElem?_cons_zero]
  repeat (first | go_big_quiet_step (fail) | quiet_step (fail))
  refine wpQuiet_nil ?_
  refine call1 (md := .any) (f := 0) (i := 2) (dc := 42) (fn := 7) ⟨rfl, rfl, rfl, by decide⟩ (by kernel_rfl) ?run ((MODEL.out w10.drew (k10.out.trans (hdr_w10.out.mono t10))).mono ?_)
  case run => go_simp
  rintro e w11 ⟨p0, p1, p2, p3, rfl, P3, hbw11⟩
  have HBw11 : Hid (Below w10.heap.size w10 w11) := hdr_w10.out.trans hbw11
  have HP3 : Hid (PAt w11.heap.size w11 p0 p1 p2 p3 D) := P3
  clear P3 hbw11 qx0 qx1 qx2 qx3 qd0 qd1 qd2 qd3 d0 d1 d2 d3 x0 x1 x2 x3 y0 y1 y2 y3 y4 y5 y6 y7 y8 y9 y10 hbw
  refine ⟨_, rfl, regrown_of_below HBw11.out, ?_⟩
  refine ⟨by kernel_rfl, ?_⟩
  simp only [List.drop_succ_cons, List.drop_zero, Act.put, List.setIfInBounds_toArray, List.set_cons_zero, List.set_cons_succ]
  have z11 : w10.heap.size ≤ w11.heap.size := HBw11.out.size
  have b911 : Hid (Below w9.heap.size w9 w11) := b910.out.trans (HBw11.out.mono z10)
  have b611 : Hid (Below w6.heap.size w6 w11) := (bW8.out.trans (b89.out.mono (by omega))).trans (b911.out.mono (by omega))
  go_wp2_with fail
  refine (eqPlant_any w6.heap.size w11.heap.size _ _ _ _ p0 p1 p2 p3 D _ (HP2.out.kept b611.out (Nat.le_refl _)) HP3.out (by omega) (Nat.le_refl _)).mono ?_; rintro e w12 ⟨rfl, hb12⟩
  have z12 : w11.heap.size ≤ w12.heap.size := hb12.size
  have b912 : Hid (Below w9.heap.size w9 w12) := b911.out.trans (hb12.mono (by omega))
  have k12 : Hid (Below (w.heap.size + 1 + 1) W w12) := k9.out.trans (b912.out.mono (by omega))
  have t12 : w.heap.size + 1 + 1 ≤ w12.heap.size := by omega
  have X812 : Hid (w12.heap[w7.heap.size]? = some (.cells #[.int .i64 num, .int .i64 kind, sl h0 m, sl h1 k, sl h3 n3, sl h4 n4, .int .i64 am, .int .i64 st, sl h7 n7, .int .i64 mv, .bool dn] 44 (0, 0))) := (b912.out.block _ (by omega)).trans ((b89.out.block _ (by omega)).trans X8.out)
  clear hb12 HP3 HBw11
  have f_0 := (cell_row X812.out 0 (.int .i64 num) rfl).1
  have f_1 := (cell_row X812.out 1 (.int .i64 kind) rfl).1
  have f_2 := (cell_row X812.out 2 (sl h0 m) rfl).1
  have f_3 := (cell_row X812.out 3 (sl h1 k) rfl).1
  have f_4 := (cell_row X812.out 4 (sl h3 n3) rfl).1
  have f_5 := (cell_row X812.out 5 (sl h4 n4) rfl).1
  have f_6 := (cell_row X812.out 6 (.int .i64 am) rfl).1
  have f_7 := (cell_row X812.out 7 (.int .i64 st) rfl).1
  have f_8 := (cell_row X812.out 8 (sl h7 n7) rfl).1
  have f_9 := (cell_row X812.out 9 (.int .i64 mv) rfl).1
  have f_10 := (cell_row X812.out 10 (.bool dn) rfl).1
  obtain ⟨⟨⟨x0, x1, x2, x3⟩, y0, y1, y2, y3, y4, y5, y6, y7, y8, y9, y10⟩, hbw⟩ := bx.out w12 k12.out
  have qy0 := fun d os => cell_regrown y0 d os
  have qy1 := fun d os => cell_regrown y1 d os
  have qy2 := fun d os => cell_regrown y2 d os
  have qy3 := fun d os => cell_regrown y3 d os
  have qy4 := fun d os => cell_regrown y4 d os
  have qy5 := fun d os => cell_regrown y5 d os
  have qy6 := fun d os => cell_regrown y6 d os
  have qy7 := fun d os => cell_regrown y7 d os
  have qy8 := fun d os => cell_regrown y8 d os
  have qy9 := fun d os => cell_regrown y9 d os
  have qy10 := fun d os => cell_regrown y10 d os
  have qf_0 := fun d os => cell_regrown f_0 d os
  have qf_1 := fun d os => cell_regrown f_1 d os
  have qf_2 := fun d os => cell_regrown f_2 d os
  have qf_3 := fun d os => cell_regrown f_3 d os
  have qf_4 := fun d os => cell_regrown f_4 d os
  have qf_5 := fun d os => cell_regrown f_5 d os
  have qf_6 := fun d os => cell_regrown f_6 d os
  have qf_7 := fun d os => cell_regrown f_7 d os
  have qf_8 := fun d os => cell_regrown f_8 d os
  have qf_9 := fun d os => cell_regrown f_9 d os
  have qf_10 := fun d os => cell_regrown f_10 d os
  go_wp2_with fail
  have hdr_w12 : Hid (Below w12.heap.size w12 w12.drew) := (Below.refl _ _).drew
  refine wp_region_mix 3 [0, 1] (by kernel_rfl) (by kernel_rfl) ?_
  simp only [List.filterMap_cons, List.filterMap_nil, List.getElem?_cons_succ, List.getElem?_cons_zero]
  repeat (first | go_big_quiet_step (fail) | quiet_step (fail))
  refine wpQuiet_nil ?_
  refine call1 (md := .any) (f := 0) (i := 2) (dc := 47) (fn := 8) ⟨rfl, rfl, rfl, by decide⟩ (by kernel_rfl) ?run ((JOB.out w12.drew (k12.out.trans (hdr_w12.out.mono t12))).mono ?_)
  case run => go_simp
  rintro e w13 ⟨r0, r1, r3, r4, r7, rfl, R3, _, hbw13⟩
  have HBw13 : Hid (Below w12.heap.size w12 w13) := hdr_w12.out.trans hbw13
  have HR3 : Hid (JAt w13.heap.size w13 (sl r0 m) (sl r1 k) (sl r3 n3) (sl r4 n4) (sl r7 n7) m P k Q n3 f3 n4 f4 n7 f7) := R3
  clear R3 hbw13 qy0 qy1 qy2 qy3 qy4 qy5 qy6 qy7 qy8 qy9 qy10 qf_0 qf_1 qf_2 qf_3 qf_4 qf_5 qf_6 qf_7 qf_8 qf_9 qf_10 f_0 f_1 f_2 f_3 f_4 f_5 f_6 f_7 f_8 f_9 f_10 x0 x1 x2 x3 y0 y1 y2 y3 y4 y5 y6 y7 y8 y9 y10 hbw
  refine ⟨_, rfl, regrown_of_below HBw13.out, ?_⟩
  refine ⟨by kernel_rfl, ?_⟩
  simp only [List.drop_succ_cons, List.drop_zero, Act.put, List.setIfInBounds_toArray, List.set_cons_zero, List.set_cons_succ]
  have z13 : w12.heap.size ≤ w13.heap.size := HBw13.out.size
  have b913 : Hid (Below w9.heap.size w9 w13) := b912.out.trans (HBw13.out.mono (by omega))
  have b713 : Hid (Below w7.heap.size w7 w13) := (b8.out.trans (b89.out.mono (by omega))).trans (b913.out.mono (by omega))
  go_wp2_with fail
  refine (eqJob_any w7.heap.size w13.heap.size num kind am st mv dn _ _ _ _ _ _ _ _ _ _ m k n3 n4 n7 P Q f3 f4 f7 _ (HR2.out.kept b713.out (Nat.le_refl _)) HR3.out (by omega) (Nat.le_refl _)).mono ?_; rintro e w14 ⟨rfl, hb14⟩
  have z14 : w13.heap.size ≤ w14.heap.size := hb14.size
  have b914 : Hid (Below w9.heap.size w9 w14) := b913.out.trans (hb14.mono (by omega))
  have b614 : Hid (Below w6.heap.size w6 w14) := (bW8.out.trans (b89.out.mono (by omega))).trans (b914.out.mono (by omega))
  have b714 : Hid (Below w7.heap.size w7 w14) := b713.out.trans (hb14.mono (by omega))
  have k14 : Hid (Below (w.heap.size + 1 + 1) W w14) := k9.out.trans (b914.out.mono (by omega))
  have X614 : Hid (w14.heap[w6.heap.size]? = some (.cells #[sl g0 D.ns, sl g1 D.nf, sl g2 D.np, sl g3 D.nv] 40 (0, 0))) := (b914.out.block _ (by omega)).trans ((b89.out.block _ (by omega)).trans X68.out)
  have X814 : Hid (w14.heap[w7.heap.size]? = some (.cells #[.int .i64 num, .int .i64 kind, sl h0 m, sl h1 k, sl h3 n3, sl h4 n4, .int .i64 am, .int .i64 st, sl h7 n7, .int .i64 mv, .bool dn] 44 (0, 0))) := (b914.out.block _ (by omega)).trans ((b89.out.block _ (by omega)).trans X8.out)
  have ON114 : Hid (OnL (fun b => w8.heap.size ≤ b ∧ b < w9.heap.size) w14 q u1) := ON1.out.same (fun b hb => b914.out.block b hb.2)
  have ON014 : Hid (OnL (fun b => w4.heap.size ≤ b ∧ b < w5.heap.size) w14 q u0) := ON09.out.same (fun b hb => b914.out.block b (by omega))
  clear hb14 HR3 HBw13
  have d0 := (cell_row X614.out 0 (sl g0 D.ns) rfl).1
  have d1 := (cell_row X614.out 1 (sl g1 D.nf) rfl).1
  have d2 := (cell_row X614.out 2 (sl g2 D.np) rfl).1
  have d3 := (cell_row X614.out 3 (sl g3 D.nv) rfl).1
  have pb14 : Hid (PBlk w5.heap.size w6.heap.size w14 g0 g1 g2 g3 D) := ⟨HPB.out.a, HPB.out.s.kept b614.out (Nat.le_refl _), HPB.out.f.kept b614.out (Nat.le_refl _), HPB.out.p.kept b614.out (Nat.le_refl _), HPB.out.v.kept b614.out (Nat.le_refl _)⟩
  go_wp2_with fail
  refine (markPlant_le w5.heap.size w6.heap.size g0 g1 g2 g3 D _ pb14.out (by omega) z6 HM.out).mono ?_; rintro e w15 ⟨kk, rfl, ⟨hkk1, hkk2⟩, o15⟩
  have O15 : Hid (Outs w5.heap.size w6.heap.size w14 w15) := o15
  have z15 : w14.heap.size ≤ w15.heap.size := o15.bel.size
  have X815 : Hid (w15.heap[w7.heap.size]? = some (.cells #[.int .i64 num, .int .i64 kind, sl h0 m, sl h1 k, sl h3 n3, sl h4 n4, .int .i64 am, .int .i64 st, sl h7 n7, .int .i64 mv, .bool dn] 44 (0, 0))) := (o15.out _ (by omega) (by omega)).trans X814.out
  have rb : Hid (JBlk w6a.heap.size w7.heap.size w15 h0 h1 h3 h4 h7 m k n3 n4 n7) := (HRB.out.kept b714.out (Nat.le_refl _)).outs o15
  clear o15 d0 d1 d2 d3
  have f_0 := (cell_row X815.out 0 (.int .i64 num) rfl).1
  have f_1 := (cell_row X815.out 1 (.int .i64 kind) rfl).1
  have f_2 := (cell_row X815.out 2 (sl h0 m) rfl).1
  have f_3 := (cell_row X815.out 3 (sl h1 k) rfl).1
  have f_4 := (cell_row X815.out 4 (sl h3 n3) rfl).1
  have f_5 := (cell_row X815.out 5 (sl h4 n4) rfl).1
  have f_6 := (cell_row X815.out 6 (.int .i64 am) rfl).1
  have f_7 := (cell_row X815.out 7 (.int .i64 st) rfl).1
  have f_8 := (cell_row X815.out 8 (sl h7 n7) rfl).1
  have f_9 := (cell_row X815.out 9 (.int .i64 mv) rfl).1
  have f_10 := (cell_row X815.out 10 (.bool dn) rfl).1
  go_wp2_with fail
  refine (markJob_any w6a.heap.size w7.heap.size h0 h1 h3 h4 h7 num kind am st mv dn m k n3 n4 n7 kk _ rb.out (by omega) HJM.out hkk1 (by omega)).mono ?_; rintro e w16 ⟨kj, rfl, ⟨hkj1, hkj2⟩, o16⟩
  have O16 : Hid (Outs w6a.heap.size w7.heap.size w15 w16) := o16
  have z16 : w15.heap.size ≤ w16.heap.size := o16.bel.size
  clear o16 f_0 f_1 f_2 f_3 f_4 f_5 f_6 f_7 f_8 f_9 f_10
  have ON116 : Hid (OnL (fun b => w8.heap.size ≤ b ∧ b < w9.heap.size) w16 q u1) := (ON114.out.same (fun b hb => O15.out.out b (by omega) (by omega))).same (fun b hb => O16.out.out b (by omega) (by omega))
  have ON016 : Hid (OnL (fun b => w4.heap.size ≤ b ∧ b < w5.heap.size) w16 q u0) := (ON014.out.same (fun b hb => O15.out.bel.block b hb.2)).same (fun b hb => O16.out.bel.block b (by omega))
  have k16 : Hid (Below (w.heap.size + 1 + 1) W w16) := (k14.out.trans (O15.out.bel.mono z5)).trans (O16.out.bel.mono (by omega))
  have dkj : decide (kj < 0) = false := by simp; omega
  go_wp2_with fail
  refine (eqCtlAskS_any _ _ q u1 u0 w16 ON116.out.at_ ON016.out.at_ (fun b hb => by omega) (fun b hb => by omega)).mono ?_; rintro e w17 ⟨rfl, hb17⟩
  have z17 : w16.heap.size ≤ w17.heap.size := hb17.size
  have HB17 : Hid (Below w16.heap.size w16 w17) := hb17
  have ON117 : Hid (OnL (fun b => w8.heap.size ≤ b ∧ b < w9.heap.size) w17 q u1) := ON116.out.same (fun b hb => hb17.block b (by omega))
  have ON017 : Hid (OnL (fun b => w4.heap.size ≤ b ∧ b < w5.heap.size) w17 q u0) := ON016.out.same (fun b hb => hb17.block b (by omega))
  clear hb17
  go_wp2_with fail
  refine (markCtlAskS_any _ q u1 1 w17 ON117.out (fun b hb => by omega) (by omega) (by have := CN.out; omega)).mono ?_; rintro e w18 ⟨rfl, O18, hbu⟩
  have z18 : w17.heap.size ≤ w18.heap.size := hbu.size
  have BU : Hid (But (fun b => w8.heap.size ≤ b ∧ b < w9.heap.size) w17 w18) := hbu
  have AT : Hid (AtL (fun b => w8.heap.size ≤ b ∧ b < w9.heap.size) w18 (mkL 1 q) u1) := O18.at_
  clear O18 hbu
  have k18 : Hid (Below (w.heap.size + 1 + 1) W w18) := (k16.out.trans (HB17.out.mono (by omega))).trans (BU.out.below (B := w.heap.size + 1 + 1) (fun b hb => by omega) (by omega))
  have ON018 : Hid (OnL (fun b => w4.heap.size ≤ b ∧ b < w5.heap.size) w18 q u0) := ON017.out.same (fun b hb => BU.out.block b (by omega) (by omega))
  have HE : Hid (∀ w', Below w18.heap.size w18 w' → Calls Tryz.prog 16 #[u1, .int .i64 1] w' fun e w'' => e = .returned (.int .i64 (1 + (cntL q : Int))) ∧ Below w'.heap.size w' w'') := fun w' hb => heldCtlAskS_any _ q u1 1 w' (AT.out.same (Same.of_below hb (fun b hb => by omega))) (fun b hb' => by have := hb.size; omega) (by omega) (by have := CN.out; omega)
  have hcn : (cntL q : Int) ≤ 40000000 := by have := CN.out; omega
  go_wp2_with fail
  refine (HE.out w18 (Below.refl _ _)).mono ?_; rintro e w19 ⟨rfl, hb19⟩
  have z19 : w18.heap.size ≤ w19.heap.size := hb19.size
  have HB19 : Hid (Below w18.heap.size w18 w19) := hb19
  have k19 : Hid (Below (w.heap.size + 1 + 1) W w19) := k18.out.trans (hb19.mono (by omega))
  have t19 : w.heap.size + 1 + 1 ≤ w19.heap.size := by omega
  clear hb19
  obtain ⟨⟨⟨x0, x1, x2, x3⟩, y0, y1, y2, y3, y4, y5, y6, y7, y8, y9, y10⟩, hbw⟩ := bx.out w19 k19.out
  have qx0 := fun d os => cell_regrown x0 d os
  have qx1 := fun d os => cell_regrown x1 d os
  have qx2 := fun d os => cell_regrown x2 d os
  have qx3 := fun d os => cell_regrown x3 d os
  have qy0 := fun d os => cell_regrown y0 d os
  have qy1 := fun d os => cell_regrown y1 d os
  have qy2 := fun d os => cell_regrown y2 d os
  have qy3 := fun d os => cell_regrown y3 d os
  have qy4 := fun d os => cell_regrown y4 d os
  have qy5 := fun d os => cell_regrown y5 d os
  have qy6 := fun d os => cell_regrown y6 d os
  have qy7 := fun d os => cell_regrown y7 d os
  have qy8 := fun d os => cell_regrown y8 d os
  have qy9 := fun d os => cell_regrown y9 d os
  have qy10 := fun d os => cell_regrown y10 d os
  go_wp2_with fail
  have hdr_w19 : Hid (Below w19.heap.size w19 w19.drew) := (Below.refl _ _).drew
  refine wp_region_mix 4 [0, 2] (by kernel_rfl) (by kernel_rfl) ?_
  simp only [List.filterMap_cons, List.filterMap_nil, List.getElem?_cons_succ, List.getElem?_cons_zero]
  repeat (first | go_big_quiet_step (fail) | quiet_step (fail))
  refine wpQuiet_nil ?_
  clear qx0 qx1 qx2 qx3 qy0 qy1 qy2 qy3 qy4 qy5 qy6 qy7 qy8 qy9 qy10 x0 x1 x2 x3 y0 y1 y2 y3 y4 y5 y6 y7 y8 y9 y10 hbw
  refine call1 (md := .any) (f := 1) (i := 1) (dc := 76) (fn := 7) ⟨rfl, rfl, rfl, by decide⟩ (by kernel_rfl) ?run ((MODEL.out w19.drew (k19.out.trans (hdr_w19.out.mono t19))).mono ?_)
  case run => go_simp
  rintro e w20 ⟨p0, p1, p2, p3, rfl, P1, hbw3⟩
  have HB1 : Hid (Below w19.heap.size w19 w20) := hdr_w19.out.trans hbw3
  have HP1 : Hid (PAt w20.heap.size w20 p0 p1 p2 p3 D) := P1
  refine ⟨_, rfl, regrown_of_below HB1.out, ?_⟩
  clear P1 hbw3
  simp only [Act.put, List.setIfInBounds_toArray, List.set_cons_zero, List.set_cons_succ]
  refine call1 (md := .any) (f := 0) (i := 3) (dc := 78) (fn := 8) ⟨rfl, rfl, rfl, by decide⟩ (by kernel_rfl) ?run ((JOB.out w20 (k19.out.trans (HB1.out.mono t19))).mono ?_)
  case run => go_simp
  rintro e w21 ⟨r0, r1, r3, r4, r7, rfl, R1, _, hbw4⟩
  have HB2 : Hid (Below w19.heap.size w19 w21) := HB1.out.trans (hbw4.mono HB1.out.size)
  have HR1 : Hid (JAt w21.heap.size w21 (sl r0 m) (sl r1 k) (sl r3 n3) (sl r4 n4) (sl r7 n7) m P k Q n3 f3 n4 f4 n7 f7) := R1
  have HPc : Hid (PAt w21.heap.size w21 p0 p1 p2 p3 D) := (HP1.out.kept hbw4 (Nat.le_refl _)).up hbw4.size
  refine ⟨_, rfl, regrown_of_below HB2.out, ?_⟩
  clear R1 hbw4 HP1
  refine ⟨by kernel_rfl, ?_⟩
  simp only [List.drop_succ_cons, List.drop_zero, Act.put, List.setIfInBounds_toArray, List.set_cons_zero, List.set_cons_succ]
  have z21 : w19.heap.size ≤ w21.heap.size := HB2.out.size
  go_wp2_with fail
  refine (jobAsksI_any w21.heap.size (fun b => b < w21.heap.size) _ _ _ _ D num kind am st mv dn _ _ m k m k P Q ((List.range n4).map f4) ((List.range n3).map f3) _ _ _ _ HPc.out HR1.out.r.p HR1.out.r.v (Nat.le_refl _) hz.sz (Nat.le_refl _) (at_lst HR1.out.b HZ.out.b) (at_lst HR1.out.a HZ.out.a) (fun _ h => h) HTL.out HZT.out hn hd ha HSL.out).mono ?_; rintro e w22 ⟨⟨u2, q2, rfl, ii, on2⟩, hb22⟩
  have hqe : q2 = q := ja_same IS.out ii
  rw [hqe] at on2
  clear ii hqe q2
  have z22 : w21.heap.size ≤ w22.heap.size := hb22.size
  have ON2 : Hid (OnL (fun b => w21.heap.size ≤ b ∧ b < w22.heap.size) w22 q u2) := on2
  have b1822 : Hid (Below w18.heap.size w18 w22) := (HB19.out.trans (HB2.out.mono z19)).trans (hb22.mono (by omega))
  have ON022 : Hid (OnL (fun b => w4.heap.size ≤ b ∧ b < w5.heap.size) w22 q u0) := ON018.out.same (fun b hb => b1822.out.block b (by omega))
  clear on2 hb22
  go_wp2_with fail
  refine (eqCtlAskS_any _ _ q u2 u0 w22 ON2.out.at_ ON022.out.at_ (fun b hb => hb.2) (fun b hb => by omega)).mono ?_; rintro e w23 ⟨rfl, hb23⟩
  have z23 : w22.heap.size ≤ w23.heap.size := hb23.size
  have b1823 : Hid (Below w18.heap.size w18 w23) := b1822.out.trans (hb23.mono (by omega))
  clear hb23
  go_wp2_with fail
  refine (HE.out w23 b1823.out).mono ?_; rintro e w24 ⟨rfl, hb24⟩
  have k24 : Hid (Below (w.heap.size + 1 + 1) W w24) := (k18.out.trans (b1823.out.mono (by omega))).trans (hb24.mono (by omega))
  go_wp2_with fail
  go_ret
  exact ⟨rfl, (bx.out _ k24.out).2⟩

end Go.Proofs.YtndacfockllehaaGreat
