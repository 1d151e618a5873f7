/-
  The law FnExactCtlWordOk, walked: whatever the plant and the word, the call returns true, and nothing that was there before has turned.
-/
import Derived.Test.YtciembgenlcogaeGreatBq
import Derived.Test.YtciembgenlcogaeGreatWmb
namespace Go.Proofs.YtciembgenlcogaeGreat
open Go.RowKit

theorem lst_upB {B B' : Nat} {w : World} {v : Value} {n k : Nat} {c : Nat → Nat → Value} (h : Lst B w v n k c) (hB : B ≤ B') : Lst B' w v n k c := by
  obtain ⟨oa, cap, hv, hn, hc⟩ := h
  refine ⟨oa, cap, hv, hn, fun i hi => ?_⟩
  obtain ⟨b, off, h1, h2, h3⟩ := hc i hi
  exact ⟨b, off, h1, by omega, h3⟩
theorem pat_upB {B B' : Nat} {w : World} {v0 v1 v2 v3 : Value} {D : PD} (h : PAt B w v0 v1 v2 v3 D) (hB : B ≤ B') : PAt B' w v0 v1 v2 v3 D := ⟨lst_upB h.s hB, lst_upB h.f hB, lst_upB h.p hB, lst_upB h.v hB⟩
theorem stn_pos {D : PD} (hV : D.V) (i : Nat) (hi : i < (stnL D).length) : 0 < (nthB (stnL D) i).size := by
  have h1 : nthB (stnL D) i ∈ stnL D := List.mem_of_getElem? (nth_at hi)
  have hpos : ∀ y : ByteArray, nameB y = true → 0 < y.size := fun y h => by
    unfold nameB at h
    simp only [Bool.and_eq_true, decide_eq_true_eq] at h
    have := h.1.1
    omega
  rcases List.mem_append.1 (((insA_both _).2 _).1 h1) with h | h
  · obtain ⟨j, hj, e⟩ := List.mem_map.1 h
    rw [← e]
    exact hpos _ (hV.2.1.2 j (List.mem_range.1 hj)).2.2.2
  · obtain ⟨j, hj, e⟩ := List.mem_map.1 h
    rw [← e]
    exact hpos _ (hV.2.2.2 j (List.mem_range.1 hj)).2.2.2.2.2
theorem ans_same {D : PD} (k n mv : Int) (st : ByteArray) (dn : Bool) (a : C.DClaimWant) {bi bs : Bool} (hi : bi = true ↔ D.V) (hs : bs = true ↔ D.V) : (bi && isB k n st a mv dn (stnL D).length (nthB (stnL D))) = (bs && wordB k n st a mv dn (stnL D).length (nthB (stnL D))) := by
  obtain rfl : bi = bs := bool_same hi hs
  cases bi
  · rfl
  · rw [word_same k n st a mv dn _ _ (stn_pos (hi.1 rfl))]

set_option maxRecDepth 100000 in
set_option maxHeartbeats 8000000 in
theorem lawWd_any (B : Nat) (v0 v1 v2 v3 : Value) (D : PD) (k n mv : Int) (st : ByteArray) (dn : Bool) (a : C.DClaimWant) (o2 o3 o4 o5 : Option Addr) (n2 n3 n4 n5 k2 k3 k4 k5 : Nat) (w : World) (h : PAt B w v0 v1 v2 v3 D) (hw : WAt B w a o2 o3 o4 o5 n2 n3 n4 n5 k2 k3 k4 k5) (hB : B ≤ w.heap.size) (hz : D.All) (hst : st.size ≤ maxLen) :
    Calls Tryz.prog 3 #[.agg #[v0, v1, v2, v3], .agg #[.int .i64 k, .string st, .int .i64 n, .int .i64 a.1, .int .i64 a.2.1, .slice o2 n2 k2, .slice o3 n3 k3, .slice o4 n4 k4, .slice o5 n5 k5, .int .i64 mv, .bool dn]] w fun e w' => e = .returned (.bool true) ∧ Below w.heap.size w w' := by
  obtain ⟨_, m2, m3, m4, m5⟩ := hw.parts
  have M2 : Hid (a.2.2.1.length = n2) := m2
  have M3 : Hid (a.2.2.2.1.length = n3) := m3
  have M4 : Hid (a.2.2.2.2.1.length = n4) := m4
  have M5 : Hid (a.2.2.2.2.2.length = n5) := m5
  clear m2 m3 m4 m5
  have H : Hid (∀ w', Below w.heap.size w w' → PAt B w' v0 v1 v2 v3 D ∧ WAt B w' a o2 o3 o4 o5 n2 n3 n4 n5 k2 k3 k4 k5) := fun w' hb => ⟨h.kept hb hB, hw.kept hb hB⟩
  clear h hw
  obtain ⟨W, hW⟩ : ∃ W, W = (w.alloc (.cells #[v0, v1, v2, v3] 27)).alloc (.cells #[.int .i64 k, .string st, .int .i64 n, .int .i64 a.1, .int .i64 a.2.1, .slice o2 n2 k2, .slice o3 n3 k3, .slice o4 n4 k4, .slice o5 n5 k5, .int .i64 mv, .bool dn] 32) := ⟨_, rfl⟩
  have kW : Hid (Below (w.heap.size + 1 + 1) W W) := Below.refl _ _
  have sW : w.heap.size + 1 + 1 ≤ W.heap.size := by rw [hW]; simp
  have eW : Hid (W = (w.alloc (.cells #[v0, v1, v2, v3] 27)).alloc (.cells #[.int .i64 k, .string st, .int .i64 n, .int .i64 a.1, .int .i64 a.2.1, .slice o2 n2 k2, .slice o3 n3 k3, .slice o4 n4 k4, .slice o5 n5 k5, .int .i64 mv, .bool dn] 32)) := hW
  have bx : Hid (∀ wr, Below (w.heap.size + 1 + 1) W wr → ((wr.cell? ⟨w.heap.size, 0, none⟩ = some v0 ∧ wr.cell? ⟨w.heap.size, 1, none⟩ = some v1 ∧ wr.cell? ⟨w.heap.size, 2, none⟩ = some v2 ∧ wr.cell? ⟨w.heap.size, 3, none⟩ = some v3) ∧ wr.cell? ⟨w.heap.size + 1, 0, none⟩ = some (.int .i64 k) ∧ wr.cell? ⟨w.heap.size + 1, 1, none⟩ = some (.string st) ∧ wr.cell? ⟨w.heap.size + 1, 2, none⟩ = some (.int .i64 n) ∧ wr.cell? ⟨w.heap.size + 1, 3, none⟩ = some (.int .i64 a.1) ∧ wr.cell? ⟨w.heap.size + 1, 4, none⟩ = some (.int .i64 a.2.1) ∧ wr.cell? ⟨w.heap.size + 1, 5, none⟩ = some (.slice o2 n2 k2) ∧ wr.cell? ⟨w.heap.size + 1, 6, none⟩ = some (.slice o3 n3 k3) ∧ wr.cell? ⟨w.heap.size + 1, 7, none⟩ = some (.slice o4 n4 k4) ∧ wr.cell? ⟨w.heap.size + 1, 8, none⟩ = some (.slice o5 n5 k5) ∧ wr.cell? ⟨w.heap.size + 1, 9, none⟩ = some (.int .i64 mv) ∧ wr.cell? ⟨w.heap.size + 1, 10, none⟩ = some (.bool dn)) ∧ Below w.heap.size w wr) := fun wr hb => by
    rw [hW] at hb
    obtain ⟨h1, h2⟩ := two_box hb
    exact ⟨⟨⟨h1 0 _ rfl, h1 1 _ rfl, h1 2 _ rfl, h1 3 _ rfl⟩, h2 0 _ rfl, h2 1 _ rfl, h2 2 _ rfl, h2 3 _ rfl, h2 4 _ rfl, h2 5 _ rfl, h2 6 _ rfl, h2 7 _ rfl, h2 8 _ rfl, h2 9 _ rfl, h2 10 _ rfl⟩, two_end hb⟩
  clear hW
  go_enter Tryz.func3, Tryz.ntmps3
  go_upto_region 1 with fail
  rw [← eW.out]
  obtain ⟨⟨⟨x0, x1, x2, x3⟩, y0, y1, y2, y3, y4, y5, y6, y7, y8, y9, y10⟩, hbw⟩ := bx.out W kW.out
  go_wp2_with fail
  refine (szPlant_le B v0 v1 v2 v3 D _ (H.out W hbw).1 (Nat.le_trans hB hbw.size) hz).mono ?_; rintro e w1 ⟨z1, rfl, hn1, hsm1, hb1⟩
  have K1 : Hid (Below (w.heap.size + 1 + 1) W w1) := kW.out.trans (hb1.mono (by omega))
  have HS1 : Hid _ := hsm1
  clear hsm1 hb1
  clear hbw x0 x1 x2 x3 y0 y1 y2 y3 y4 y5 y6 y7 y8 y9 y10
  by_cases hg1 : z1 < 0
  · go_wp2_with fail
    go_ret
    exact ⟨rfl, (bx.out _ K1.out).2⟩
  have s1 : w.heap.size + 1 + 1 ≤ w1.heap.size := by have := K1.out.size; omega
  obtain ⟨⟨⟨x0, x1, x2, x3⟩, y0, y1, y2, y3, y4, y5, y6, y7, y8, y9, y10⟩, hbw⟩ := bx.out w1 K1.out
  go_wp2_with fail
  refine (szWord_any B k n mv st dn a o2 o3 o4 o5 n2 n3 n4 n5 k2 k3 k4 k5 z1 _ (H.out _ hbw).2 (Nat.le_trans hB hbw.size) hst (by omega) (by omega)).mono ?_; rintro e w2 ⟨z2, rfl, hz2, hb2⟩
  have K2 : Hid (Below (w.heap.size + 1 + 1) W w2) := K1.out.trans (hb2.mono s1)
  have HS2 : Hid _ := hz2
  clear hz2 hb2
  clear hbw x0 x1 x2 x3 y0 y1 y2 y3 y4 y5 y6 y7 y8 y9 y10
  by_cases hg2 : z2 < 0
  · go_wp2_with fail
    go_ret
    exact ⟨rfl, (bx.out _ K2.out).2⟩
  have HM : Hid (D.ns ≤ 1048576 ∧ D.nf ≤ 1048576 ∧ D.np ≤ 1048576 ∧ D.nv ≤ 1048576) := HS1.out (by omega)
  have HT : Hid (C.Lay.tot a ≤ 1048576) := by have := HS2.out; show _ ≤ _; omega
  have HN : Hid _ := want_lens M2.out M3.out M4.out M5.out HT.out
  have s2 : w.heap.size + 1 + 1 ≤ w2.heap.size := by have := K2.out.size; omega
  have MODEL : Hid (∀ (wr : World), Below (w.heap.size + 1 + 1) W wr → Calls Tryz.prog 7 #[.agg #[v0, v1, v2, v3]] wr fun e w' => ∃ u0 u1 u2 u3, e = .returned (.agg #[u0, u1, u2, u3]) ∧ PAt w'.heap.size w' u0 u1 u2 u3 D ∧ Below wr.heap.size wr w') := fun wr hb => toPlant_any B v0 v1 v2 v3 D wr (H.out wr (bx.out wr hb).2).1 (Nat.le_trans hB (bx.out wr hb).2.size) HM.out
  have WORDS : Hid (∀ (wr : World), Below (w.heap.size + 1 + 1) W wr → Calls Tryz.prog 8 #[.agg #[.int .i64 k, .string st, .int .i64 n, .int .i64 a.1, .int .i64 a.2.1, .slice o2 n2 k2, .slice o3 n3 k3, .slice o4 n4 k4, .slice o5 n5 k5, .int .i64 mv, .bool dn]] wr fun e w' => ∃ (s2 s3 s4 s5 : Option Addr) (c2 c3 c4 c5 : Nat), e = .returned (.agg #[.int .i64 k, .string st, .int .i64 n, .int .i64 a.1, .int .i64 a.2.1, .slice s2 n2 c2, .slice s3 n3 c3, .slice s4 n4 c4, .slice s5 n5 c5, .int .i64 mv, .bool dn]) ∧ WAt w'.heap.size w' a s2 s3 s4 s5 n2 n3 n4 n5 c2 c3 c4 c5 ∧ Below wr.heap.size wr w') := fun wr hb => toWord_any B k n mv st dn a o2 o3 o4 o5 n2 n3 n4 n5 k2 k3 k4 k5 wr (H.out wr (bx.out wr hb).2).2 (Nat.le_trans hB (bx.out wr hb).2.size) HT.out
  obtain ⟨⟨⟨x0, x1, x2, x3⟩, y0, y1, y2, y3, y4, y5, y6, y7, y8, y9, y10⟩, hbw⟩ := bx.out w2 K2.out
  have qx0 := fun d os => cell_regrown x0 d os
  have qx1 := fun d os => cell_regrown x1 d os
  have qx2 := fun d os => cell_regrown x2 d os
  have qx3 := fun d os => cell_regrown x3 d os
  have qy0 := fun d os => cell_regrown y0 d os
  have qy1 := fun d os => cell_regrown y1 d os
  have qy2 := fun d os => cell_regrown y2 d os
  have qy3 := fun d os => cell_regrown y3 d os
  have qy4 := fun d os => cell_regrown y4 d os
  have qy5 := fun d os => cell_regrown y5 d os
  have qy6 := fun d os => cell_regrown y6 d os
  have qy7 := fun d os => cell_regrown y7 d os
  have qy8 := fun d os => cell_regrown y8 d os
  have qy9 := fun d os => cell_regrown y9 d os
  have qy10 := fun d os => cell_regrown y10 d os
  go_wp2_with fail
  have hdr2 : Hid (Below w2.heap.size w2 w2.drew) := (Below.refl _ _).drew
  refine wp_region_mix 4 [0, 2] (by kernel_rfl) (by kernel_rfl) ?_
  simp only [List.filterMap_cons, List.filterMap_nil, List.getElem?_cons_succ, List.getElem?_cons_zero]
  repeat (first | go_big_quiet_step (fail) | quiet_step (fail))
  refine wpQuiet_nil ?_
  clear qx0 qx1 qx2 qx3 qy0 qy1 qy2 qy3 qy4 qy5 qy6 qy7 qy8 qy9 qy10
  clear hbw x0 x1 x2 x3 y0 y1 y2 y3 y4 y5 y6 y7 y8 y9 y10
  refine call1 (md := .any) (f := 1) (i := 1) (dc := 21) (fn := 7) ⟨rfl, rfl, rfl, by decide⟩ (by kernel_rfl) ?run ((MODEL.out w2.drew (K2.out.trans (hdr2.out.mono s2))).mono ?_)
  case run => go_simp
  rintro e w3 ⟨p0, p1, p2, p3, rfl, P1, hbw3⟩
  have HBw3 : Hid (Below w2.heap.size w2 w3) := hdr2.out.trans hbw3
  have HP1 : Hid (PAt w3.heap.size w3 p0 p1 p2 p3 D) := P1
  refine ⟨_, rfl, regrown_of_below HBw3.out, ?_⟩
  clear P1 hbw3
  simp only [Act.put, List.setIfInBounds_toArray]
  refine call1 (md := .any) (f := 0) (i := 3) (dc := 23) (fn := 8) ⟨rfl, rfl, rfl, by decide⟩ (by kernel_rfl) ?run ((WORDS.out w3 (K2.out.trans (HBw3.out.mono s2))).mono ?_)
  case run => go_simp
  rintro e w4 ⟨s2', s3', s4', s5', c2', c3', c4', c5', rfl, R1, hbw4⟩
  have HBw4 : Hid (Below w2.heap.size w2 w4) := HBw3.out.trans (hbw4.mono HBw3.out.size)
  have HR1 : Hid (WAt w4.heap.size w4 a s2' s3' s4' s5' n2 n3 n4 n5 c2' c3' c4' c5') := R1
  have HP2 : Hid (PAt w4.heap.size w4 p0 p1 p2 p3 D) := pat_upB (HP1.out.kept hbw4 (Nat.le_refl _)) hbw4.size
  refine ⟨_, rfl, regrown_of_below HBw4.out, ?_⟩
  clear R1 hbw4 HP1
  refine ⟨by kernel_rfl, ?_⟩
  simp only [List.drop_succ_cons, List.drop_zero, Act.put, List.setIfInBounds_toArray, List.set_cons_zero, List.set_cons_succ]
  have s4 : w2.heap.size ≤ w4.heap.size := HBw4.out.size
  go_wp2_with fail
  refine (wordS_any w4.heap.size p0 p1 p2 p3 D (fun b => b < w4.heap.size) a n mv k st dn s2' s3' s4' s5' n2 n3 n4 n5 c2' c3' c4' c5' _ HP2.out (Nat.le_refl _) hz.sz HR1.out.parts.1.1 HR1.out.parts.1.2.1 HR1.out.parts.1.2.2.1 HR1.out.parts.1.2.2.2 (fun b hb => hb) M2.out M3.out M4.out M5.out HN.out.1 HN.out.2.1 HN.out.2.2.1 HN.out.2.2.2).mono ?_; rintro e w5 ⟨bs, rfl, is, hb5⟩
  have IS : Hid (bs = true ↔ D.V) := is
  have K5 : Hid (Below (w.heap.size + 1 + 1) W w5) := K2.out.trans ((HBw4.out.trans (hb5.mono s4)).mono s2)
  clear is hb5 HP2 HR1 HBw4 HBw3 K2
  have s5 : w.heap.size + 1 + 1 ≤ w5.heap.size := by have := K5.out.size; omega
  obtain ⟨⟨⟨x0, x1, x2, x3⟩, y0, y1, y2, y3, y4, y5, y6, y7, y8, y9, y10⟩, hbw⟩ := bx.out w5 K5.out
  go_wp2_with fail
  refine (toPlant_blk B v0 v1 v2 v3 D _ (H.out w5 hbw).1 (Nat.le_trans hB hbw.size) HM.out).mono ?_; rintro e w6 ⟨g0, g1, g2, g3, rfl, P2, _, hb6⟩
  have HP2 : Hid (PAt w6.heap.size w6 (sl g0 D.ns) (sl g1 D.nf) (sl g2 D.np) (sl g3 D.nv) D) := P2
  have s6 : w5.heap.size ≤ w6.heap.size := hb6.size
  obtain ⟨w6a, hw6a⟩ : ∃ u, u = w6.alloc (.cells #[sl g0 D.ns, sl g1 D.nf, sl g2 D.np, sl g3 D.nv] 40) := ⟨_, rfl⟩
  have HW6 : Hid (w6a = w6.alloc (.cells #[sl g0 D.ns, sl g1 D.nf, sl g2 D.np, sl g3 D.nv] 40)) := hw6a
  have b6 : Hid (Below w6.heap.size w6 w6a) := by rw [hw6a]; exact (Below.refl _ _).alloc (Nat.le_refl _) _
  have X6 : Hid (w6a.heap[w6.heap.size]? = some (.cells #[sl g0 D.ns, sl g1 D.nf, sl g2 D.np, sl g3 D.nv] 40 (0, 0))) := by rw [hw6a]; exact heap_alloc_new w6 _
  have s6a : w6.heap.size < w6a.heap.size := by rw [hw6a]; simp
  have k6a : Hid (Below (w.heap.size + 1 + 1) W w6a) := (K5.out.trans (hb6.mono s5)).trans (b6.out.mono (by omega))
  clear hw6a P2 hb6
  clear hbw x0 x1 x2 x3 y0 y1 y2 y3 y4 y5 y6 y7 y8 y9 y10
  go_upto_region 10 with fail
  rw [← HW6.out]
  obtain ⟨⟨⟨x0, x1, x2, x3⟩, y0, y1, y2, y3, y4, y5, y6, y7, y8, y9, y10⟩, hbw⟩ := bx.out w6a k6a.out
  go_wp2_with fail
  refine (WORDS.out w6a k6a.out).mono ?_; rintro e w7 ⟨s2', s3', s4', s5', c2', c3', c4', c5', rfl, R2, hb7⟩
  have HR2 : Hid (WAt w7.heap.size w7 a s2' s3' s4' s5' n2 n3 n4 n5 c2' c3' c4' c5') := R2
  have s7 : w6a.heap.size ≤ w7.heap.size := hb7.size
  have b7 : Hid (Below w6a.heap.size w6a w7) := hb7
  obtain ⟨w8, hw8⟩ : ∃ u, u = w7.alloc (.cells #[.int .i64 k, .string st, .int .i64 n, .int .i64 a.1, .int .i64 a.2.1, .slice s2' n2 c2', .slice s3' n3 c3', .slice s4' n4 c4', .slice s5' n5 c5', .int .i64 mv, .bool dn] 46) := ⟨_, rfl⟩
  have HW8 : Hid (w8 = w7.alloc (.cells #[.int .i64 k, .string st, .int .i64 n, .int .i64 a.1, .int .i64 a.2.1, .slice s2' n2 c2', .slice s3' n3 c3', .slice s4' n4 c4', .slice s5' n5 c5', .int .i64 mv, .bool dn] 46)) := hw8
  have b8 : Hid (Below w7.heap.size w7 w8) := by rw [hw8]; exact (Below.refl _ _).alloc (Nat.le_refl _) _
  have X8 : Hid (w8.heap[w7.heap.size]? = some (.cells #[.int .i64 k, .string st, .int .i64 n, .int .i64 a.1, .int .i64 a.2.1, .slice s2' n2 c2', .slice s3' n3 c3', .slice s4' n4 c4', .slice s5' n5 c5', .int .i64 mv, .bool dn] 46 (0, 0))) := by rw [hw8]; exact heap_alloc_new w7 _
  have s8 : w7.heap.size < w8.heap.size := by rw [hw8]; simp
  have b78 : Hid (Below w6a.heap.size w6a w8) := b7.out.trans (b8.out.mono s7)
  have bW8 : Hid (Below w6.heap.size w6 w8) := b6.out.trans (b78.out.mono (by omega))
  have X68 : Hid (w8.heap[w6.heap.size]? = some (.cells #[sl g0 D.ns, sl g1 D.nf, sl g2 D.np, sl g3 D.nv] 40 (0, 0))) := (b78.out.block _ (by omega)).trans X6.out
  have k8 : Hid (Below (w.heap.size + 1 + 1) W w8) := k6a.out.trans (b78.out.mono (by omega))
  clear hw8 R2 hb7
  clear hbw x0 x1 x2 x3 y0 y1 y2 y3 y4 y5 y6 y7 y8 y9 y10
  go_upto_region 11 with fail
  rw [← HW8.out]
  obtain ⟨d0, _⟩ := cell_row X68.out 0 _ rfl
  obtain ⟨d1, _⟩ := cell_row X68.out 1 _ rfl
  obtain ⟨d2, _⟩ := cell_row X68.out 2 _ rfl
  obtain ⟨d3, _⟩ := cell_row X68.out 3 _ rfl
  simp only [List.getElem_toArray, List.getElem_cons_zero, List.getElem_cons_succ] at d0 d1 d2 d3
  obtain ⟨f0, _⟩ := cell_row X8.out 0 (.int .i64 k) rfl
  obtain ⟨f1, _⟩ := cell_row X8.out 1 (.string st) rfl
  obtain ⟨f2, _⟩ := cell_row X8.out 2 (.int .i64 n) rfl
  obtain ⟨f3, _⟩ := cell_row X8.out 3 (.int .i64 a.1) rfl
  obtain ⟨f4, _⟩ := cell_row X8.out 4 (.int .i64 a.2.1) rfl
  obtain ⟨f5, _⟩ := cell_row X8.out 5 (.slice s2' n2 c2') rfl
  obtain ⟨f6, _⟩ := cell_row X8.out 6 (.slice s3' n3 c3') rfl
  obtain ⟨f7, _⟩ := cell_row X8.out 7 (.slice s4' n4 c4') rfl
  obtain ⟨f8, _⟩ := cell_row X8.out 8 (.slice s5' n5 c5') rfl
  obtain ⟨f9, _⟩ := cell_row X8.out 9 (.int .i64 mv) rfl
  obtain ⟨f10, _⟩ := cell_row X8.out 10 (.bool dn) rfl
  go_wp2_with fail
  refine (wordI_any w8.heap.size _ _ _ _ D (fun b => b < w8.heap.size) a n mv k st dn s2' s3' s4' s5' n2 n3 n4 n5 c2' c3' c4' c5' _ (pat_upB (HP2.out.kept bW8.out (Nat.le_refl _)) (by omega)) (Nat.le_refl _) hz.sz ((HR2.out.kept b8.out (Nat.le_refl _)).up (by omega)).parts.1.1 ((HR2.out.kept b8.out (Nat.le_refl _)).up (by omega)).parts.1.2.1 ((HR2.out.kept b8.out (Nat.le_refl _)).up (by omega)).parts.1.2.2.1 ((HR2.out.kept b8.out (Nat.le_refl _)).up (by omega)).parts.1.2.2.2 (fun b hb => hb) M2.out M3.out M4.out M5.out (by have := HN.out.1; unfold maxLen; omega) (by have := HN.out.2.1; unfold maxLen; omega) (by have := HN.out.2.2.1; unfold maxLen; omega) (by have := HN.out.2.2.2; unfold maxLen; omega)).mono ?_; rintro e w9 ⟨bi, rfl, ii, hb9⟩
  rw [ans_same k n mv st dn a ii IS.out]
  generalize (bs && wordB k n st a mv dn (stnL D).length (nthB (stnL D))) = bb
  clear ii d0 d1 d2 d3 f0 f1 f2 f3 f4 f5 f6 f7 f8 f9 f10 IS
  have s9 : w8.heap.size ≤ w9.heap.size := hb9.size
  have b89 : Hid (Below w8.heap.size w8 w9) := hb9
  have k9 : Hid (Below (w.heap.size + 1 + 1) W w9) := k8.out.trans (hb9.mono (by omega))
  have t9 : w.heap.size + 1 + 1 ≤ w9.heap.size := by omega
  have X69 : Hid (w9.heap[w6.heap.size]? = some (.cells #[sl g0 D.ns, sl g1 D.nf, sl g2 D.np, sl g3 D.nv] 40 (0, 0))) := (b89.out.block _ (by omega)).trans X68.out
  have X89 : Hid (w9.heap[w7.heap.size]? = some (.cells #[.int .i64 k, .string st, .int .i64 n, .int .i64 a.1, .int .i64 a.2.1, .slice s2' n2 c2', .slice s3' n3 c3', .slice s4' n4 c4', .slice s5' n5 c5', .int .i64 mv, .bool dn] 46 (0, 0))) := (b89.out.block _ (by omega)).trans X8.out
  clear hb9
  obtain ⟨d0, _⟩ := cell_row X69.out 0 _ rfl
  obtain ⟨d1, _⟩ := cell_row X69.out 1 _ rfl
  obtain ⟨d2, _⟩ := cell_row X69.out 2 _ rfl
  obtain ⟨d3, _⟩ := cell_row X69.out 3 _ rfl
  simp only [List.getElem_toArray, List.getElem_cons_zero, List.getElem_cons_succ] at d0 d1 d2 d3
  obtain ⟨⟨⟨x0, x1, x2, x3⟩, y0, y1, y2, y3, y4, y5, y6, y7, y8, y9, y10⟩, hbw⟩ := bx.out w9 k9.out
  have qx0 := fun d os => cell_regrown x0 d os
  have qx1 := fun d os => cell_regrown x1 d os
  have qx2 := fun d os => cell_regrown x2 d os
  have qx3 := fun d os => cell_regrown x3 d os
  have qd0 := fun d os => cell_regrown d0 d os
  have qd1 := fun d os => cell_regrown d1 d os
  have qd2 := fun d os => cell_regrown d2 d os
  have qd3 := fun d os => cell_regrown d3 d os
  have hbb : (bb != bb) = false := by cases bb <;> rfl
  go_wp2_with fail
  have hdr9 : Hid (Below w9.heap.size w9 w9.drew) := (Below.refl _ _).drew
  refine wp_region_mix 3 [0, 1] (by kernel_rfl) (by kernel_rfl) ?_
  simp only [List.filterMap_cons, List.filterMap_nil, List.getElem?_cons_succ, List.getElem?_cons_zero]
  repeat (first | go_big_quiet_step (fail) | quiet_step (fail))
  refine wpQuiet_nil ?_
  refine call1 (md := .any) (f := 0) (i := 2) (dc := 37) (fn := 7) ⟨rfl, rfl, rfl, by decide⟩ (by kernel_rfl) ?run ((MODEL.out w9.drew (k9.out.trans (hdr9.out.mono t9))).mono ?_)
  case run => go_simp
  rintro e w11 ⟨p0, p1, p2, p3, rfl, P3, hbw11⟩
  have HBw11 : Hid (Below w9.heap.size w9 w11) := hdr9.out.trans hbw11
  have HP3 : Hid (PAt w11.heap.size w11 p0 p1 p2 p3 D) := P3
  clear P3 hbw11 qx0 qx1 qx2 qx3 qd0 qd1 qd2 qd3 d0 d1 d2 d3
  clear hbw x0 x1 x2 x3 y0 y1 y2 y3 y4 y5 y6 y7 y8 y9 y10
  refine ⟨_, rfl, regrown_of_below HBw11.out, ?_⟩
  refine ⟨by kernel_rfl, ?_⟩
  simp only [List.drop_succ_cons, List.drop_zero, Act.put, List.setIfInBounds_toArray, List.set_cons_zero, List.set_cons_succ]
  have s11 : w9.heap.size ≤ w11.heap.size := HBw11.out.size
  have b611 : Hid (Below w6.heap.size w6 w11) := (bW8.out.trans (b89.out.mono (by omega))).trans (HBw11.out.mono (by omega))
  go_wp2_with fail
  refine (eqPlant_any w6.heap.size w11.heap.size _ _ _ _ p0 p1 p2 p3 D _ (HP2.out.kept b611.out (Nat.le_refl _)) HP3.out (by omega) (Nat.le_refl _)).mono ?_; rintro e w12 ⟨rfl, hb12⟩
  have s12 : w11.heap.size ≤ w12.heap.size := hb12.size
  have b912 : Hid (Below w9.heap.size w9 w12) := HBw11.out.trans (hb12.mono (by omega))
  have k12 : Hid (Below (w.heap.size + 1 + 1) W w12) := k9.out.trans (b912.out.mono (by omega))
  have t12 : w.heap.size + 1 + 1 ≤ w12.heap.size := by omega
  have X812 : Hid (w12.heap[w7.heap.size]? = some (.cells #[.int .i64 k, .string st, .int .i64 n, .int .i64 a.1, .int .i64 a.2.1, .slice s2' n2 c2', .slice s3' n3 c3', .slice s4' n4 c4', .slice s5' n5 c5', .int .i64 mv, .bool dn] 46 (0, 0))) := (b912.out.block _ (by omega)).trans X89.out
  clear hb12 HP3 HBw11
  obtain ⟨f0, _⟩ := cell_row X812.out 0 (.int .i64 k) rfl
  obtain ⟨f1, _⟩ := cell_row X812.out 1 (.string st) rfl
  obtain ⟨f2, _⟩ := cell_row X812.out 2 (.int .i64 n) rfl
  obtain ⟨f3, _⟩ := cell_row X812.out 3 (.int .i64 a.1) rfl
  obtain ⟨f4, _⟩ := cell_row X812.out 4 (.int .i64 a.2.1) rfl
  obtain ⟨f5, _⟩ := cell_row X812.out 5 (.slice s2' n2 c2') rfl
  obtain ⟨f6, _⟩ := cell_row X812.out 6 (.slice s3' n3 c3') rfl
  obtain ⟨f7, _⟩ := cell_row X812.out 7 (.slice s4' n4 c4') rfl
  obtain ⟨f8, _⟩ := cell_row X812.out 8 (.slice s5' n5 c5') rfl
  obtain ⟨f9, _⟩ := cell_row X812.out 9 (.int .i64 mv) rfl
  obtain ⟨f10, _⟩ := cell_row X812.out 10 (.bool dn) rfl
  obtain ⟨⟨⟨x0, x1, x2, x3⟩, y0, y1, y2, y3, y4, y5, y6, y7, y8, y9, y10⟩, hbw⟩ := bx.out w12 k12.out
  have qy0 := fun d os => cell_regrown y0 d os
  have qy1 := fun d os => cell_regrown y1 d os
  have qy2 := fun d os => cell_regrown y2 d os
  have qy3 := fun d os => cell_regrown y3 d os
  have qy4 := fun d os => cell_regrown y4 d os
  have qy5 := fun d os => cell_regrown y5 d os
  have qy6 := fun d os => cell_regrown y6 d os
  have qy7 := fun d os => cell_regrown y7 d os
  have qy8 := fun d os => cell_regrown y8 d os
  have qy9 := fun d os => cell_regrown y9 d os
  have qy10 := fun d os => cell_regrown y10 d os
  have qf0 := fun d os => cell_regrown f0 d os
  have qf1 := fun d os => cell_regrown f1 d os
  have qf2 := fun d os => cell_regrown f2 d os
  have qf3 := fun d os => cell_regrown f3 d os
  have qf4 := fun d os => cell_regrown f4 d os
  have qf5 := fun d os => cell_regrown f5 d os
  have qf6 := fun d os => cell_regrown f6 d os
  have qf7 := fun d os => cell_regrown f7 d os
  have qf8 := fun d os => cell_regrown f8 d os
  have qf9 := fun d os => cell_regrown f9 d os
  have qf10 := fun d os => cell_regrown f10 d os
  go_wp2_with fail
  have hdr12 : Hid (Below w12.heap.size w12 w12.drew) := (Below.refl _ _).drew
  refine wp_region_mix 3 [0, 1] (by kernel_rfl) (by kernel_rfl) ?_
  simp only [List.filterMap_cons, List.filterMap_nil, List.getElem?_cons_succ, List.getElem?_cons_zero]
  repeat (first | go_big_quiet_step (fail) | quiet_step (fail))
  refine wpQuiet_nil ?_
  refine call1 (md := .any) (f := 0) (i := 2) (dc := 42) (fn := 8) ⟨rfl, rfl, rfl, by decide⟩ (by kernel_rfl) ?run ((WORDS.out w12.drew (k12.out.trans (hdr12.out.mono t12))).mono ?_)
  case run => go_simp
  rintro e w15 ⟨t2, t3, t4, t5, u2, u3, u4, u5, rfl, R3, hbw15⟩
  have HBw15 : Hid (Below w12.heap.size w12 w15) := hdr12.out.trans hbw15
  have HR3 : Hid (WAt w15.heap.size w15 a t2 t3 t4 t5 n2 n3 n4 n5 u2 u3 u4 u5) := R3
  clear R3 hbw15 qy0 qy1 qy2 qy3 qy4 qy5 qy6 qy7 qy8 qy9 qy10 qf0 qf1 qf2 qf3 qf4 qf5 qf6 qf7 qf8 qf9 qf10 f0 f1 f2 f3 f4 f5 f6 f7 f8 f9 f10
  clear hbw x0 x1 x2 x3 y0 y1 y2 y3 y4 y5 y6 y7 y8 y9 y10
  refine ⟨_, rfl, regrown_of_below HBw15.out, ?_⟩
  refine ⟨by kernel_rfl, ?_⟩
  simp only [List.drop_succ_cons, List.drop_zero, Act.put, List.setIfInBounds_toArray, List.set_cons_zero, List.set_cons_succ]
  have s15 : w12.heap.size ≤ w15.heap.size := HBw15.out.size
  have b715 : Hid (Below w7.heap.size w7 w15) := ((b8.out.trans (b89.out.mono (by omega))).trans (b912.out.mono (by omega))).trans (HBw15.out.mono (by omega))
  go_wp2_with fail
  refine (eqWord_any w7.heap.size w15.heap.size k n mv st dn a s2' s3' s4' s5' t2 t3 t4 t5 n2 n3 n4 n5 c2' c3' c4' c5' u2 u3 u4 u5 _ (HR2.out.kept b715.out (Nat.le_refl _)) HR3.out (by omega) (Nat.le_refl _)).mono ?_; rintro e w16 ⟨rfl, hb16⟩
  have k16 : Hid (Below (w.heap.size + 1 + 1) W w16) := (k12.out.trans (HBw15.out.mono t12)).trans (hb16.mono (by omega))
  clear hb16
  go_wp2_with fail
  go_ret
  exact ⟨rfl, (bx.out _ k16.out).2⟩

end Go.Proofs.YtciembgenlcogaeGreat
