/-
  The law FnExactPlantGroups, walked: whatever the plant and the names, the call returns true, and nothing that was there before has turned.
-/
import Derived.Test.YtbdhlcfcmennjacGreatSr
import Derived.Test.YtbdhlcfcmennjacGreatMk
namespace Go.Proofs.YtbdhlcfcmennjacGreat
open Go.RowKit

theorem PAt.up {B B' : Nat} {w : World} {v0 v1 v2 v3 : Value} {D : PD} (h : PAt B w v0 v1 v2 v3 D) (hB : B ≤ B') : PAt B' w v0 v1 v2 v3 D := ⟨h.s.up hB, h.f.up hB, h.p.up hB, h.v.up hB⟩

theorem pre_bound {G : List (List ByteArray)} (h : ∀ i, (nthL G i).length ≤ 37) : ∀ n, pre G n ≤ 37 * n
  | 0 => Nat.le_refl _
  | n + 1 => by
    have := pre_bound h n
    have := h n
    simp only [pre]; omega
theorem gsL_bound (b : Bool) (D : PD) (no : Nat) (fo : Nat → ByteArray) (hb : b = true → D.V) : (gsL b D no fo).length ≤ 1048576 ∧ (∀ i, i < (gsL b D no fo).length → (nthL (gsL b D no fo) i).length ≤ 1048576) ∧ pre (gsL b D no fo) (gsL b D no fo).length ≤ 1000000 := by
  cases b
  · exact ⟨Nat.zero_le _, fun i hi => by simp [gsL] at hi, Nat.zero_le _⟩
  · have hV := hb rfl
    have hnp : D.np ≤ 37 := Nat.le_trans hV.2.1.1 (by omega)
    have hl := gsN_len D no fo D.np
    have hr : ∀ i, (nthL (gsN D no fo D.np) i).length ≤ 37 := fun i => by
      by_cases hi : i < (gsN D no fo D.np).length
      · have hm : nthL (gsN D no fo D.np) i ∈ gsN D no fo D.np := by
          have : nthL (gsN D no fo D.np) i = (gsN D no fo D.np)[i] := by simp [nthL, hi]
          rw [this]; exact List.getElem_mem hi
        obtain ⟨j, _, e⟩ := List.mem_map.1 hm
        rw [← e]; exact grO_len hV no fo j
      · have : nthL (gsN D no fo D.np) i = [] := by simp [nthL, Nat.le_of_not_lt hi]
        rw [this]; exact Nat.zero_le _
    have hp := pre_bound hr (gsN D no fo D.np).length
    show (gsN D no fo D.np).length ≤ _ ∧ (∀ i, i < (gsN D no fo D.np).length → (nthL (gsN D no fo D.np) i).length ≤ _) ∧ pre (gsN D no fo D.np) (gsN D no fo D.np).length ≤ _
    exact ⟨by omega, fun i _ => by have := hr i; omega, by omega⟩

open Go.Sort in
set_option maxRecDepth 100000 in
set_option maxHeartbeats 16000000 in
theorem lawPs_any (B : Nat) (v0 v1 v2 v3 vo : Value) (D : PD) (no : Nat) (fo : Nat → ByteArray) (w : World) (h : PAt B w v0 v1 v2 v3 D) (ho : Lst B w vo no 1 (cS fo)) (hB : B ≤ w.heap.size) (hz : D.All) (hzo : ∀ i, i < no → (fo i).size ≤ maxLen) :
    Calls Tryz.prog 3 #[.agg #[v0, v1, v2, v3], vo] w fun e w' => e = .returned (.bool true) ∧ Below w.heap.size w w' := by
  have H : Hid (∀ w', Below w.heap.size w w' → PAt B w' v0 v1 v2 v3 D ∧ Lst B w' vo no 1 (cS fo)) := fun w' hb => ⟨h.kept hb hB, ho.kept hb hB⟩
  clear h ho
  have k0 : Hid (Below (w.heap.size + 1) (w.alloc (.cells #[v0, v1, v2, v3] 27)) (w.alloc (.cells #[v0, v1, v2, v3] 27))) := Below.refl _ _
  go_enter Tryz.func3, Tryz.ntmps3
  go_wp2_with fail
  refine (szPlant_le B v0 v1 v2 v3 D _ (H.out _ (below_end k0.out)).1 (by simp; omega) hz).mono ?_; rintro e w1 ⟨n1, rfl, hn1, hsm1, hb1⟩
  have k1 : Hid (Below (w.heap.size + 1) (w.alloc (.cells #[v0, v1, v2, v3] 27)) w1) := below_of k0.out hb1
  have HS1 : Hid _ := hsm1
  clear hsm1 hb1
  by_cases hg1 : n1 < 0
  · go_wp2_with fail
    go_ret
    exact ⟨rfl, below_end k1.out⟩
  have s1 : w.heap.size + 1 ≤ w1.heap.size := by have := k1.out.size; simpa using this
  go_wp2_with fail
  refine (szS_any B vo no fo n1 _ (H.out _ (below_end k1.out)).2 hzo (by omega) hn1).mono ?_; rintro e w2 ⟨n2, rfl, hn2, hsm2, hb2⟩
  have k2 : Hid (Below (w.heap.size + 1) (w.alloc (.cells #[v0, v1, v2, v3] 27)) w2) := below_of k1.out hb2
  have HS2 : Hid _ := hsm2
  clear hsm2 hb2
  by_cases hg2 : n2 < 0
  · go_wp2_with fail
    go_ret
    exact ⟨rfl, below_end k2.out⟩
  have HM : Hid (D.ns ≤ 1048576 ∧ D.nf ≤ 1048576 ∧ D.np ≤ 1048576 ∧ D.nv ≤ 1048576) := HS1.out (by omega)
  have hno : no ≤ 1048576 := HS2.out (by omega)
  have s2 : w.heap.size + 1 ≤ w2.heap.size := by have := k2.out.size; simpa using this
  have bx : Hid (∀ w', Below (w.heap.size + 1) (w.alloc (.cells #[v0, v1, v2, v3] 27)) w' → w'.cell? ⟨w.heap.size, 0, none⟩ = some v0 ∧ w'.cell? ⟨w.heap.size, 1, none⟩ = some v1 ∧ w'.cell? ⟨w.heap.size, 2, none⟩ = some v2 ∧ w'.cell? ⟨w.heap.size, 3, none⟩ = some v3) := fun w' hb => ⟨box_in hb 0 _ rfl, box_in hb 1 _ rfl, box_in hb 2 _ rfl, box_in hb 3 _ rfl⟩
  have MODEL : Hid (∀ (wr : World), Below (w.heap.size + 1) (w.alloc (.cells #[v0, v1, v2, v3] 27)) wr → Calls Tryz.prog 8 #[.agg #[v0, v1, v2, v3]] wr fun e w' => ∃ u0 u1 u2 u3, e = .returned (.agg #[u0, u1, u2, u3]) ∧ PAt w'.heap.size w' u0 u1 u2 u3 D ∧ Below wr.heap.size wr w') := fun wr hb => toPlant_any B v0 v1 v2 v3 D wr (H.out wr (below_end hb)).1 (Nat.le_trans hB (below_end hb).size) HM.out
  have OPEN : Hid (∀ (wr : World), Below (w.heap.size + 1) (w.alloc (.cells #[v0, v1, v2, v3] 27)) wr → Calls Tryz.prog 9 #[vo] wr fun e w' => e = .returned (.slice (some ⟨wr.heap.size, 0, none⟩) no no) ∧ Lst w'.heap.size w' (.slice (some ⟨wr.heap.size, 0, none⟩) no no) no 1 (cS fo) ∧ Blk w'.heap.size w' wr.heap.size 9 no ∧ Below wr.heap.size wr w') := fun wr hb => toS_blk B vo no fo wr (H.out wr (below_end hb)).2 (Nat.le_trans hB (below_end hb).size) hno
  obtain ⟨a0, a1, a2, a3⟩ := bx.out w2 k2.out
  go_wp2_with fail
  refine (MODEL.out w2 k2.out).mono ?_; rintro e w3 ⟨p0, p1, p2, p3, rfl, P1, hbw3⟩
  have HP1 : Hid (PAt w3.heap.size w3 p0 p1 p2 p3 D) := P1
  have kw3 : Hid (Below (w.heap.size + 1) (w.alloc (.cells #[v0, v1, v2, v3] 27)) w3) := below_of k2.out hbw3
  have HBw3 : Hid (Below w2.heap.size w2 w3) := hbw3
  clear P1 hbw3 a0 a1 a2 a3
  go_wp2_with fail
  refine (OPEN.out w3 kw3.out).mono ?_; rintro e w4 ⟨rfl, R1, _, hbw4⟩
  have HR1 : Hid (Lst w4.heap.size w4 (.slice (some ⟨w3.heap.size, 0, none⟩) no no) no 1 (cS fo)) := R1
  have kw4 : Hid (Below (w.heap.size + 1) (w.alloc (.cells #[v0, v1, v2, v3] 27)) w4) := below_of kw3.out hbw4
  have HBw4 : Hid (Below w2.heap.size w2 w4) := HBw3.out.trans (hbw4.mono HBw3.out.size)
  have HP2 : Hid (PAt w4.heap.size w4 p0 p1 p2 p3 D) := (HP1.out.kept hbw4 (Nat.le_refl _)).up hbw4.size
  clear R1 hbw4 HP1
  have s4 : w2.heap.size ≤ w4.heap.size := HBw4.out.size
  go_wp2_with fail
  refine (groupsS_any w4.heap.size p0 p1 p2 p3 _ D no fo _ HP2.out HR1.out (Nat.le_refl _) hz.sz).mono ?_; rintro e w5 ⟨u0, bs, us0, gs0, rfl, is, ow0, hb5⟩
  have IS : Hid _ := is
  obtain ⟨hlen, hrow, hpre⟩ := gsL_bound bs D no fo (fun e => is.1 e)
  have k5 : Hid (Below (w.heap.size + 1) (w.alloc (.cells #[v0, v1, v2, v3] 27)) w5) := below_of kw4.out hb5
  have L0 : Hid (SetsR w5.heap.size w5 u0 (gsL bs D no fo) us0) := ow0.read hlen hrow
  clear is ow0 hb5 HP2 HR1 HBw4 HBw3 kw3 kw4
  generalize hLL : gsL bs D no fo = LL at hlen hrow hpre L0
  have HLL : Hid (gsL bs D no fo = LL) := hLL
  clear hLL
  have s5 : w.heap.size + 1 ≤ w5.heap.size := by have := k5.out.size; simpa using this
  obtain ⟨a0, a1, a2, a3⟩ := bx.out w5 k5.out
  go_wp2_with fail
  refine (toPlant_blk B v0 v1 v2 v3 D _ (H.out w5 (below_end k5.out)).1 (by omega) HM.out).mono ?_; rintro e w6 ⟨g0, g1, g2, g3, rfl, P2, PB, hb6⟩
  have HP2 : Hid (PAt w6.heap.size w6 (sl g0 D.ns) (sl g1 D.nf) (sl g2 D.np) (sl g3 D.nv) D) := P2
  have HPB : Hid (PBlk w5.heap.size w6.heap.size w6 g0 g1 g2 g3 D) := PB
  have s6 : w5.heap.size ≤ w6.heap.size := hb6.size
  obtain ⟨w6a, hw6a⟩ : ∃ u, u = w6.alloc (.cells #[sl g0 D.ns, sl g1 D.nf, sl g2 D.np, sl g3 D.nv] 36) := ⟨_, rfl⟩
  have HW6 : Hid (w6a = w6.alloc (.cells #[sl g0 D.ns, sl g1 D.nf, sl g2 D.np, sl g3 D.nv] 36)) := hw6a
  have b6 : Hid (Below w6.heap.size w6 w6a) := by rw [hw6a]; exact (Below.refl _ _).alloc (Nat.le_refl _) _
  have X6 : Hid (w6a.heap[w6.heap.size]? = some (.cells #[sl g0 D.ns, sl g1 D.nf, sl g2 D.np, sl g3 D.nv] 36 (0, 0))) := by rw [hw6a]; exact heap_alloc_new w6 _
  have s6a : w6.heap.size < w6a.heap.size := by rw [hw6a]; simp
  have b56 : Hid (Below w5.heap.size w5 w6a) := hb6.trans (b6.out.mono s6)
  have k6a : Hid (Below (w.heap.size + 1) (w.alloc (.cells #[v0, v1, v2, v3] 27)) w6a) := below_of k5.out b56.out
  clear hw6a P2 PB hb6 a0 a1 a2 a3
  go_upto_region 10 with fail
  rw [← HW6.out]
  go_wp2_with fail
  refine (OPEN.out w6a k6a.out).mono ?_; rintro e w8 ⟨rfl, R2, RB0, hb8⟩
  have HR2 : Hid (Lst w8.heap.size w8 (.slice (some ⟨w6a.heap.size, 0, none⟩) no no) no 1 (cS fo)) := R2
  have HRB0 : Hid (Blk w8.heap.size w8 w6a.heap.size 9 no) := RB0
  have b78 : Hid (Below w6a.heap.size w6a w8) := hb8
  have s8 : w6a.heap.size ≤ w8.heap.size := hb8.size
  have X68 : Hid (w8.heap[w6.heap.size]? = some (.cells #[sl g0 D.ns, sl g1 D.nf, sl g2 D.np, sl g3 D.nv] 36 (0, 0))) := (hb8.block _ (by omega)).trans X6.out
  have k8 : Hid (Below (w.heap.size + 1) (w.alloc (.cells #[v0, v1, v2, v3] 27)) w8) := below_of k6a.out hb8
  clear R2 RB0 hb8
  obtain ⟨d0, _⟩ := cell_row X68.out 0 _ rfl
  obtain ⟨d1, _⟩ := cell_row X68.out 1 _ rfl
  obtain ⟨d2, _⟩ := cell_row X68.out 2 _ rfl
  obtain ⟨d3, _⟩ := cell_row X68.out 3 _ rfl
  simp only [List.getElem_toArray, List.getElem_cons_zero, List.getElem_cons_succ] at d0 d1 d2 d3
  have bW8 : Hid (Below w6.heap.size w6 w8) := b6.out.trans (b78.out.mono (by omega))
  go_wp2_with fail
  refine (groupsI_any w8.heap.size _ _ _ _ _ D no fo _ ((HP2.out.kept bW8.out (Nat.le_refl _)).up (by omega)) HR2.out (Nat.le_refl _) hz.sz).mono ?_; rintro e w9 ⟨u1, bi, us1, gs1, rfl, ii, ow1, hb9⟩
  have hbe : bi = bs := bool_same ii IS.out
  subst hbe
  rw [HLL.out] at ow1
  clear ii d0 d1 d2 d3
  have s9 : w8.heap.size ≤ w9.heap.size := hb9.size
  have OW1 : Hid (SetsO w8.heap.size w9 u1 LL us1 gs1) := ow1
  have b89 : Hid (Below w8.heap.size w8 w9) := hb9
  have k9 : Hid (Below (w.heap.size + 1) (w.alloc (.cells #[v0, v1, v2, v3] 27)) w9) := below_of k8.out hb9
  have b59 : Hid (Below w5.heap.size w5 w9) := (b56.out.trans (b78.out.mono (by omega))).trans (b89.out.mono (by omega))
  have L9 : Hid (SetsR w5.heap.size w9 u0 LL us0) := L0.out.kept b59.out (Nat.le_refl _)
  clear ow1 hb9
  go_wp2_with fail
  refine (eqSets_any w9.heap.size w5.heap.size u1 u0 LL us1 us0 _ (OW1.out.read hlen hrow) L9.out (Nat.le_refl _) (by omega)).mono ?_; rintro e w10 ⟨rfl, hb10⟩
  have s10 : w9.heap.size ≤ w10.heap.size := hb10.size
  have b910 : Hid (Below w9.heap.size w9 w10) := hb10
  have k10 : Hid (Below (w.heap.size + 1) (w.alloc (.cells #[v0, v1, v2, v3] 27)) w10) := below_of k9.out hb10
  have t10 : w.heap.size + 1 ≤ w10.heap.size := by omega
  have X610 : Hid (w10.heap[w6.heap.size]? = some (.cells #[sl g0 D.ns, sl g1 D.nf, sl g2 D.np, sl g3 D.nv] 36 (0, 0))) := (hb10.block _ (by omega)).trans ((b89.out.block _ (by omega)).trans X68.out)
  clear hb10
  obtain ⟨d0, _⟩ := cell_row X610.out 0 _ rfl
  obtain ⟨d1, _⟩ := cell_row X610.out 1 _ rfl
  obtain ⟨d2, _⟩ := cell_row X610.out 2 _ rfl
  obtain ⟨d3, _⟩ := cell_row X610.out 3 _ rfl
  simp only [List.getElem_toArray, List.getElem_cons_zero, List.getElem_cons_succ] at d0 d1 d2 d3
  obtain ⟨x0, x1, x2, x3⟩ := bx.out w10 k10.out
  have qx0 := fun d os => cell_regrown x0 d os
  have qx1 := fun d os => cell_regrown x1 d os
  have qx2 := fun d os => cell_regrown x2 d os
  have qx3 := fun d os => cell_regrown x3 d os
  have qd0 := fun d os => cell_regrown d0 d os
  have qd1 := fun d os => cell_regrown d1 d os
  have qd2 := fun d os => cell_regrown d2 d os
  have qd3 := fun d os => cell_regrown d3 d os
  go_wp2_with fail
  have hdr : Hid (Below w10.heap.size w10 w10.drew) := (Below.refl _ _).drew
  refine wp_region_mix 3 [0, 1] (by kernel_rfl) (by kernel_rfl) ?_
  simp only [List.filterMap_cons, List.filterMap_nil, List.getElem?_cons_succ, List.getElem?_cons_zero]
  repeat (first | go_big_quiet_step (fail) | quiet_step (fail))
  refine wpQuiet_nil ?_
  refine call1 (md := .any) (f := 0) (i := 2) (dc := 42) (fn := 8) ⟨rfl, rfl, rfl, by decide⟩ (by kernel_rfl) ?run ((MODEL.out w10.drew (k10.out.trans (hdr.out.mono t10))).mono ?_)
  case run => go_simp
  rintro e w11 ⟨p0, p1, p2, p3, rfl, P3, hbw11⟩
  have HBw11 : Hid (Below w10.heap.size w10 w11) := hdr.out.trans hbw11
  have HP3 : Hid (PAt w11.heap.size w11 p0 p1 p2 p3 D) := P3
  clear P3 hbw11 qx0 qx1 qx2 qx3 qd0 qd1 qd2 qd3 d0 d1 d2 d3 x0 x1 x2 x3
  refine ⟨_, rfl, regrown_of_below HBw11.out, ?_⟩
  refine ⟨by kernel_rfl, ?_⟩
  simp only [List.drop_succ_cons, List.drop_zero, Act.put, List.setIfInBounds_toArray, List.set_cons_zero, List.set_cons_succ]
  have s11 : w10.heap.size ≤ w11.heap.size := HBw11.out.size
  have b911 : Hid (Below w9.heap.size w9 w11) := b910.out.trans (HBw11.out.mono s10)
  have b611 : Hid (Below w6.heap.size w6 w11) := (bW8.out.trans (b89.out.mono (by omega))).trans (b911.out.mono (by omega))
  go_wp2_with fail
  refine (eqPlant_any w6.heap.size w11.heap.size _ _ _ _ p0 p1 p2 p3 D _ (HP2.out.kept b611.out (Nat.le_refl _)) HP3.out (by omega) (Nat.le_refl _)).mono ?_; rintro e w12 ⟨rfl, hb12⟩
  have s12 : w11.heap.size ≤ w12.heap.size := hb12.size
  have b912 : Hid (Below w9.heap.size w9 w12) := b911.out.trans (hb12.mono (by omega))
  have k12 : Hid (Below (w.heap.size + 1) (w.alloc (.cells #[v0, v1, v2, v3] 27)) w12) := below_of k9.out b912.out
  clear hb12 HP3 HBw11
  go_wp2_with fail
  refine (OPEN.out w12 k12.out).mono ?_; rintro e w13 ⟨rfl, R3, _, hb13⟩
  have HR3 : Hid (Lst w13.heap.size w13 (.slice (some ⟨w12.heap.size, 0, none⟩) no no) no 1 (cS fo)) := R3
  have s13 : w12.heap.size ≤ w13.heap.size := hb13.size
  have b913 : Hid (Below w9.heap.size w9 w13) := b912.out.trans (hb13.mono (by omega))
  have b813 : Hid (Below w8.heap.size w8 w13) := b89.out.trans (b913.out.mono (by omega))
  clear R3 hb13
  go_wp2_with fail
  refine (eqS_lst w8.heap.size w13.heap.size _ _ no fo _ (HR2.out.kept b813.out (Nat.le_refl _)) HR3.out (by omega) (Nat.le_refl _)).mono ?_; rintro e w14 ⟨rfl, hb14⟩
  have s14 : w13.heap.size ≤ w14.heap.size := hb14.size
  have b914 : Hid (Below w9.heap.size w9 w14) := b913.out.trans (hb14.mono (by omega))
  have b614 : Hid (Below w6.heap.size w6 w14) := (bW8.out.trans (b89.out.mono (by omega))).trans (b914.out.mono (by omega))
  have b814 : Hid (Below w8.heap.size w8 w14) := b813.out.trans (hb14.mono (by omega))
  have k14 : Hid (Below (w.heap.size + 1) (w.alloc (.cells #[v0, v1, v2, v3] 27)) w14) := below_of k9.out b914.out
  have X614 : Hid (w14.heap[w6.heap.size]? = some (.cells #[sl g0 D.ns, sl g1 D.nf, sl g2 D.np, sl g3 D.nv] 36 (0, 0))) := (b914.out.block _ (by omega)).trans ((b89.out.block _ (by omega)).trans X68.out)
  have OW14 : Hid (SetsO w8.heap.size w14 u1 LL us1 gs1) := OW1.out.below b914.out
  have L14 : Hid (SetsR w5.heap.size w14 u0 LL us0) := L9.out.kept b914.out (by omega)
  clear hb14 HR3
  obtain ⟨d0, _⟩ := cell_row X614.out 0 _ rfl
  obtain ⟨d1, _⟩ := cell_row X614.out 1 _ rfl
  obtain ⟨d2, _⟩ := cell_row X614.out 2 _ rfl
  obtain ⟨d3, _⟩ := cell_row X614.out 3 _ rfl
  simp only [List.getElem_toArray, List.getElem_cons_zero, List.getElem_cons_succ] at d0 d1 d2 d3
  have pb14 : Hid (PBlk w5.heap.size w6.heap.size w14 g0 g1 g2 g3 D) := ⟨HPB.out.a, HPB.out.s.kept b614.out (Nat.le_refl _), HPB.out.f.kept b614.out (Nat.le_refl _), HPB.out.p.kept b614.out (Nat.le_refl _), HPB.out.v.kept b614.out (Nat.le_refl _)⟩
  go_wp2_with fail
  refine (markPlant_le w5.heap.size w6.heap.size g0 g1 g2 g3 D _ pb14.out (by omega) s6 HM.out).mono ?_; rintro e w15 ⟨kk, rfl, ⟨hkk1, hkk2⟩, o15⟩
  have O15 : Hid (Outs w5.heap.size w6.heap.size w14 w15) := o15
  have s15 : w14.heap.size ≤ w15.heap.size := o15.bel.size
  obtain ⟨lb, cb, hcb, hcs⟩ : Blk w8.heap.size w15 w6a.heap.size 9 no := ⟨(HRB0.out.kept b814.out (Nat.le_refl _)).1, o15.blk _ _ _ (HRB0.out.kept b814.out (Nat.le_refl _)).2⟩
  have HCB : Hid _ := hcb
  clear o15 d0 d1 d2 d3 hcb
  go_wp2_with fail
  refine (mkS_any w6a.heap.size w8.heap.size w6a.heap.size no no no kk cb _ HCB.out hcs (Nat.le_refl _) lb (Nat.le_refl _) hkk1 (by omega)).mono ?_; rintro e w16 ⟨rfl, o16, _⟩
  have O16 : Hid (Outs w6a.heap.size w8.heap.size w15 w16) := o16
  have s16 : w15.heap.size ≤ w16.heap.size := o16.bel.size
  clear o16
  have OW16 : Hid (SetsO w8.heap.size w16 u1 LL us1 gs1) := (OW14.out.outs O15.out (by omega)).outs O16.out (by omega)
  have L16 : Hid (SetsR w5.heap.size w16 u0 LL us0) := (L14.out.kept O15.out.bel (Nat.le_refl _)).kept O16.out.bel (by omega)
  have k16 : Hid (Below (w.heap.size + 1) (w.alloc (.cells #[v0, v1, v2, v3] 27)) w16) := (k14.out.trans (O15.out.bel.mono s5)).trans (O16.out.bel.mono (by omega))
  have hq1 : decide (1 + (pre LL LL.length : Int) < 0) = false := by simp; omega
  have dkj : decide (kk + (no : Int) < 0) = false := by simp; omega
  go_wp2_with fail
  refine (eqSets_any w16.heap.size w5.heap.size u1 u0 LL us1 us0 _ (OW16.out.read hlen hrow) L16.out (Nat.le_refl _) (by omega)).mono ?_; rintro e w17 ⟨rfl, hb17⟩
  have s17 : w16.heap.size ≤ w17.heap.size := hb17.size
  have HB17 : Hid (Below w16.heap.size w16 w17) := hb17
  clear hb17
  go_wp2_with fail
  refine (markSets_any w8.heap.size u1 LL us1 gs1 _ (OW16.out.below HB17.out) hlen hpre).mono ?_; rintro e w18 ⟨rfl, hb18, hl18⟩
  have s18 : w17.heap.size ≤ w18.heap.size := hb18.size
  have HB18 : Hid (Below w8.heap.size w17 w18) := hb18
  have L18 : Hid (HeldR w18.heap.size w18 u1 LL us1) := hl18
  clear hb18 hl18
  have k18 : Hid (Below (w.heap.size + 1) (w.alloc (.cells #[v0, v1, v2, v3] 27)) w18) := (k16.out.trans (HB17.out.mono (by omega))).trans (HB18.out.mono (by omega))
  have M18 : Hid (SetsR w5.heap.size w18 u0 LL us0) := (L16.out.kept HB17.out (by omega)).kept HB18.out (by omega)
  go_wp2_with fail
  refine (heldSets_any w18.heap.size u1 LL us1 _ L18.out (Nat.le_refl _) hpre).mono ?_; rintro e w19 ⟨rfl, hb19⟩
  have s19 : w18.heap.size ≤ w19.heap.size := hb19.size
  have HB19 : Hid (Below w18.heap.size w18 w19) := hb19
  have k19 : Hid (Below (w.heap.size + 1) (w.alloc (.cells #[v0, v1, v2, v3] 27)) w19) := below_of k18.out hb19
  clear hb19
  obtain ⟨a0, a1, a2, a3⟩ := bx.out w19 k19.out
  go_wp2_with fail
  refine (MODEL.out w19 k19.out).mono ?_; rintro e w20 ⟨p0, p1, p2, p3, rfl, P1, hbw20⟩
  have HP1 : Hid (PAt w20.heap.size w20 p0 p1 p2 p3 D) := P1
  have kw20 : Hid (Below (w.heap.size + 1) (w.alloc (.cells #[v0, v1, v2, v3] 27)) w20) := below_of k19.out hbw20
  have HBw20 : Hid (Below w19.heap.size w19 w20) := hbw20
  clear P1 hbw20 a0 a1 a2 a3
  go_wp2_with fail
  refine (OPEN.out w20 kw20.out).mono ?_; rintro e w21 ⟨rfl, R1, _, hbw21⟩
  have HR1 : Hid (Lst w21.heap.size w21 (.slice (some ⟨w20.heap.size, 0, none⟩) no no) no 1 (cS fo)) := R1
  have kw21 : Hid (Below (w.heap.size + 1) (w.alloc (.cells #[v0, v1, v2, v3] 27)) w21) := below_of kw20.out hbw21
  have HBw21 : Hid (Below w19.heap.size w19 w21) := HBw20.out.trans (hbw21.mono HBw20.out.size)
  have HP2 : Hid (PAt w21.heap.size w21 p0 p1 p2 p3 D) := (HP1.out.kept hbw21 (Nat.le_refl _)).up hbw21.size
  clear R1 hbw21 HP1
  have s21 : w19.heap.size ≤ w21.heap.size := HBw21.out.size
  go_wp2_with fail
  refine (groupsI_any w21.heap.size p0 p1 p2 p3 _ D no fo _ HP2.out HR1.out (Nat.le_refl _) hz.sz).mono ?_; rintro e w22 ⟨u2, b2, us2, gs2, rfl, i2, ow2, hb22⟩
  have hb2e : b2 = bi := bool_same i2 IS.out
  rw [hb2e, HLL.out] at ow2
  clear i2 hb2e
  have s22 : w21.heap.size ≤ w22.heap.size := hb22.size
  have OW2 : Hid (SetsO w21.heap.size w22 u2 LL us2 gs2) := ow2
  have b1822 : Hid (Below w18.heap.size w18 w22) := (HB19.out.trans (HBw21.out.mono s19)).trans (hb22.mono (by omega))
  have M22 : Hid (SetsR w5.heap.size w22 u0 LL us0) := M18.out.kept b1822.out (by omega)
  clear ow2 hb22
  go_wp2_with fail
  refine (eqSets_any w22.heap.size w5.heap.size u2 u0 LL us2 us0 _ (OW2.out.read hlen hrow) M22.out (Nat.le_refl _) (by omega)).mono ?_; rintro e w23 ⟨rfl, hb23⟩
  have s23 : w22.heap.size ≤ w23.heap.size := hb23.size
  have b1823 : Hid (Below w18.heap.size w18 w23) := b1822.out.trans (hb23.mono (by omega))
  clear hb23
  go_wp2_with fail
  refine (heldSets_any w18.heap.size u1 LL us1 _ (L18.out.kept b1823.out (Nat.le_refl _)) (by omega) hpre).mono ?_; rintro e w24 ⟨rfl, hb24⟩
  have k24 : Hid (Below (w.heap.size + 1) (w.alloc (.cells #[v0, v1, v2, v3] 27)) w24) := (k18.out.trans (b1823.out.mono (by omega))).trans (hb24.mono (by omega))
  clear hb24
  go_wp2_with fail
  go_ret
  exact ⟨rfl, below_end k24.out⟩

end Go.Proofs.YtbdhlcfcmennjacGreat
