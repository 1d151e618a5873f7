/-
  The law FnExactCtlStations, walked: whatever the plant, the call returns true, and nothing that was there before has turned.
-/
import Derived.Test.YtciembgenlcogadRv
import Derived.Test.YtciembgenlcogadBc
import Derived.Test.YtciembgenlcogadZh
namespace Go.Proofs.Ytciembgenlcogad
open Go.RowKit

theorem stL_len (b : Bool) (D : PD) (hm : D.np ≤ 1048576 ∧ D.nv ≤ 1048576) (hV : b = true → D.V) : (stL b D).length ≤ 1048576 := by
  cases b
  · exact Nat.zero_le _
  · have := stnL_len D
    have h1 := (hV rfl).2.1.1
    have h2 := (hV rfl).2.2.1
    simp only [stL, cond_true]; omega

set_option maxRecDepth 100000 in
set_option maxHeartbeats 4000000 in
theorem lawSt_any (B : Nat) (v0 v1 v2 v3 : Value) (D : PD) (w : World) (h : PAt B w v0 v1 v2 v3 D) (hB : B ≤ w.heap.size) (hz : D.All) :
    Calls Try.prog 3 #[.agg #[v0, v1, v2, v3]] w fun e w' => e = .returned (.bool true) ∧ Below w.heap.size w w' := by
  have H : Hid (∀ w', Below w.heap.size w w' → PAt B w' v0 v1 v2 v3 D) := fun w' hb => h.kept hb hB
  clear h
  have k0 : Hid (Below (w.heap.size + 1) (w.alloc (.cells #[v0, v1, v2, v3] 27)) (w.alloc (.cells #[v0, v1, v2, v3] 27))) := Below.refl _ _
  go_enter Try.func3, Try.ntmps3
  go_wp2_with fail
  refine (szPlant_any B v0 v1 v2 v3 D _ (H.out _ (below_end k0.out)) (by simp; omega) hz).mono ?_; rintro e w1 ⟨y, rfl, hsm, hb1⟩
  have k1 : Hid (Below (w.heap.size + 1) (w.alloc (.cells #[v0, v1, v2, v3] 27)) w1) := below_of k0.out hb1
  have HS : Hid _ := hsm
  clear hsm
  by_cases hneg : y < 0
  · go_wp2_with fail
    go_ret
    exact ⟨rfl, below_end k1.out⟩
  · have s1 : w.heap.size + 1 ≤ w1.heap.size := by have := k1.out.size; simpa using this
    have HM : Hid (D.ns ≤ 1048576 ∧ D.nf ≤ 1048576 ∧ D.np ≤ 1048576 ∧ D.nv ≤ 1048576) := HS.out (by omega)
    have hnv : D.nv ≤ 1048576 := HM.out.2.2.2
    have bx : Hid (∀ w', Below (w.heap.size + 1) (w.alloc (.cells #[v0, v1, v2, v3] 27)) w' → w'.cell? ⟨w.heap.size, 0, none⟩ = some v0 ∧ w'.cell? ⟨w.heap.size, 1, none⟩ = some v1 ∧ w'.cell? ⟨w.heap.size, 2, none⟩ = some v2 ∧ w'.cell? ⟨w.heap.size, 3, none⟩ = some v3) := fun w' hb => ⟨box_in hb 0 _ rfl, box_in hb 1 _ rfl, box_in hb 2 _ rfl, box_in hb 3 _ rfl⟩
    obtain ⟨a0, a1, a2, a3⟩ := bx.out w1 k1.out
    go_wp2_with fail
    refine (toPlant_any B v0 v1 v2 v3 D _ (H.out _ (below_end k1.out)) (by omega) HM.out).mono ?_; rintro e w2 ⟨p0, p1, p2, p3, rfl, P1, hb2⟩
    have k2 : Hid (Below (w.heap.size + 1) (w.alloc (.cells #[v0, v1, v2, v3] 27)) w2) := below_of k1.out hb2
    have HP1 : Hid (PAt w2.heap.size w2 p0 p1 p2 p3 D) := P1
    clear P1 a0 a1 a2 a3
    go_wp2_with fail
    refine (stationsS_any w2.heap.size p0 p1 p2 p3 D _ HP1.out (Nat.le_refl _) hz.sz).mono ?_; rintro e w3 ⟨u0, bs, rfl, is, ow0, hb3⟩
    have IS : Hid (bs = true ↔ D.V) := is
    have hlen := stL_len bs D ⟨HM.out.2.2.1, hnv⟩ IS.out.1
    have L0 : Hid (Lst w3.heap.size w3 u0 (stL bs D).length 1 (cS (nthB (stL bs D)))) := own_lst ow0 hlen
    clear is ow0
    have k3 : Hid (Below (w.heap.size + 1) (w.alloc (.cells #[v0, v1, v2, v3] 27)) w3) := below_of k2.out hb3
    have s3 : w.heap.size + 1 ≤ w3.heap.size := by have := k3.out.size; simpa using this
    obtain ⟨a0, a1, a2, a3⟩ := bx.out w3 k3.out
    go_wp2_with fail
    refine (toPlant_blk B v0 v1 v2 v3 D _ (H.out _ (below_end k3.out)) (by omega) HM.out).mono ?_; rintro e w4 ⟨g0, g1, g2, g3, rfl, P2, PB, hb4⟩
    have k4 : Hid (Below (w.heap.size + 1) (w.alloc (.cells #[v0, v1, v2, v3] 27)) w4) := below_of k3.out hb4
    have s4 := hb4.size
    have HP2 : Hid (PAt w4.heap.size w4 (sl g0 D.ns) (sl g1 D.nf) (sl g2 D.np) (sl g3 D.nv) D) := P2
    have HPB : Hid (PBlk w3.heap.size w4.heap.size w4 g0 g1 g2 g3 D) := PB
    have HB4 : Hid (Below w3.heap.size w3 w4) := hb4
    clear P2 PB hb4 a0 a1 a2 a3
    go_wp2_with fail
    refine (stationsI_any w4.heap.size _ _ _ _ D _ (HP2.out.kept ((Below.refl _ _).alloc (Nat.le_refl _) _) (Nat.le_refl _)) (by simp) hz.sz).mono ?_; rintro e w5 ⟨u1, bi, rfl, ii, ow1, hb5⟩
    have hbe : bi = bs := bool_same ii IS.out
    subst hbe
    clear ii
    generalize hLL : stL bi D = LL at hlen L0 ow1
    have HLL : Hid (stL bi D = LL) := hLL
    clear hLL
    have s5 : w4.heap.size + 1 ≤ w5.heap.size := by have := hb5.size; simpa using this
    have OW1 : Hid (w5.ownsRow (w4.heap.size + 1) 9 1 u1 LL.length (LL.map .string)) := by simpa [Hid] using ow1
    clear ow1
    have b45 : Hid (Below w4.heap.size w4 w5) := ((Below.refl _ _).alloc (Nat.le_refl _) _).trans (hb5.mono (by simp))
    have x45 : Hid (w5.heap[w4.heap.size]? = some (.cells #[sl g0 D.ns, sl g1 D.nf, sl g2 D.np, sl g3 D.nv] 34 (0, 0))) := (hb5.block _ (by simp)).trans (heap_alloc_new w4 _)
    have k5 : Hid (Below (w.heap.size + 1) (w.alloc (.cells #[v0, v1, v2, v3] 27)) w5) := below_of k4.out b45.out
    have L5 : Hid (Lst w3.heap.size w5 u0 LL.length 1 (cS (nthB LL))) := (L0.out.kept HB4.out (Nat.le_refl _)).kept b45.out s4
    clear hb5
    go_wp2_with fail
    refine (eqS_lst w5.heap.size w3.heap.size u1 u0 LL.length (nthB LL) _ (own_lst OW1.out hlen) L5.out (Nat.le_refl _) (by omega)).mono ?_; rintro e w6 ⟨rfl, hb6⟩
    have s6 := hb6.size
    have k6 : Hid (Below (w.heap.size + 1) (w.alloc (.cells #[v0, v1, v2, v3] 27)) w6) := below_of k5.out hb6
    have HB6 : Hid (Below w5.heap.size w5 w6) := hb6
    clear hb6
    obtain ⟨a0, a1, a2, a3⟩ := bx.out w6 k6.out
    have x6 : Hid (w6.heap[w4.heap.size]? = some (.cells #[sl g0 D.ns, sl g1 D.nf, sl g2 D.np, sl g3 D.nv] 34 (0, 0))) := (HB6.out.block _ (by omega)).trans x45.out
    have d0 := (cell_row x6.out 0 _ rfl).1
    have d1 := (cell_row x6.out 1 _ rfl).1
    have d2 := (cell_row x6.out 2 _ rfl).1
    have d3 := (cell_row x6.out 3 _ rfl).1
    simp only [List.getElem_toArray, List.getElem_cons_zero, List.getElem_cons_succ] at d0 d1 d2 d3
    go_wp2_with fail
    go_region_with (first
      | (go_at_call 6; refine (toPlant_any B v0 v1 v2 v3 D _ (by exact H.out _ (below_end k6.out).drew) (by show B ≤ w6.heap.size; omega) HM.out).mono ?_; rintro e w7 ⟨r0, r1, r2, r3, rfl, P3, hb7⟩; have HP3 : Hid (PAt w7.heap.size w7 r0 r1 r2 r3 D) := P3; clear P3; have s7 : w6.heap.size ≤ w7.heap.size := hb7.size; have e0 := (hb7.cell (p := ⟨w4.heap.size, 0, none⟩) (by show w4.heap.size < w6.heap.size; omega)).trans d0; have e1 := (hb7.cell (p := ⟨w4.heap.size, 1, none⟩) (by show w4.heap.size < w6.heap.size; omega)).trans d1; have e2 := (hb7.cell (p := ⟨w4.heap.size, 2, none⟩) (by show w4.heap.size < w6.heap.size; omega)).trans d2; have e3 := (hb7.cell (p := ⟨w4.heap.size, 3, none⟩) (by show w4.heap.size < w6.heap.size; omega)).trans d3)
      | (go_at_call 9; refine (eqPlant_any w4.heap.size w7.heap.size _ _ _ _ r0 r1 r2 r3 D _ (HP2.out.kept ((b45.out.trans ((HB6.out.mono (by omega)))).drew.trans (hb7.mono (by show w4.heap.size ≤ w6.heap.size; omega))) (Nat.le_refl _)) HP3.out (by omega) (Nat.le_refl _)).mono ?_; rintro e w8 ⟨rfl, hb8⟩))
    all_goals
      clear a0 a1 a2 a3 d0 d1 d2 d3 e0 e1 e2 e3
      have s8 := hb8.size
      have HB8 : Hid (Below w6.heap.size w6 w8) := by
        have t1 : Below w6.heap.size w6 w7 := ⟨hb7.os, hb7.tape, hb7.output, hb7.size, hb7.block⟩
        exact t1.trans (hb8.mono s7)
      clear hb7 hb8
      have x8 : Hid (w8.heap[w4.heap.size]? = some (.cells #[sl g0 D.ns, sl g1 D.nf, sl g2 D.np, sl g3 D.nv] 34 (0, 0))) := (HB8.out.block _ (by omega)).trans x6.out
      have d0 := (cell_row x8.out 0 _ rfl).1
      have d1 := (cell_row x8.out 1 _ rfl).1
      have d2 := (cell_row x8.out 2 _ rfl).1
      have d3 := (cell_row x8.out 3 _ rfl).1
      simp only [List.getElem_toArray, List.getElem_cons_zero, List.getElem_cons_succ] at d0 d1 d2 d3
      have b48 : Hid (Below w4.heap.size w4 w8) := (b45.out.trans (HB6.out.mono (by omega))).trans (HB8.out.mono (by omega))
      have pb8 : Hid (PBlk w3.heap.size w4.heap.size w8 g0 g1 g2 g3 D) := ⟨HPB.out.a, HPB.out.s.kept b48.out (Nat.le_refl _), HPB.out.f.kept b48.out (Nat.le_refl _), HPB.out.p.kept b48.out (Nat.le_refl _), HPB.out.v.kept b48.out (Nat.le_refl _)⟩
      go_wp2_with fail
      refine (markPlant_any w3.heap.size w4.heap.size g0 g1 g2 g3 D _ pb8.out (by omega) s4 HM.out).mono ?_; rintro e w9 ⟨kk, rfl, hkk, o9⟩
      have s9 := o9.bel.size
      have O9 : Hid (Outs w3.heap.size w4.heap.size w8 w9) := o9
      clear o9 d0 d1 d2 d3
      have ow8 : Hid (w8.ownsRow (w4.heap.size + 1) 9 1 u1 LL.length (LL.map .string)) := own_belowR (own_belowR OW1.out HB6.out) HB8.out
      have ow9 : Hid (w9.ownsRow (w4.heap.size + 1) 9 1 u1 LL.length (LL.map .string)) := own_outs ow8.out O9.out (by omega)
      have L8 : Hid (Lst w3.heap.size w8 u0 LL.length 1 (cS (nthB LL))) := (L5.out.kept HB6.out (by omega)).kept HB8.out (by omega)
      have L9 : Hid (Lst w3.heap.size w9 u0 LL.length 1 (cS (nthB LL))) := L8.out.kept O9.out.bel (Nat.le_refl _)
      have k8 : Hid (Below (w.heap.size + 1) (w.alloc (.cells #[v0, v1, v2, v3] 27)) w8) := below_of k6.out HB8.out
      have k9 : Hid (Below (w.heap.size + 1) (w.alloc (.cells #[v0, v1, v2, v3] 27)) w9) := k8.out.trans (O9.out.bel.mono (by omega))
      go_wp2_with fail
      refine (eqS_lst w9.heap.size w3.heap.size u1 u0 LL.length (nthB LL) _ (own_lst ow9.out hlen) L9.out (Nat.le_refl _) (by omega)).mono ?_; rintro e w10 ⟨rfl, hb10⟩
      have s10 := hb10.size
      have HB10 : Hid (Below w9.heap.size w9 w10) := hb10
      clear hb10
      go_wp2_with fail
      refine (mark_own (w4.heap.size + 1) u1 LL.length _ _ hlen (own_belowR ow9.out HB10.out)).mono ?_; rintro e w11 ⟨rfl, hb11, hl11⟩
      have s11 := hb11.size
      have HB11 : Hid (Below (w4.heap.size + 1) w10 w11) := hb11
      have L11 : Hid (Lst w11.heap.size w11 u1 LL.length 1 (cS (mkF 1))) := hl11
      clear hb11 hl11
      have k11 : Hid (Below (w.heap.size + 1) (w.alloc (.cells #[v0, v1, v2, v3] 27)) w11) := (below_of k9.out HB10.out).trans (HB11.out.mono (by omega))
      go_wp2_with fail
      refine (heldS_lst w11.heap.size u1 LL.length 1 _ L11.out (Nat.le_refl _) (by omega) (by omega)).mono ?_; rintro e w12 ⟨rfl, hb12⟩
      have s12 := hb12.size
      have HB12 : Hid (Below w11.heap.size w11 w12) := hb12
      clear hb12
      have k12 : Hid (Below (w.heap.size + 1) (w.alloc (.cells #[v0, v1, v2, v3] 27)) w12) := below_of k11.out HB12.out
      obtain ⟨a0, a1, a2, a3⟩ := bx.out w12 k12.out
      go_wp2_with fail
      refine (toPlant_any B v0 v1 v2 v3 D _ (H.out _ (below_end k12.out)) (by omega) HM.out).mono ?_; rintro e w13 ⟨r0, r1, r2, r3, rfl, P4, hb13⟩
      have HP4 : Hid (PAt w13.heap.size w13 r0 r1 r2 r3 D) := P4
      have s13 := hb13.size
      have HB13 : Hid (Below w12.heap.size w12 w13) := hb13
      clear P4 hb13 a0 a1 a2 a3
      go_wp2_with fail
      refine (stationsI_any w13.heap.size r0 r1 r2 r3 D _ HP4.out (Nat.le_refl _) hz.sz).mono ?_; rintro e w14 ⟨u2, b2, rfl, i2, ow2, hb14⟩
      have hb2e : b2 = bi := bool_same i2 IS.out
      rw [hb2e, HLL.out] at ow2
      clear i2 hb2e
      have s14 := hb14.size
      have OW2 : Hid (w14.ownsRow w13.heap.size 9 1 u2 LL.length (LL.map .string)) := ow2
      have HB14 : Hid (Below w13.heap.size w13 w14) := hb14
      clear ow2 hb14
      have b1114 : Hid (Below w11.heap.size w11 w14) := (HB12.out.trans (HB13.out.mono (by omega))).trans (HB14.out.mono (by omega))
      have L14 : Hid (Lst w3.heap.size w14 u0 LL.length 1 (cS (nthB LL))) := ((L9.out.kept HB10.out (by omega)).kept HB11.out (by omega)).kept b1114.out (by omega)
      go_wp2_with fail
      refine (eqS_lst w14.heap.size w3.heap.size u2 u0 LL.length (nthB LL) _ (own_lst OW2.out hlen) L14.out (Nat.le_refl _) (by omega)).mono ?_; rintro e w15 ⟨rfl, hb15⟩
      have s15 := hb15.size
      have HB15 : Hid (Below w14.heap.size w14 w15) := hb15
      clear hb15
      go_wp2_with fail
      refine (heldS_lst w11.heap.size u1 LL.length 1 _ ((L11.out.kept b1114.out (Nat.le_refl _)).kept HB15.out (by omega)) (by omega) (by omega) (by omega)).mono ?_; rintro e w16 ⟨rfl, hb16⟩
      have k16 : Hid (Below (w.heap.size + 1) (w.alloc (.cells #[v0, v1, v2, v3] 27)) w16) := ((k11.out.trans (b1114.out.mono (by omega))).trans (HB15.out.mono (by omega))).trans (hb16.mono (by omega))
      clear hb16
      go_wp2_with fail
      go_ret
      exact ⟨rfl, below_end k16.out⟩

end Go.Proofs.Ytciembgenlcogad
