/-
  The contract of the program's PlantGroups.
-/
import Derived.Test.YtbdhlcfcmennjacGreatSq
namespace Go.Proofs.YtbdhlcfcmennjacGreat
open Go.RowKit

theorem place_here (n : Nat) (f : Nat → ByteArray × Int × ByteArray) {q : Nat} (hq : q < n) : 0 ≤ placeI n f (f q).1 := by
  unfold placeI
  cases hf : (List.range n).find? (fun i => eqB (f i).1 (f q).1) with
  | none =>
    have := List.find?_eq_none.1 hf q (List.mem_range.2 hq)
    simp [eqB_refl] at this
  | some i => exact Int.natCast_nonneg i

open Go.Sort in
set_option maxRecDepth 100000 in
set_option maxHeartbeats 16000000 in
theorem groupsI_any (B : Nat) (v0 v1 v2 v3 vo : Value) (D : PD) (no : Nat) (fo : Nat → ByteArray) (w : World) (h : PAt B w v0 v1 v2 v3 D) (ho : Lst B w vo no 1 (cS fo)) (hB : B ≤ w.heap.size) (hz : D.Sz) :
    Calls Tryz.prog 10 #[.agg #[v0, v1, v2, v3], vo] w fun e w' => ∃ v b us gs, e = .returned v ∧ (b = true ↔ D.V) ∧ SetsO w.heap.size w' v (gsL b D no fo) us gs ∧ Below w.heap.size w w' := by
  obtain ⟨i0, hi, hz0, hz1, hz2⟩ := info_parts infoP
  have H : Hid (∀ w', Below w.heap.size w w' → PAt B w' v0 v1 v2 v3 D ∧ Lst B w' vo no 1 (cS fo)) := fun w' hb => ⟨h.kept hb hB, ho.kept hb hB⟩
  obtain ⟨o2, c2, rfl⟩ := slice_lst h.p
  clear h ho
  have k0 : Hid (Below (w.heap.size + 1) (w.alloc (.cells #[v0, v1, .slice o2 D.np c2, v3] 36)) (w.alloc (.cells #[v0, v1, .slice o2 D.np c2, v3] 36))) := Below.refl _ _
  go_enter Tryz.func10, Tryz.ntmps10
  go_wp2_with fail
  refine (validI_any B v0 v1 _ v3 D _ (H.out _ (below_end k0.out)).1 (by simp; omega) hz).mono ?_; rintro e w1 ⟨b1, rfl, i1, hb1⟩
  have IS : Hid _ := i1
  have k1 : Hid (Below (w.heap.size + 1) (w.alloc (.cells #[v0, v1, .slice o2 D.np c2, v3] 36)) w1) := below_of k0.out hb1
  have s1 : w.heap.size + 1 ≤ w1.heap.size := by have := k1.out.size; simpa using this
  clear i1 hb1
  cases b1
  · go_wp2_with fail
    go_ret
    exact ⟨_, false, [], [], rfl, IS.out, SetsO.nil _ _, below_end k1.out⟩
  · have hV : Hid D.V := by have := IS.out; simpa [Hid] using this
    have a0 := box_in k1.out 0 _ rfl
    have a1 := box_in k1.out 1 _ rfl
    have a2 := box_in k1.out 2 _ rfl
    have a3 := box_in k1.out 3 _ rfl
    simp only [List.getElem_toArray, List.getElem_cons_zero, List.getElem_cons_succ] at a0 a1 a2 a3
    go_wp2_with fail
    refine (opened_any B v0 v1 v3 vo o2 D.np c2 D.nv D.fv no fo _ (H.out _ (below_end k1.out)).1.v (H.out _ (below_end k1.out)).2 (by omega) hV.out.2.2.1).mono ?_; rintro e w3 ⟨vn, rfl, hL3, hb3⟩
    obtain ⟨on, cn, rfl⟩ := slice_lst hL3
    have HL3 : Hid (Lst w3.heap.size w3 (.slice on (opN D.fv no fo D.nv).length cn) (opN D.fv no fo D.nv).length 4 (cV (nthV (opN D.fv no fo D.nv)))) := hL3
    have k3 : Hid (Below (w.heap.size + 1) (w.alloc (.cells #[v0, v1, .slice o2 D.np c2, v3] 36)) w3) := below_of k1.out hb3
    have s3 : w.heap.size + 1 ≤ w3.heap.size := by have := k3.out.size; simpa using this
    obtain ⟨W, hW⟩ : ∃ u, u = w3.alloc (.cells #[.slice none 0 0, .slice none 0 0, .slice o2 D.np c2, (.slice on (opN D.fv no fo D.nv).length cn)] 36) := ⟨_, rfl⟩
    have eW : Hid (W = w3.alloc (.cells #[.slice none 0 0, .slice none 0 0, .slice o2 D.np c2, (.slice on (opN D.fv no fo D.nv).length cn)] 36)) := hW
    have bW : Hid (Below w3.heap.size w3 W) := by rw [hW]; exact (Below.refl _ _).alloc (Nat.le_refl _) _
    have sW : w3.heap.size < W.heap.size := by rw [hW]; simp
    have bx : Hid (∀ wr, Below W.heap.size W wr → (wr.cell? ⟨w3.heap.size, 0, none⟩ = some (.slice none 0 0) ∧ wr.cell? ⟨w3.heap.size, 1, none⟩ = some (.slice none 0 0) ∧ wr.cell? ⟨w3.heap.size, 2, none⟩ = some (.slice o2 D.np c2) ∧ wr.cell? ⟨w3.heap.size, 3, none⟩ = some (.slice on (opN D.fv no fo D.nv).length cn)) ∧ Below w.heap.size w wr ∧ Lst w3.heap.size wr (.slice on (opN D.fv no fo D.nv).length cn) (opN D.fv no fo D.nv).length 4 (cV (nthV (opN D.fv no fo D.nv)))) := fun wr hb => by
      have b3 : Below w3.heap.size w3 wr := bW.out.trans (hb.mono (by omega))
      have hb2 : Below (w3.heap.size + 1) (w3.alloc (.cells #[.slice none 0 0, .slice none 0 0, .slice o2 D.np c2, (.slice on (opN D.fv no fo D.nv).length cn)] 36)) wr := by rw [← hW]; exact hb.mono (by omega)
      exact ⟨⟨box_in hb2 0 _ rfl, box_in hb2 1 _ rfl, box_in hb2 2 _ rfl, box_in hb2 3 _ rfl⟩, (below_end k3.out).trans (b3.mono (by omega)), HL3.out.kept b3 (Nat.le_refl _)⟩
    have c0 : W.cell? ⟨w.heap.size, 2, none⟩ = some (.slice o2 D.np c2) := by
      have := box_in (k3.out.trans (bW.out.mono (by omega))) 2 _ rfl
      simpa using this
    clear hL3 hb3 a0 a1 a2 a3 hW
    go_upto_region 4 with fail
    rw [← eW.out]
    go_wp2_with fail
    clear c0
    go_loopw [6, 19] (fun v i wr => ∃ (q : Nat) (us : List Value) (gs : List Nat), q ≤ D.np ∧ i = .int .i64 q ∧ Hid (SetsO W.heap.size wr v (gsN D no fo q) us gs) ∧ Hid (Below W.heap.size W wr)) (fun _ i _ => D.np - (intOf i).toNat)
    case atStart => exact ⟨0, [], [], Nat.zero_le _, rfl, SetsO.nil _ _, Below.refl _ _⟩
    case round =>
      obtain ⟨q, us, gs, hq, rfl, hS, hbel⟩ := hrel
      have hsr : W.heap.size ≤ wr.heap.size := hbel.out.size
      have hnp : D.np ≤ 37 := Nat.le_trans hV.out.2.1.1 (by omega)
      by_cases hlq : q < D.np
      · have hgl := gsN_len D no fo q
        obtain ⟨oa', cap', hv, _, hcv⟩ := (H.out wr (bx.out wr hbel.out).2.1).1.p
        cases hv
        obtain ⟨b, off, rfl, hbB, hcell⟩ := hcv q hlq
        have e0 : wr.cell? ⟨b, off + q * 3, none⟩ = some (.string (D.fp q).1) := hcell 0 (by omega)
        have e1 : wr.cell? ⟨b, off + q * 3 + 1, none⟩ = some (.int .i64 (D.fp q).2.1) := hcell 1 (by omega)
        have e2 : wr.cell? ⟨b, off + q * 3 + 2, none⟩ = some (.string (D.fp q).2.2) := hcell 2 (by omega)
        obtain ⟨w4, hw4⟩ : ∃ u, u = wr.alloc (.cells #[.string (D.fp q).1, .int .i64 (D.fp q).2.1, .string (D.fp q).2.2] 59) := ⟨_, rfl⟩
        have HW4 : Hid (w4 = wr.alloc (.cells #[.string (D.fp q).1, .int .i64 (D.fp q).2.1, .string (D.fp q).2.2] 59)) := hw4
        have b4 : Hid (Below wr.heap.size wr w4) := by rw [hw4]; exact (Below.refl _ _).alloc (Nat.le_refl _) _
        have X4 : Hid (w4.heap[wr.heap.size]? = some (.cells #[.string (D.fp q).1, .int .i64 (D.fp q).2.1, .string (D.fp q).2.2] 59 (0, 0))) := by rw [hw4]; exact heap_alloc_new wr _
        have s4 : wr.heap.size < w4.heap.size := by rw [hw4]; simp
        have k4 : Hid (Below W.heap.size W w4) := hbel.out.trans (b4.out.mono hsr)
        have S4 : Hid (SetsO W.heap.size w4 _ (gsN D no fo q) us gs) := hS.out.below b4.out
        clear hw4 hcv hcell
        go_upto_region 8 with fail
        rw [← HW4.out]
        clear e0 e1 e2
        obtain ⟨⟨j0, j1, j2, j3⟩, _, L4⟩ := bx.out w4 k4.out
        have HL4 : Hid (Lst w3.heap.size w4 (.slice on (opN D.fv no fo D.nv).length cn) (opN D.fv no fo D.nv).length 4 (cV (nthV (opN D.fv no fo D.nv)))) := L4
        obtain ⟨n0, _⟩ := cell_row X4.out 0 _ rfl
        simp only [List.getElem_toArray, List.getElem_cons_zero] at n0
        have hx0 : Hid (0 ≤ placeI D.np D.fp (D.fp q).1) := place_here D.np D.fp hlq
        have hx8 : (D.fp q).1.size ≤ 8 := place_size (by have := hx0.out; simp; omega) hV.out.2.1.2
        clear L4
        go_wp2_with fail
        refine (groupOf_any w3.heap.size _ _ _ (.slice on (opN D.fv no fo D.nv).length cn) _ _ (D.fp q).1 w4 HL4.out (by omega) (op_sizes hV.out no fo) (by have := opN_len D.fv no fo D.nv; have := hV.out.2.2.1; omega) hx8).mono ?_; rintro e w5 ⟨v5, L, S, rfl, hG, hA, hm, hl5, ho5, hb5⟩
        have ES : S = grO D no fo q := group_of hV.out no fo hx0.out hG hA hm
        rw [ES] at ho5
        clear hG hA hm ES hl5 j0 j1 j2 j3
        have hpos := grO_pos D no fo q
        have hl37 := grO_len hV.out no fo q
        obtain ⟨g, hRG, hglt⟩ := RowG.of_own ho5 hpos
        have HF : Hid (g ∉ gs) := S4.out.fresh hRG (Nat.le_refl _)
        have HRG : Hid (RowG W.heap.size w5 v5 (grO D no fo q) g) := hRG.le (by omega)
        obtain ⟨cap, cur, rfl, _, hgc, _, hcc⟩ := hRG
        have z0 : w5.cell? ⟨g, 0, none⟩ = some (.string (nthB (grO D no fo q) 0)) := (cell_row hgc 0 _ (hcc 0 hpos)).1
        have S5 : Hid (SetsO W.heap.size w5 _ (gsN D no fo q) us gs) := S4.out.below hb5
        have k5 : Hid (Below W.heap.size W w5) := k4.out.trans (hb5.mono (by omega))
        have m0 : w5.cell? ⟨wr.heap.size, 0, none⟩ = some (.string (D.fp q).1) := by
          have := (cell_row ((hb5.block _ (by omega)).trans X4.out) 0 _ rfl).1
          simpa using this
        clear hgc hcc ho5 hb5 n0
        have qz0 := fun d os => cell_regrown z0 d os
        have qm0 := fun d os => cell_regrown m0 d os
        cases hgs : gsB D no fo q
        · have he : ((nthB (grO D no fo q) 0).toList == (D.fp q).1.toList) = false := hgs
          go_wp2_with fail
          refine wp_region_quiet_below (by kernel_rfl) (by kernel_rfl) ?_
          repeat (first | go_big_quiet_step (fail) | quiet_step (fail))
          refine wpQuiet_nil ?_
          intro _ hw'
          obtain ⟨⟨dq, osq⟩, hw''⟩ := hw'
          subst hw''
          have hb6 : Hid (Below w5.heap.size w5 (grow (redrawn w5 dq) osq)) := below_regrown _ dq osq
          generalize grow (redrawn w5 dq) osq = w6 at hb6 ⊢
          clear qz0 qm0 z0 m0
          have k6 : Hid (Below W.heap.size W w6) := k5.out.trans (hb6.out.mono k5.out.size)
          have S6 : Hid (SetsO W.heap.size w6 _ (gsN D no fo q) us gs) := S5.out.below hb6.out
          go_wp2_with fail
          go_roundw
          case rel => exact ⟨q + 1, us, gs, by omega, by go_num, by show SetsO _ _ _ _ _ _; rw [gsN_no hgs]; exact S6.out, k6⟩
          case measure => simp [intOf]; omega
        · have he : ((nthB (grO D no fo q) 0).toList == (D.fp q).1.toList) = true := hgs
          go_wp2_with fail
          refine wp_region_quiet_below (by kernel_rfl) (by kernel_rfl) ?_
          repeat (first | go_big_quiet_step (fail) | quiet_step (fail))
          refine wpQuiet_nil ?_
          intro _ hw'
          obtain ⟨⟨dq, osq⟩, hw''⟩ := hw'
          subst hw''
          have hb6 : Hid (Below w5.heap.size w5 (grow (redrawn w5 dq) osq)) := below_regrown _ dq osq
          generalize grow (redrawn w5 dq) osq = w6 at hb6 ⊢
          clear qz0 qm0 z0 m0
          have k6 : Hid (Below W.heap.size W w6) := k5.out.trans (hb6.out.mono k5.out.size)
          have S6 : Hid (SetsO W.heap.size w6 _ (gsN D no fo q) us gs) := S5.out.below hb6.out
          have hs6 : W.heap.size ≤ w6.heap.size := k6.out.size
          have G6 : Hid (RowG W.heap.size w6 (.slice (some ⟨g, 0, none⟩) (grO D no fo q).length cap) (grO D no fo q) g) := HRG.out.same (hb6.out.block _ HRG.out.lt)
          have b7 : Hid (Below w6.heap.size w6 (w6.alloc (.cells #[(.slice (some ⟨g, 0, none⟩) (grO D no fo q).length cap)] 61))) := (Below.refl _ _).alloc (Nat.le_refl _) _
          have S7 : Hid (SetsO W.heap.size (w6.alloc (.cells #[(.slice (some ⟨g, 0, none⟩) (grO D no fo q).length cap)] 61)) _ (gsN D no fo q) us gs) := S6.out.below b7.out
          have G7 : Hid (RowG W.heap.size (w6.alloc (.cells #[(.slice (some ⟨g, 0, none⟩) (grO D no fo q).length cap)] 61)) (.slice (some ⟨g, 0, none⟩) (grO D no fo q).length cap) (grO D no fo q) g) := G6.out.same (b7.out.block _ G6.out.lt)
          go_wp2_with (first
            | (at_builtin; refine wpList_append_own _ rfl _ _ 30 rfl W.heap.size 61 i0 (.agg #[.slice none 0 0]) 1 24 underP hi hz0 hz1 hz2 rfl (by decide) _ _ _ rfl S7.out.own ⟨w6.heap.size, 0, none⟩ 1 1 [(.slice (some ⟨g, 0, none⟩) (grO D no fo q).length cap)] rfl rfl (by have := cell_one_new w6 (.slice (some ⟨g, 0, none⟩) (grO D no fo q).length cap) 61; simpa using this) (fun x hx => by simp at hx; subst hx; rfl) (by unfold maxLen; omega) (by omega) (by simp; omega) ?_; intro v' w8 hown' hgrow8 hnil8))
          go_roundw
          case rel =>
            have RR : ∃ (q' : Nat) (us' : List Value) (gs' : List Nat), q' ≤ D.np ∧ Value.int .i64 ((q : Int) + 1) = .int .i64 (q' : Int) ∧ Hid (SetsO W.heap.size w8 v' (gsN D no fo q') us' gs') ∧ Hid (Below W.heap.size W w8) :=
              ⟨q + 1, us ++ [(.slice (some ⟨g, 0, none⟩) (grO D no fo q).length cap)], gs ++ [g], by omega, by go_num, by show SetsO _ _ _ _ _ _; rw [gsN_yes hgs]; exact S7.out.push G7.out HF.out hown' hgrow8, (k6.out.trans (b7.out.mono hs6)).grown hgrow8 (by simp; omega) (fun p hp => (S7.out.own.lt p hp).1)⟩
            first
              | exact RR
              | ((repeat apply Exists.intro); exact ⟨RR, rfl⟩)
          case measure => simp [intOf]; omega
      · have e : q = D.np := by omega
        have HE : Hid (q = D.np) := e
        clear e
        go_wp2_with fail
        go_ret
        have e := HE.out
        subst e
        exact ⟨_, true, us, gs, rfl, ⟨fun _ => hV.out, fun _ => rfl⟩, hS.out.le (by omega), (bx.out wr hbel.out).2.1⟩

end Go.Proofs.YtbdhlcfcmennjacGreat
