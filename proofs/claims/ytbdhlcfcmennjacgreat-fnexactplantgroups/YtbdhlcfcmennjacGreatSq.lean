/-
  The contract of the model's PlantGroups.
-/
import Derived.Test.YtbdhlcfcmennjacGreatSp
namespace Go.Proofs.YtbdhlcfcmennjacGreat
open Go.RowKit

theorem grO_pos (D : PD) (no : Nat) (fo : Nat → ByteArray) (i : Nat) : 0 < (grO D no fo i).length :=
  List.length_pos_of_mem (((InvG.start (f := D.fv) (no := no) (fo := fo) D.nv (D.fp i).1).iter D.np).1).here

open Go.Sort in
set_option maxRecDepth 100000 in
set_option maxHeartbeats 16000000 in
theorem groupsS_any (B : Nat) (v0 v1 v2 v3 vo : Value) (D : PD) (no : Nat) (fo : Nat → ByteArray) (w : World) (h : PAt B w v0 v1 v2 v3 D) (ho : Lst B w vo no 1 (cS fo)) (hB : B ≤ w.heap.size) (hz : D.Sz) :
    Calls Tryz.prog 7 #[.agg #[v0, v1, v2, v3], vo] w fun e w' => ∃ v b us gs, e = .returned v ∧ (b = true ↔ D.V) ∧ SetsO w.heap.size w' v (gsL b D no fo) us gs ∧ Below w.heap.size w w' := by
  obtain ⟨i0, hi, hz0, hz1, hz2⟩ := info_parts infoP
  have H : Hid (∀ w', Below w.heap.size w w' → PAt B w' v0 v1 v2 v3 D ∧ Lst B w' vo no 1 (cS fo)) := fun w' hb => ⟨h.kept hb hB, ho.kept hb hB⟩
  obtain ⟨o2, c2, rfl⟩ := slice_lst h.p
  clear h ho
  obtain ⟨W, hW⟩ : ∃ W, W = (w.alloc (.cells #[v0, v1, .slice o2 D.np c2, v3] 36)).alloc (.cells #[] 61) := ⟨_, rfl⟩
  have eW : Hid (W = (w.alloc (.cells #[v0, v1, .slice o2 D.np c2, v3] 36)).alloc (.cells #[] 61)) := hW
  have sW : w.heap.size + 1 + 1 ≤ W.heap.size := by rw [hW]; simp
  have kW : Hid (Below (w.heap.size + 1) W W) := Below.refl _ _
  have bx : Hid (∀ wr, Below (w.heap.size + 1) W wr → (wr.cell? ⟨w.heap.size, 0, none⟩ = some v0 ∧ wr.cell? ⟨w.heap.size, 1, none⟩ = some v1 ∧ wr.cell? ⟨w.heap.size, 2, none⟩ = some (.slice o2 D.np c2) ∧ wr.cell? ⟨w.heap.size, 3, none⟩ = some v3) ∧ Below w.heap.size w wr) := fun wr hb => by
    rw [hW] at hb
    have hb2 : Below (w.heap.size + 1) (w.alloc (.cells #[v0, v1, .slice o2 D.np c2, v3] 36)) wr := ((Below.refl _ _).alloc (by simp) _).trans hb
    exact ⟨⟨box_in hb2 0 _ rfl, box_in hb2 1 _ rfl, box_in hb2 2 _ rfl, box_in hb2 3 _ rfl⟩, below_end hb2⟩
  have S0 : Hid (SetsO (w.heap.size + 1) W (.slice (some ⟨w.heap.size + 1, 0, none⟩) 0 0) [] [] []) := by
    refine ⟨?_, rfl, rfl, fun i hi => by simp at hi, List.nodup_nil⟩
    have := World.ownsRow_made (base := w.heap.size + 1) (e := 61) (size := 1) (w.alloc (.cells #[v0, v1, .slice o2 D.np c2, v3] 36)) #[] 0 (by simp) (Nat.zero_le _) rfl
    rw [← hW] at this
    simpa using this
  clear hW
  go_enter Tryz.func7, Tryz.ntmps7
  go_upto_region 2 with fail
  rw [← eW.out]
  obtain ⟨⟨x0, x1, x2, x3⟩, hbw⟩ := bx.out W kW.out
  go_wp2_with fail
  refine (validS_any B v0 v1 _ v3 D _ (H.out W hbw).1 (Nat.le_trans hB hbw.size) hz).mono ?_; rintro e w1 ⟨b1, rfl, i1, hb1⟩
  have IS1 : Hid _ := i1
  have k2 : Hid (Below (w.heap.size + 1) W w1) := kW.out.trans (hb1.mono (by omega))
  have S1 : Hid (SetsO (w.heap.size + 1) w1 (.slice (some ⟨w.heap.size + 1, 0, none⟩) 0 0) [] [] []) := S0.out.below hb1
  clear i1 x0 x1 x2 x3 hbw hb1
  cases b1
  · go_wp2_with fail
    go_ret
    exact ⟨_, false, [], [], rfl, IS1.out, S1.out.le (by omega), (bx.out _ k2.out).2⟩
  · have hV : Hid D.V := by have := IS1.out; simpa [Hid] using this
    go_wp2_with fail
    go_loopw [5, 6] (fun v i wr => ∃ (q : Nat) (us : List Value) (gs : List Nat), q ≤ D.np ∧ i = .int .i64 q ∧ Hid (SetsO (w.heap.size + 1) wr v (gsN D no fo q) us gs) ∧ Hid (Below (w.heap.size + 1) W wr)) (fun _ i _ => D.np - (intOf i).toNat)
    case atStart => exact ⟨0, [], [], Nat.zero_le _, rfl, S1, k2⟩
    case round =>
      obtain ⟨q, us, gs, hq, rfl, hS, hbel⟩ := hrel
      obtain ⟨⟨x0, x1, x2, x3⟩, hbw⟩ := bx.out wr hbel.out
      have hsr : w.heap.size + 1 ≤ wr.heap.size := by have := hbel.out.size; omega
      have hnp : D.np ≤ 37 := Nat.le_trans hV.out.2.1.1 (by omega)
      by_cases hlq : q < D.np
      · have hgl := gsN_len D no fo q
        obtain ⟨oa', cap', hv, _, hcv⟩ := (H.out wr hbw).1.p
        cases hv
        obtain ⟨b, off, rfl, hbB, hcell⟩ := hcv q hlq
        have e0 : wr.cell? ⟨b, off + q * 3, none⟩ = some (.string (D.fp q).1) := hcell 0 (by omega)
        clear hcv hcell
        have qx0 := fun d os => cell_regrown x0 d os
        have qx1 := fun d os => cell_regrown x1 d os
        have qx2 := fun d os => cell_regrown x2 d os
        have qx3 := fun d os => cell_regrown x3 d os
        have qe0 := fun d os => cell_regrown e0 d os
        go_wp2_with fail
        refine wp_region_head_tail 8 (by kernel_rfl) (by kernel_rfl) ?_
        simp only [List.take_succ_cons, List.take_zero, List.drop_succ_cons, List.drop_zero]
        repeat (first | go_big_quiet_step (fail) | quiet_step (fail))
        refine wpQuiet_nil ?_
        intro _ hw'
        obtain ⟨⟨dq, osq⟩, hw''⟩ := hw'
        subst hw''
        have hbu : Hid (Below wr.heap.size wr (grow (redrawn wr dq) osq)) := below_regrown _ dq osq
        generalize grow (redrawn wr dq) osq = u at hbu ⊢
        clear x0 x1 x2 x3 qx0 qx1 qx2 qx3 qe0 e0 hbw
        have ku : Hid (Below (w.heap.size + 1) W u) := hbel.out.trans (hbu.out.mono hsr)
        have Su : Hid (SetsO (w.heap.size + 1) u _ (gsN D no fo q) us gs) := hS.out.below hbu.out
        have hsu : w.heap.size + 1 ≤ u.heap.size := by have := ku.out.size; omega
        go_wp2_with fail
        refine (l4Group_any B v0 v1 _ v3 vo D no fo (D.fp q).1 _ (H.out u (bx.out u ku.out).2).1 (H.out u (bx.out u ku.out).2).2 (by omega) hV.out.2.2.1).mono ?_; rintro e w4 ⟨g, cap, rfl, ol, hb4⟩
        rw [show itG D.fv no fo D.nv D.np [(D.fp q).1] = grO D no fo q from rfl] at ol ⊢
        have S4 : Hid (SetsO (w.heap.size + 1) w4 _ (gsN D no fo q) us gs) := Su.out.below hb4
        have k4 : Hid (Below (w.heap.size + 1) W w4) := ku.out.trans (hb4.mono hsu)
        have hpos := grO_pos D no fo q
        have hl37 := grO_len hV.out no fo q
        obtain ⟨g', hG, hglt⟩ := RowG.of_own (l := grO D no fo q) ol hpos
        have HF : Hid (g' ∉ gs) := Su.out.fresh hG (Nat.le_refl _)
        have HG : Hid (RowG (w.heap.size + 1) w4 (.slice (some ⟨g, 0, none⟩) (grO D no fo q).length cap) (grO D no fo q) g') := hG.le hsu
        have z0 : w4.cell? ⟨g, 0, none⟩ = some (.string (nthB (grO D no fo q) 0)) := (own_cells (l := grO D no fo q) ol).2 0 hpos
        clear ol hG hb4
        cases hgs : gsB D no fo q
        · have he : ((nthB (grO D no fo q) 0).toList == (D.fp q).1.toList) = false := hgs
          obtain ⟨⟨x0, x1, x2, x3⟩, hbw⟩ := bx.out w4 k4.out
          obtain ⟨oa', cap', hv, _, hcv⟩ := (H.out w4 hbw).1.p
          cases hv
          obtain ⟨_, _, e', _, hcell⟩ := hcv q hlq
          cases e'
          have e0 : w4.cell? ⟨b, off + q * 3, none⟩ = some (.string (D.fp q).1) := hcell 0 (by omega)
          clear hcv hcell
          have qx2 := fun d os => cell_regrown x2 d os
          have qe0 := fun d os => cell_regrown e0 d os
          have qz0 := fun d os => cell_regrown z0 d os
          go_wp2_with fail
          refine wp_region_quiet_below (by kernel_rfl) (by kernel_rfl) ?_
          repeat (first | go_big_quiet_step (fail) | quiet_step (fail))
          refine wpQuiet_nil ?_
          intro _ hw'
          obtain ⟨⟨dq, osq⟩, hw''⟩ := hw'
          subst hw''
          have hb5 : Hid (Below w4.heap.size w4 (grow (redrawn w4 dq) osq)) := below_regrown _ dq osq
          generalize grow (redrawn w4 dq) osq = w5 at hb5 ⊢
          clear x0 x1 x2 x3 qx2 qe0 qz0 e0 z0 hbw
          have k5 : Hid (Below (w.heap.size + 1) W w5) := k4.out.trans (hb5.out.mono (by have := k4.out.size; omega))
          have S5 : Hid (SetsO (w.heap.size + 1) w5 _ (gsN D no fo q) us gs) := S4.out.below hb5.out
          have hs5 : w.heap.size + 1 ≤ w5.heap.size := by have := k5.out.size; omega
          go_wp2_with fail
          go_roundw
          case rel => exact ⟨q + 1, us, gs, by omega, by go_num, by show SetsO _ _ _ _ _ _; rw [gsN_no hgs]; exact S5.out, k5⟩
          case measure => simp [intOf]; omega
        · have he : ((nthB (grO D no fo q) 0).toList == (D.fp q).1.toList) = true := hgs
          obtain ⟨⟨x0, x1, x2, x3⟩, hbw⟩ := bx.out w4 k4.out
          obtain ⟨oa', cap', hv, _, hcv⟩ := (H.out w4 hbw).1.p
          cases hv
          obtain ⟨_, _, e', _, hcell⟩ := hcv q hlq
          cases e'
          have e0 : w4.cell? ⟨b, off + q * 3, none⟩ = some (.string (D.fp q).1) := hcell 0 (by omega)
          clear hcv hcell
          have qx2 := fun d os => cell_regrown x2 d os
          have qe0 := fun d os => cell_regrown e0 d os
          have qz0 := fun d os => cell_regrown z0 d os
          go_wp2_with fail
          refine wp_region_quiet_below (by kernel_rfl) (by kernel_rfl) ?_
          repeat (first | go_big_quiet_step (fail) | quiet_step (fail))
          refine wpQuiet_nil ?_
          intro _ hw'
          obtain ⟨⟨dq, osq⟩, hw''⟩ := hw'
          subst hw''
          have hb5 : Hid (Below w4.heap.size w4 (grow (redrawn w4 dq) osq)) := below_regrown _ dq osq
          generalize grow (redrawn w4 dq) osq = w5 at hb5 ⊢
          clear x0 x1 x2 x3 qx2 qe0 qz0 e0 z0 hbw
          have k5 : Hid (Below (w.heap.size + 1) W w5) := k4.out.trans (hb5.out.mono (by have := k4.out.size; omega))
          have S5 : Hid (SetsO (w.heap.size + 1) w5 _ (gsN D no fo q) us gs) := S4.out.below hb5.out
          have hs5 : w.heap.size + 1 ≤ w5.heap.size := by have := k5.out.size; omega
          have G5 : Hid (RowG (w.heap.size + 1) w5 (.slice (some ⟨g, 0, none⟩) (grO D no fo q).length cap) (grO D no fo q) g') := HG.out.same (hb5.out.block _ HG.out.lt)
          have b6 : Hid (Below w5.heap.size w5 (w5.alloc (.cells #[(.slice (some ⟨g, 0, none⟩) (grO D no fo q).length cap)] 61))) := (Below.refl _ _).alloc (Nat.le_refl _) _
          have S6 : Hid (SetsO (w.heap.size + 1) (w5.alloc (.cells #[(.slice (some ⟨g, 0, none⟩) (grO D no fo q).length cap)] 61)) _ (gsN D no fo q) us gs) := S5.out.below b6.out
          have G6 : Hid (RowG (w.heap.size + 1) (w5.alloc (.cells #[(.slice (some ⟨g, 0, none⟩) (grO D no fo q).length cap)] 61)) (.slice (some ⟨g, 0, none⟩) (grO D no fo q).length cap) (grO D no fo q) g') := G5.out.same (b6.out.block _ G5.out.lt)
          go_wp2_with (first
            | (at_builtin; refine wpList_append_own _ rfl _ _ 30 rfl (w.heap.size + 1) 61 i0 (.agg #[.slice none 0 0]) 1 24 underP hi hz0 hz1 hz2 rfl (by decide) _ _ _ rfl S6.out.own ⟨w5.heap.size, 0, none⟩ 1 1 [(.slice (some ⟨g, 0, none⟩) (grO D no fo q).length cap)] rfl rfl (by have := cell_one_new w5 (.slice (some ⟨g, 0, none⟩) (grO D no fo q).length cap) 61; simpa using this) (fun x hx => by simp at hx; subst hx; rfl) (by unfold maxLen; omega) (by omega) (by simp; omega) ?_; intro v' w7 hown' hgrow7 hnil7))
          go_roundw
          case rel =>
            have RR : ∃ (q' : Nat) (us' : List Value) (gs' : List Nat), q' ≤ D.np ∧ Value.int .i64 ((q : Int) + 1) = .int .i64 (q' : Int) ∧ Hid (SetsO (w.heap.size + 1) w7 v' (gsN D no fo q') us' gs') ∧ Hid (Below (w.heap.size + 1) W w7) :=
              ⟨q + 1, us ++ [(.slice (some ⟨g, 0, none⟩) (grO D no fo q).length cap)], gs ++ [g'], by omega, by go_num, by show SetsO _ _ _ _ _ _; rw [gsN_yes hgs]; exact S6.out.push G6.out HF.out hown' hgrow7, (k5.out.trans (b6.out.mono hs5)).grown hgrow7 (by simp; omega) (fun p hp => (S6.out.own.lt p hp).1)⟩
            first
              | exact RR
              | ((repeat apply Exists.intro); exact ⟨RR, rfl⟩)
          case measure => simp [intOf]; omega
      · go_wp2_with fail
        go_ret
        have e : q = D.np := by omega
        subst e
        exact ⟨_, true, us, gs, rfl, ⟨fun _ => hV.out, fun _ => rfl⟩, hS.out.le (by omega), hbw⟩

end Go.Proofs.YtbdhlcfcmennjacGreat
