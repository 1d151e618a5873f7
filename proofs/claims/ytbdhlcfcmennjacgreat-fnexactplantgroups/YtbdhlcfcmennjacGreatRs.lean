/-
  Contracts of the model's group of a place and of its PlantGroup.
-/
import Derived.Test.YtbdhlcfcmennjacGreatRx
import Derived.Test.YtbdhlcfcmennjacGreatRq
import Derived.Test.YtbdhlcfcmennjacGreatKe
import Derived.Test.YtbdhlcfcmennjacGreatHc
import Derived.Deep.Cut
namespace Go.Proofs.YtbdhlcfcmennjacGreat
open Go.RowKit

theorem InvG.short {f : Nat → ByteArray × ByteArray × ByteArray × ByteArray} {no : Nat} {fo : Nat → ByteArray} {nv : Nat} {x : ByteArray} {o : List ByteArray} (h : InvG f no fo nv x o) (hn : nv ≤ 18) : o.length ≤ 37 := by
  have h1 := LI.short (q := 0) ⟨h.asc.nodup, h.here, h.only, fun j y hj => by omega⟩
  have h2 := opN_len f no fo nv
  omega
theorem has_inL (o : List ByteArray) (y : ByteArray) : hasB o.length (nthB o) y = inL o y := has_any o y

open Go.Sort in
set_option maxRecDepth 100000 in
set_option maxHeartbeats 16000000 in
theorem l4Group_any (B : Nat) (v0 v1 v2 v3 vo : Value) (D : PD) (no : Nat) (fo : Nat → ByteArray) (x : ByteArray) (w : World) (h : PAt B w v0 v1 v2 v3 D) (ho : Lst B w vo no 1 (cS fo)) (hB : B ≤ w.heap.size) (hnv : D.nv ≤ 18) :
    Calls Tryz.prog 27 #[.agg #[v0, v1, v2, v3], vo, .string x] w fun e w' => ∃ g cap, e = .returned (.slice (some ⟨g, 0, none⟩) (itG D.fv no fo D.nv D.np [x]).length cap) ∧ w'.ownsRow w.heap.size 9 1 (.slice (some ⟨g, 0, none⟩) (itG D.fv no fo D.nv D.np [x]).length cap) (itG D.fv no fo D.nv D.np [x]).length ((itG D.fv no fo D.nv D.np [x]).map .string) ∧ Below w.heap.size w w' := by
  have HO : Hid (∀ w', Below w.heap.size w w' → Lst B w' vo no 1 (cS fo)) := fun w' hb => ho.kept hb hB
  have HP : Hid (∀ w', Below w.heap.size w w' → Lst B w' v2 D.np 3 (cP D.fp) ∧ Lst B w' v3 D.nv 4 (cV D.fv)) := fun w' hb => ⟨h.p.kept hb hB, h.v.kept hb hB⟩
  have INV : Hid (∀ n i, i ≤ D.nv → InvG D.fv no fo D.nv x (ro D.fv no fo i (itG D.fv no fo D.nv n [x]))) := fun n i hi => ((((InvG.start (f := D.fv) (no := no) (fo := fo) D.nv x).iter n).1).rounds i hi).1
  obtain ⟨o2, c2, rfl, hm2, _⟩ := h.p
  obtain ⟨o3, c3, rfl, hm3, _⟩ := h.v
  unfold maxLen at hm2
  clear h ho
  obtain ⟨W, hW⟩ : ∃ W, W = (w.alloc (.cells #[v0, v1, .slice o2 D.np c2, .slice o3 D.nv c3] 36)).alloc (.cells #[.string x] 9) := ⟨_, rfl⟩
  have eW : Hid (W = (w.alloc (.cells #[v0, v1, .slice o2 D.np c2, .slice o3 D.nv c3] 36)).alloc (.cells #[.string x] 9)) := hW
  have sW : W.heap.size = w.heap.size + 1 + 1 := by rw [hW]; simp
  have BOX : Hid (∀ wr, Below (w.heap.size + 1) W wr → wr.cell? ⟨w.heap.size, 2, none⟩ = some (.slice o2 D.np c2) ∧ wr.cell? ⟨w.heap.size, 3, none⟩ = some (.slice o3 D.nv c3) ∧ Below w.heap.size w wr) := fun wr hb => by
    have hp : W.heap[w.heap.size]? = some (.cells #[v0, v1, .slice o2 D.np c2, .slice o3 D.nv c3] 36 (0, 0)) := by
      rw [hW]; exact (Below.heap_alloc _ _ _ (by simp)).trans (heap_alloc_new w _)
    have hp' := (hb.block w.heap.size (by omega)).trans hp
    refine ⟨(cell_row hp' 2 _ rfl).1, (cell_row hp' 3 _ rfl).1, ?_⟩
    have hw : Below w.heap.size w W := by rw [hW]; exact ((Below.refl _ _).alloc (Nat.le_refl _) _).alloc (by simp) _
    exact hw.trans (hb.mono (by omega))
  have O0 : Hid (W.ownsRow (w.heap.size + 1) 9 1 (.slice (some ⟨w.heap.size + 1, 0, none⟩) 1 1) 1 [.string x]) := by
    have := heap_alloc_new (w.alloc (.cells #[v0, v1, .slice o2 D.np c2, .slice o3 D.nv c3] 36)) (.cells #[.string x] 9)
    rw [World.size_alloc] at this
    rw [← hW] at this
    exact ⟨rfl, .inr ⟨w.heap.size + 1, 1, #[.string x], rfl, Nat.le_refl _, this, Nat.le_refl _, by unfold maxLen; omega, rfl, rfl⟩⟩
  have kW : Hid (Below (w.heap.size + 1) W W) := Below.refl _ _
  clear hW
  go_enter Tryz.func27, Tryz.ntmps27
  go_upto_region 2 with fail
  rw [← eW.out]
  go_wp2_with fail
  go_loopw [7, 8] (fun v i wr => ∃ q g cap : Nat, q ≤ D.np ∧ i = .int .i64 q ∧ v = .slice (some ⟨g, 0, none⟩) (itG D.fv no fo D.nv q [x]).length cap ∧ Hid (wr.ownsRow (w.heap.size + 1) 9 1 (.slice (some ⟨g, 0, none⟩) (itG D.fv no fo D.nv q [x]).length cap) (itG D.fv no fo D.nv q [x]).length ((itG D.fv no fo D.nv q [x]).map .string)) ∧ Hid (Below (w.heap.size + 1) W wr)) (fun _ i _ => D.np - (intOf i).toNat)
  case atStart => exact ⟨0, _, _, Nat.zero_le _, rfl, rfl, O0, kW⟩
  case round =>
    obtain ⟨q, g, cap, hq, rfl, rfl, hown, hbel⟩ := hrel
    obtain ⟨y2, y3, hbw⟩ := BOX.out wr hbel.out
    by_cases hlq : q < D.np
    · have RO0 : Hid (itG D.fv no fo D.nv q [x] = ro D.fv no fo 0 (itG D.fv no fo D.nv q [x])) := rfl
      have IN : Hid (∀ i, i ≤ D.nv → InvG D.fv no fo D.nv x (ro D.fv no fo i (itG D.fv no fo D.nv q [x]))) := INV.out q
      have NX : Hid (itG D.fv no fo D.nv (q + 1) [x] = ro D.fv no fo D.nv (itG D.fv no fo D.nv q [x])) := rfl
      generalize itG D.fv no fo D.nv q [x] = G at hown RO0 IN NX
      go_wp2_with fail
      clear y2 y3
      go_loopw [7, 9] (fun v i wi => ∃ j g cap : Nat, j ≤ D.nv ∧ i = .int .i64 j ∧ v = .slice (some ⟨g, 0, none⟩) (ro D.fv no fo j G).length cap ∧ Hid (wi.ownsRow (w.heap.size + 1) 9 1 (.slice (some ⟨g, 0, none⟩) (ro D.fv no fo j G).length cap) (ro D.fv no fo j G).length ((ro D.fv no fo j G).map .string)) ∧ Hid (Below (w.heap.size + 1) W wi)) (fun _ i _ => D.nv - (intOf i).toNat)
      case atStart => exact ⟨0, g, cap, Nat.zero_le _, rfl, rfl, hown, hbel⟩
      case round =>
        clear hbw hown hbel
        obtain ⟨j, g, cap, hj, rfl, rfl, hown, hbel⟩ := hrel
        obtain ⟨y2, y3, hbw⟩ := BOX.out wr hbel.out
        have hsr : w.heap.size + 1 + 1 ≤ wr.heap.size := by have := hbel.out.size; omega
        by_cases hlj : j < D.nv
        · have hshort := (IN.out j hj).short hnv
          have SV : Hid (ro D.fv no fo (j + 1) G = stepV D.fv no fo (ro D.fv no fo j G) j) := ro_succ _ _ _ _ _
          generalize ro D.fv no fo j G = o at hown hshort SV
          obtain ⟨hcap, hcl⟩ := own_cells hown.out
          obtain ⟨oa', cap', hv, _, hcv⟩ := (HP.out wr hbw).2
          cases hv
          obtain ⟨b, off, rfl, hbB, hcell⟩ := hcv j hlj
          have e0 : wr.cell? ⟨b, off + j * 4, none⟩ = some (.string (D.fv j).1) := by simpa [cV] using hcell 0 (by omega)
          have e1 : wr.cell? ⟨b, off + j * 4 + 1, none⟩ = some (.string (D.fv j).2.1) := by simpa [cV] using hcell 1 (by omega)
          have e2 : wr.cell? ⟨b, off + j * 4 + 2, none⟩ = some (.string (D.fv j).2.2.1) := by simpa [cV] using hcell 2 (by omega)
          have e3 : wr.cell? ⟨b, off + j * 4 + 3, none⟩ = some (.string (D.fv j).2.2.2) := by simpa [cV] using hcell 3 (by omega)
          clear hcell hcv hcl
          obtain ⟨V, hV⟩ : ∃ V, V = wr.alloc (.cells #[.string (D.fv j).1, .string (D.fv j).2.1, .string (D.fv j).2.2.1, .string (D.fv j).2.2.2] 86) := ⟨_, rfl⟩
          have EV : Hid (V = wr.alloc (.cells #[.string (D.fv j).1, .string (D.fv j).2.1, .string (D.fv j).2.2.1, .string (D.fv j).2.2.2] 86)) := hV
          have sV : V.heap.size = wr.heap.size + 1 := by rw [hV]; simp
          have ownV : Hid (V.ownsRow (w.heap.size + 1) 9 1 (.slice (some ⟨g, 0, none⟩) o.length cap) o.length (o.map .string)) := by rw [hV]; exact hown.out.alloc _
          have kV : Hid (Below (w.heap.size + 1) W V) := by rw [hV]; exact hbel.out.alloc (by omega) _
          have bV : V.heap[wr.heap.size]? = some (.cells #[.string (D.fv j).1, .string (D.fv j).2.1, .string (D.fv j).2.2.1, .string (D.fv j).2.2.2] 86 (0, 0)) := by rw [hV]; exact heap_alloc_new wr _
          have z0 := (cell_row bV 0 _ rfl).1
          have z1 := (cell_row bV 1 _ rfl).1
          have z2 := (cell_row bV 2 _ rfl).1
          simp only [List.getElem_toArray, List.getElem_cons_zero, List.getElem_cons_succ] at z0 z1 z2
          have HLO : Hid (Lst B V vo no 1 (cS fo)) := HO.out _ (BOX.out V kV.out).2.2
          have HLU : Hid (Lst V.heap.size V (.slice (some ⟨g, 0, none⟩) o.length cap) o.length 1 (cS (nthB o))) := own_lst ownV.out (by omega)
          have hBV : B ≤ V.heap.size := by omega
          have hVV : V.heap.size ≤ V.heap.size := Nat.le_refl _
          have Z1 : Hid (V.cell? ⟨wr.heap.size, 1, none⟩ = some (.string (D.fv j).2.1)) := z1
          have Z2 : Hid (V.cell? ⟨wr.heap.size, 2, none⟩ = some (.string (D.fv j).2.2.1)) := z2
          clear hV bV
          go_upto_region 9 with fail
          rw [← EV.out]
          replace z0 := fun d os => cell_regrown z0 d os
          replace z1 := fun d os => cell_regrown z1 d os
          replace z2 := fun d os => cell_regrown z2 d os
          clear e0 e1 e2 e3 y2 y3
          cases hs : hasB no fo (D.fv j).1
          · have ST : Hid (stepV D.fv no fo o j = o) := by show _ = _; unfold stepV onB; rw [hs]; rfl
            go_wp2_with fail
            refine wp_region_quiet_below (by kernel_rfl) (by kernel_rfl) ?_
            repeat (first | go_big_quiet_step (first | (with_reducible exact has_q B _ no fo _ _ HLO.out hBV _ hs _ _) | (with_reducible exact has_q V.heap.size _ o.length (nthB o) _ _ HLU.out hVV _ ha _ _) | (with_reducible exact has_q V.heap.size _ o.length (nthB o) _ _ HLU.out hVV _ hb _ _)) | quiet_step (first | (with_reducible exact has_q B _ no fo _ _ HLO.out hBV _ hs _ _) | (with_reducible exact has_q V.heap.size _ o.length (nthB o) _ _ HLU.out hVV _ ha _ _) | (with_reducible exact has_q V.heap.size _ o.length (nthB o) _ _ HLU.out hVV _ hb _ _)))
            refine wpQuiet_nil ?_
            intro _ hw'
            obtain ⟨⟨dq, osq⟩, hw''⟩ := hw'
            subst hw''
            have kU : Hid (Below (w.heap.size + 1) W (grow (redrawn V dq) osq)) := kV.out.trans ((below_regrown _ dq osq).mono (by omega))
            have oU : Hid ((grow (redrawn V dq) osq).ownsRow (w.heap.size + 1) 9 1 (.slice (some ⟨g, 0, none⟩) o.length cap) o.length (o.map .string)) := own_belowR ownV.out (below_regrown _ dq osq)
            generalize grow (redrawn V dq) osq = U at kU oU ⊢
            go_wp2_with fail
            go_roundw
            case rel => exact ⟨j + 1, g, cap, by omega, by go_num, by rw [SV.out, ST.out], by show World.ownsRow _ _ _ _ _ _ _; rw [SV.out, ST.out]; exact oU.out, kU⟩
            case measure => simp [intOf]; omega
          · cases ha : hasB o.length (nthB o) (D.fv j).2.1 <;> cases hb : hasB o.length (nthB o) (D.fv j).2.2.1
            · have ST : Hid (stepV D.fv no fo o j = o) := by show _ = _; unfold stepV onB; rw [hs, ← has_inL, ← has_inL, ha, hb]; rfl
              go_wp2_with fail
              refine wp_region_quiet_below (by kernel_rfl) (by kernel_rfl) ?_
              repeat (first | go_big_quiet_step (first | (with_reducible exact has_q B _ no fo _ _ HLO.out hBV _ hs _ _) | (with_reducible exact has_q V.heap.size _ o.length (nthB o) _ _ HLU.out hVV _ ha _ _) | (with_reducible exact has_q V.heap.size _ o.length (nthB o) _ _ HLU.out hVV _ hb _ _)) | quiet_step (first | (with_reducible exact has_q B _ no fo _ _ HLO.out hBV _ hs _ _) | (with_reducible exact has_q V.heap.size _ o.length (nthB o) _ _ HLU.out hVV _ ha _ _) | (with_reducible exact has_q V.heap.size _ o.length (nthB o) _ _ HLU.out hVV _ hb _ _)))
              refine wpQuiet_nil ?_
              intro _ hw'
              obtain ⟨⟨dq, osq⟩, hw''⟩ := hw'
              subst hw''
              have kU : Hid (Below (w.heap.size + 1) W (grow (redrawn V dq) osq)) := kV.out.trans ((below_regrown _ dq osq).mono (by omega))
              have oU : Hid ((grow (redrawn V dq) osq).ownsRow (w.heap.size + 1) 9 1 (.slice (some ⟨g, 0, none⟩) o.length cap) o.length (o.map .string)) := own_belowR ownV.out (below_regrown _ dq osq)
              generalize grow (redrawn V dq) osq = U at kU oU ⊢
              go_wp2_with fail
              go_roundw
              case rel => exact ⟨j + 1, g, cap, by omega, by go_num, by rw [SV.out, ST.out], by show World.ownsRow _ _ _ _ _ _ _; rw [SV.out, ST.out]; exact oU.out, kU⟩
              case measure => simp [intOf]; omega
            · have ST : Hid (stepV D.fv no fo o j = insR (insR o (D.fv j).2.1) (D.fv j).2.2.1) := by show _ = _; unfold stepV onB; rw [hs, ← has_inL, ← has_inL, ha, hb]; rfl
              go_wp2_with fail
              refine wp_region_quiet_below (by kernel_rfl) (by kernel_rfl) ?_
              repeat (first | go_big_quiet_step (first | (with_reducible exact has_q B _ no fo _ _ HLO.out hBV _ hs _ _) | (with_reducible exact has_q V.heap.size _ o.length (nthB o) _ _ HLU.out hVV _ ha _ _) | (with_reducible exact has_q V.heap.size _ o.length (nthB o) _ _ HLU.out hVV _ hb _ _)) | quiet_step (first | (with_reducible exact has_q B _ no fo _ _ HLO.out hBV _ hs _ _) | (with_reducible exact has_q V.heap.size _ o.length (nthB o) _ _ HLU.out hVV _ ha _ _) | (with_reducible exact has_q V.heap.size _ o.length (nthB o) _ _ HLU.out hVV _ hb _ _)))
              refine wpQuiet_nil ?_
              intro _ hw'
              obtain ⟨⟨dq, osq⟩, hw''⟩ := hw'
              subst hw''
              have kU : Hid (Below (w.heap.size + 1) W (grow (redrawn V dq) osq)) := kV.out.trans ((below_regrown _ dq osq).mono (by omega))
              have oU : Hid ((grow (redrawn V dq) osq).ownsRow (w.heap.size + 1) 9 1 (.slice (some ⟨g, 0, none⟩) o.length cap) o.length (o.map .string)) := own_belowR ownV.out (below_regrown _ dq osq)
              have zU1 := cell_regrown Z1.out dq osq
              have zU2 := cell_regrown Z2.out dq osq
              clear z0 z1 z2
              generalize grow (redrawn V dq) osq = U at kU oU zU1 zU2 ⊢
              have sU : w.heap.size + 1 + 1 ≤ U.heap.size := by have := kU.out.size; omega
              have hdr : Hid (Below U.heap.size U U.drew) := (Below.refl _ _).drew
              have q1 := fun d os => cell_regrown zU1 d os
              have q2 := fun d os => cell_regrown zU2 d os
              go_wp2_with fail
              refine wp_region_mix 6 [0, 1, 2, 4, 5] (by kernel_rfl) (by kernel_rfl) ?_
              simp only [List.filterMap_cons, List.filterMap_nil, List.getElem?_cons_succ, List.getElem?_cons_zero]
              repeat (first | go_big_quiet_step (fail) | quiet_step (fail))
              refine wpQuiet_nil ?_
              clear q1 q2 zU1 zU2
              refine call1 (md := .any) (f := 0) (i := 3) (dc := 50) (fn := 53) ⟨rfl, rfl, rfl, by decide⟩ (by kernel_rfl) ?run ((insS_any (w.heap.size + 1) g cap o (D.fv j).2.1 U.drew (own_belowR oU.out hdr.out) (by omega) (by show w.heap.size + 1 ≤ U.heap.size; omega)).mono ?_)
              case run => go_simp
              rintro e w4 ⟨g4, cap4, rfl, o4, hb4⟩
              have HB4 : Hid (Below U.heap.size U w4) := hdr.out.trans hb4
              have OW4 : Hid _ := o4
              have s4 : U.heap.size ≤ w4.heap.size := HB4.out.size
              have l4 := insR_len o (D.fv j).2.1
              refine ⟨_, rfl, regrown_of_below HB4.out, ?_⟩
              clear o4 hb4
              refine ⟨by kernel_rfl, ?_⟩
              simp only [List.drop_succ_cons, List.drop_zero, Act.put, List.setIfInBounds_toArray, List.set_cons_zero, List.set_cons_succ]
              go_wp2_with fail
              refine (insS_any (w.heap.size + 1) g4 cap4 (insR o (D.fv j).2.1) (D.fv j).2.2.1 _ OW4.out (by omega) (by omega)).mono ?_; rintro e w5 ⟨g5, cap5, rfl, o5, hb5⟩
              have R5 : Hid (∃ j' g cap : Nat, j' ≤ D.nv ∧ Value.int .i64 ((j : Int) + 1) = .int .i64 (j' : Int) ∧ Value.slice (some ⟨g5, 0, none⟩) (insR (insR o (D.fv j).2.1) (D.fv j).2.2.1).length cap5 = .slice (some ⟨g, 0, none⟩) (ro D.fv no fo j' G).length cap ∧ Hid (w5.ownsRow (w.heap.size + 1) 9 1 (.slice (some ⟨g, 0, none⟩) (ro D.fv no fo j' G).length cap) (ro D.fv no fo j' G).length ((ro D.fv no fo j' G).map .string)) ∧ Hid (Below (w.heap.size + 1) W w5)) :=
                ⟨j + 1, g5, cap5, by omega, by go_num, by rw [SV.out, ST.out], by show World.ownsRow _ _ _ _ _ _ _; rw [SV.out, ST.out]; exact o5, (kU.out.trans (HB4.out.mono (by omega))).trans (hb5.mono (by omega))⟩
              clear o5 hb5
              go_wp2_with fail
              go_roundw
              case rel => exact R5.out
              case measure => simp [intOf]; omega
            · have ST : Hid (stepV D.fv no fo o j = insR (insR o (D.fv j).2.1) (D.fv j).2.2.1) := by show _ = _; unfold stepV onB; rw [hs, ← has_inL, ← has_inL, ha, hb]; rfl
              go_wp2_with fail
              refine wp_region_quiet_below (by kernel_rfl) (by kernel_rfl) ?_
              repeat (first | go_big_quiet_step (first | (with_reducible exact has_q B _ no fo _ _ HLO.out hBV _ hs _ _) | (with_reducible exact has_q V.heap.size _ o.length (nthB o) _ _ HLU.out hVV _ ha _ _) | (with_reducible exact has_q V.heap.size _ o.length (nthB o) _ _ HLU.out hVV _ hb _ _)) | quiet_step (first | (with_reducible exact has_q B _ no fo _ _ HLO.out hBV _ hs _ _) | (with_reducible exact has_q V.heap.size _ o.length (nthB o) _ _ HLU.out hVV _ ha _ _) | (with_reducible exact has_q V.heap.size _ o.length (nthB o) _ _ HLU.out hVV _ hb _ _)))
              refine wpQuiet_nil ?_
              intro _ hw'
              obtain ⟨⟨dq, osq⟩, hw''⟩ := hw'
              subst hw''
              have kU : Hid (Below (w.heap.size + 1) W (grow (redrawn V dq) osq)) := kV.out.trans ((below_regrown _ dq osq).mono (by omega))
              have oU : Hid ((grow (redrawn V dq) osq).ownsRow (w.heap.size + 1) 9 1 (.slice (some ⟨g, 0, none⟩) o.length cap) o.length (o.map .string)) := own_belowR ownV.out (below_regrown _ dq osq)
              have zU1 := cell_regrown Z1.out dq osq
              have zU2 := cell_regrown Z2.out dq osq
              clear z0 z1 z2
              generalize grow (redrawn V dq) osq = U at kU oU zU1 zU2 ⊢
              have sU : w.heap.size + 1 + 1 ≤ U.heap.size := by have := kU.out.size; omega
              have hdr : Hid (Below U.heap.size U U.drew) := (Below.refl _ _).drew
              have q1 := fun d os => cell_regrown zU1 d os
              have q2 := fun d os => cell_regrown zU2 d os
              go_wp2_with fail
              refine wp_region_mix 6 [0, 1, 2, 4, 5] (by kernel_rfl) (by kernel_rfl) ?_
              simp only [List.filterMap_cons, List.filterMap_nil, List.getElem?_cons_succ, List.getElem?_cons_zero]
              repeat (first | go_big_quiet_step (fail) | quiet_step (fail))
              refine wpQuiet_nil ?_
              clear q1 q2 zU1 zU2
              refine call1 (md := .any) (f := 0) (i := 3) (dc := 50) (fn := 53) ⟨rfl, rfl, rfl, by decide⟩ (by kernel_rfl) ?run ((insS_any (w.heap.size + 1) g cap o (D.fv j).2.1 U.drew (own_belowR oU.out hdr.out) (by omega) (by show w.heap.size + 1 ≤ U.heap.size; omega)).mono ?_)
              case run => go_simp
              rintro e w4 ⟨g4, cap4, rfl, o4, hb4⟩
              have HB4 : Hid (Below U.heap.size U w4) := hdr.out.trans hb4
              have OW4 : Hid _ := o4
              have s4 : U.heap.size ≤ w4.heap.size := HB4.out.size
              have l4 := insR_len o (D.fv j).2.1
              refine ⟨_, rfl, regrown_of_below HB4.out, ?_⟩
              clear o4 hb4
              refine ⟨by kernel_rfl, ?_⟩
              simp only [List.drop_succ_cons, List.drop_zero, Act.put, List.setIfInBounds_toArray, List.set_cons_zero, List.set_cons_succ]
              go_wp2_with fail
              refine (insS_any (w.heap.size + 1) g4 cap4 (insR o (D.fv j).2.1) (D.fv j).2.2.1 _ OW4.out (by omega) (by omega)).mono ?_; rintro e w5 ⟨g5, cap5, rfl, o5, hb5⟩
              have R5 : Hid (∃ j' g cap : Nat, j' ≤ D.nv ∧ Value.int .i64 ((j : Int) + 1) = .int .i64 (j' : Int) ∧ Value.slice (some ⟨g5, 0, none⟩) (insR (insR o (D.fv j).2.1) (D.fv j).2.2.1).length cap5 = .slice (some ⟨g, 0, none⟩) (ro D.fv no fo j' G).length cap ∧ Hid (w5.ownsRow (w.heap.size + 1) 9 1 (.slice (some ⟨g, 0, none⟩) (ro D.fv no fo j' G).length cap) (ro D.fv no fo j' G).length ((ro D.fv no fo j' G).map .string)) ∧ Hid (Below (w.heap.size + 1) W w5)) :=
                ⟨j + 1, g5, cap5, by omega, by go_num, by rw [SV.out, ST.out], by show World.ownsRow _ _ _ _ _ _ _; rw [SV.out, ST.out]; exact o5, (kU.out.trans (HB4.out.mono (by omega))).trans (hb5.mono (by omega))⟩
              clear o5 hb5
              go_wp2_with fail
              go_roundw
              case rel => exact R5.out
              case measure => simp [intOf]; omega
            · have ST : Hid (stepV D.fv no fo o j = o) := by show _ = _; unfold stepV onB; rw [hs, ← has_inL, ← has_inL, ha, hb]; rfl
              go_wp2_with fail
              refine wp_region_quiet_below (by kernel_rfl) (by kernel_rfl) ?_
              repeat (first | go_big_quiet_step (first | (with_reducible exact has_q B _ no fo _ _ HLO.out hBV _ hs _ _) | (with_reducible exact has_q V.heap.size _ o.length (nthB o) _ _ HLU.out hVV _ ha _ _) | (with_reducible exact has_q V.heap.size _ o.length (nthB o) _ _ HLU.out hVV _ hb _ _)) | quiet_step (first | (with_reducible exact has_q B _ no fo _ _ HLO.out hBV _ hs _ _) | (with_reducible exact has_q V.heap.size _ o.length (nthB o) _ _ HLU.out hVV _ ha _ _) | (with_reducible exact has_q V.heap.size _ o.length (nthB o) _ _ HLU.out hVV _ hb _ _)))
              refine wpQuiet_nil ?_
              intro _ hw'
              obtain ⟨⟨dq, osq⟩, hw''⟩ := hw'
              subst hw''
              have kU : Hid (Below (w.heap.size + 1) W (grow (redrawn V dq) osq)) := kV.out.trans ((below_regrown _ dq osq).mono (by omega))
              have oU : Hid ((grow (redrawn V dq) osq).ownsRow (w.heap.size + 1) 9 1 (.slice (some ⟨g, 0, none⟩) o.length cap) o.length (o.map .string)) := own_belowR ownV.out (below_regrown _ dq osq)
              generalize grow (redrawn V dq) osq = U at kU oU ⊢
              go_wp2_with fail
              go_roundw
              case rel => exact ⟨j + 1, g, cap, by omega, by go_num, by rw [SV.out, ST.out], by show World.ownsRow _ _ _ _ _ _ _; rw [SV.out, ST.out]; exact oU.out, kU⟩
              case measure => simp [intOf]; omega
        · obtain rfl : j = D.nv := by omega
          go_wp2_with fail
          go_roundw
          case rel => exact ⟨q + 1, g, cap, by omega, by go_num, by rw [NX.out], by show World.ownsRow _ _ _ _ _ _ _; rw [NX.out]; exact hown.out, hbel⟩
          case measure => simp [intOf]; omega
    · obtain rfl : q = D.np := by omega
      go_wp2_with fail
      go_ret
      exact ⟨g, cap, rfl, own_leR hown.out (by omega), hbw⟩

end Go.Proofs.YtbdhlcfcmennjacGreat
