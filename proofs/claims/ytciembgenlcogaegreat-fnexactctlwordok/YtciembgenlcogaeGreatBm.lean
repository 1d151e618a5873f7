/-
  A contract of the model's test of a word.
-/
import Derived.Test.YtciembgenlcogaeGreatWmh
namespace Go.Proofs.YtciembgenlcogaeGreat
open Go.RowKit

theorem in0 : inB 0 0 1000 = true := rfl

set_option maxRecDepth 100000 in
set_option maxHeartbeats 4000000 in
theorem noWant_any (p q : Int) (o2 o3 o4 o5 : Option Addr) (n2 n3 n4 n5 k2 k3 k4 k5 : Nat) (w : World) (h2 : n2 ≤ 1048576) (h3 : n3 ≤ 1048576) (h4 : n4 ≤ 1048576) (h5 : n5 ≤ 1048576) :
    Calls Tryz.prog 22 #[.agg #[.int .i64 p, .int .i64 q, .slice o2 n2 k2, .slice o3 n3 k3, .slice o4 n4 k4, .slice o5 n5 k5]] w fun e w' => e = .returned (.bool (zW p q n2 n3 n4 n5)) ∧ Below w.heap.size w w' := by
  have kk : Hid (Below w.heap.size w (w.alloc (.cells #[.int .i64 p, .int .i64 q, .slice o2 n2 k2, .slice o3 n3 k3, .slice o4 n4 k4, .slice o5 n5 k5] 44))) := (Below.refl _ _).alloc (Nat.le_refl _) _
  unfold zW
  cases c0 : (p == 0)
  · go_enter Tryz.func22, Tryz.ntmps22
    go_wp2_with fail
    go_ret
    exact ⟨rfl, kk.out⟩
  · cases c1 : (q == 0)
    · go_enter Tryz.func22, Tryz.ntmps22
      go_wp2_with fail
      go_ret
      exact ⟨rfl, kk.out⟩
    · have HE : Hid (((n2 : Int) + n3 + n4 + n5 == 0) = (true && true && decide (n3 = 0) && decide (n2 = 0) && decide (n4 = 0) && decide (n5 = 0))) := by
        show _ = _
        rw [Bool.eq_iff_iff]
        simp
        omega
      rw [← HE.out]
      go_enter Tryz.func22, Tryz.ntmps22
      go_wp2_with fail
      go_ret
      exact ⟨rfl, kk.out⟩

set_option maxRecDepth 100000 in
set_option maxHeartbeats 4000000 in
theorem wordS_any (B : Nat) (v0 v1 v2 v3 : Value) (D : PD) (S : Nat → Prop) (a : C.DClaimWant) (n mv k : Int) (st : ByteArray) (dn : Bool) (o2 o3 o4 o5 : Option Addr) (n2 n3 n4 n5 k2 k3 k4 k5 : Nat) (w : World) (hP : PAt B w v0 v1 v2 v3 D) (hB : B ≤ w.heap.size) (hz : D.Sz) (h2 : C.AtL S w a.2.2.1 (.slice o2 n2 k2)) (h3 : C.AtL S w a.2.2.2.1 (.slice o3 n3 k3)) (h4 : C.AtL S w a.2.2.2.2.1 (.slice o4 n4 k4)) (h5 : C.AtL S w a.2.2.2.2.2 (.slice o5 n5 k5)) (hS : ∀ b, S b → b < w.heap.size) (m2 : a.2.2.1.length = n2) (m3 : a.2.2.2.1.length = n3) (m4 : a.2.2.2.2.1.length = n4) (m5 : a.2.2.2.2.2.length = n5) (b2 : n2 ≤ 1048576) (b3 : n3 ≤ 1048576) (b4 : n4 ≤ 1048576) (b5 : n5 ≤ 1048576) :
    Calls Tryz.prog 6 #[.agg #[v0, v1, v2, v3], .agg #[.int .i64 k, .string st, .int .i64 n, .int .i64 a.1, .int .i64 a.2.1, .slice o2 n2 k2, .slice o3 n3 k3, .slice o4 n4 k4, .slice o5 n5 k5, .int .i64 mv, .bool dn]] w fun e w' => ∃ b, e = .returned (.bool (b && wordB k n st a mv dn (stnL D).length (nthB (stnL D)))) ∧ (b = true ↔ D.V) ∧ Below w.heap.size w w' := by
  have HA : Hid (∀ w', Below w.heap.size w w' → C.AtL S w' a.2.2.1 (.slice o2 n2 k2) ∧ C.AtL S w' a.2.2.2.1 (.slice o3 n3 k3) ∧ C.AtL S w' a.2.2.2.2.1 (.slice o4 n4 k4) ∧ C.AtL S w' a.2.2.2.2.2 (.slice o5 n5 k5)) := fun w' hb => ⟨h2.same (C.Same.of_below hb hS), h3.same (C.Same.of_below hb hS), h4.same (C.Same.of_below hb hS), h5.same (C.Same.of_below hb hS)⟩
  have HS : Hid _ := hS
  have M2 : Hid (a.2.2.1.length = n2) := m2
  have M3 : Hid (a.2.2.2.1.length = n3) := m3
  have M4 : Hid (a.2.2.2.2.1.length = n4) := m4
  have M5 : Hid (a.2.2.2.2.2.length = n5) := m5
  clear h2 h3 h4 h5 hS m2 m3 m4 m5
  have HP : Hid (∀ w', Below w.heap.size w w' → PAt B w' v0 v1 v2 v3 D) := fun w' hb => hP.kept hb hB
  clear hP
  obtain ⟨W, hW⟩ : ∃ W, W = (w.alloc (.cells #[v0, v1, v2, v3] 40)).alloc (.cells #[.int .i64 k, .string st, .int .i64 n, .int .i64 a.1, .int .i64 a.2.1, .slice o2 n2 k2, .slice o3 n3 k3, .slice o4 n4 k4, .slice o5 n5 k5, .int .i64 mv, .bool dn] 46) := ⟨_, rfl⟩
  have EW : Hid (W = (w.alloc (.cells #[v0, v1, v2, v3] 40)).alloc (.cells #[.int .i64 k, .string st, .int .i64 n, .int .i64 a.1, .int .i64 a.2.1, .slice o2 n2 k2, .slice o3 n3 k3, .slice o4 n4 k4, .slice o5 n5 k5, .int .i64 mv, .bool dn] 46)) := hW
  have kW : Hid (Below (w.heap.size + 1 + 1) W W) := Below.refl _ _
  have sW : w.heap.size + 1 + 1 ≤ W.heap.size := by rw [hW]; simp
  have bx : Hid (∀ w', Below (w.heap.size + 1 + 1) W w' → (w'.cell? ⟨w.heap.size, 0, none⟩ = some v0 ∧ w'.cell? ⟨w.heap.size, 1, none⟩ = some v1 ∧ w'.cell? ⟨w.heap.size, 2, none⟩ = some v2 ∧ w'.cell? ⟨w.heap.size, 3, none⟩ = some v3) ∧ w'.cell? ⟨w.heap.size + 1, 0, none⟩ = some (.int .i64 k) ∧ w'.cell? ⟨w.heap.size + 1, 1, none⟩ = some (.string st) ∧ w'.cell? ⟨w.heap.size + 1, 2, none⟩ = some (.int .i64 n) ∧ w'.cell? ⟨w.heap.size + 1, 3, none⟩ = some (.int .i64 a.1) ∧ w'.cell? ⟨w.heap.size + 1, 4, none⟩ = some (.int .i64 a.2.1) ∧ w'.cell? ⟨w.heap.size + 1, 5, none⟩ = some (.slice o2 n2 k2) ∧ w'.cell? ⟨w.heap.size + 1, 6, none⟩ = some (.slice o3 n3 k3) ∧ w'.cell? ⟨w.heap.size + 1, 7, none⟩ = some (.slice o4 n4 k4) ∧ w'.cell? ⟨w.heap.size + 1, 8, none⟩ = some (.slice o5 n5 k5) ∧ w'.cell? ⟨w.heap.size + 1, 9, none⟩ = some (.int .i64 mv) ∧ w'.cell? ⟨w.heap.size + 1, 10, none⟩ = some (.bool dn)) := fun w' hb => by
    rw [hW] at hb
    obtain ⟨h1, h2⟩ := two_box hb
    exact ⟨⟨h1 0 _ rfl, h1 1 _ rfl, h1 2 _ rfl, h1 3 _ rfl⟩, h2 0 _ rfl, h2 1 _ rfl, h2 2 _ rfl, h2 3 _ rfl, h2 4 _ rfl, h2 5 _ rfl, h2 6 _ rfl, h2 7 _ rfl, h2 8 _ rfl, h2 9 _ rfl, h2 10 _ rfl⟩
  have be : Hid (∀ w', Below (w.heap.size + 1 + 1) W w' → Below w.heap.size w w') := fun w' hb => by
    rw [hW] at hb
    exact two_end hb
  clear hW
  go_enter Tryz.func6, Tryz.ntmps6
  go_upto_region 1 with fail
  rw [← EW.out]
  have hdr : Hid (Below (w.heap.size + 1 + 1) W W.drew) := kW.out.drew
  obtain ⟨⟨y0, y1, y2, y3⟩, x0, x1, x2, x3, x4, x5, x6, x7, x8, x9, x10⟩ := bx.out W kW.out
  go_wp2_with fail
  refine (validS_any B v0 v1 v2 v3 D W (HP.out _ (be.out _ kW.out)) (by have := (be.out _ kW.out).size; omega) hz).mono ?_; rintro e w1 ⟨b1, rfl, i1, hb1⟩
  have K1 : Hid (Below (w.heap.size + 1 + 1) W w1) := kW.out.trans (hb1.mono sW)
  clear hb1
  clear y0 y1 y2 y3 x0 x1 x2 x3 x4 x5 x6 x7 x8 x9 x10
  obtain ⟨⟨y0, y1, y2, y3⟩, x0, x1, x2, x3, x4, x5, x6, x7, x8, x9, x10⟩ := bx.out w1 K1.out
  by_cases hV : D.V
  · obtain rfl : b1 = true := i1.2 hV
    have HV : Hid D.V := hV
    have HL : Hid ((stnL D).length ≤ 1048576) := by
      show _ ≤ _
      have := stnL_len D
      have h1 := hV.2.1.1
      have h2 := hV.2.2.1
      omega
    clear hV i1
    go_wp2_with fail
    refine (inB_any k 1 10 _).mono ?_; rintro e wq ⟨rfl, hq⟩
    rw [hq]
    clear hq wq
    cases c1 : (inB k 1 10)
    · have WB : Hid (wordB k n st a mv dn (stnL D).length (nthB (stnL D)) = false) := by show _ = _; unfold wordB; simp [c1]
      go_wp2_with fail
      go_ret
      exact ⟨true, by rw [WB.out]; rfl, ⟨fun _ => HV.out, fun _ => rfl⟩, be.out _ K1.out⟩
    · go_wp2_with fail
      refine (inB_any n 1 1000000 _).mono ?_; rintro e wq ⟨rfl, hq⟩
      rw [hq]
      clear hq wq
      cases c2 : (inB n 1 1000000)
      · have WB : Hid (wordB k n st a mv dn (stnL D).length (nthB (stnL D)) = false) := by show _ = _; unfold wordB; simp [c1, c2]
        go_wp2_with fail
        go_ret
        exact ⟨true, by rw [WB.out]; rfl, ⟨fun _ => HV.out, fun _ => rfl⟩, be.out _ K1.out⟩
      · go_upto_region 3 with fail
        by_cases h9 : k < 9
        · have g9 : decide (k < 9) = true := decide_eq_true h9
          have g9' : decide (9 ≤ k) = false := decide_eq_false (by omega)
          have kd : Hid (Below (w.heap.size + 1 + 1) W w1.drew) := K1.out.drew
          have qx0 := fun d os => cell_regrown x0 d os
          have qx1 := fun d os => cell_regrown x1 d os
          have qy0 := fun d os => cell_regrown y0 d os
          have qy1 := fun d os => cell_regrown y1 d os
          have qy2 := fun d os => cell_regrown y2 d os
          have qy3 := fun d os => cell_regrown y3 d os
          refine wp_region_mix 8 [0, 1, 2, 3, 5, 6] (by kernel_rfl) (by kernel_rfl) ?_
          simp only [List.filterMap_cons, List.filterMap_nil, List.getElem?_cons_succ, List.getElem?_cons_zero]
          repeat (first | go_big_quiet_step (fail) | quiet_step (fail))
          refine wpQuiet_nil ?_
          clear qx0 qx1 qy0 qy1 qy2 qy3
          refine call1 (md := .any) (f := 1) (i := 4) (dc := 25) (fn := 20) ⟨rfl, rfl, rfl, by decide⟩ (by kernel_rfl) ?run ((stationsS_any B v0 v1 v2 v3 D w1.drew (HP.out _ (be.out _ kd.out)) (by have := (be.out _ kd.out).size; omega) hz).mono ?_)
          case run => go_simp
          rintro e w2 ⟨vs, bs, rfl, is, ho, hb2⟩
          obtain rfl : bs = true := is.2 HV.out
          have LS : Hid (Lst w2.heap.size w2 vs (stnL D).length 1 (cS (nthB (stnL D)))) := own_lst ho HL.out
          have r2 : Hid (Below w1.heap.size w1 w2) := (Below.refl w1.heap.size w1).drew.trans hb2
          have k2' : Hid (Below (w.heap.size + 1 + 1) W w2) := kd.out.trans (hb2.mono (by have := kd.out.size; omega))
          clear ho hb2 is
          refine ⟨_, rfl, regrown_of_below r2.out, ?_⟩
          refine call1 (md := .any) (f := 0) (i := 7) (dc := 28) (fn := 19) ⟨rfl, rfl, rfl, by decide⟩ (by kernel_rfl) ?run7 ((hasS_any w2.heap.size vs (stnL D).length (nthB (stnL D)) st w2 LS.out).mono ?_)
          case run7 => go_simp
          rintro e wq ⟨rfl, hq⟩
          rw [hq]
          clear hq wq
          refine ⟨_, rfl, regrown_of_below r2.out, ?_⟩
          refine ⟨by kernel_rfl, ?_⟩
          simp only [List.drop_succ_cons, List.drop_zero, Act.put, List.setIfInBounds_toArray, List.set_cons_zero, List.set_cons_succ]
          clear y0 y1 y2 y3 x0 x1 x2 x3 x4 x5 x6 x7 x8 x9 x10
          obtain ⟨⟨y0, y1, y2, y3⟩, x0, x1, x2, x3, x4, x5, x6, x7, x8, x9, x10⟩ := bx.out w2 k2'.out
          cases c4 : (hasB (stnL D).length (nthB (stnL D)) st)
          · have WB : Hid (wordB k n st a mv dn (stnL D).length (nthB (stnL D)) = false) := by show _ = _; unfold wordB; simp [c1, c2, g9, g9', c4]
            go_wp2_with fail
            go_ret
            exact ⟨true, by rw [WB.out]; rfl, ⟨fun _ => HV.out, fun _ => rfl⟩, be.out _ k2'.out⟩
          · by_cases h6 : k = 6
            · subst h6
              go_wp2_with fail
              refine (inB_any mv 0 1000 _).mono ?_; rintro e wq ⟨rfl, hq⟩
              rw [hq]
              clear hq wq
              cases c9 : (inB mv 0 1000)
              · have WB : Hid (wordB 6 n st a mv dn (stnL D).length (nthB (stnL D)) = false) := by show _ = _; unfold wordB; simp [c1, c2, c4, c9]
                go_wp2_with fail
                go_ret
                exact ⟨true, by rw [WB.out]; rfl, ⟨fun _ => HV.out, fun _ => rfl⟩, be.out _ k2'.out⟩
              · cases hd : (dn)
                · have g1 : ((6 : Int) == 1) = false := by decide
                  go_wp2_with fail
                  refine (noWant_any a.1 a.2.1 o2 o3 o4 o5 n2 n3 n4 n5 k2 k3 k4 k5 _ b2 b3 b4 b5).mono ?_; rintro e w5 ⟨rfl, hb5⟩
                  have k5' : Hid (Below (w.heap.size + 1 + 1) W w5) := k2'.out.trans (hb5.mono (by have := k2'.out.size; omega))
                  clear hb5
                  go_wp2_with fail
                  go_ret
                  exact ⟨true, by rw [show wordB 6 n st a mv dn (stnL D).length (nthB (stnL D)) = zW a.1 a.2.1 n2 n3 n4 n5 by unfold wordB; simp [c1, c2, c4, c9, hd, g1, M2.out, M3.out, M4.out, M5.out]]; rfl, ⟨fun _ => HV.out, fun _ => rfl⟩, be.out _ k5'.out⟩
                · have WB : Hid (wordB 6 n st a mv dn (stnL D).length (nthB (stnL D)) = false) := by show _ = _; unfold wordB; simp [c1, c2, c4, c9, hd]
                  go_wp2_with fail
                  go_ret
                  exact ⟨true, by rw [WB.out]; rfl, ⟨fun _ => HV.out, fun _ => rfl⟩, be.out _ k2'.out⟩
            · have g6 : (k == 6) = false := by simpa using h6
              by_cases h7 : k = 7
              · subst h7
                go_wp2_with fail
                refine (inB_any mv 0 1000 _).mono ?_; rintro e wq ⟨rfl, hq⟩
                rw [hq]
                clear hq wq
                cases c9 : (inB mv 0 1000)
                · have WB : Hid (wordB 7 n st a mv dn (stnL D).length (nthB (stnL D)) = false) := by show _ = _; unfold wordB; simp [c1, c2, c4, c9]
                  go_wp2_with fail
                  go_ret
                  exact ⟨true, by rw [WB.out]; rfl, ⟨fun _ => HV.out, fun _ => rfl⟩, be.out _ k2'.out⟩
                · cases hd : dn
                  · have g1 : ((7 : Int) == 1) = false := by decide
                    go_wp2_with fail
                    refine (noWant_any a.1 a.2.1 o2 o3 o4 o5 n2 n3 n4 n5 k2 k3 k4 k5 _ b2 b3 b4 b5).mono ?_; rintro e w5 ⟨rfl, hb5⟩
                    have k5' : Hid (Below (w.heap.size + 1 + 1) W w5) := k2'.out.trans (hb5.mono (by have := k2'.out.size; omega))
                    clear hb5
                    go_wp2_with fail
                    go_ret
                    exact ⟨true, by rw [show wordB 7 n st a mv dn (stnL D).length (nthB (stnL D)) = zW a.1 a.2.1 n2 n3 n4 n5 by unfold wordB; simp [c1, c2, c4, c9, g1, M2.out, M3.out, M4.out, M5.out]]; rfl, ⟨fun _ => HV.out, fun _ => rfl⟩, be.out _ k5'.out⟩
                  · have g1 : ((7 : Int) == 1) = false := by decide
                    go_wp2_with fail
                    refine (noWant_any a.1 a.2.1 o2 o3 o4 o5 n2 n3 n4 n5 k2 k3 k4 k5 _ b2 b3 b4 b5).mono ?_; rintro e w5 ⟨rfl, hb5⟩
                    have k5' : Hid (Below (w.heap.size + 1 + 1) W w5) := k2'.out.trans (hb5.mono (by have := k2'.out.size; omega))
                    clear hb5
                    go_wp2_with fail
                    go_ret
                    exact ⟨true, by rw [show wordB 7 n st a mv dn (stnL D).length (nthB (stnL D)) = zW a.1 a.2.1 n2 n3 n4 n5 by unfold wordB; simp [c1, c2, c4, c9, g1, M2.out, M3.out, M4.out, M5.out]]; rfl, ⟨fun _ => HV.out, fun _ => rfl⟩, be.out _ k5'.out⟩
              · have g7 : (k == 7) = false := by simpa using h7
                have e7 : (k != 7) = true := by simp [bne, g7]
                by_cases h1 : k = 1
                · cases c8 : (mv == 0)
                  · have e8 : (mv != 0) = true := by simp [bne, c8]
                    have d8 : ¬ mv = 0 := by simpa using c8
                    have WB : Hid (wordB k n st a mv dn (stnL D).length (nthB (stnL D)) = false) := by show _ = _; unfold wordB; simp [c1, c2, g9, g9', c4, g6, g7, d8, h7]
                    clear d8
                    go_wp2_with fail
                    go_ret
                    exact ⟨true, by rw [WB.out]; rfl, ⟨fun _ => HV.out, fun _ => rfl⟩, be.out _ k2'.out⟩
                  · have c9 : inB mv 0 1000 = true := by
                      have h : mv = 0 := by simpa using c8
                      rw [h]; rfl
                    have Z8 : Hid (mv = 0) := by show _ = _; simpa using c8
                    have e8 : (mv != 0) = false := by simp [bne, c8]
                    go_wp2_with fail
                    refine (inB_any mv 0 1000 _).mono ?_; rintro e wq ⟨rfl, hq⟩
                    rw [hq]
                    clear hq wq
                    rw [c9]
                    cases hd : (dn)
                    · subst h1
                      obtain ⟨A2, A3, A4, A5⟩ := HA.out _ (be.out _ k2'.out)
                      go_wp2_with fail
                      refine (C.wantS_any S a _ _ _ _ _ A2 A3 A4 A5 (fun b hb => by have := HS.out b hb; have := (be.out _ k2'.out).size; omega)).mono ?_; rintro e w5 ⟨rfl, hb5⟩
                      have k5' : Hid (Below (w.heap.size + 1 + 1) W w5) := k2'.out.trans (hb5.mono (by have := k2'.out.size; omega))
                      clear hb5 A2 A3 A4 A5
                      clear y0 y1 y2 y3 x0 x1 x2 x3 x4 x5 x6 x7 x8 x9 x10
                      obtain ⟨⟨y0, y1, y2, y3⟩, x0, x1, x2, x3, x4, x5, x6, x7, x8, x9, x10⟩ := bx.out w5 k5'.out
                      cases cw : (C.wantB a)
                      · have WB : Hid (wordB 1 n st a mv dn (stnL D).length (nthB (stnL D)) = false) := by show _ = _; unfold wordB; simp [c1, c2, c4, g6, g7, Z8.out, in0, hd, cw]
                        go_wp2_with fail
                        go_ret
                        exact ⟨true, by rw [WB.out]; rfl, ⟨fun _ => HV.out, fun _ => rfl⟩, be.out _ k5'.out⟩
                      · go_wp2_with fail
                        go_ret
                        exact ⟨true, by rw [show wordB 1 n st a mv dn (stnL D).length (nthB (stnL D)) = (a.1 == n) by unfold wordB; simp [c1, c2, c4, g6, g7, Z8.out, in0, hd, cw]]; rfl, ⟨fun _ => HV.out, fun _ => rfl⟩, be.out _ k5'.out⟩
                    · have WB : Hid (wordB k n st a mv dn (stnL D).length (nthB (stnL D)) = false) := by show _ = _; unfold wordB; simp [c1, c2, g9, g9', c4, g6, g7, h7, Z8.out, in0, hd]
                      go_wp2_with fail
                      go_ret
                      exact ⟨true, by rw [WB.out]; rfl, ⟨fun _ => HV.out, fun _ => rfl⟩, be.out _ k2'.out⟩
                · cases c8 : (mv == 0)
                  · have e8 : (mv != 0) = true := by simp [bne, c8]
                    have d8 : ¬ mv = 0 := by simpa using c8
                    have WB : Hid (wordB k n st a mv dn (stnL D).length (nthB (stnL D)) = false) := by show _ = _; unfold wordB; simp [c1, c2, g9, g9', c4, g6, g7, d8, h7]
                    clear d8
                    go_wp2_with fail
                    go_ret
                    exact ⟨true, by rw [WB.out]; rfl, ⟨fun _ => HV.out, fun _ => rfl⟩, be.out _ k2'.out⟩
                  · have c9 : inB mv 0 1000 = true := by
                      have h : mv = 0 := by simpa using c8
                      rw [h]; rfl
                    have Z8 : Hid (mv = 0) := by show _ = _; simpa using c8
                    have e8 : (mv != 0) = false := by simp [bne, c8]
                    go_wp2_with fail
                    refine (inB_any mv 0 1000 _).mono ?_; rintro e wq ⟨rfl, hq⟩
                    rw [hq]
                    clear hq wq
                    rw [c9]
                    cases hd : (dn)
                    · have g1 : (k == 1) = false := by simpa using h1
                      go_wp2_with fail
                      refine (noWant_any a.1 a.2.1 o2 o3 o4 o5 n2 n3 n4 n5 k2 k3 k4 k5 _ b2 b3 b4 b5).mono ?_; rintro e w5 ⟨rfl, hb5⟩
                      have k5' : Hid (Below (w.heap.size + 1 + 1) W w5) := k2'.out.trans (hb5.mono (by have := k2'.out.size; omega))
                      clear hb5
                      go_wp2_with fail
                      go_ret
                      exact ⟨true, by rw [show wordB k n st a mv dn (stnL D).length (nthB (stnL D)) = zW a.1 a.2.1 n2 n3 n4 n5 by unfold wordB; simp [c1, c2, g9, g9', c4, g6, g7, Z8.out, in0, hd, g1, M2.out, M3.out, M4.out, M5.out]]; rfl, ⟨fun _ => HV.out, fun _ => rfl⟩, be.out _ k5'.out⟩
                    · have WB : Hid (wordB k n st a mv dn (stnL D).length (nthB (stnL D)) = false) := by show _ = _; unfold wordB; simp [c1, c2, g9, g9', c4, g6, g7, h7, Z8.out, in0, hd]
                      go_wp2_with fail
                      go_ret
                      exact ⟨true, by rw [WB.out]; rfl, ⟨fun _ => HV.out, fun _ => rfl⟩, be.out _ k2'.out⟩
        · have g9 : decide (k < 9) = false := decide_eq_false h9
          have g9' : decide (9 ≤ k) = true := decide_eq_true (by omega)
          have h6 : ¬ k = 6 := by omega
          have h7 : ¬ k = 7 := by omega
          have h1 : ¬ k = 1 := by omega
          have g6 : (k == 6) = false := by simpa using h6
          have g7 : (k == 7) = false := by simpa using h7
          have e7 : (k != 7) = true := by simp [bne, g7]
          have kd : Hid (Below (w.heap.size + 1 + 1) W w1.drew) := K1.out.drew
          have qx0 := fun d os => cell_regrown x0 d os
          have qx1 := fun d os => cell_regrown x1 d os
          have qy0 := fun d os => cell_regrown y0 d os
          have qy1 := fun d os => cell_regrown y1 d os
          have qy2 := fun d os => cell_regrown y2 d os
          have qy3 := fun d os => cell_regrown y3 d os
          refine wp_region_mix 8 [0, 1, 2, 3, 5, 6] (by kernel_rfl) (by kernel_rfl) ?_
          simp only [List.filterMap_cons, List.filterMap_nil, List.getElem?_cons_succ, List.getElem?_cons_zero]
          repeat (first | go_big_quiet_step (fail) | quiet_step (fail))
          refine wpQuiet_nil ?_
          clear qx0 qx1 qy0 qy1 qy2 qy3
          refine call1 (md := .any) (f := 1) (i := 4) (dc := 25) (fn := 20) ⟨rfl, rfl, rfl, by decide⟩ (by kernel_rfl) ?run ((stationsS_any B v0 v1 v2 v3 D w1.drew (HP.out _ (be.out _ kd.out)) (by have := (be.out _ kd.out).size; omega) hz).mono ?_)
          case run => go_simp
          rintro e w2 ⟨vs, bs, rfl, is, ho, hb2⟩
          obtain rfl : bs = true := is.2 HV.out
          have LS : Hid (Lst w2.heap.size w2 vs (stnL D).length 1 (cS (nthB (stnL D)))) := own_lst ho HL.out
          have r2 : Hid (Below w1.heap.size w1 w2) := (Below.refl w1.heap.size w1).drew.trans hb2
          have k2' : Hid (Below (w.heap.size + 1 + 1) W w2) := kd.out.trans (hb2.mono (by have := kd.out.size; omega))
          clear ho hb2 is
          refine ⟨_, rfl, regrown_of_below r2.out, ?_⟩
          refine call1 (md := .any) (f := 0) (i := 7) (dc := 28) (fn := 19) ⟨rfl, rfl, rfl, by decide⟩ (by kernel_rfl) ?run7 ((hasS_any w2.heap.size vs (stnL D).length (nthB (stnL D)) st w2 LS.out).mono ?_)
          case run7 => go_simp
          rintro e wq ⟨rfl, hq⟩
          rw [hq]
          clear hq wq
          refine ⟨_, rfl, regrown_of_below r2.out, ?_⟩
          refine ⟨by kernel_rfl, ?_⟩
          simp only [List.drop_succ_cons, List.drop_zero, Act.put, List.setIfInBounds_toArray, List.set_cons_zero, List.set_cons_succ]
          clear y0 y1 y2 y3 x0 x1 x2 x3 x4 x5 x6 x7 x8 x9 x10
          obtain ⟨⟨y0, y1, y2, y3⟩, x0, x1, x2, x3, x4, x5, x6, x7, x8, x9, x10⟩ := bx.out w2 k2'.out
          cases c4 : (hasB (stnL D).length (nthB (stnL D)) st)
          · cases c5 : (st.toList.isEmpty)
            · have WB : Hid (wordB k n st a mv dn (stnL D).length (nthB (stnL D)) = false) := by show _ = _; unfold wordB; simp [c1, c2, g9, g9', c4, c5]
              go_wp2_with fail
              go_ret
              exact Or.inr ⟨by rw [WB.out]; rfl, HV.out, be.out _ k2'.out⟩
            · cases c8 : (mv == 0)
              · have e8 : (mv != 0) = true := by simp [bne, c8]
                have d8 : ¬ mv = 0 := by simpa using c8
                have WB : Hid (wordB k n st a mv dn (stnL D).length (nthB (stnL D)) = false) := by show _ = _; unfold wordB; simp [c1, c2, g9, g9', c4, c5, g6, g7, d8, h7]
                clear d8
                go_wp2_with fail
                go_ret
                exact Or.inr ⟨by rw [WB.out]; rfl, HV.out, be.out _ k2'.out⟩
              · have c9 : inB mv 0 1000 = true := by
                  have h : mv = 0 := by simpa using c8
                  rw [h]; rfl
                have Z8 : Hid (mv = 0) := by show _ = _; simpa using c8
                have e8 : (mv != 0) = false := by simp [bne, c8]
                go_wp2_with fail
                refine (inB_any mv 0 1000 _).mono ?_; rintro e wq ⟨rfl, hq⟩
                rw [hq]
                clear hq wq
                rw [c9]
                cases hd : (dn)
                · have g1 : (k == 1) = false := by simpa using h1
                  go_wp2_with fail
                  refine (noWant_any a.1 a.2.1 o2 o3 o4 o5 n2 n3 n4 n5 k2 k3 k4 k5 _ b2 b3 b4 b5).mono ?_; rintro e w5 ⟨rfl, hb5⟩
                  have k5' : Hid (Below (w.heap.size + 1 + 1) W w5) := k2'.out.trans (hb5.mono (by have := k2'.out.size; omega))
                  clear hb5
                  go_wp2_with fail
                  go_ret
                  exact ⟨true, by rw [show wordB k n st a mv dn (stnL D).length (nthB (stnL D)) = zW a.1 a.2.1 n2 n3 n4 n5 by unfold wordB; simp [c1, c2, g9, g9', c4, c5, g6, g7, Z8.out, in0, hd, g1, M2.out, M3.out, M4.out, M5.out]]; rfl, ⟨fun _ => HV.out, fun _ => rfl⟩, be.out _ k5'.out⟩
                · have WB : Hid (wordB k n st a mv dn (stnL D).length (nthB (stnL D)) = false) := by show _ = _; unfold wordB; simp [c1, c2, g9, g9', c4, c5, g6, g7, h7, Z8.out, in0, hd]
                  go_wp2_with fail
                  go_ret
                  exact ⟨true, by rw [WB.out]; rfl, ⟨fun _ => HV.out, fun _ => rfl⟩, be.out _ k2'.out⟩
          · have WB : Hid (wordB k n st a mv dn (stnL D).length (nthB (stnL D)) = false) := by show _ = _; unfold wordB; simp [c1, c2, g9, g9', c4]
            go_wp2_with fail
            go_ret
            exact Or.inr ⟨by rw [WB.out]; rfl, HV.out, be.out _ k2'.out⟩
  · obtain rfl : b1 = false := (by cases b1; rfl; exact absurd (i1.1 rfl) hV)
    have HV : Hid (¬ D.V) := hV
    clear hV i1
    go_wp2_with fail
    go_ret
    exact ⟨false, rfl, ⟨fun h => (by cases h), fun h => absurd h HV.out⟩, be.out _ K1.out⟩

end Go.Proofs.YtciembgenlcogaeGreat
