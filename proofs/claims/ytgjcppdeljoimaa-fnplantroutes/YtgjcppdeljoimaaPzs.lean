import Derived.Test.YtgjcppdeljoimaaPzsc
import Derived.Test.YtgjcppdeljoimaaPzsd
import Derived.Test.YtgjcppdeljoimaaPzse
import Derived.Test.YtgjcppdeljoimaaPzsf
namespace Go.Proofs.Ytgjcppdeljoimaa
open Go.RowKit Go.Sort
theorem Est.up {R P Q : Nat} {w : World} {ob : Option Addr} {n cb : Nat} {f : Nat → Int} {c c' : Int} {u : World} (h : Est R P Q w ob n cb f c u) (hc : c ≤ c') : Est R P Q w ob n cb f c' u := by
  obtain ⟨v0, v1, v2, v3, X, h⟩ := h
  exact ⟨v0, v1, v2, v3, X, h.up hc⟩
theorem Es.spo {R P Q : Nat} {w : World} {ob : Option Addr} {n cb : Nat} {f : Nat → Int} {v0 v1 v2 v3 : Value} {X : PlL} {c : Int} {u : World} (h : Es R P Q w ob n cb f v0 v1 v2 v3 X c u) : SpoP R ob n cb f c w (.returned (.agg #[v0, v1, v2, v3])) ((((u.setCell ⟨Q, 0, none⟩ v0).setCell ⟨Q, 1, none⟩ v1).setCell ⟨Q, 2, none⟩ v2).setCell ⟨Q, 3, none⟩ v3) := by
  obtain ⟨r1, r2, r3, r4⟩ := ret4 h.bq v0 v1 v2 v3
  obtain ⟨q, hq, hrd⟩ := h.rd
  have hl := h.low
  exact ⟨v0, v1, v2, v3, X, q, rfl, ⟨h.pl.s.block fun g hg => r2 g (row_ne h.pl.s h.bq (by decide) g hg), h.pl.f.block fun g hg => r2 g (row_ne h.pl.f h.bq (by decide) g hg), h.pl.p.block fun g hg => r2 g (row_ne h.pl.p h.bq (by decide) g hg), h.pl.v.block fun g hg => r2 g (row_ne h.pl.v h.bq (by decide) g hg)⟩, h.ok, hq, hrd.but (fun b hb => r2 b (by omega)), ⟨r4.os.trans h.bt.os, r4.tape.trans h.bt.tape, r4.output.trans h.bt.output, Nat.le_trans h.bt.size r4.size, fun b hb hno => (r2 b (by omega)).trans (h.bt.block b hb hno)⟩⟩
set_option maxRecDepth 100000 in
set_option maxHeartbeats 4000000 in
theorem spoil_dr (R : Nat) (ob : Option Addr) (n cb : Nat) (f : Nat → Int) (p : Int) (B : Nat) (a0 a1 a2 a3 : Value) (Y : PlL) (w : World) (hr : Rd R w ob n cb p f) (hp : p ≤ 70000) (h : PlR B w a0 a1 a2 a3 Y) (hY : Y.Ok) :
    Calls Try.prog 29 #[.pointer (some ⟨R, 0, none⟩), .agg #[a0, a1, a2, a3]] w fun e w' => SpoP R ob n cb f (p + 10) w e w' := by
  obtain ⟨q0, d0, rfl⟩ := Row.form h.s
  obtain ⟨q1, d1, rfl⟩ := Row.form h.f
  obtain ⟨q2, d2, rfl⟩ := Row.form h.p
  obtain ⟨q3, d3, rfl⟩ := Row.form h.v
  generalize em0 : Y.ss.length = m0 at h ⊢
  generalize em1 : Y.ff.length = m1 at h ⊢
  generalize em2 : Y.pp.length = m2 at h ⊢
  generalize em3 : Y.vv.length = m3 at h ⊢
  have EM : Hid (Y.ss.length = m0 ∧ Y.ff.length = m1 ∧ Y.pp.length = m2 ∧ Y.vv.length = m3) := ⟨em0, em1, em2, em3⟩
  clear em0 em1 em2 em3
  have rlt := hr.lt
  obtain ⟨W, hW⟩ : ∃ W, W = (w.alloc (.cells #[.slice q0 m0 d0, .slice q1 m1 d1, .slice q2 m2 d2, .slice q3 m3 d3] 28)).alloc (.cells #[.slice none 0 0, .slice none 0 0, .slice none 0 0, .slice none 0 0] 28) := ⟨_, rfl⟩
  have EW : Hid (W = (w.alloc (.cells #[.slice q0 m0 d0, .slice q1 m1 d1, .slice q2 m2 d2, .slice q3 m3 d3] 28)).alloc (.cells #[.slice none 0 0, .slice none 0 0, .slice none 0 0, .slice none 0 0] 28)) := hW
  have BW : Hid (Below w.heap.size w W) := by rw [hW]; exact ((Below.refl _ _).alloc (Nat.le_refl _) _).alloc (by simp) _
  have R1 : Hid (W.heap[w.heap.size]? = some (.cells #[.slice q0 m0 d0, .slice q1 m1 d1, .slice q2 m2 d2, .slice q3 m3 d3] 28 (0, 0))) := by rw [hW]; exact (Below.heap_alloc _ _ _ (by simp)).trans (heap_alloc_new w _)
  have R2 : Hid (W.heap[w.heap.size + 1]? = some (.cells #[.slice none 0 0, .slice none 0 0, .slice none 0 0, .slice none 0 0] 28 (0, 0))) := by
    have e : (w.alloc (.cells #[.slice q0 m0 d0, .slice q1 m1 d1, .slice q2 m2 d2, .slice q3 m3 d3] 28)).heap.size = w.heap.size + 1 := by simp
    rw [hW, ← e]; exact heap_alloc_new _ _
  have sW : W.heap.size = w.heap.size + 1 + 1 := by rw [hW]; simp
  have HY : Hid (PlR B W (.slice q0 m0 d0) (.slice q1 m1 d1) (.slice q2 m2 d2) (.slice q3 m3 d3) Y) := h.below BW.out
  have RD0 : Hid (Rd R W ob n cb p f) := hr.but fun b hb => BW.out.block b (by omega)
  clear hW hr h
  obtain ⟨zc0, tzc0⟩ := cell_row (R1.out) 0 _ rfl
  obtain ⟨zc1, tzc1⟩ := cell_row (R1.out) 1 _ rfl
  obtain ⟨zc2, tzc2⟩ := cell_row (R1.out) 2 _ rfl
  obtain ⟨zc3, tzc3⟩ := cell_row (R1.out) 3 _ rfl
  simp only [List.getElem_toArray, List.getElem_cons_zero, List.getElem_cons_succ] at zc0 zc1 zc2 zc3
  go_enter Try.func29, Try.ntmps29
  go_upto_region 1 with fail
  rw [← EW.out]
  go_wp2_with fail
  refine (copy_ex B _ _ _ _ Y W HY.out hY).mono ?_
  rintro e V ⟨u0, u1, u2, u3, rfl, hp1, hb1⟩
  obtain ⟨p0, k0, rfl⟩ := Row.form hp1.s
  obtain ⟨p1, k1, rfl⟩ := Row.form hp1.f
  obtain ⟨p2, k2, rfl⟩ := Row.form hp1.p
  obtain ⟨p3, k3, rfl⟩ := Row.form hp1.v
  rw [EM.out.1, EM.out.2.1, EM.out.2.2.1, EM.out.2.2.2] at hp1 ⊢
  have HV : Hid (PlR W.heap.size V (.slice p0 m0 k0) (.slice p1 m1 k1) (.slice p2 m2 k2) (.slice p3 m3 k3) Y) := hp1
  have BV : Hid (Below W.heap.size W V) := hb1
  clear hp1 hb1 zc0 zc1 zc2 zc3
  have sV := BV.out.size
  obtain ⟨P, hP⟩ : ∃ P, P = V.heap.size := ⟨_, rfl⟩
  obtain ⟨V2, hV2⟩ : ∃ V2, V2 = V.alloc (.cells #[.slice p0 m0 k0, .slice p1 m1 k1, .slice p2 m2 k2, .slice p3 m3 k3] 28) := ⟨_, rfl⟩
  have EV2 : Hid (V2 = V.alloc (.cells #[.slice p0 m0 k0, .slice p1 m1 k1, .slice p2 m2 k2, .slice p3 m3 k3] 28)) := hV2
  have B2 : Hid (Below V.heap.size V V2) := by rw [hV2]; exact (Below.refl _ _).alloc (Nat.le_refl _) _
  have RP : Hid (V2.heap[P]? = some (.cells #[.slice p0 m0 k0, .slice p1 m1 k1, .slice p2 m2 k2, .slice p3 m3 k3] 28 (0, 0))) := by rw [hV2, hP]; exact heap_alloc_new _ _
  clear hV2
  have DS : Hid (Es R P (w.heap.size + 1) w ob n cb f (.slice p0 m0 k0) (.slice p1 m1 k1) (.slice p2 m2 k2) (.slice p3 m3 k3) Y p V2) := by
    have lt2 := (Array.getElem?_eq_some_iff.1 RP.out).1
    refine ⟨⟨p, Int.le_refl _, RD0.out.but fun b hb => (B2.out.block b (by omega)).trans (BV.out.block b (by omega))⟩, But.of_below (BW.out.trans ((BV.out.mono (by omega)).trans (B2.out.mono (by omega)))), RP.out, (B2.out.block _ (by omega)).trans ((BV.out.block _ (by omega)).trans R2.out), ?_, hY.up (by decide), ⟨rlt, by omega, by omega, by omega⟩⟩
    have h1 := HV.out.below B2.out
    exact ⟨h1.s.low (by omega), h1.f.low (by omega), h1.p.low (by omega), h1.v.low (by omega)⟩
  go_upto_region 2 with fail
  rw [← EV2.out, ← hP]
  clear hP
  go_wp2_with fail
  refine (pick_es DS.out (by omega) 10 (by decide) (by decide)).mono ?_
  rintro e U ⟨x, rfl, hx0, hx1, D, _⟩
  have E1 : Hid _ := D
  clear D DS RP HV HY RD0
  have hns := hY.ns
  have hnf := hY.nf
  have hnp := hY.np
  have hnv := hY.nv
  obtain ⟨em0, em1, em2, em3⟩ := EM.out
  go_upto_block 0 with fail
  go_cut [] from 15 (fun wr => Hid (Est R P (w.heap.size + 1) w ob n cb f (p + 10) wr))
  case first =>
    have hx : x = 0 ∨ x = 1 ∨ x = 2 ∨ x = 3 ∨ x = 4 ∨ x = 7 ∨ x = 8 ∨ x = 9 ∨ x = 5 ∨ x = 6 := by omega
    rcases hx with rfl | rfl | rfl | rfl | rfl | rfl | rfl | rfl | rfl | rfl
    · go_upto_region 9 with fail
      refine spo9 R P (w.heap.size + 1) ob n cb f w _ _ _ _ _ Y (p + 1) (by omega) _ _ _ _ _ _ _ _ _ _ _ _ _ _ (by rfl) (by omega) E1.out (by kernel_rfl) ?_
      intro ys wr hys hE
      obtain ⟨g, rfl⟩ := len221 hys
      clear hys
      dsimp only
      go_wp2_with fail
      go_meet
      case rel => exact hE.up (by omega)
    · go_upto_region 11 with fail
      refine spo11 R P (w.heap.size + 1) ob n cb f w _ _ _ _ _ Y (p + 1) (by omega) _ _ _ _ _ _ _ _ _ _ _ _ _ _ (by rfl) (by omega) E1.out (by kernel_rfl) ?_
      intro ys wr hys hE
      obtain ⟨g, rfl⟩ := len221 hys
      clear hys
      dsimp only
      go_wp2_with fail
      go_meet
      case rel => exact hE.up (by omega)
    · have xc := (cell_row E1.out.bx 2 (.slice p2 m2 k2) rfl).1
      by_cases h0 : 0 < m2
      case neg =>
        have hd : decide ((0 : Int) < (m2 : Int)) = false := by simp; omega
        have hd' : ¬ ((0 : Int) < (m2 : Int)) := by omega
        go_wp2_with fail
        go_meet
        case rel => exact ⟨_, _, _, _, _, E1.out.up (by omega)⟩
      have hd : decide ((0 : Int) < (m2 : Int)) = true := by simp; omega
      have hd' : ((0 : Int) < (m2 : Int)) := by omega
      go_wp2_with fail
      refine (pick_es E1.out (by omega) m2 (by omega) (by omega)).mono ?_
      rintro e U2 ⟨x2, rfl, hk0, hk1, D, _⟩
      have E2 : Hid _ := D
      clear D
      obtain ⟨k, rfl⟩ := Int.eq_ofNat_of_zero_le hk0
      have hkk : k < Y.pp.length := by omega
      go_upto_region 15 with fail
      refine spo15 R P (w.heap.size + 1) ob n cb f w _ _ _ _ _ Y (p + 1 + 1) (by omega) _ _ _ _ _ _ _ _ _ _ _ _ _ (by rfl) k hkk E2.out (by kernel_rfl) ?_
      intro ys wr hys hE
      obtain ⟨g, rfl⟩ := len221 hys
      clear hys
      dsimp only
      go_wp2_with fail
      go_meet
      case rel => exact hE.up (by omega)
    · have xc := (cell_row E1.out.bx 2 (.slice p2 m2 k2) rfl).1
      by_cases h0 : 0 < m2
      case neg =>
        have hd : decide ((0 : Int) < (m2 : Int)) = false := by simp; omega
        have hd' : ¬ ((0 : Int) < (m2 : Int)) := by omega
        go_wp2_with fail
        go_meet
        case rel => exact ⟨_, _, _, _, _, E1.out.up (by omega)⟩
      have hd : decide ((0 : Int) < (m2 : Int)) = true := by simp; omega
      have hd' : ((0 : Int) < (m2 : Int)) := by omega
      go_wp2_with fail
      refine (pick_es E1.out (by omega) m2 (by omega) (by omega)).mono ?_
      rintro e U2 ⟨x2, rfl, hk0, hk1, D, _⟩
      have E2 : Hid _ := D
      clear D
      obtain ⟨k, rfl⟩ := Int.eq_ofNat_of_zero_le hk0
      have hkk : k < Y.pp.length := by omega
      go_upto_region 19 with fail
      refine spo19 R P (w.heap.size + 1) ob n cb f w _ _ _ _ _ Y (p + 1 + 1) (by omega) _ _ _ _ _ _ _ _ _ _ _ _ _ (by rfl) k hkk E2.out (by kernel_rfl) ?_
      intro ys wr hys hE
      obtain ⟨g, rfl⟩ := len221 hys
      clear hys
      dsimp only
      go_wp2_with fail
      go_meet
      case rel => exact hE.up (by omega)
    · have xc := (cell_row E1.out.bx 2 (.slice p2 m2 k2) rfl).1
      by_cases h0 : 0 < m2
      case neg =>
        have hd : decide ((0 : Int) < (m2 : Int)) = false := by simp; omega
        have hd' : ¬ ((0 : Int) < (m2 : Int)) := by omega
        go_wp2_with fail
        go_meet
        case rel => exact ⟨_, _, _, _, _, E1.out.up (by omega)⟩
      have hd : decide ((0 : Int) < (m2 : Int)) = true := by simp; omega
      have hd' : ((0 : Int) < (m2 : Int)) := by omega
      go_upto_region 22 with fail
      refine spo22 R P (w.heap.size + 1) ob n cb f w _ _ _ _ _ Y (p + 1) (by omega) _ _ _ _ _ _ _ _ _ _ _ _ _ _ (by rfl) (by omega) E1.out (by kernel_rfl) ?_
      intro ys wr hys hE
      obtain ⟨g, rfl⟩ := len221 hys
      clear hys
      dsimp only
      go_wp2_with fail
      go_meet
      case rel => exact hE.up (by omega)
    · go_wp2_with fail
      refine (pick_es E1.out (by omega) 2 (by decide) (by decide)).mono ?_
      rintro e U2 ⟨x2, rfl, hk0, hk1, D, _⟩
      have E2 : Hid _ := D
      clear D
      have hw : IntKind.i64.wrap (8 + x2) = 8 + x2 := wrap_i64 _ (by omega) (by omega)
      go_upto_block 4 with fail
      refine spo4 R P (w.heap.size + 1) ob n cb f w _ _ _ _ _ Y (p + 1 + 1) (by omega) _ (by omega) (by omega) _ _ _ _ _ _ _ _ _ _ _ _ (by rfl) E2.out (by kernel_rfl) ?_
      intro z ys wr hys hE
      obtain ⟨g, rfl⟩ := len221 hys
      clear hys
      dsimp only
      go_wp2_with fail
      go_meet
      case rel => exact hE.up (by omega)
    · go_wp2_with fail
      refine (pick_es E1.out (by omega) 2 (by decide) (by decide)).mono ?_
      rintro e U2 ⟨x2, rfl, hk0, hk1, D, _⟩
      have E2 : Hid _ := D
      clear D
      have hw : IntKind.i64.wrap (14 + x2) = 14 + x2 := wrap_i64 _ (by omega) (by omega)
      go_upto_block 6 with fail
      refine spo6 R P (w.heap.size + 1) ob n cb f w _ _ _ _ _ Y (p + 1 + 1) (by omega) _ (by omega) (by omega) _ _ _ _ _ _ _ _ _ _ _ _ (by rfl) E2.out (by kernel_rfl) ?_
      intro z ys wr hys hE
      obtain ⟨g, rfl⟩ := len221 hys
      clear hys
      dsimp only
      go_wp2_with fail
      go_meet
      case rel => exact hE.up (by omega)
    · go_wp2_with fail
      refine (pick_es E1.out (by omega) 2 (by decide) (by decide)).mono ?_
      rintro e U2 ⟨x2, rfl, hk0, hk1, D, _⟩
      have E2 : Hid _ := D
      clear D
      have hw : IntKind.i64.wrap (18 + x2) = 18 + x2 := wrap_i64 _ (by omega) (by omega)
      go_upto_block 1 with fail
      refine spo1 R P (w.heap.size + 1) ob n cb f w _ _ _ _ _ Y (p + 1 + 1) (by omega) _ (by omega) (by omega) _ _ _ _ _ _ _ _ _ _ _ _ (by rfl) E2.out (by kernel_rfl) ?_
      intro z ys wr hys hE
      obtain ⟨g, rfl⟩ := len221 hys
      clear hys
      dsimp only
      go_wp2_with fail
      go_meet
      case rel => exact hE.up (by omega)
    all_goals
      have xc := (cell_row E1.out.bx 3 (.slice p3 m3 k3) rfl).1
      by_cases h0 : 0 < m3
      case neg =>
        have hd : decide ((0 : Int) < (m3 : Int)) = false := by simp; omega
        have hd' : ¬ ((0 : Int) < (m3 : Int)) := by omega
        go_wp2_with fail
        go_meet
        case rel => exact ⟨_, _, _, _, _, E1.out.up (by omega)⟩
      have hd : decide ((0 : Int) < (m3 : Int)) = true := by simp; omega
      have hd' : ((0 : Int) < (m3 : Int)) := by omega
      go_wp2_with fail
      refine (pick_es E1.out (by omega) m3 (by omega) (by omega)).mono ?_
      rintro e U2 ⟨x2, rfl, hk0, hk1, D, _⟩
      have E2 : Hid _ := D
      clear D
      obtain ⟨k, rfl⟩ := Int.eq_ofNat_of_zero_le hk0
      have hkk : k < Y.vv.length := by omega
      go_wp2_with fail
      refine (pick_es E2.out (by omega) 4 (by decide) (by decide)).mono ?_
      rintro e U3 ⟨x3, rfl, hj0, hj1, D, _⟩
      have E3 : Hid _ := D
      clear D
      have hx3 : x3 = 0 ∨ x3 = 1 ∨ x3 = 2 ∨ x3 = 3 := by omega
      rcases hx3 with rfl | rfl | rfl | rfl
      · go_upto_region 30 with fail
        refine spo30 R P (w.heap.size + 1) ob n cb f w _ _ _ _ _ Y (p + 1 + 1 + 1) (by omega) _ _ _ _ _ _ _ _ _ _ _ _ _ (by rfl) k hkk E3.out (by kernel_rfl) ?_
        intro ys wr hys hE
        obtain ⟨g, rfl⟩ := len221 hys
        clear hys
        dsimp only
        go_wp2_with fail
        go_meet
        case rel => exact hE.up (by omega)
      · go_upto_region 32 with fail
        refine spo32 R P (w.heap.size + 1) ob n cb f w _ _ _ _ _ Y (p + 1 + 1 + 1) (by omega) _ _ _ _ _ _ _ _ _ _ _ _ _ (by rfl) k hkk E3.out (by kernel_rfl) ?_
        intro ys wr hys hE
        obtain ⟨g, rfl⟩ := len221 hys
        clear hys
        dsimp only
        go_wp2_with fail
        go_meet
        case rel => exact hE.up (by omega)
      · go_upto_region 34 with fail
        refine spo34 R P (w.heap.size + 1) ob n cb f w _ _ _ _ _ Y (p + 1 + 1 + 1) (by omega) _ _ _ _ _ _ _ _ _ _ _ _ _ (by rfl) k hkk E3.out (by kernel_rfl) ?_
        intro ys wr hys hE
        obtain ⟨g, rfl⟩ := len221 hys
        clear hys
        dsimp only
        go_wp2_with fail
        go_meet
        case rel => exact hE.up (by omega)
      · go_upto_region 28 with fail
        refine spo28 R P (w.heap.size + 1) ob n cb f w _ _ _ _ _ Y (p + 1 + 1 + 1) (by omega) _ _ _ _ _ _ _ _ _ _ _ _ _ (by rfl) k hkk E3.out (by kernel_rfl) ?_
        intro ys wr hys hE
        obtain ⟨g, rfl⟩ := len221 hys
        clear hys
        dsimp only
        go_wp2_with fail
        go_meet
        case rel => exact hE.up (by omega)
  case rest =>
    obtain ⟨v0, v1, v2, v3, X, D⟩ := hcut.out
    have DD : Hid _ := D
    clear D hcut
    obtain ⟨xc0, txc0⟩ := cell_row DD.out.bx 0 _ rfl
    obtain ⟨xc1, txc1⟩ := cell_row DD.out.bx 1 _ rfl
    obtain ⟨xc2, txc2⟩ := cell_row DD.out.bx 2 _ rfl
    obtain ⟨xc3, txc3⟩ := cell_row DD.out.bx 3 _ rfl
    simp only [List.getElem_toArray, List.getElem_cons_zero, List.getElem_cons_succ] at xc0 xc1 xc2 xc3
    obtain ⟨zr0, tzr0⟩ := cell_row (DD.out.bq) 0 _ rfl
    obtain ⟨zr1, tzr1⟩ := cell_row (DD.out.bq) 1 _ rfl
    obtain ⟨zr2, tzr2⟩ := cell_row (DD.out.bq) 2 _ rfl
    obtain ⟨zr3, tzr3⟩ := cell_row (DD.out.bq) 3 _ rfl
    simp only [List.getElem_toArray, List.getElem_cons_zero, List.getElem_cons_succ] at zr0 zr1 zr2 zr3
    have R4 := hidZ (ret4 DD.out.bq v0 v1 v2 v3)
    have ff0 := hidZ (cell_row R4.out.1 0 _ rfl).1
    have ff1 := hidZ (cell_row R4.out.1 1 _ rfl).1
    have ff2 := hidZ (cell_row R4.out.1 2 _ rfl).1
    have ff3 := hidZ (cell_row R4.out.1 3 _ rfl).1
    obtain ⟨o0, c0, rfl⟩ := Row.form DD.out.pl.s
    obtain ⟨o1, c1, rfl⟩ := Row.form DD.out.pl.f
    obtain ⟨o2, c2, rfl⟩ := Row.form DD.out.pl.p
    obtain ⟨o3, c3, rfl⟩ := Row.form DD.out.pl.v
    have HN := hidZ DD.out.spo
    go_wp2_with fail
    all_goals exact bodyPost_ret (v := .agg #[.slice o0 X.ss.length c0, .slice o1 X.ff.length c1, .slice o2 X.pp.length c2, .slice o3 X.vv.length c3]) (by simp [results, Try.results29, go_sem, ff0.out, ff1.out, ff2.out, ff3.out]) rfl HN.out
end Go.Proofs.Ytgjcppdeljoimaa
