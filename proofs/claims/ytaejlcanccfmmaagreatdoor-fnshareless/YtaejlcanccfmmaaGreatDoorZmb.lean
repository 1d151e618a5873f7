import Derived.Test.YtaejlcanccfmmaaGreatDoorZma
import Derived.Deep.Cut
namespace Go.Proofs.YtaejlcanccfmmaaGreatDoor
open Go.RowKit Go.Sort
open Go.Sort in
theorem namesZ_q (S SA : Nat → Prop) (v va : Value) (l all : List ByteArray) (wr : World) (h : AtL S wr l v) (ha : AtL SA wr all va) (hS : ∀ b, S b → b < wr.heap.size) (hSA : ∀ b, SA b → b < wr.heap.size) (r : Bool) (hr : subB all l = r) (d : Nat) (os : Array Obj) : Calls Tryz.prog 19 #[v, va] (grow (redrawn wr d) os) fun e w'' => e = .returned (.bool r) ∧ ∃ p : Regrown, w'' = grow (redrawn wr p.d) p.os :=
  Calls.regrown_of ((namesZ_any S SA v va l all _ (h.same (Same.of_below (below_regrown wr d os) hS)) (ha.same (Same.of_below (below_regrown wr d os) hSA)) (fun b hb => Nat.lt_of_lt_of_le (hS b hb) (below_regrown wr d os).size) (fun b hb => Nat.lt_of_lt_of_le (hSA b hb) (below_regrown wr d os).size)).mono fun _ _ ⟨he, hw⟩ => ⟨by subst hr; exact he, hw⟩)
open Go.Sort in
theorem shareZ_q (S : Nat → Prop) (va vb : Value) (a b : List ByteArray) (wr : World) (ha : AtL S wr a va) (hb : AtL S wr b vb) (hS : ∀ b, S b → b < wr.heap.size) (r : Bool) (hr : shareB a b = r) (d : Nat) (os : Array Obj) : Calls Tryz.prog 36 #[va, vb] (grow (redrawn wr d) os) fun e w'' => e = .returned (.bool r) ∧ ∃ p : Regrown, w'' = grow (redrawn wr p.d) p.os :=
  Calls.regrown_of ((shareZ_any S va vb a b _ (ha.same (Same.of_below (below_regrown wr d os) hS)) (hb.same (Same.of_below (below_regrown wr d os) hS)) (fun b hb => Nat.lt_of_lt_of_le (hS b hb) (below_regrown wr d os).size)).mono fun _ _ ⟨he, hw⟩ => ⟨by subst hr; exact he, hw⟩)
noncomputable def batB (T : List ByteArray) (p : Option DShareBatch) (x : DShareBatch) : Bool := nameB x.1 && asO (fun a b : DShareBatch => ltB a.1 b.1) p x && subB T x.2.2 && subB x.2.2 x.2.1
structure RowP (D : DShareBook) (i : Nat) (hi : i < D.2.length) : Prop where
  bat : batB D.1 (prevO D.2 i) D.2[i] = true
  sha : ∀ k (hk : k < i), shareB D.2[i].2.1 (D.2[k]'(by omega)).2.1 = false
structure BokP (D : DShareBook) : Prop where
  things : okB 8 (tst nameB ltB) D.1 = true
  len : D.2.length ≤ 5
  row : ∀ i (hi : i < D.2.length), RowP D i hi
noncomputable def bokB (D : DShareBook) : Bool := @decide (BokP D) (Classical.propDecidable _)
theorem bok_yes {D : DShareBook} (h : BokP D) : bokB D = true := by unfold bokB; exact @decide_eq_true _ (Classical.propDecidable _) h
theorem bok_no {D : DShareBook} (h : ¬ BokP D) : bokB D = false := by unfold bokB; exact @decide_eq_false _ (Classical.propDecidable _) h
theorem bok_iff {D : DShareBook} : bokB D = true ↔ BokP D := by unfold bokB; exact @decide_eq_true_iff _ (Classical.propDecidable _)
set_option maxRecDepth 100000 in
set_option maxHeartbeats 16000000 in
theorem bookZ_any (S : Nat → Prop) (D : DShareBook) (v0 v1 : Value) (w : World) (h0 : AtL S w D.1 v0) (h1 : AtL S w D.2 v1) (hS : ∀ b, S b → b < w.heap.size) :
    Calls Tryz.prog 16 #[.agg #[v0, v1]] w fun e w' => e = .returned (.bool (bokB D)) ∧ Below w.heap.size w w' := by
  obtain ⟨o0, k0, rfl, _⟩ := id h0
  obtain ⟨oa, kb, rfl, hfit, hc⟩ := id h1
  have H0 : Hid _ := h0.ups hS
  have HL : Hid (∀ u, Below w.heap.size w u → ∀ (l : List ByteArray) (v : Value), AtL S w l v → AtL S u l v) := fun u hu l v h => h.same (Same.of_below hu hS)
  have HS : Hid _ := lt_up hS
  have HC : Hid _ := hc
  obtain ⟨T, Bs⟩ := D
  simp only at H0 HC hfit
  obtain ⟨n0, en0⟩ : ∃ n, T.length = n := ⟨_, rfl⟩
  obtain ⟨nb, enb⟩ : ∃ n, Bs.length = n := ⟨_, rfl⟩
  have ENB : Hid (Bs.length ≤ nb ∧ nb ≤ Bs.length) := ⟨by omega, by omega⟩
  simp only
  rw [en0] at H0
  rw [en0, enb]
  have hmx : nb ≤ maxLen := by rw [← enb]; exact hfit.1
  unfold maxLen at hmx
  clear h0 h1 hc hfit en0 enb
  obtain ⟨W, EW, BW, RW, sW⟩ := box_new w #[.slice o0 n0 k0, .slice oa nb kb] 26
  have BOX : Hid (∀ u, Below W.heap.size W u → u.heap[w.heap.size]? = some (.cells #[.slice o0 n0 k0, .slice oa nb kb] 26 (0, 0)) ∧ Below w.heap.size w u) := fun u hu => ⟨(hu.block _ (by omega)).trans RW.out, BW.out.trans (hu.mono (by omega))⟩
  go_enter Tryz.func16, Tryz.ntmps16
  go_wp2_with fail
  rw [← EW.out]
  refine (thingsZ_any S _ T W (H0.out W BW.out) (HS.out W BW.out)).mono ?_; rintro e u1 ⟨rfl, hb1⟩
  have B1 : Hid (Below W.heap.size W u1) := hb1
  clear hb1
  cases hT : okB 8 (tst nameB ltB) T
  · go_wp2_with fail
    go_ret
    rw [bok_no (fun h => by have := h.things; simp only at this; rw [hT] at this; cases this)]
    exact ⟨rfl, (BOX.out u1 B1.out).2⟩
  have y1 := (cell_row (BOX.out u1 B1.out).1 1 (.slice oa nb kb) rfl).1
  by_cases hlen : nb ≤ 5
  case neg =>
    have d5 : decide ((5 : Int) < (nb : Int)) = true := by simp; omega
    go_wp2_with fail
    go_ret
    rw [bok_no (fun h => by have := h.len; have := ENB.out; simp only at *; omega)]
    exact ⟨rfl, (BOX.out u1 B1.out).2⟩
  have d5 : decide ((5 : Int) < (nb : Int)) = false := by simp; omega
  go_wp2_with fail
  clear y1 d5
  go_loopw [3] (fun i wr => ∃ q : Nat, q ≤ nb ∧ i = .int .i64 q ∧ Hid (∀ j (hj : j < Bs.length), j < q → RowP (T, Bs) j hj) ∧ Hid (Below W.heap.size W wr)) (fun i _ => nb - (intOf i).toNat)
  case atStart => exact ⟨0, Nat.zero_le _, rfl, fun _ _ h => by omega, B1⟩
  case round =>
    obtain ⟨q, hq, rfl, hall, hbel⟩ := hrel
    have y1 := (cell_row (BOX.out wr hbel.out).1 1 (.slice oa nb kb) rfl).1
    by_cases hlt : q < nb
    case neg =>
      go_wp2_with fail
      go_ret
      rw [bok_yes ⟨hT, by have := ENB.out; simp only; omega, fun i hi => hall.out i hi (by have := ENB.out; simp only at hi; omega)⟩]
      exact ⟨rfl, (BOX.out wr hbel.out).2⟩
    have hqb : q < Bs.length := by have := ENB.out; omega
    obtain ⟨bb, off, rfl, hbS, cc, hcell, hat⟩ := HC.out q hqb
    have hbb := HS.out w (Below.refl _ _) bb hbS
    rw [width_DShareBatch] at hcell
    obtain ⟨f, ef⟩ : ∃ f, Bs[q] = f := ⟨_, rfl⟩
    rw [at_DShareBatch, ef] at hat
    obtain ⟨nm, has, needs⟩ := f
    obtain ⟨⟨t0, z0⟩, a1, a2⟩ := hat
    simp only at t0 z0 a1 a2
    obtain ⟨o1, k1, t1, _⟩ := id a1
    obtain ⟨o2, k2, t2, _⟩ := id a2
    rw [t1] at a1
    rw [t2] at a2
    obtain ⟨n1, en1⟩ : ∃ n, has.length = n := ⟨_, rfl⟩
    obtain ⟨n2, en2⟩ : ∃ n, needs.length = n := ⟨_, rfl⟩
    rw [en1] at a1 t1
    rw [en2] at a2 t2
    have sq := hbel.out.size
    have bwr := (BOX.out wr hbel.out).2
    have e0 : wr.cell? ⟨bb, off + q * 3, none⟩ = some (.string nm) := (bwr.cell (p := ⟨bb, off + q * 3, none⟩) hbb).trans ((by have hq := hcell 0 (by omega); first | exact hq | simpa using hq : w.cell? ⟨bb, off + q * 3, none⟩ = some (cc 0)).trans (by rw [t0]))
    have e1 : wr.cell? ⟨bb, off + q * 3 + 1, none⟩ = some (.slice o1 n1 k1) := (bwr.cell (p := ⟨bb, off + q * 3 + 1, none⟩) hbb).trans ((hcell 1 (by omega)).trans (by rw [t1]))
    have e2 : wr.cell? ⟨bb, off + q * 3 + 2, none⟩ = some (.slice o2 n2 k2) := (bwr.cell (p := ⟨bb, off + q * 3 + 2, none⟩) hbb).trans ((hcell 2 (by omega)).trans (by rw [t2]))
    have A1 : Hid (AtL S w has (.slice o1 n1 k1)) := a1
    have A2 : Hid (AtL S w needs (.slice o2 n2 k2)) := a2
    have NAM : Hid (∀ (i : Nat) (hi : i < Bs.length), ∃ hv, w.cell? ⟨bb, off + i * 3, none⟩ = some (.string Bs[i].1) ∧ w.cell? ⟨bb, off + i * 3 + 1, none⟩ = some hv ∧ AtL S w Bs[i].2.1 hv) := fun i hi => by
      obtain ⟨b', off', e', _, dd, hcl, hat'⟩ := HC.out i hi
      cases e'
      rw [width_DShareBatch] at hcl
      rw [at_DShareBatch] at hat'
      exact ⟨dd 1, (by have hq := hcl 0 (by omega); first | exact hq | simpa using hq : w.cell? ⟨bb, off + i * 3, none⟩ = some (dd 0)).trans (by rw [hat'.1.1]), hcl 1 (by omega), hat'.2.1⟩
    clear hcell a1 a2 t0 t1 t2 en1 en2
    obtain ⟨X, hX⟩ : ∃ X, X = wr.alloc (.cells #[.string nm, .slice o1 n1 k1, .slice o2 n2 k2] 43) := ⟨_, rfl⟩
    have EX : Hid (X = wr.alloc (.cells #[.string nm, .slice o1 n1 k1, .slice o2 n2 k2] 43)) := hX
    have BX : Hid (Below W.heap.size W X) := by rw [hX]; exact hbel.out.alloc (by omega) _
    have RX : Hid (X.heap[wr.heap.size]? = some (.cells #[.string nm, .slice o1 n1 k1, .slice o2 n2 k2] 43 (0, 0))) := by rw [hX]; exact heap_alloc_new wr _
    have sX : wr.heap.size + 1 ≤ X.heap.size := by rw [hX]; simp
    clear hX
    go_upto_region 7 with fail
    rw [← EX.out]
    clear e0 e1 e2 y1
    have bX := (BOX.out X BX.out).2
    have rX := (BOX.out X BX.out).1
    have qy0 := fun d os => cell_regrown (cell_row rX 0 (.slice o0 n0 k0) rfl).1 d os
    have qy1 := fun d os => cell_regrown (cell_row rX 1 (.slice (some ⟨bb, off, none⟩) nb kb) rfl).1 d os
    have qn0 := fun d os => cell_regrown (cell_row RX.out 0 (.string nm) rfl).1 d os
    have qn1 := fun d os => cell_regrown (cell_row RX.out 1 (.slice o1 n1 k1) rfl).1 d os
    have qn2 := fun d os => cell_regrown (cell_row RX.out 2 (.slice o2 n2 k2) rfl).1 d os
    have AX1 : Hid (AtL S X has (.slice o1 n1 k1)) := HL.out X bX _ _ A1.out
    have AX2 : Hid (AtL S X needs (.slice o2 n2 k2)) := HL.out X bX _ _ A2.out
    have AX0 : Hid (AtL S X T (.slice o0 n0 k0)) := H0.out X bX
    have SX : Hid (∀ b, S b → b < X.heap.size) := HS.out X bX
    have HZ : Hid (nm.size ≤ maxLen) := z0
    clear z0
    rcases Nat.eq_zero_or_pos q with rfl | hpos
    · cases c0 : nameB nm
      · go_wp2
        refine wp_region_quiet_below (by kernel_rfl) (by kernel_rfl) ?_
        repeat (first | go_big_quiet_step (first | (with_reducible exact nameZ_q _ _ HZ.out _ c0 _ _)) | quiet_step (first | (with_reducible exact nameZ_q _ _ HZ.out _ c0 _ _)))
        refine wpQuiet_nil ?_
        intro _ hw'
        obtain ⟨⟨dq, osq⟩, hw''⟩ := hw'
        subst hw''
        go_wp2
        go_ret
        rw [bok_no (fun h => by
          have hb := (h.row 0 (by simp only; omega)).bat
          simp only at hb
          rw [prev_zero Bs, ef] at hb
          simp [batB, asO, c0] at hb)]
        exact ⟨rfl, bX.trans ((below_regrown _ dq osq).mono bX.size)⟩
      cases c2 : subB T needs
      · go_wp2
        refine wp_region_quiet_below (by kernel_rfl) (by kernel_rfl) ?_
        repeat (first | go_big_quiet_step (first | (with_reducible exact nameZ_q _ _ HZ.out _ c0 _ _) | (with_reducible exact namesZ_q S S _ _ needs T _ AX2.out AX0.out SX.out SX.out _ c2 _ _)) | quiet_step (first | (with_reducible exact nameZ_q _ _ HZ.out _ c0 _ _) | (with_reducible exact namesZ_q S S _ _ needs T _ AX2.out AX0.out SX.out SX.out _ c2 _ _)))
        refine wpQuiet_nil ?_
        intro _ hw'
        obtain ⟨⟨dq, osq⟩, hw''⟩ := hw'
        subst hw''
        go_wp2
        go_ret
        rw [bok_no (fun h => by
          have hb := (h.row 0 (by simp only; omega)).bat
          simp only at hb
          rw [prev_zero Bs, ef] at hb
          simp [batB, asO, c0, c2] at hb)]
        exact ⟨rfl, bX.trans ((below_regrown _ dq osq).mono bX.size)⟩
      cases c3 : subB needs has
      · go_wp2
        refine wp_region_quiet_below (by kernel_rfl) (by kernel_rfl) ?_
        repeat (first | go_big_quiet_step (first | (with_reducible exact nameZ_q _ _ HZ.out _ c0 _ _) | (with_reducible exact namesZ_q S S _ _ needs T _ AX2.out AX0.out SX.out SX.out _ c2 _ _) | (with_reducible exact namesZ_q S S _ _ has needs _ AX1.out AX2.out SX.out SX.out _ c3 _ _)) | quiet_step (first | (with_reducible exact nameZ_q _ _ HZ.out _ c0 _ _) | (with_reducible exact namesZ_q S S _ _ needs T _ AX2.out AX0.out SX.out SX.out _ c2 _ _) | (with_reducible exact namesZ_q S S _ _ has needs _ AX1.out AX2.out SX.out SX.out _ c3 _ _)))
        refine wpQuiet_nil ?_
        intro _ hw'
        obtain ⟨⟨dq, osq⟩, hw''⟩ := hw'
        subst hw''
        go_wp2
        go_ret
        rw [bok_no (fun h => by
          have hb := (h.row 0 (by simp only; omega)).bat
          simp only at hb
          rw [prev_zero Bs, ef] at hb
          simp [batB, asO, c0, c2, c3] at hb)]
        exact ⟨rfl, bX.trans ((below_regrown _ dq osq).mono bX.size)⟩
      have hbat : batB T (prevO Bs 0) (Bs[0]'hqb) = true := by
        rw [prev_zero Bs, ef]
        simp [batB, asO, c0, c2, c3]
      go_wp2
      refine wp_region_quiet_below (by kernel_rfl) (by kernel_rfl) ?_
      repeat (first | go_big_quiet_step (first | (with_reducible exact nameZ_q _ _ HZ.out _ c0 _ _) | (with_reducible exact namesZ_q S S _ _ needs T _ AX2.out AX0.out SX.out SX.out _ c2 _ _) | (with_reducible exact namesZ_q S S _ _ has needs _ AX1.out AX2.out SX.out SX.out _ c3 _ _)) | quiet_step (first | (with_reducible exact nameZ_q _ _ HZ.out _ c0 _ _) | (with_reducible exact namesZ_q S S _ _ needs T _ AX2.out AX0.out SX.out SX.out _ c2 _ _) | (with_reducible exact namesZ_q S S _ _ has needs _ AX1.out AX2.out SX.out SX.out _ c3 _ _)))
      refine wpQuiet_nil ?_
      intro _ hw'
      obtain ⟨⟨dq, osq⟩, hw''⟩ := hw'
      subst hw''
      have BY : Hid (Below X.heap.size X (grow (redrawn X dq) osq)) := below_regrown X dq osq
      obtain ⟨Y, hY⟩ : ∃ Y, Y = grow (redrawn X dq) osq := ⟨_, rfl⟩
      rw [← hY] at BY ⊢
      clear hY qy0 qy1 qn0 qn1 qn2
      have HBAT : Hid _ := hbat
      clear hbat
      obtain ⟨gx, hgx⟩ : ∃ g, g = wr.heap.size := ⟨_, rfl⟩
      rw [← hgx] at RX sX
      go_wp2
      rw [← hgx]
      clear hgx
      go_loopw [5] (fun i wr => ∃ j : Nat, j ≤ 0 ∧ i = .int .i64 j ∧ Hid (∀ k (hk : k < Bs.length), k < j → shareB has Bs[k].2.1 = false) ∧ Hid (Below X.heap.size X wr)) (fun i _ => 0 - (intOf i).toNat)
      case atStart => exact ⟨0, Nat.zero_le _, rfl, fun _ _ h => by omega, BY⟩
      case round =>
        obtain ⟨j, hj, rfl, hno, hbk⟩ := hrel
        have sk := hbk.out.size
        have BWk : Below W.heap.size W wr := BX.out.trans (hbk.out.mono BX.out.size)
        by_cases hjq : j < 0
        case neg =>
          obtain rfl : j = 0 := by omega
          go_wp2
          go_roundw
          case rel =>
            refine ⟨0 + 1, by omega, by go_num, fun i hi hiq => ?_, BWk⟩
            by_cases e : i = 0
            · subst e
              exact ⟨HBAT.out, fun k hk => by have := hno.out k (by omega) hk; simp only; rw [ef]; exact this⟩
            · exact hall.out i hi (by omega)
          case measure => simp [intOf]; omega
        exact absurd hjq (by omega)
    · obtain ⟨m, rfl⟩ : ∃ m, q = m + 1 := ⟨q - 1, by omega⟩
      obtain ⟨g, eg⟩ : ∃ g, (Bs[m]'(by omega)) = g := ⟨_, rfl⟩
      obtain ⟨_, hg0, _, _⟩ := NAM.out m (by omega)
      rw [eg] at hg0
      have qm0 := fun d os => cell_regrown ((bX.cell (p := ⟨bb, off + m * 3, none⟩) hbb).trans hg0) d os
      have gt0 : decide ((0 : Int) < ((m : Int) + 1)) = true := by rw [decide_eq_true_eq]; omega
      cases c0 : nameB nm
      · go_wp2
        refine wp_region_quiet_below (by kernel_rfl) (by kernel_rfl) ?_
        repeat (first | go_big_quiet_step (first | (with_reducible exact nameZ_q _ _ HZ.out _ c0 _ _)) | quiet_step (first | (with_reducible exact nameZ_q _ _ HZ.out _ c0 _ _)))
        refine wpQuiet_nil ?_
        intro _ hw'
        obtain ⟨⟨dq, osq⟩, hw''⟩ := hw'
        subst hw''
        go_wp2
        go_ret
        rw [bok_no (fun h => by
          have hb := (h.row (m + 1) (by simp only; omega)).bat
          simp only at hb
          rw [prev_succ Bs m (by omega), eg, ef] at hb
          simp [batB, asO, c0] at hb)]
        exact ⟨rfl, bX.trans ((below_regrown _ dq osq).mono bX.size)⟩
      cases c1 : ltB g.1 nm
      · have c1' : (Op.bytesLess g.1.toList nm.toList) = false := c1
        go_wp2
        refine wp_region_quiet_below (by kernel_rfl) (by kernel_rfl) ?_
        repeat (first | go_big_quiet_step (first | (with_reducible exact nameZ_q _ _ HZ.out _ c0 _ _)) | quiet_step (first | (with_reducible exact nameZ_q _ _ HZ.out _ c0 _ _)))
        refine wpQuiet_nil ?_
        intro _ hw'
        obtain ⟨⟨dq, osq⟩, hw''⟩ := hw'
        subst hw''
        go_wp2
        go_ret
        rw [bok_no (fun h => by
          have hb := (h.row (m + 1) (by simp only; omega)).bat
          simp only at hb
          rw [prev_succ Bs m (by omega), eg, ef] at hb
          simp [batB, asO, c0, c1] at hb)]
        exact ⟨rfl, bX.trans ((below_regrown _ dq osq).mono bX.size)⟩
      have c1' : (Op.bytesLess g.1.toList nm.toList) = true := c1
      cases c2 : subB T needs
      · go_wp2
        refine wp_region_quiet_below (by kernel_rfl) (by kernel_rfl) ?_
        repeat (first | go_big_quiet_step (first | (with_reducible exact nameZ_q _ _ HZ.out _ c0 _ _) | (with_reducible exact namesZ_q S S _ _ needs T _ AX2.out AX0.out SX.out SX.out _ c2 _ _)) | quiet_step (first | (with_reducible exact nameZ_q _ _ HZ.out _ c0 _ _) | (with_reducible exact namesZ_q S S _ _ needs T _ AX2.out AX0.out SX.out SX.out _ c2 _ _)))
        refine wpQuiet_nil ?_
        intro _ hw'
        obtain ⟨⟨dq, osq⟩, hw''⟩ := hw'
        subst hw''
        go_wp2
        go_ret
        rw [bok_no (fun h => by
          have hb := (h.row (m + 1) (by simp only; omega)).bat
          simp only at hb
          rw [prev_succ Bs m (by omega), eg, ef] at hb
          simp [batB, asO, c0, c1, c2] at hb)]
        exact ⟨rfl, bX.trans ((below_regrown _ dq osq).mono bX.size)⟩
      cases c3 : subB needs has
      · go_wp2
        refine wp_region_quiet_below (by kernel_rfl) (by kernel_rfl) ?_
        repeat (first | go_big_quiet_step (first | (with_reducible exact nameZ_q _ _ HZ.out _ c0 _ _) | (with_reducible exact namesZ_q S S _ _ needs T _ AX2.out AX0.out SX.out SX.out _ c2 _ _) | (with_reducible exact namesZ_q S S _ _ has needs _ AX1.out AX2.out SX.out SX.out _ c3 _ _)) | quiet_step (first | (with_reducible exact nameZ_q _ _ HZ.out _ c0 _ _) | (with_reducible exact namesZ_q S S _ _ needs T _ AX2.out AX0.out SX.out SX.out _ c2 _ _) | (with_reducible exact namesZ_q S S _ _ has needs _ AX1.out AX2.out SX.out SX.out _ c3 _ _)))
        refine wpQuiet_nil ?_
        intro _ hw'
        obtain ⟨⟨dq, osq⟩, hw''⟩ := hw'
        subst hw''
        go_wp2
        go_ret
        rw [bok_no (fun h => by
          have hb := (h.row (m + 1) (by simp only; omega)).bat
          simp only at hb
          rw [prev_succ Bs m (by omega), eg, ef] at hb
          simp [batB, asO, c0, c1, c2, c3] at hb)]
        exact ⟨rfl, bX.trans ((below_regrown _ dq osq).mono bX.size)⟩
      have hbat : batB T (prevO Bs (m + 1)) (Bs[m + 1]'hqb) = true := by
        rw [prev_succ Bs m (by omega), eg, ef]
        simp [batB, asO, c0, c1, c2, c3]
      go_wp2
      refine wp_region_quiet_below (by kernel_rfl) (by kernel_rfl) ?_
      repeat (first | go_big_quiet_step (first | (with_reducible exact nameZ_q _ _ HZ.out _ c0 _ _) | (with_reducible exact namesZ_q S S _ _ needs T _ AX2.out AX0.out SX.out SX.out _ c2 _ _) | (with_reducible exact namesZ_q S S _ _ has needs _ AX1.out AX2.out SX.out SX.out _ c3 _ _)) | quiet_step (first | (with_reducible exact nameZ_q _ _ HZ.out _ c0 _ _) | (with_reducible exact namesZ_q S S _ _ needs T _ AX2.out AX0.out SX.out SX.out _ c2 _ _) | (with_reducible exact namesZ_q S S _ _ has needs _ AX1.out AX2.out SX.out SX.out _ c3 _ _)))
      refine wpQuiet_nil ?_
      intro _ hw'
      obtain ⟨⟨dq, osq⟩, hw''⟩ := hw'
      subst hw''
      have BY : Hid (Below X.heap.size X (grow (redrawn X dq) osq)) := below_regrown X dq osq
      obtain ⟨Y, hY⟩ : ∃ Y, Y = grow (redrawn X dq) osq := ⟨_, rfl⟩
      rw [← hY] at BY ⊢
      clear hY qy0 qy1 qn0 qn1 qn2
      have HBAT : Hid _ := hbat
      clear hbat
      obtain ⟨gx, hgx⟩ : ∃ g, g = wr.heap.size := ⟨_, rfl⟩
      rw [← hgx] at RX sX
      go_wp2
      rw [← hgx]
      clear hgx
      go_loopw [5] (fun i wr => ∃ j : Nat, j ≤ m + 1 ∧ i = .int .i64 j ∧ Hid (∀ k (hk : k < Bs.length), k < j → shareB has Bs[k].2.1 = false) ∧ Hid (Below X.heap.size X wr)) (fun i _ => m + 1 - (intOf i).toNat)
      case atStart => exact ⟨0, Nat.zero_le _, rfl, fun _ _ h => by omega, BY⟩
      case round =>
        obtain ⟨j, hj, rfl, hno, hbk⟩ := hrel
        have sk := hbk.out.size
        have BWk : Below W.heap.size W wr := BX.out.trans (hbk.out.mono BX.out.size)
        by_cases hjq : j < m + 1
        case neg =>
          obtain rfl : j = m + 1 := by omega
          go_wp2
          go_roundw
          case rel =>
            refine ⟨m + 1 + 1, by omega, by go_num, fun i hi hiq => ?_, BWk⟩
            by_cases e : i = m + 1
            · subst e
              exact ⟨HBAT.out, fun k hk => by have := hno.out k (by omega) hk; simp only; rw [ef]; exact this⟩
            · exact hall.out i hi (by omega)
          case measure => simp [intOf]; omega
        obtain ⟨hv, _, h2, h3⟩ := NAM.out j (by omega)
        obtain ⟨o3, k3, t3, _⟩ := id h3
        rw [t3] at h2 h3
        obtain ⟨hasj, ehj⟩ : ∃ l, (Bs[j]'(by omega)).2.1 = l := ⟨_, rfl⟩
        rw [ehj] at h2 h3
        obtain ⟨n3, en3⟩ : ∃ n, hasj.length = n := ⟨_, rfl⟩
        rw [en3] at h2 h3
        clear en3 t3
        have bk := (BOX.out wr BWk).2
        have g1 := ((bk.cell (p := ⟨bb, off + j * 3 + 1, none⟩) hbb)).trans h2
        have qg1 := fun d os => cell_regrown g1 d os
        have qy1 := fun d os => cell_regrown (cell_row (BOX.out wr BWk).1 1 (.slice (some ⟨bb, off, none⟩) nb kb) rfl).1 d os
        have qn1 := fun d os => cell_regrown (cell_row ((hbk.out.block _ (by omega)).trans RX.out) 1 (.slice o1 n1 k1) rfl).1 d os
        have K1 : Hid (AtL S wr has (.slice o1 n1 k1)) := HL.out wr bk _ _ A1.out
        have K3 : Hid (AtL S wr hasj (.slice o3 n3 k3)) := HL.out wr bk _ _ h3
        have KS : Hid (∀ b, S b → b < wr.heap.size) := HS.out wr bk
        cases cs : shareB has hasj
        · go_wp2
          refine wp_region_quiet_below (by kernel_rfl) (by kernel_rfl) ?_
          repeat (first | go_big_quiet_step (with_reducible exact shareZ_q S _ _ has hasj _ K1.out K3.out KS.out _ cs _ _) | quiet_step (with_reducible exact shareZ_q S _ _ has hasj _ K1.out K3.out KS.out _ cs _ _))
          refine wpQuiet_nil ?_
          intro _ hw'
          obtain ⟨⟨dq, osq⟩, hw''⟩ := hw'
          subst hw''
          go_wp2
          go_roundw
          case rel => exact ⟨j + 1, by omega, by go_num, fun k hk hkj => by
            by_cases e : k = j
            · subst e; rw [ehj]; exact cs
            · exact hno.out k hk (by omega), hbk.out.trans ((below_regrown _ dq osq).mono sk)⟩
          case measure => simp [intOf]; omega
        · go_wp2
          refine wp_region_quiet_below (by kernel_rfl) (by kernel_rfl) ?_
          repeat (first | go_big_quiet_step (with_reducible exact shareZ_q S _ _ has hasj _ K1.out K3.out KS.out _ cs _ _) | quiet_step (with_reducible exact shareZ_q S _ _ has hasj _ K1.out K3.out KS.out _ cs _ _))
          refine wpQuiet_nil ?_
          intro _ hw'
          obtain ⟨⟨dq, osq⟩, hw''⟩ := hw'
          subst hw''
          go_wp2
          go_ret
          rw [bok_no (fun h => by
            have hb := (h.row (m + 1) (by simp only; omega)).sha j hjq
            simp only at hb
            rw [ef, ehj] at hb
            simp only at hb
            rw [cs] at hb; cases hb)]
          exact ⟨rfl, bk.trans ((below_regrown _ dq osq).mono bk.size)⟩
end Go.Proofs.YtaejlcanccfmmaaGreatDoor
