/-
  The program's StuffMeets answers as the model's.
-/
import Derived.Test.YtejlcokhdgebiabGreatIk
import Derived.Test.YtejlcokhdgebiabGreatMu
import Derived.Test.YtejlcokhdgebiabGreatHc
import Derived.Test.YtejlcokhdgebiabGreatHg
namespace Go.Proofs.YtejlcokhdgebiabGreat
open Go.RowKit

theorem book_P {a : DStuffBook} (h : bookB a = true) : BookP a := by
  unfold bookB at h
  exact @of_decide_eq_true _ (Classical.propDecidable _) h
/-- All that may be in a vessel of a book that is ok is known. -/
theorem may_known {a : DStuffBook} (h : bookB a = true) (i : Nat) (hi : i < a.2.2.1.length) : ∀ m ∈ a.2.2.1[i].2.2.2, 0 ≤ lotI a.2.1 m := fun m hm => by
  have hP := book_P h
  have h1 := (ok_iff.1 hP.2.2.1).2 i hi
  rw [ves_and, Bool.and_eq_true] at h1
  have hH : HoldsP a.1 a.2.1 a.2.2.1[i].2.2.1 a.2.2.1[i].2.2.2 a.2.2.1[i].2.1 := by
    have := h1.2
    unfold holdsB at this
    exact @of_decide_eq_true _ (Classical.propDecidable _) this
  obtain ⟨j, hj, rfl⟩ := List.getElem_of_mem hm
  have h2 := (hH.2.2 j hj).1
  rw [← may_same hP.2.1] at h2
  unfold mayP tst at h2
  rw [Bool.and_eq_true, decide_eq_true_iff] at h2
  exact h2.1
theorem clash_same {foes : List DStuffFoe} {lots : List DStuffLot} {x y : List ByteArray} (hx : ∀ m ∈ x, 0 ≤ lotI lots m) (hy : ∀ m ∈ y, 0 ≤ lotI lots m) : meetL foes lots x y = clashesB foes lots x y := by
  rw [Bool.eq_iff_iff]
  unfold meetL clashesB clashB
  simp only [List.any_eq_true]
  constructor
  · rintro ⟨s, hs, t, ht, h⟩
    obtain ⟨i, hi, _, _, rfl⟩ := (stuffsK_mem lots x _ _ (Nat.le_refl _)).1 hs
    obtain ⟨j, hj, _, _, rfl⟩ := (stuffsK_mem lots y _ _ (Nat.le_refl _)).1 ht
    exact ⟨x[i], List.getElem_mem hi, y[j], List.getElem_mem hj, h⟩
  · rintro ⟨m, hm, m', hm', h⟩
    have k1 := hx m hm
    have k2 := hy m' hm'
    obtain ⟨i, hi, rfl⟩ := List.getElem_of_mem hm
    obtain ⟨j, hj, rfl⟩ := List.getElem_of_mem hm'
    exact ⟨_, (stuffsK_mem lots x _ _ (Nat.le_refl _)).2 ⟨i, hi, hi, k1, rfl⟩, _, (stuffsK_mem lots y _ _ (Nat.le_refl _)).2 ⟨j, hj, hj, k2, rfl⟩, h⟩

open Go.Sort in
theorem vesselAt_q (S : Nat → Prop) (v0 v1 v2 v3 : Value) (l : List DStuffVessel) (x : ByteArray) (wr : World) (h : AtL S wr l v2) (hS : ∀ b, S b → b < wr.heap.size) (r : Int) (hr : idxI l (fun p : DStuffVessel => eqB p.1 x) = r) (d : Nat) (os : Array Obj) : Calls Tryz.prog 21 #[.agg #[v0, v1, v2, v3], .string x] (grow (redrawn wr d) os) fun e w'' => e = .returned (.int .i64 r) ∧ ∃ p : Regrown, w'' = grow (redrawn wr p.d) p.os :=
  Calls.regrown_of (by subst hr; exact vesselAtI_any S v0 v1 v2 v3 l x _ (h.same (Same.of_below (below_regrown wr d os) hS)) (fun b hb => Nat.lt_of_lt_of_le (hS b hb) (below_regrown wr d os).size))

theorem idx_two {α : Type} (l : List α) (p : α → Bool) : idxI l p = -1 ∨ ∃ i : Nat, i < l.length ∧ idxI l p = i := by
  by_cases h : 0 ≤ idxI l p
  · exact Or.inr (idx_nat h)
  · exact Or.inl (idx_neg h).1

open Go.Sort in
set_option maxRecDepth 100000 in
set_option maxHeartbeats 8000000 in
theorem meetsI_v (S : Nat → Prop) (a : DStuffBook) (v0 v1 v2 v3 : Value) (x y : ByteArray) (w : World) (h0 : AtL S w a.1 v0) (h1 : AtL S w a.2.1 v1) (h2 : AtL S w a.2.2.1 v2) (h3 : AtL S w a.2.2.2 v3) (hS : ∀ b, S b → b < w.heap.size) :
    Calls Tryz.prog 7 #[.agg #[v0, v1, v2, v3], .string x, .string y] w fun e w' => e = .returned (.bool (meetsB a x y)) ∧ Below w.heap.size w w' := by
  have H0 : Hid (AtL S w a.1 v0) := h0
  have H1 : Hid (AtL S w a.2.1 v1) := h1
  have H2 : Hid (AtL S w a.2.2.1 v2) := h2
  have H3 : Hid (AtL S w a.2.2.2 v3) := h3
  obtain ⟨ov, cv, hv2, hnv, hcv⟩ := h2
  rw [hv2] at H2
  subst hv2
  obtain ⟨nv, env⟩ : ∃ n, a.2.2.1.length = n := ⟨_, rfl⟩
  rw [env] at hnv H2
  rw [env]
  unfold maxLen at hnv
  have HV : Hid _ := hcv
  clear hcv h0 h1 h3
  have hbel0 : Hid (Below (w.heap.size + 1) (w.alloc (.cells #[v0, v1, .slice ov nv cv, v3] 35)) (w.alloc (.cells #[v0, v1, .slice ov nv cv, v3] 35))) := Below.refl _ _
  have hS0 : ∀ b, S b → b < (w.alloc (.cells #[v0, v1, .slice ov nv cv, v3] 35)).heap.size := fun b hb => by have := hS b hb; simp; omega
  have sm0 := Same.of_below (below_end hbel0.out) hS
  have K0 : Hid (AtL S (w.alloc (.cells #[v0, v1, .slice ov nv cv, v3] 35)) a.1 v0) := H0.out.same sm0
  have K1 : Hid (AtL S (w.alloc (.cells #[v0, v1, .slice ov nv cv, v3] 35)) a.2.1 v1) := H1.out.same sm0
  have K2 : Hid (AtL S (w.alloc (.cells #[v0, v1, .slice ov nv cv, v3] 35)) a.2.2.1 (.slice ov nv cv)) := H2.out.same sm0
  have K3 : Hid (AtL S (w.alloc (.cells #[v0, v1, .slice ov nv cv, v3] 35)) a.2.2.2 v3) := H3.out.same sm0
  clear sm0
  cases hbk : bookB a
  · have hres : meetsB a x y = false := by unfold meetsB; rw [hbk]; rfl
    go_enter Tryz.func7, Tryz.ntmps7
    go_wp2_with fail
    refine (bookI_v S a _ _ _ _ _ K0.out K1.out K2.out K3.out hS0).mono ?_
    rintro e w1 ⟨rfl, hb1⟩
    rw [hbk]
    have hbel1 : Hid (Below (w.heap.size + 1) (w.alloc (.cells #[v0, v1, .slice ov nv cv, v3] 35)) w1) := by simpa [Hid] using hb1
    have hsz1 : w.heap.size + 1 ≤ w1.heap.size := by have := hbel1.out.size; simpa using this
    go_wp2_with fail
    rw [hres]
    go_ret
    exact ⟨rfl, below_end hbel1.out⟩
  · rcases idx_two a.2.2.1 (fun p : DStuffVessel => eqB p.1 x) with ei | ⟨i, hi, ei⟩
    · have hres : meetsB a x y = false := by unfold meetsB vesI; rw [hbk, ei]; rfl
      obtain ⟨j, ej⟩ : ∃ j, idxI a.2.2.1 (fun p : DStuffVessel => eqB p.1 y) = j := ⟨_, rfl⟩
      go_enter Tryz.func7, Tryz.ntmps7
      go_wp2_with fail
      refine (bookI_v S a _ _ _ _ _ K0.out K1.out K2.out K3.out hS0).mono ?_
      rintro e w1 ⟨rfl, hb1⟩
      rw [hbk]
      have hbel1 : Hid (Below (w.heap.size + 1) (w.alloc (.cells #[v0, v1, .slice ov nv cv, v3] 35)) w1) := by simpa [Hid] using hb1
      have hsz1 : w.heap.size + 1 ≤ w1.heap.size := by have := hbel1.out.size; simpa using this
      have y0 := box_at _ _ hbel1.out 0 (v0) rfl
      have y1 := box_at _ _ hbel1.out 1 (v1) rfl
      have y2 := box_at _ _ hbel1.out 2 (.slice ov nv cv) rfl
      have y3 := box_at _ _ hbel1.out 3 (v3) rfl
      have qy0 := fun d os => cell_regrown y0 d os
      have qy1 := fun d os => cell_regrown y1 d os
      have qy2 := fun d os => cell_regrown y2 d os
      have qy3 := fun d os => cell_regrown y3 d os
      have hS1 : ∀ b, S b → b < w1.heap.size := fun b hb => by have := hS b hb; omega
      have V1 : Hid (AtL S w1 a.2.2.1 (.slice ov nv cv)) := H2.out.same (Same.of_below (below_end hbel1.out) hS)
      go_wp2_with fail
      refine wp_region_quiet_below (by kernel_rfl) (by kernel_rfl) ?_
      repeat (first | go_big_quiet_step (first | (with_reducible exact vesselAt_q S _ _ _ _ a.2.2.1 x _ V1.out hS1 _ ei _ _) | (with_reducible exact vesselAt_q S _ _ _ _ a.2.2.1 y _ V1.out hS1 _ ej _ _)) | quiet_step (first | (with_reducible exact vesselAt_q S _ _ _ _ a.2.2.1 x _ V1.out hS1 _ ei _ _) | (with_reducible exact vesselAt_q S _ _ _ _ a.2.2.1 y _ V1.out hS1 _ ej _ _)))
      refine wpQuiet_nil ?_
      intro _ hw'
      obtain ⟨⟨dq, osq⟩, hw''⟩ := hw'
      subst hw''
      have hbel2 : Hid (Below (w.heap.size + 1) (w.alloc (.cells #[v0, v1, .slice ov nv cv, v3] 35)) (grow (redrawn w1 dq) osq)) := below_of hbel1.out (below_regrown w1 dq osq)
      have z0 := box_at _ _ hbel2.out 0 (v0) rfl
      have z1 := box_at _ _ hbel2.out 1 (v1) rfl
      have z2 := box_at _ _ hbel2.out 2 (.slice ov nv cv) rfl
      have z3 := box_at _ _ hbel2.out 3 (v3) rfl
      clear qy0 qy1 qy2 qy3 y0 y1 y2 y3
      generalize grow (redrawn w1 dq) osq = u at hbel2 z0 z1 z2 z3 ⊢
      have qz0 := fun d os => cell_regrown z0 d os
      have qz1 := fun d os => cell_regrown z1 d os
      have qz2 := fun d os => cell_regrown z2 d os
      have qz3 := fun d os => cell_regrown z3 d os
      go_wp2_with fail
      refine wp_region_quiet_below (by kernel_rfl) (by kernel_rfl) ?_
      repeat (first | go_big_quiet_step (fail) | quiet_step (fail))
      refine wpQuiet_nil ?_
      intro _ hw'
      obtain ⟨⟨dr, osr⟩, hw3⟩ := hw'
      subst hw3
      go_wp2_with fail
      rw [hres]
      go_ret
      exact ⟨rfl, (below_end hbel2.out).trans ((below_regrown _ dr osr).mono (below_end hbel2.out).size)⟩
    · rcases idx_two a.2.2.1 (fun p : DStuffVessel => eqB p.1 y) with ej | ⟨j, hj, ej⟩
      · have hres : meetsB a x y = false := by unfold meetsB vesI; rw [hbk, ei, ej]; simp
        have hdi : decide (0 ≤ (i : Int)) = true := by simp
        go_enter Tryz.func7, Tryz.ntmps7
        go_wp2_with fail
        refine (bookI_v S a _ _ _ _ _ K0.out K1.out K2.out K3.out hS0).mono ?_
        rintro e w1 ⟨rfl, hb1⟩
        rw [hbk]
        have hbel1 : Hid (Below (w.heap.size + 1) (w.alloc (.cells #[v0, v1, .slice ov nv cv, v3] 35)) w1) := by simpa [Hid] using hb1
        have hsz1 : w.heap.size + 1 ≤ w1.heap.size := by have := hbel1.out.size; simpa using this
        have y0 := box_at _ _ hbel1.out 0 (v0) rfl
        have y1 := box_at _ _ hbel1.out 1 (v1) rfl
        have y2 := box_at _ _ hbel1.out 2 (.slice ov nv cv) rfl
        have y3 := box_at _ _ hbel1.out 3 (v3) rfl
        have qy0 := fun d os => cell_regrown y0 d os
        have qy1 := fun d os => cell_regrown y1 d os
        have qy2 := fun d os => cell_regrown y2 d os
        have qy3 := fun d os => cell_regrown y3 d os
        have hS1 : ∀ b, S b → b < w1.heap.size := fun b hb => by have := hS b hb; omega
        have V1 : Hid (AtL S w1 a.2.2.1 (.slice ov nv cv)) := H2.out.same (Same.of_below (below_end hbel1.out) hS)
        go_wp2_with fail
        refine wp_region_quiet_below (by kernel_rfl) (by kernel_rfl) ?_
        repeat (first | go_big_quiet_step (first | (with_reducible exact vesselAt_q S _ _ _ _ a.2.2.1 x _ V1.out hS1 _ ei _ _) | (with_reducible exact vesselAt_q S _ _ _ _ a.2.2.1 y _ V1.out hS1 _ ej _ _)) | quiet_step (first | (with_reducible exact vesselAt_q S _ _ _ _ a.2.2.1 x _ V1.out hS1 _ ei _ _) | (with_reducible exact vesselAt_q S _ _ _ _ a.2.2.1 y _ V1.out hS1 _ ej _ _)))
        refine wpQuiet_nil ?_
        intro _ hw'
        obtain ⟨⟨dq, osq⟩, hw''⟩ := hw'
        subst hw''
        have hbel2 : Hid (Below (w.heap.size + 1) (w.alloc (.cells #[v0, v1, .slice ov nv cv, v3] 35)) (grow (redrawn w1 dq) osq)) := below_of hbel1.out (below_regrown w1 dq osq)
        have z0 := box_at _ _ hbel2.out 0 (v0) rfl
        have z1 := box_at _ _ hbel2.out 1 (v1) rfl
        have z2 := box_at _ _ hbel2.out 2 (.slice ov nv cv) rfl
        have z3 := box_at _ _ hbel2.out 3 (v3) rfl
        clear qy0 qy1 qy2 qy3 y0 y1 y2 y3
        generalize grow (redrawn w1 dq) osq = u at hbel2 z0 z1 z2 z3 ⊢
        have qz0 := fun d os => cell_regrown z0 d os
        have qz1 := fun d os => cell_regrown z1 d os
        have qz2 := fun d os => cell_regrown z2 d os
        have qz3 := fun d os => cell_regrown z3 d os
        go_wp2_with fail
        refine wp_region_quiet_below (by kernel_rfl) (by kernel_rfl) ?_
        repeat (first | go_big_quiet_step (fail) | quiet_step (fail))
        refine wpQuiet_nil ?_
        intro _ hw'
        obtain ⟨⟨dr, osr⟩, hw3⟩ := hw'
        subst hw3
        go_wp2_with fail
        rw [hres]
        go_ret
        exact ⟨rfl, (below_end hbel2.out).trans ((below_regrown _ dr osr).mono (below_end hbel2.out).size)⟩
      · have hres : meetsB a x y = meetL a.1 a.2.1 a.2.2.1[i].2.2.2 a.2.2.1[j].2.2.2 := by
          unfold meetsB vesI
          rw [hbk, ei, ej, may_at a i hi, may_at a j hj, clash_same (may_known hbk i hi) (may_known hbk j hj)]
          simp
        have hlen : ∀ i (hi : i < a.2.2.1.length), a.2.2.1[i].2.2.2.length ≤ 1048576 := fun i hi => by
          have hP := book_P hbk
          have h1 := (ok_iff.1 hP.2.2.1).2 i hi
          rw [ves_and, Bool.and_eq_true] at h1
          have h2 := h1.2
          rw [← hold_same hP.1 hP.2.1, Bool.and_eq_true] at h2
          have := may_len h2.1
          have := (ok_iff.1 hP.2.1).1
          omega
        have hml := hlen i hi
        have hmj := hlen j hj
        have hf : a.1.length ≤ 1048576 := by have := (ok_iff.1 (book_P hbk).1).1; omega
        clear hlen
        have hdi : decide (0 ≤ (i : Int)) = true := by simp
        have hdj : decide (0 ≤ (j : Int)) = true := by simp
        obtain ⟨bp, fp, eov, hbS, ci, hci, hai⟩ := HV.out i hi
        obtain ⟨bp', fp', eov', hbS', cj, hcj, haj⟩ := HV.out j hj
        subst eov
        cases eov'
        have hbp := hS bp hbS
        rw [width_DStuffVessel] at hci hcj
        rw [at_DStuffVessel] at hai haj
        have gi := hci 3 (by omega)
        have gj := hcj 3 (by omega)
        have Ai : Hid (AtL S w a.2.2.1[i].2.2.2 (ci 3)) := hai.2.2.2
        have Aj : Hid (AtL S w a.2.2.1[j].2.2.2 (cj 3)) := haj.2.2.2
        clear hci hcj hai haj
        obtain ⟨mi, emi⟩ : ∃ v, ci 3 = v := ⟨_, rfl⟩
        obtain ⟨mj, emj⟩ : ∃ v, cj 3 = v := ⟨_, rfl⟩
        rw [emi] at gi Ai
        rw [emj] at gj Aj
        clear emi emj
        have hi' : i < nv := by omega
        have hj' : j < nv := by omega
        go_enter Tryz.func7, Tryz.ntmps7
        go_wp2_with fail
        refine (bookI_v S a _ _ _ _ _ K0.out K1.out K2.out K3.out hS0).mono ?_
        rintro e w1 ⟨rfl, hb1⟩
        rw [hbk]
        have hbel1 : Hid (Below (w.heap.size + 1) (w.alloc (.cells #[v0, v1, .slice (some ⟨bp, fp, none⟩) nv cv, v3] 35)) w1) := by simpa [Hid] using hb1
        have hsz1 : w.heap.size + 1 ≤ w1.heap.size := by have := hbel1.out.size; simpa using this
        have y0 := box_at _ _ hbel1.out 0 (v0) rfl
        have y1 := box_at _ _ hbel1.out 1 (v1) rfl
        have y2 := box_at _ _ hbel1.out 2 (.slice (some ⟨bp, fp, none⟩) nv cv) rfl
        have y3 := box_at _ _ hbel1.out 3 (v3) rfl
        have qy0 := fun d os => cell_regrown y0 d os
        have qy1 := fun d os => cell_regrown y1 d os
        have qy2 := fun d os => cell_regrown y2 d os
        have qy3 := fun d os => cell_regrown y3 d os
        have hS1 : ∀ b, S b → b < w1.heap.size := fun b hb => by have := hS b hb; omega
        have V1 : Hid (AtL S w1 a.2.2.1 (.slice (some ⟨bp, fp, none⟩) nv cv)) := H2.out.same (Same.of_below (below_end hbel1.out) hS)
        go_wp2_with fail
        refine wp_region_quiet_below (by kernel_rfl) (by kernel_rfl) ?_
        repeat (first | go_big_quiet_step (first | (with_reducible exact vesselAt_q S _ _ _ _ a.2.2.1 x _ V1.out hS1 _ ei _ _) | (with_reducible exact vesselAt_q S _ _ _ _ a.2.2.1 y _ V1.out hS1 _ ej _ _)) | quiet_step (first | (with_reducible exact vesselAt_q S _ _ _ _ a.2.2.1 x _ V1.out hS1 _ ei _ _) | (with_reducible exact vesselAt_q S _ _ _ _ a.2.2.1 y _ V1.out hS1 _ ej _ _)))
        refine wpQuiet_nil ?_
        intro _ hw'
        obtain ⟨⟨dq, osq⟩, hw''⟩ := hw'
        subst hw''
        have hbel2 : Hid (Below (w.heap.size + 1) (w.alloc (.cells #[v0, v1, .slice (some ⟨bp, fp, none⟩) nv cv, v3] 35)) (grow (redrawn w1 dq) osq)) := below_of hbel1.out (below_regrown w1 dq osq)
        have z0 := box_at _ _ hbel2.out 0 (v0) rfl
        have z1 := box_at _ _ hbel2.out 1 (v1) rfl
        have z2 := box_at _ _ hbel2.out 2 (.slice (some ⟨bp, fp, none⟩) nv cv) rfl
        have z3 := box_at _ _ hbel2.out 3 (v3) rfl
        clear qy0 qy1 qy2 qy3 y0 y1 y2 y3
        generalize grow (redrawn w1 dq) osq = u at hbel2 z0 z1 z2 z3 ⊢
        have hbu := below_end hbel2.out
        have hsu := hbu.size
        have ui : u.cell? ⟨bp, fp + i * 4 + 3, none⟩ = some mi := (hbu.cell (p := ⟨bp, fp + i * 4 + 3, none⟩) (by show bp < _; omega)).trans gi
        have uj : u.cell? ⟨bp, fp + j * 4 + 3, none⟩ = some mj := (hbu.cell (p := ⟨bp, fp + j * 4 + 3, none⟩) (by show bp < _; omega)).trans gj
        have qz0 := fun d os => cell_regrown z0 d os
        have qz1 := fun d os => cell_regrown z1 d os
        have qz2 := fun d os => cell_regrown z2 d os
        have qz3 := fun d os => cell_regrown z3 d os
        have qui := fun d os => cell_regrown ui d os
        have quj := fun d os => cell_regrown uj d os
        have hdr : Hid (Below u.heap.size u u.drew) := (Below.refl _ _).drew
        have hdw : Hid (Below w.heap.size w u.drew) := hbu.trans (hdr.out.mono (by omega))
        have hSu : ∀ b, S b → b < u.drew.heap.size := fun b hb => by have := hS b hb; have := hdw.out.size; omega
        clear ei ej hbu
        go_wp2_with fail
        refine wp_region_guarded 22 [0, 1, 2, 3, 4, 5, 6, 7, 8, 9, 10, 11, 12, 13, 14, 15, 16, 17, 18, 19, 20] (by kernel_rfl) (by kernel_rfl) ?_
        simp only [List.filterMap_cons, List.filterMap_nil, List.getElem?_cons_succ, List.getElem?_cons_zero]
        repeat (first | go_big_quiet_step (fail) | quiet_step (fail))
        refine wpQuiet_nil ?_
        refine callG (md := .any) (f := 0) (i := 21) (dc := 39) (fn := 23) ⟨rfl, rfl, by decide⟩ (by kernel_rfl) ?want ?run ((bothWays_any S v0 v1 (.slice (some ⟨bp, fp, none⟩) nv cv) v3 a.1 u.drew (H0.out.same (Same.of_below hdw.out hS)) hSu hf).mono ?_)
        case want => rfl
        case run => go_simp
        rintro e w4 ⟨mb, rfl, hmp, hb4⟩
        have HB4 : Hid (Below u.heap.size u w4) := hdr.out.trans hb4
        have HW4 : Hid (Below w.heap.size w w4) := (below_end hbel2.out).trans (HB4.out.mono hsu)
        have HM4 : Hid (Mp w4 mb (cntF (nthF a.1) a.1.length)) := hmp
        have hS4 : ∀ b, S b → b < w4.heap.size := fun b hb => by have := hS b hb; have := HW4.out.size; omega
        clear hb4 hmp qz0 qz1 qz2 qz3 qui quj z0 z1 z2 z3 ui uj
        refine ⟨_, rfl, regrown_of_below HB4.out, ?_⟩
        refine ⟨by kernel_rfl, ?_⟩
        simp only [List.drop_succ_cons, List.drop_zero, Act.put, List.setIfInBounds_toArray, List.set_cons_zero, List.set_cons_succ]
        have sm4 := Same.of_below HW4.out hS
        go_wp2_with fail
        refine (lotsMeet_any S _ _ _ _ a.1 a.2.1 a.2.2.1[i].2.2.2 a.2.2.1[j].2.2.2 mi mj mb _ (H1.out.same sm4) (Ai.out.same sm4) (Aj.out.same sm4) hS4 hml hmj HM4.out).mono ?_
        rintro e w5 ⟨rfl, hb5⟩
        go_wp2_with fail
        rw [hres]
        go_ret
        exact ⟨rfl, HW4.out.trans (hb5.mono HW4.out.size)⟩

end Go.Proofs.YtejlcokhdgebiabGreat
