/-
  The model's test of a whole book.
-/
import Derived.Test.YthleodbbppgadaaGreatMs
namespace Go.Proofs.YthleodbbppgadaaGreat
open Go.RowKit

open Go.Sort in
theorem foesokS_q (S : Nat → Prop) (v0 v1 v2 v3 : Value) (l : List DStuffFoe) (wr : World) (h : AtL S wr l v0) (hS : ∀ b, S b → b < wr.heap.size) (r : Bool) (hr : okB 12 foeT l = r) (d : Nat) (os : Array Obj) : Calls Tryz.prog 44 #[.agg #[v0, v1, v2, v3]] (grow (redrawn wr d) os) fun e w'' => e = .returned (.bool r) ∧ ∃ p : Regrown, w'' = grow (redrawn wr p.d) p.os :=
  Calls.regrown_of (by subst hr; exact foesokS_any S v0 v1 v2 v3 l _ (h.same (Same.of_below (below_regrown wr d os) hS)) (fun b hb => Nat.lt_of_lt_of_le (hS b hb) (below_regrown wr d os).size))
open Go.Sort in
theorem lotsS_q (S : Nat → Prop) (v0 v1 v2 v3 : Value) (l : List DStuffLot) (wr : World) (h : AtL S wr l v1) (hS : ∀ b, S b → b < wr.heap.size) (r : Bool) (hr : okB 16 lotT l = r) (d : Nat) (os : Array Obj) : Calls Tryz.prog 45 #[.agg #[v0, v1, v2, v3]] (grow (redrawn wr d) os) fun e w'' => e = .returned (.bool r) ∧ ∃ p : Regrown, w'' = grow (redrawn wr p.d) p.os :=
  Calls.regrown_of (by subst hr; exact lotsS_any S v0 v1 v2 v3 l _ (h.same (Same.of_below (below_regrown wr d os) hS)) (fun b hb => Nat.lt_of_lt_of_le (hS b hb) (below_regrown wr d os).size))
open Go.Sort in
theorem vesselS_q (S : Nat → Prop) (v0 v1 v2 v3 : Value) (l : List DStuffVessel) (x : ByteArray) (wr : World) (h : AtL S wr l v2) (hS : ∀ b, S b → b < wr.heap.size) (d : Nat) (os : Array Obj) : Calls Tryz.prog 49 #[.agg #[v0, v1, v2, v3], .string x] (grow (redrawn wr d) os) fun e w'' => e = .returned (.int .i64 (idxI l (fun p : DStuffVessel => eqB p.1 x))) ∧ ∃ p : Regrown, w'' = grow (redrawn wr p.d) p.os :=
  Calls.regrown_of (vesselS_any S v0 v1 v2 v3 l x _ (h.same (Same.of_below (below_regrown wr d os) hS)) (fun b hb => Nat.lt_of_lt_of_le (hS b hb) (below_regrown wr d os).size))
open Go.Sort in
theorem holdsS_q (S : Nat → Prop) (v0 v1 v2 v3 : Value) (foes : List DStuffFoe) (lots : List DStuffLot) (parts : List DStuffPart) (may : List ByteArray) (vp vm : Value) (most : Int) (wr : World) (h0 : AtL S wr foes v0) (h1 : AtL S wr lots v1) (h2 : AtL S wr parts vp) (h3 : AtL S wr may vm) (hS : ∀ b, S b → b < wr.heap.size) (m0 : 0 ≤ most) (m1 : most ≤ 1000) (r : Bool) (hr : holdsB foes lots parts may most = r) (d : Nat) (os : Array Obj) : Calls Tryz.prog 48 #[.agg #[v0, v1, v2, v3], vp, vm, .int .i64 most] (grow (redrawn wr d) os) fun e w'' => e = .returned (.bool r) ∧ ∃ p : Regrown, w'' = grow (redrawn wr p.d) p.os :=
  have sm : Same S wr (grow (redrawn wr d) os) := Same.of_below (below_regrown wr d os) hS
  Calls.regrown_of (by subst hr; exact holdsS_any S v0 v1 v2 v3 foes lots parts may vp vm most _ (h0.same sm) (h1.same sm) (h2.same sm) (h3.same sm) (fun b hb => Nat.lt_of_lt_of_le (hS b hb) (below_regrown wr d os).size) m0 m1)

/-- One vessel, one out that is as it is to be, behind the one ahead of it. -/
noncomputable def vesT (foes : List DStuffFoe) (lots : List DStuffLot) : Option DStuffVessel → DStuffVessel → Bool
  | none, f => nameB f.1 && inB f.2.1 1 1000 && holdsB foes lots f.2.2.1 f.2.2.2 f.2.1
  | some p, f => nameB f.1 && ltB p.1 f.1 && inB f.2.1 1 1000 && holdsB foes lots f.2.2.1 f.2.2.2 f.2.1
noncomputable def outT (foes : List DStuffFoe) (lots : List DStuffLot) (ves : List DStuffVessel) : Option DStuffOut → DStuffOut → Bool
  | none, f => nameB f.1 && !decide (0 ≤ idxI ves (fun p : DStuffVessel => eqB p.1 f.1)) && holdsB foes lots f.2.1 f.2.2 1000
  | some p, f => nameB f.1 && ltB p.1 f.1 && !decide (0 ≤ idxI ves (fun p : DStuffVessel => eqB p.1 f.1)) && holdsB foes lots f.2.1 f.2.2 1000
/-- A book that is as it is to be. -/
def BookP (a : DStuffBook) : Prop := okB 12 foeT a.1 = true ∧ okB 16 lotT a.2.1 = true ∧ okB 8 (vesT a.1 a.2.1) a.2.2.1 = true ∧ okB 12 (outT a.1 a.2.1 a.2.2.1) a.2.2.2 = true
noncomputable def bookB (a : DStuffBook) : Bool := @decide (BookP a) (Classical.propDecidable _)
theorem book_yes {a : DStuffBook} (h : BookP a) : bookB a = true := by
  unfold bookB; exact @decide_eq_true _ (Classical.propDecidable _) h
theorem book_no {a : DStuffBook} (h : ¬ BookP a) : bookB a = false := by
  unfold bookB; exact @decide_eq_false _ (Classical.propDecidable _) h

set_option maxRecDepth 100000 in
set_option maxHeartbeats 16000000 in
theorem bookS_any (S : Nat → Prop) (a : DStuffBook) (c : Nat → Value) (w : World) (h : Lay.At S w a c) (hS : ∀ b, S b → b < w.heap.size) :
    Calls Tryz.prog 20 #[.agg #[c 0, c 1, c 2, c 3]] w fun e w' => e = .returned (.bool (bookB a)) ∧ Below w.heap.size w w' := by
  rw [at_DStuffBook] at h
  obtain ⟨h0, h1, h2, h3⟩ := h
  obtain ⟨v0, u0⟩ : ∃ v, c 0 = v := ⟨_, rfl⟩
  obtain ⟨v1, u1⟩ : ∃ v, c 1 = v := ⟨_, rfl⟩
  obtain ⟨ov, cv, u2, hnv, hcv⟩ := id h2
  obtain ⟨oo, co, u3, hno, hco⟩ := id h3
  rw [u0] at h0
  rw [u1] at h1
  rw [u2] at h2
  rw [u0, u1, u2, u3]
  clear u0 u1 u2 u3 h3
  obtain ⟨nv, env⟩ : ∃ n, a.2.2.1.length = n := ⟨_, rfl⟩
  rw [env] at hnv h2
  obtain ⟨no, eno⟩ : ∃ n, a.2.2.2.length = n := ⟨_, rfl⟩
  rw [eno] at hno
  rw [env, eno]
  unfold maxLen at hnv hno
  have H0 : Hid (AtL S w a.1 v0) := h0
  have H1 : Hid (AtL S w a.2.1 v1) := h1
  have H2 : Hid (AtL S w a.2.2.1 (.slice ov nv cv)) := h2
  have HV : Hid _ := hcv
  have HO : Hid _ := hco
  clear h0 h1 h2 hcv hco
  have hbel : Hid (Below (w.heap.size + 1) (w.alloc (.cells #[v0, v1, .slice ov nv cv, .slice oo no co] 36)) (w.alloc (.cells #[v0, v1, .slice ov nv cv, .slice oo no co] 36))) := Below.refl _ _
  have hsz : w.heap.size + 1 ≤ (w.alloc (.cells #[v0, v1, .slice ov nv cv, .slice oo no co] 36)).heap.size := by simp
  have hSr : ∀ b, S b → b < (w.alloc (.cells #[v0, v1, .slice ov nv cv, .slice oo no co] 36)).heap.size := fun b hb => by have := hS b hb; omega
  have hbw := below_end hbel.out
  have K0 : Hid (AtL S (w.alloc (.cells #[v0, v1, .slice ov nv cv, .slice oo no co] 36)) a.1 v0) := H0.out.same (Same.of_below hbw hS)
  have K1 : Hid (AtL S (w.alloc (.cells #[v0, v1, .slice ov nv cv, .slice oo no co] 36)) a.2.1 v1) := H1.out.same (Same.of_below hbw hS)
  cases c0 : okB 12 foeT a.1
  · go_enter Tryz.func20, Tryz.ntmps20
    go_wp2_with fail
    refine (foesokS_any S _ _ _ _ a.1 _ K0.out hSr).mono ?_
    rintro e w1 ⟨rfl, hb1⟩
    rw [c0]
    have hbel1 : Hid (Below (w.heap.size + 1) (w.alloc (.cells #[v0, v1, .slice ov nv cv, .slice oo no co] 36)) w1) := by simpa [Hid] using hb1
    clear hb1
    have y0 := box_at _ _ hbel1.out 0 (v0) rfl
    have y1 := box_at _ _ hbel1.out 1 (v1) rfl
    have y2 := box_at _ _ hbel1.out 2 (.slice ov nv cv) rfl
    have y3 := box_at _ _ hbel1.out 3 (.slice oo no co) rfl
    go_wp2_with fail
    go_ret
    rw [book_no (fun h => by have := h.1; rw [c0] at this; cases this)]
    exact ⟨rfl, below_end hbel1.out⟩
  · cases c1 : okB 16 lotT a.2.1
    · go_enter Tryz.func20, Tryz.ntmps20
      go_wp2_with fail
      refine (foesokS_any S _ _ _ _ a.1 _ K0.out hSr).mono ?_
      rintro e w1 ⟨rfl, hb1⟩
      rw [c0]
      have hbel1 : Hid (Below (w.heap.size + 1) (w.alloc (.cells #[v0, v1, .slice ov nv cv, .slice oo no co] 36)) w1) := by simpa [Hid] using hb1
      clear hb1
      have y0 := box_at _ _ hbel1.out 0 (v0) rfl
      have y1 := box_at _ _ hbel1.out 1 (v1) rfl
      have y2 := box_at _ _ hbel1.out 2 (.slice ov nv cv) rfl
      have y3 := box_at _ _ hbel1.out 3 (.slice oo no co) rfl
      go_wp2_with fail
      refine (lotsS_any S _ _ _ _ a.2.1 _ (H1.out.same (Same.of_below (below_end hbel1.out) hS)) (fun b hb => by have := hS b hb; have := (below_end hbel1.out).size; omega)).mono ?_
      rintro e w2 ⟨rfl, hb2⟩
      rw [c1]
      have hbel2 : Hid (Below (w.heap.size + 1) (w.alloc (.cells #[v0, v1, .slice ov nv cv, .slice oo no co] 36)) w2) := below_of hbel1.out hb2
      clear hb2
      have z0 := box_at _ _ hbel2.out 0 (v0) rfl
      have z1 := box_at _ _ hbel2.out 1 (v1) rfl
      have z2 := box_at _ _ hbel2.out 2 (.slice ov nv cv) rfl
      have z3 := box_at _ _ hbel2.out 3 (.slice oo no co) rfl
      go_wp2_with fail
      go_ret
      rw [book_no (fun h => by have := h.2.1; rw [c1] at this; cases this)]
      exact ⟨rfl, below_end hbel2.out⟩
    · by_cases dv : nv ≤ 8
      · have d0 : decide ((8 : Int) < (nv : Int)) = false := by simp; omega
        by_cases dO : no ≤ 12
        · have d1 : decide ((12 : Int) < (no : Int)) = false := by simp; omega
          go_enter Tryz.func20, Tryz.ntmps20
          go_wp2_with fail
          refine (foesokS_any S _ _ _ _ a.1 _ K0.out hSr).mono ?_
          rintro e w1 ⟨rfl, hb1⟩
          rw [c0]
          have hbel1 : Hid (Below (w.heap.size + 1) (w.alloc (.cells #[v0, v1, .slice ov nv cv, .slice oo no co] 36)) w1) := by simpa [Hid] using hb1
          clear hb1
          have y0 := box_at _ _ hbel1.out 0 (v0) rfl
          have y1 := box_at _ _ hbel1.out 1 (v1) rfl
          have y2 := box_at _ _ hbel1.out 2 (.slice ov nv cv) rfl
          have y3 := box_at _ _ hbel1.out 3 (.slice oo no co) rfl
          go_wp2_with fail
          refine (lotsS_any S _ _ _ _ a.2.1 _ (H1.out.same (Same.of_below (below_end hbel1.out) hS)) (fun b hb => by have := hS b hb; have := (below_end hbel1.out).size; omega)).mono ?_
          rintro e w2 ⟨rfl, hb2⟩
          rw [c1]
          have hbel2 : Hid (Below (w.heap.size + 1) (w.alloc (.cells #[v0, v1, .slice ov nv cv, .slice oo no co] 36)) w2) := below_of hbel1.out hb2
          clear hb2
          have z0 := box_at _ _ hbel2.out 0 (v0) rfl
          have z1 := box_at _ _ hbel2.out 1 (v1) rfl
          have z2 := box_at _ _ hbel2.out 2 (.slice ov nv cv) rfl
          have z3 := box_at _ _ hbel2.out 3 (.slice oo no co) rfl
          go_wp2_with fail
          clear K0 K1 hbw hSr hsz hbel hbel1 y0 y1 y2 y3 z0 z1 z2 z3
          have C0 : Hid _ := c0
          have C1 : Hid _ := c1
          clear c0 c1
          go_loopw [3] (fun i wr => ∃ (q : Nat), q ≤ nv ∧ i = .int .i64 q ∧ Hid (∀ j (hj : j < a.2.2.1.length), j < q → vesT a.1 a.2.1 (prevO a.2.2.1 j) a.2.2.1[j] = true) ∧ Hid (Below (w.heap.size + 1) (w.alloc (.cells #[v0, v1, .slice ov nv cv, .slice oo no co] 36)) wr)) (fun i _ => nv - (intOf i).toNat)
          case atStart => exact ⟨0, Nat.zero_le _, rfl, fun _ _ h => by omega, hbel2⟩
          case round =>
            clear hbel2
            obtain ⟨q, hq, rfl, hall, hbel⟩ := hrel
            have hbw := below_end hbel.out
            have hsz : w.heap.size + 1 ≤ wr.heap.size := by have := hbel.out.size; simpa using this
            have hSr : ∀ b, S b → b < wr.heap.size := fun b hb => by have := hS b hb; omega
            have x0 := box_at _ _ hbel.out 0 _ rfl
            have x1 := box_at _ _ hbel.out 1 _ rfl
            have x2 := box_at _ _ hbel.out 2 _ rfl
            have x3 := box_at _ _ hbel.out 3 _ rfl
            simp only [List.getElem_toArray, List.getElem_cons_zero, List.getElem_cons_succ] at x0 x1 x2 x3
            have K0 : Hid (AtL S wr a.1 v0) := H0.out.same (Same.of_below hbw hS)
            have K1 : Hid (AtL S wr a.2.1 v1) := H1.out.same (Same.of_below hbw hS)
            have K2 : Hid (AtL S wr a.2.2.1 _) := H2.out.same (Same.of_below hbw hS)
            by_cases hlt : q < nv
            · rcases Nat.eq_zero_or_pos q with rfl | hpos
              · obtain ⟨bp, fp, rfl, hbSp, cc, hcell, hat⟩ := HV.out 0 (by omega)
                have hbp := hS bp hbSp
                rw [width_DStuffVessel] at hcell
                have e0 : wr.cell? ⟨bp, fp, none⟩ = some (cc 0) := (hbw.cell (p := ⟨bp, fp, none⟩) (by show bp < _; omega)).trans (by simpa using hcell 0 (by omega))
                have e1 : wr.cell? ⟨bp, fp + 1, none⟩ = some (cc 1) := (hbw.cell (p := ⟨bp, fp + 1, none⟩) (by show bp < _; omega)).trans (by simpa using hcell 1 (by omega))
                have e2 : wr.cell? ⟨bp, fp + 2, none⟩ = some (cc 2) := (hbw.cell (p := ⟨bp, fp + 2, none⟩) (by show bp < _; omega)).trans (by simpa using hcell 2 (by omega))
                have e3 : wr.cell? ⟨bp, fp + 3, none⟩ = some (cc 3) := (hbw.cell (p := ⟨bp, fp + 3, none⟩) (by show bp < _; omega)).trans (by simpa using hcell 3 (by omega))
                clear hcell
                have hat := Lay.same hat (Same.of_below hbw hS)
                rw [at_DStuffVessel] at hat
                obtain ⟨f, ef⟩ : ∃ f, a.2.2.1[0]'(by omega) = f := ⟨_, rfl⟩
                rw [ef] at hat
                obtain ⟨⟨t0, z0⟩, ⟨t1, _, _⟩, l2, l3⟩ := hat
                obtain ⟨so2, sc2, t2, _⟩ := id l2
                rw [t2] at l2
                have L2 : Hid (AtL S wr f.2.2.1 _) := l2
                clear l2
                obtain ⟨so3, sc3, t3, _⟩ := id l3
                rw [t3] at l3
                have L3 : Hid (AtL S wr f.2.2.2 _) := l3
                clear l3
                rw [t0] at e0
                rw [t1] at e1
                rw [t2] at e2
                rw [t3] at e3
                clear t0 t1 t2 t3
                have hW : Hid (Below (w.heap.size + 1) (w.alloc (.cells #[v0, v1, .slice (some ⟨bp, fp, none⟩) nv cv, .slice oo no co] 36)) (wr.alloc (.cells #[.string f.1, .int .i64 f.2.1, .slice so2 f.2.2.1.length sc2, .slice so3 f.2.2.2.length sc3] 53))) := hbel.out.alloc (by omega) _
                have hSa : ∀ b, S b → b < (wr.alloc (.cells #[.string f.1, .int .i64 f.2.1, .slice so2 f.2.2.1.length sc2, .slice so3 f.2.2.2.length sc3] 53)).heap.size := fun b hb => by have := hSr b hb; simp; omega
                have sA : Same S wr (wr.alloc (.cells #[.string f.1, .int .i64 f.2.1, .slice so2 f.2.2.1.length sc2, .slice so3 f.2.2.2.length sc3] 53)) := Same.of_alloc wr _ hSr
                have J0 : Hid (AtL S (wr.alloc (.cells #[.string f.1, .int .i64 f.2.1, .slice so2 f.2.2.1.length sc2, .slice so3 f.2.2.2.length sc3] 53)) a.1 v0) := K0.out.same sA
                have J1 : Hid (AtL S (wr.alloc (.cells #[.string f.1, .int .i64 f.2.1, .slice so2 f.2.2.1.length sc2, .slice so3 f.2.2.2.length sc3] 53)) a.2.1 v1) := K1.out.same sA
                have J2 : Hid (AtL S (wr.alloc (.cells #[.string f.1, .int .i64 f.2.1, .slice so2 f.2.2.1.length sc2, .slice so3 f.2.2.2.length sc3] 53)) a.2.2.1 _) := K2.out.same sA
                have M2 : Hid (AtL S (wr.alloc (.cells #[.string f.1, .int .i64 f.2.1, .slice so2 f.2.2.1.length sc2, .slice so3 f.2.2.2.length sc3] 53)) f.2.2.1 _) := L2.out.same sA
                have M3 : Hid (AtL S (wr.alloc (.cells #[.string f.1, .int .i64 f.2.1, .slice so2 f.2.2.1.length sc2, .slice so3 f.2.2.2.length sc3] 53)) f.2.2.2 _) := L3.out.same sA
                have qn0 := fun d os => cell_regrown (cell_row (heap_alloc_new wr (.cells #[.string f.1, .int .i64 f.2.1, .slice so2 f.2.2.1.length sc2, .slice so3 f.2.2.2.length sc3] 53)) 0 (.string f.1) rfl).1 d os
                have qn1 := fun d os => cell_regrown (cell_row (heap_alloc_new wr (.cells #[.string f.1, .int .i64 f.2.1, .slice so2 f.2.2.1.length sc2, .slice so3 f.2.2.2.length sc3] 53)) 1 (.int .i64 f.2.1) rfl).1 d os
                have qn2 := fun d os => cell_regrown (cell_row (heap_alloc_new wr (.cells #[.string f.1, .int .i64 f.2.1, .slice so2 f.2.2.1.length sc2, .slice so3 f.2.2.2.length sc3] 53)) 2 (.slice so2 f.2.2.1.length sc2) rfl).1 d os
                have qn3 := fun d os => cell_regrown (cell_row (heap_alloc_new wr (.cells #[.string f.1, .int .i64 f.2.1, .slice so2 f.2.2.1.length sc2, .slice so3 f.2.2.2.length sc3] 53)) 3 (.slice so3 f.2.2.2.length sc3) rfl).1 d os
                have qx0 := fun d os => cell_regrown (cell_past x0 (by omega) (.cells #[.string f.1, .int .i64 f.2.1, .slice so2 f.2.2.1.length sc2, .slice so3 f.2.2.2.length sc3] 53)) d os
                have qx1 := fun d os => cell_regrown (cell_past x1 (by omega) (.cells #[.string f.1, .int .i64 f.2.1, .slice so2 f.2.2.1.length sc2, .slice so3 f.2.2.2.length sc3] 53)) d os
                have qx2 := fun d os => cell_regrown (cell_past x2 (by omega) (.cells #[.string f.1, .int .i64 f.2.1, .slice so2 f.2.2.1.length sc2, .slice so3 f.2.2.2.length sc3] 53)) d os
                have qx3 := fun d os => cell_regrown (cell_past x3 (by omega) (.cells #[.string f.1, .int .i64 f.2.1, .slice so2 f.2.2.1.length sc2, .slice so3 f.2.2.2.length sc3] 53)) d os
                cases c0 : (nameB f.1)
                · have hp : vesT a.1 a.2.1 (prevO a.2.2.1 0) (a.2.2.1[0]'(by omega)) = false := by
                    rw [prev_zero a.2.2.1, ef]
                    simp [vesT, c0]
                  go_wp2
                  refine wp_region_quiet_below (by kernel_rfl) (by kernel_rfl) ?_
                  repeat (first | go_big_quiet_step (first | (with_reducible exact nameS_q _ _ z0 _ c0 _ _) | (with_reducible exact in_q _ _ _ _ _ c1 _ _) | (with_reducible exact holdsS_q S _ _ _ _ a.1 a.2.1 f.2.2.1 f.2.2.2 _ _ _ _ J0.out J1.out M2.out M3.out hSa hcap.1 hcap.2 _ c2 _ _)) | quiet_step (first | (with_reducible exact nameS_q _ _ z0 _ c0 _ _) | (with_reducible exact in_q _ _ _ _ _ c1 _ _) | (with_reducible exact holdsS_q S _ _ _ _ a.1 a.2.1 f.2.2.1 f.2.2.2 _ _ _ _ J0.out J1.out M2.out M3.out hSa hcap.1 hcap.2 _ c2 _ _)))
                  refine wpQuiet_nil ?_
                  intro _ hw'
                  obtain ⟨⟨dq, osq⟩, hw''⟩ := hw'
                  subst hw''
                  go_wp2
                  go_ret
                  rw [book_no (fun h => by have := h.2.2.1; rw [ok_no (k := 0) (by omega) hp] at this; cases this)]
                  exact ⟨rfl, below_end (below_of hW.out (below_regrown _ dq osq))⟩
                · cases c1 : (inB f.2.1 1 1000)
                  · have hp : vesT a.1 a.2.1 (prevO a.2.2.1 0) (a.2.2.1[0]'(by omega)) = false := by
                      rw [prev_zero a.2.2.1, ef]
                      simp [vesT, c0, c1]
                    go_wp2
                    refine wp_region_quiet_below (by kernel_rfl) (by kernel_rfl) ?_
                    repeat (first | go_big_quiet_step (first | (with_reducible exact nameS_q _ _ z0 _ c0 _ _) | (with_reducible exact in_q _ _ _ _ _ c1 _ _) | (with_reducible exact holdsS_q S _ _ _ _ a.1 a.2.1 f.2.2.1 f.2.2.2 _ _ _ _ J0.out J1.out M2.out M3.out hSa hcap.1 hcap.2 _ c2 _ _)) | quiet_step (first | (with_reducible exact nameS_q _ _ z0 _ c0 _ _) | (with_reducible exact in_q _ _ _ _ _ c1 _ _) | (with_reducible exact holdsS_q S _ _ _ _ a.1 a.2.1 f.2.2.1 f.2.2.2 _ _ _ _ J0.out J1.out M2.out M3.out hSa hcap.1 hcap.2 _ c2 _ _)))
                    refine wpQuiet_nil ?_
                    intro _ hw'
                    obtain ⟨⟨dq, osq⟩, hw''⟩ := hw'
                    subst hw''
                    go_wp2
                    go_ret
                    rw [book_no (fun h => by have := h.2.2.1; rw [ok_no (k := 0) (by omega) hp] at this; cases this)]
                    exact ⟨rfl, below_end (below_of hW.out (below_regrown _ dq osq))⟩
                  · have hcap : 0 ≤ f.2.1 ∧ f.2.1 ≤ 1000 := by have := c1; unfold inB at this; have := of_decide_eq_true this; omega
                    cases c2 : (holdsB a.1 a.2.1 f.2.2.1 f.2.2.2 f.2.1)
                    · have hp : vesT a.1 a.2.1 (prevO a.2.2.1 0) (a.2.2.1[0]'(by omega)) = false := by
                        rw [prev_zero a.2.2.1, ef]
                        simp [vesT, c0, c1, c2]
                      go_wp2
                      refine wp_region_quiet_below (by kernel_rfl) (by kernel_rfl) ?_
                      repeat (first | go_big_quiet_step (first | (with_reducible exact nameS_q _ _ z0 _ c0 _ _) | (with_reducible exact in_q _ _ _ _ _ c1 _ _) | (with_reducible exact holdsS_q S _ _ _ _ a.1 a.2.1 f.2.2.1 f.2.2.2 _ _ _ _ J0.out J1.out M2.out M3.out hSa hcap.1 hcap.2 _ c2 _ _)) | quiet_step (first | (with_reducible exact nameS_q _ _ z0 _ c0 _ _) | (with_reducible exact in_q _ _ _ _ _ c1 _ _) | (with_reducible exact holdsS_q S _ _ _ _ a.1 a.2.1 f.2.2.1 f.2.2.2 _ _ _ _ J0.out J1.out M2.out M3.out hSa hcap.1 hcap.2 _ c2 _ _)))
                      refine wpQuiet_nil ?_
                      intro _ hw'
                      obtain ⟨⟨dq, osq⟩, hw''⟩ := hw'
                      subst hw''
                      go_wp2
                      go_ret
                      rw [book_no (fun h => by have := h.2.2.1; rw [ok_no (k := 0) (by omega) hp] at this; cases this)]
                      exact ⟨rfl, below_end (below_of hW.out (below_regrown _ dq osq))⟩
                    · have hp : vesT a.1 a.2.1 (prevO a.2.2.1 0) (a.2.2.1[0]'(by omega)) = true := by
                        rw [prev_zero a.2.2.1, ef]
                        simp [vesT, c0, c1, c2]
                      go_wp2
                      refine wp_region_quiet_below (by kernel_rfl) (by kernel_rfl) ?_
                      repeat (first | go_big_quiet_step (first | (with_reducible exact nameS_q _ _ z0 _ c0 _ _) | (with_reducible exact in_q _ _ _ _ _ c1 _ _) | (with_reducible exact holdsS_q S _ _ _ _ a.1 a.2.1 f.2.2.1 f.2.2.2 _ _ _ _ J0.out J1.out M2.out M3.out hSa hcap.1 hcap.2 _ c2 _ _)) | quiet_step (first | (with_reducible exact nameS_q _ _ z0 _ c0 _ _) | (with_reducible exact in_q _ _ _ _ _ c1 _ _) | (with_reducible exact holdsS_q S _ _ _ _ a.1 a.2.1 f.2.2.1 f.2.2.2 _ _ _ _ J0.out J1.out M2.out M3.out hSa hcap.1 hcap.2 _ c2 _ _)))
                      refine wpQuiet_nil ?_
                      intro _ hw'
                      obtain ⟨⟨dq, osq⟩, hw''⟩ := hw'
                      subst hw''
                      go_wp2
                      go_roundw
                      case rel => exact ⟨0 + 1, by omega, by go_num, fun j hj hjk => by
                        by_cases e : j = 0
                        · subst e; exact hp
                        · exact hall.out j hj (by omega), below_of hW.out (below_regrown _ dq osq)⟩
                      case measure => simp [intOf]; omega
              · obtain ⟨m, rfl⟩ : ∃ m, q = m + 1 := ⟨q - 1, by omega⟩
                obtain ⟨bp, fp, rfl, hbSp, cc, hcell, hat⟩ := HV.out (m + 1) (by omega)
                have hbp := hS bp hbSp
                rw [width_DStuffVessel] at hcell
                have e0 : wr.cell? ⟨bp, fp + (m + 1) * 4, none⟩ = some (cc 0) := (hbw.cell (p := ⟨bp, fp + (m + 1) * 4, none⟩) (by show bp < _; omega)).trans (by simpa using hcell 0 (by omega))
                have e1 : wr.cell? ⟨bp, fp + (m + 1) * 4 + 1, none⟩ = some (cc 1) := (hbw.cell (p := ⟨bp, fp + (m + 1) * 4 + 1, none⟩) (by show bp < _; omega)).trans (by simpa using hcell 1 (by omega))
                have e2 : wr.cell? ⟨bp, fp + (m + 1) * 4 + 2, none⟩ = some (cc 2) := (hbw.cell (p := ⟨bp, fp + (m + 1) * 4 + 2, none⟩) (by show bp < _; omega)).trans (by simpa using hcell 2 (by omega))
                have e3 : wr.cell? ⟨bp, fp + (m + 1) * 4 + 3, none⟩ = some (cc 3) := (hbw.cell (p := ⟨bp, fp + (m + 1) * 4 + 3, none⟩) (by show bp < _; omega)).trans (by simpa using hcell 3 (by omega))
                clear hcell
                have hat := Lay.same hat (Same.of_below hbw hS)
                rw [at_DStuffVessel] at hat
                obtain ⟨f, ef⟩ : ∃ f, a.2.2.1[(m + 1)]'(by omega) = f := ⟨_, rfl⟩
                rw [ef] at hat
                obtain ⟨⟨t0, z0⟩, ⟨t1, _, _⟩, l2, l3⟩ := hat
                obtain ⟨so2, sc2, t2, _⟩ := id l2
                rw [t2] at l2
                have L2 : Hid (AtL S wr f.2.2.1 _) := l2
                clear l2
                obtain ⟨so3, sc3, t3, _⟩ := id l3
                rw [t3] at l3
                have L3 : Hid (AtL S wr f.2.2.2 _) := l3
                clear l3
                rw [t0] at e0
                rw [t1] at e1
                rw [t2] at e2
                rw [t3] at e3
                clear t0 t1 t2 t3
                obtain ⟨b', f', e', _, dd, hcell, hat⟩ := HV.out m (by omega)
                cases e'
                rw [width_DStuffVessel] at hcell
                have m0 : wr.cell? ⟨bp, fp + m * 4, none⟩ = some (dd 0) := (hbw.cell (p := ⟨bp, fp + m * 4, none⟩) (by show bp < _; omega)).trans (by simpa using hcell 0 (by omega))
                clear hcell
                have hat := Lay.same hat (Same.of_below hbw hS)
                rw [at_DStuffVessel] at hat
                obtain ⟨g, eg⟩ : ∃ f, a.2.2.1[m]'(by omega) = f := ⟨_, rfl⟩
                rw [eg] at hat
                rw [hat.1.1] at m0
                clear hat
                have gt0 : decide ((0 : Int) < ((m : Int) + 1)) = true := by rw [decide_eq_true_eq]; omega
                have hW : Hid (Below (w.heap.size + 1) (w.alloc (.cells #[v0, v1, .slice (some ⟨bp, fp, none⟩) nv cv, .slice oo no co] 36)) (wr.alloc (.cells #[.string f.1, .int .i64 f.2.1, .slice so2 f.2.2.1.length sc2, .slice so3 f.2.2.2.length sc3] 53))) := hbel.out.alloc (by omega) _
                have hSa : ∀ b, S b → b < (wr.alloc (.cells #[.string f.1, .int .i64 f.2.1, .slice so2 f.2.2.1.length sc2, .slice so3 f.2.2.2.length sc3] 53)).heap.size := fun b hb => by have := hSr b hb; simp; omega
                have sA : Same S wr (wr.alloc (.cells #[.string f.1, .int .i64 f.2.1, .slice so2 f.2.2.1.length sc2, .slice so3 f.2.2.2.length sc3] 53)) := Same.of_alloc wr _ hSr
                have J0 : Hid (AtL S (wr.alloc (.cells #[.string f.1, .int .i64 f.2.1, .slice so2 f.2.2.1.length sc2, .slice so3 f.2.2.2.length sc3] 53)) a.1 v0) := K0.out.same sA
                have J1 : Hid (AtL S (wr.alloc (.cells #[.string f.1, .int .i64 f.2.1, .slice so2 f.2.2.1.length sc2, .slice so3 f.2.2.2.length sc3] 53)) a.2.1 v1) := K1.out.same sA
                have J2 : Hid (AtL S (wr.alloc (.cells #[.string f.1, .int .i64 f.2.1, .slice so2 f.2.2.1.length sc2, .slice so3 f.2.2.2.length sc3] 53)) a.2.2.1 _) := K2.out.same sA
                have M2 : Hid (AtL S (wr.alloc (.cells #[.string f.1, .int .i64 f.2.1, .slice so2 f.2.2.1.length sc2, .slice so3 f.2.2.2.length sc3] 53)) f.2.2.1 _) := L2.out.same sA
                have M3 : Hid (AtL S (wr.alloc (.cells #[.string f.1, .int .i64 f.2.1, .slice so2 f.2.2.1.length sc2, .slice so3 f.2.2.2.length sc3] 53)) f.2.2.2 _) := L3.out.same sA
                have qn0 := fun d os => cell_regrown (cell_row (heap_alloc_new wr (.cells #[.string f.1, .int .i64 f.2.1, .slice so2 f.2.2.1.length sc2, .slice so3 f.2.2.2.length sc3] 53)) 0 (.string f.1) rfl).1 d os
                have qn1 := fun d os => cell_regrown (cell_row (heap_alloc_new wr (.cells #[.string f.1, .int .i64 f.2.1, .slice so2 f.2.2.1.length sc2, .slice so3 f.2.2.2.length sc3] 53)) 1 (.int .i64 f.2.1) rfl).1 d os
                have qn2 := fun d os => cell_regrown (cell_row (heap_alloc_new wr (.cells #[.string f.1, .int .i64 f.2.1, .slice so2 f.2.2.1.length sc2, .slice so3 f.2.2.2.length sc3] 53)) 2 (.slice so2 f.2.2.1.length sc2) rfl).1 d os
                have qn3 := fun d os => cell_regrown (cell_row (heap_alloc_new wr (.cells #[.string f.1, .int .i64 f.2.1, .slice so2 f.2.2.1.length sc2, .slice so3 f.2.2.2.length sc3] 53)) 3 (.slice so3 f.2.2.2.length sc3) rfl).1 d os
                have qx0 := fun d os => cell_regrown (cell_past x0 (by omega) (.cells #[.string f.1, .int .i64 f.2.1, .slice so2 f.2.2.1.length sc2, .slice so3 f.2.2.2.length sc3] 53)) d os
                have qx1 := fun d os => cell_regrown (cell_past x1 (by omega) (.cells #[.string f.1, .int .i64 f.2.1, .slice so2 f.2.2.1.length sc2, .slice so3 f.2.2.2.length sc3] 53)) d os
                have qx2 := fun d os => cell_regrown (cell_past x2 (by omega) (.cells #[.string f.1, .int .i64 f.2.1, .slice so2 f.2.2.1.length sc2, .slice so3 f.2.2.2.length sc3] 53)) d os
                have qx3 := fun d os => cell_regrown (cell_past x3 (by omega) (.cells #[.string f.1, .int .i64 f.2.1, .slice so2 f.2.2.1.length sc2, .slice so3 f.2.2.2.length sc3] 53)) d os
                have qm0 := fun d os => cell_regrown (cell_past m0 (by omega) (.cells #[.string f.1, .int .i64 f.2.1, .slice so2 f.2.2.1.length sc2, .slice so3 f.2.2.2.length sc3] 53)) d os
                cases c0 : (nameB f.1)
                · have hp : vesT a.1 a.2.1 (prevO a.2.2.1 (m + 1)) (a.2.2.1[(m + 1)]'(by omega)) = false := by
                    rw [prev_succ a.2.2.1 m (by omega), ef, eg]
                    simp [vesT, c0]
                  go_wp2
                  refine wp_region_quiet_below (by kernel_rfl) (by kernel_rfl) ?_
                  repeat (first | go_big_quiet_step (first | (with_reducible exact nameS_q _ _ z0 _ c0 _ _) | (with_reducible exact in_q _ _ _ _ _ c2 _ _) | (with_reducible exact holdsS_q S _ _ _ _ a.1 a.2.1 f.2.2.1 f.2.2.2 _ _ _ _ J0.out J1.out M2.out M3.out hSa hcap.1 hcap.2 _ c3 _ _)) | quiet_step (first | (with_reducible exact nameS_q _ _ z0 _ c0 _ _) | (with_reducible exact in_q _ _ _ _ _ c2 _ _) | (with_reducible exact holdsS_q S _ _ _ _ a.1 a.2.1 f.2.2.1 f.2.2.2 _ _ _ _ J0.out J1.out M2.out M3.out hSa hcap.1 hcap.2 _ c3 _ _)))
                  refine wpQuiet_nil ?_
                  intro _ hw'
                  obtain ⟨⟨dq, osq⟩, hw''⟩ := hw'
                  subst hw''
                  go_wp2
                  go_ret
                  rw [book_no (fun h => by have := h.2.2.1; rw [ok_no (k := (m + 1)) (by omega) hp] at this; cases this)]
                  exact ⟨rfl, below_end (below_of hW.out (below_regrown _ dq osq))⟩
                · cases c1 : (Op.bytesLess g.1.toList f.1.toList)
                  · have hp : vesT a.1 a.2.1 (prevO a.2.2.1 (m + 1)) (a.2.2.1[(m + 1)]'(by omega)) = false := by
                      rw [prev_succ a.2.2.1 m (by omega), ef, eg]
                      simp [vesT, ltB, c0, c1]
                    go_wp2
                    refine wp_region_quiet_below (by kernel_rfl) (by kernel_rfl) ?_
                    repeat (first | go_big_quiet_step (first | (with_reducible exact nameS_q _ _ z0 _ c0 _ _) | (with_reducible exact in_q _ _ _ _ _ c2 _ _) | (with_reducible exact holdsS_q S _ _ _ _ a.1 a.2.1 f.2.2.1 f.2.2.2 _ _ _ _ J0.out J1.out M2.out M3.out hSa hcap.1 hcap.2 _ c3 _ _)) | quiet_step (first | (with_reducible exact nameS_q _ _ z0 _ c0 _ _) | (with_reducible exact in_q _ _ _ _ _ c2 _ _) | (with_reducible exact holdsS_q S _ _ _ _ a.1 a.2.1 f.2.2.1 f.2.2.2 _ _ _ _ J0.out J1.out M2.out M3.out hSa hcap.1 hcap.2 _ c3 _ _)))
                    refine wpQuiet_nil ?_
                    intro _ hw'
                    obtain ⟨⟨dq, osq⟩, hw''⟩ := hw'
                    subst hw''
                    go_wp2
                    go_ret
                    rw [book_no (fun h => by have := h.2.2.1; rw [ok_no (k := (m + 1)) (by omega) hp] at this; cases this)]
                    exact ⟨rfl, below_end (below_of hW.out (below_regrown _ dq osq))⟩
                  · cases c2 : (inB f.2.1 1 1000)
                    · have hp : vesT a.1 a.2.1 (prevO a.2.2.1 (m + 1)) (a.2.2.1[(m + 1)]'(by omega)) = false := by
                        rw [prev_succ a.2.2.1 m (by omega), ef, eg]
                        simp [vesT, ltB, c0, c1, c2]
                      go_wp2
                      refine wp_region_quiet_below (by kernel_rfl) (by kernel_rfl) ?_
                      repeat (first | go_big_quiet_step (first | (with_reducible exact nameS_q _ _ z0 _ c0 _ _) | (with_reducible exact in_q _ _ _ _ _ c2 _ _) | (with_reducible exact holdsS_q S _ _ _ _ a.1 a.2.1 f.2.2.1 f.2.2.2 _ _ _ _ J0.out J1.out M2.out M3.out hSa hcap.1 hcap.2 _ c3 _ _)) | quiet_step (first | (with_reducible exact nameS_q _ _ z0 _ c0 _ _) | (with_reducible exact in_q _ _ _ _ _ c2 _ _) | (with_reducible exact holdsS_q S _ _ _ _ a.1 a.2.1 f.2.2.1 f.2.2.2 _ _ _ _ J0.out J1.out M2.out M3.out hSa hcap.1 hcap.2 _ c3 _ _)))
                      refine wpQuiet_nil ?_
                      intro _ hw'
                      obtain ⟨⟨dq, osq⟩, hw''⟩ := hw'
                      subst hw''
                      go_wp2
                      go_ret
                      rw [book_no (fun h => by have := h.2.2.1; rw [ok_no (k := (m + 1)) (by omega) hp] at this; cases this)]
                      exact ⟨rfl, below_end (below_of hW.out (below_regrown _ dq osq))⟩
                    · have hcap : 0 ≤ f.2.1 ∧ f.2.1 ≤ 1000 := by have := c2; unfold inB at this; have := of_decide_eq_true this; omega
                      cases c3 : (holdsB a.1 a.2.1 f.2.2.1 f.2.2.2 f.2.1)
                      · have hp : vesT a.1 a.2.1 (prevO a.2.2.1 (m + 1)) (a.2.2.1[(m + 1)]'(by omega)) = false := by
                          rw [prev_succ a.2.2.1 m (by omega), ef, eg]
                          simp [vesT, ltB, c0, c1, c2, c3]
                        go_wp2
                        refine wp_region_quiet_below (by kernel_rfl) (by kernel_rfl) ?_
                        repeat (first | go_big_quiet_step (first | (with_reducible exact nameS_q _ _ z0 _ c0 _ _) | (with_reducible exact in_q _ _ _ _ _ c2 _ _) | (with_reducible exact holdsS_q S _ _ _ _ a.1 a.2.1 f.2.2.1 f.2.2.2 _ _ _ _ J0.out J1.out M2.out M3.out hSa hcap.1 hcap.2 _ c3 _ _)) | quiet_step (first | (with_reducible exact nameS_q _ _ z0 _ c0 _ _) | (with_reducible exact in_q _ _ _ _ _ c2 _ _) | (with_reducible exact holdsS_q S _ _ _ _ a.1 a.2.1 f.2.2.1 f.2.2.2 _ _ _ _ J0.out J1.out M2.out M3.out hSa hcap.1 hcap.2 _ c3 _ _)))
                        refine wpQuiet_nil ?_
                        intro _ hw'
                        obtain ⟨⟨dq, osq⟩, hw''⟩ := hw'
                        subst hw''
                        go_wp2
                        go_ret
                        rw [book_no (fun h => by have := h.2.2.1; rw [ok_no (k := (m + 1)) (by omega) hp] at this; cases this)]
                        exact ⟨rfl, below_end (below_of hW.out (below_regrown _ dq osq))⟩
                      · have hp : vesT a.1 a.2.1 (prevO a.2.2.1 (m + 1)) (a.2.2.1[(m + 1)]'(by omega)) = true := by
                          rw [prev_succ a.2.2.1 m (by omega), ef, eg]
                          simp [vesT, ltB, c0, c1, c2, c3]
                        go_wp2
                        refine wp_region_quiet_below (by kernel_rfl) (by kernel_rfl) ?_
                        repeat (first | go_big_quiet_step (first | (with_reducible exact nameS_q _ _ z0 _ c0 _ _) | (with_reducible exact in_q _ _ _ _ _ c2 _ _) | (with_reducible exact holdsS_q S _ _ _ _ a.1 a.2.1 f.2.2.1 f.2.2.2 _ _ _ _ J0.out J1.out M2.out M3.out hSa hcap.1 hcap.2 _ c3 _ _)) | quiet_step (first | (with_reducible exact nameS_q _ _ z0 _ c0 _ _) | (with_reducible exact in_q _ _ _ _ _ c2 _ _) | (with_reducible exact holdsS_q S _ _ _ _ a.1 a.2.1 f.2.2.1 f.2.2.2 _ _ _ _ J0.out J1.out M2.out M3.out hSa hcap.1 hcap.2 _ c3 _ _)))
                        refine wpQuiet_nil ?_
                        intro _ hw'
                        obtain ⟨⟨dq, osq⟩, hw''⟩ := hw'
                        subst hw''
                        go_wp2
                        go_roundw
                        case rel => exact ⟨(m + 1) + 1, by omega, by go_num, fun j hj hjk => by
                          by_cases e : j = (m + 1)
                          · subst e; exact hp
                          · exact hall.out j hj (by omega), below_of hW.out (below_regrown _ dq osq)⟩
                        case measure => simp [intOf]; omega
            · have hqn : q = nv := by omega
              subst hqn
              have HVA : Hid (∀ j (hj : j < a.2.2.1.length), vesT a.1 a.2.1 (prevO a.2.2.1 j) a.2.2.1[j] = true) := fun j hj => hall.out j hj (by omega)
              clear hall
              have hbel3 : Hid _ := hbel
              go_wp2
              clear hbel hbw hsz hSr x0 x1 x2 x3 K0 K1 K2
              go_loopw [5] (fun i wr => ∃ (q2 : Nat), q2 ≤ no ∧ i = .int .i64 q2 ∧ Hid (∀ j (hj : j < a.2.2.2.length), j < q2 → outT a.1 a.2.1 a.2.2.1 (prevO a.2.2.2 j) a.2.2.2[j] = true) ∧ Hid (Below (w.heap.size + 1) (w.alloc (.cells #[v0, v1, .slice ov q cv, .slice oo no co] 36)) wr)) (fun i _ => no - (intOf i).toNat)
              case atStart => exact ⟨0, Nat.zero_le _, rfl, fun _ _ h => by omega, hbel3⟩
              case round =>
                clear hbel3
                obtain ⟨q2, hq2, rfl, hall, hbel⟩ := hrel
                have hbw := below_end hbel.out
                have hsz : w.heap.size + 1 ≤ wr.heap.size := by have := hbel.out.size; simpa using this
                have hSr : ∀ b, S b → b < wr.heap.size := fun b hb => by have := hS b hb; omega
                have x0 := box_at _ _ hbel.out 0 _ rfl
                have x1 := box_at _ _ hbel.out 1 _ rfl
                have x2 := box_at _ _ hbel.out 2 _ rfl
                have x3 := box_at _ _ hbel.out 3 _ rfl
                simp only [List.getElem_toArray, List.getElem_cons_zero, List.getElem_cons_succ] at x0 x1 x2 x3
                have K0 : Hid (AtL S wr a.1 v0) := H0.out.same (Same.of_below hbw hS)
                have K1 : Hid (AtL S wr a.2.1 v1) := H1.out.same (Same.of_below hbw hS)
                have K2 : Hid (AtL S wr a.2.2.1 _) := H2.out.same (Same.of_below hbw hS)
                by_cases hlt2 : q2 < no
                · rcases Nat.eq_zero_or_pos q2 with rfl | hpos
                  · obtain ⟨br, fr, rfl, hbSr, cc, hcell, hat⟩ := HO.out 0 (by omega)
                    have hbr := hS br hbSr
                    rw [width_DStuffOut] at hcell
                    have e0 : wr.cell? ⟨br, fr, none⟩ = some (cc 0) := (hbw.cell (p := ⟨br, fr, none⟩) (by show br < _; omega)).trans (by simpa using hcell 0 (by omega))
                    have e1 : wr.cell? ⟨br, fr + 1, none⟩ = some (cc 1) := (hbw.cell (p := ⟨br, fr + 1, none⟩) (by show br < _; omega)).trans (by simpa using hcell 1 (by omega))
                    have e2 : wr.cell? ⟨br, fr + 2, none⟩ = some (cc 2) := (hbw.cell (p := ⟨br, fr + 2, none⟩) (by show br < _; omega)).trans (by simpa using hcell 2 (by omega))
                    clear hcell
                    have hat := Lay.same hat (Same.of_below hbw hS)
                    rw [at_DStuffOut] at hat
                    obtain ⟨f, ef⟩ : ∃ f, a.2.2.2[0]'(by omega) = f := ⟨_, rfl⟩
                    rw [ef] at hat
                    obtain ⟨⟨t0, z0⟩, l1, l2⟩ := hat
                    obtain ⟨so1, sc1, t1, _⟩ := id l1
                    rw [t1] at l1
                    have L1 : Hid (AtL S wr f.2.1 _) := l1
                    clear l1
                    obtain ⟨so2, sc2, t2, _⟩ := id l2
                    rw [t2] at l2
                    have L2 : Hid (AtL S wr f.2.2 _) := l2
                    clear l2
                    rw [t0] at e0
                    rw [t1] at e1
                    rw [t2] at e2
                    clear t0 t1 t2
                    have hW : Hid (Below (w.heap.size + 1) (w.alloc (.cells #[v0, v1, .slice ov q cv, .slice (some ⟨br, fr, none⟩) no co] 36)) (wr.alloc (.cells #[.string f.1, .slice so1 f.2.1.length sc1, .slice so2 f.2.2.length sc2] 55))) := hbel.out.alloc (by omega) _
                    have hSa : ∀ b, S b → b < (wr.alloc (.cells #[.string f.1, .slice so1 f.2.1.length sc1, .slice so2 f.2.2.length sc2] 55)).heap.size := fun b hb => by have := hSr b hb; simp; omega
                    have sA : Same S wr (wr.alloc (.cells #[.string f.1, .slice so1 f.2.1.length sc1, .slice so2 f.2.2.length sc2] 55)) := Same.of_alloc wr _ hSr
                    have J0 : Hid (AtL S (wr.alloc (.cells #[.string f.1, .slice so1 f.2.1.length sc1, .slice so2 f.2.2.length sc2] 55)) a.1 v0) := K0.out.same sA
                    have J1 : Hid (AtL S (wr.alloc (.cells #[.string f.1, .slice so1 f.2.1.length sc1, .slice so2 f.2.2.length sc2] 55)) a.2.1 v1) := K1.out.same sA
                    have J2 : Hid (AtL S (wr.alloc (.cells #[.string f.1, .slice so1 f.2.1.length sc1, .slice so2 f.2.2.length sc2] 55)) a.2.2.1 _) := K2.out.same sA
                    have M1 : Hid (AtL S (wr.alloc (.cells #[.string f.1, .slice so1 f.2.1.length sc1, .slice so2 f.2.2.length sc2] 55)) f.2.1 _) := L1.out.same sA
                    have M2 : Hid (AtL S (wr.alloc (.cells #[.string f.1, .slice so1 f.2.1.length sc1, .slice so2 f.2.2.length sc2] 55)) f.2.2 _) := L2.out.same sA
                    have qn0 := fun d os => cell_regrown (cell_row (heap_alloc_new wr (.cells #[.string f.1, .slice so1 f.2.1.length sc1, .slice so2 f.2.2.length sc2] 55)) 0 (.string f.1) rfl).1 d os
                    have qn1 := fun d os => cell_regrown (cell_row (heap_alloc_new wr (.cells #[.string f.1, .slice so1 f.2.1.length sc1, .slice so2 f.2.2.length sc2] 55)) 1 (.slice so1 f.2.1.length sc1) rfl).1 d os
                    have qn2 := fun d os => cell_regrown (cell_row (heap_alloc_new wr (.cells #[.string f.1, .slice so1 f.2.1.length sc1, .slice so2 f.2.2.length sc2] 55)) 2 (.slice so2 f.2.2.length sc2) rfl).1 d os
                    have qx0 := fun d os => cell_regrown (cell_past x0 (by omega) (.cells #[.string f.1, .slice so1 f.2.1.length sc1, .slice so2 f.2.2.length sc2] 55)) d os
                    have qx1 := fun d os => cell_regrown (cell_past x1 (by omega) (.cells #[.string f.1, .slice so1 f.2.1.length sc1, .slice so2 f.2.2.length sc2] 55)) d os
                    have qx2 := fun d os => cell_regrown (cell_past x2 (by omega) (.cells #[.string f.1, .slice so1 f.2.1.length sc1, .slice so2 f.2.2.length sc2] 55)) d os
                    have qx3 := fun d os => cell_regrown (cell_past x3 (by omega) (.cells #[.string f.1, .slice so1 f.2.1.length sc1, .slice so2 f.2.2.length sc2] 55)) d os
                    cases c0 : (nameB f.1)
                    · have hp : outT a.1 a.2.1 a.2.2.1 (prevO a.2.2.2 0) (a.2.2.2[0]'(by omega)) = false := by
                        rw [prev_zero a.2.2.2, ef]
                        simp [outT, c0]
                      go_wp2
                      refine wp_region_quiet_below (by kernel_rfl) (by kernel_rfl) ?_
                      repeat (first | go_big_quiet_step (first | (with_reducible exact nameS_q _ _ z0 _ c0 _ _) | (with_reducible exact vesselS_q S _ _ _ _ a.2.2.1 _ _ J2.out hSa _ _) | (with_reducible exact holdsS_q S _ _ _ _ a.1 a.2.1 f.2.1 f.2.2 _ _ _ _ J0.out J1.out M1.out M2.out hSa (by decide) (by decide) _ c2 _ _)) | quiet_step (first | (with_reducible exact nameS_q _ _ z0 _ c0 _ _) | (with_reducible exact vesselS_q S _ _ _ _ a.2.2.1 _ _ J2.out hSa _ _) | (with_reducible exact holdsS_q S _ _ _ _ a.1 a.2.1 f.2.1 f.2.2 _ _ _ _ J0.out J1.out M1.out M2.out hSa (by decide) (by decide) _ c2 _ _)))
                      refine wpQuiet_nil ?_
                      intro _ hw'
                      obtain ⟨⟨dq, osq⟩, hw''⟩ := hw'
                      subst hw''
                      go_wp2
                      go_ret
                      rw [book_no (fun h => by have := h.2.2.2; rw [ok_no (k := 0) (by omega) hp] at this; cases this)]
                      exact ⟨rfl, below_end (below_of hW.out (below_regrown _ dq osq))⟩
                    · cases c1 : (decide (0 ≤ idxI a.2.2.1 (fun p : DStuffVessel => eqB p.1 f.1)))
                      · cases c2 : (holdsB a.1 a.2.1 f.2.1 f.2.2 1000)
                        · have hp : outT a.1 a.2.1 a.2.2.1 (prevO a.2.2.2 0) (a.2.2.2[0]'(by omega)) = false := by
                            rw [prev_zero a.2.2.2, ef]
                            simp [outT, c0, c1, c2]
                          go_wp2
                          refine wp_region_quiet_below (by kernel_rfl) (by kernel_rfl) ?_
                          repeat (first | go_big_quiet_step (first | (with_reducible exact nameS_q _ _ z0 _ c0 _ _) | (with_reducible exact vesselS_q S _ _ _ _ a.2.2.1 _ _ J2.out hSa _ _) | (with_reducible exact holdsS_q S _ _ _ _ a.1 a.2.1 f.2.1 f.2.2 _ _ _ _ J0.out J1.out M1.out M2.out hSa (by decide) (by decide) _ c2 _ _)) | quiet_step (first | (with_reducible exact nameS_q _ _ z0 _ c0 _ _) | (with_reducible exact vesselS_q S _ _ _ _ a.2.2.1 _ _ J2.out hSa _ _) | (with_reducible exact holdsS_q S _ _ _ _ a.1 a.2.1 f.2.1 f.2.2 _ _ _ _ J0.out J1.out M1.out M2.out hSa (by decide) (by decide) _ c2 _ _)))
                          refine wpQuiet_nil ?_
                          intro _ hw'
                          obtain ⟨⟨dq, osq⟩, hw''⟩ := hw'
                          subst hw''
                          go_wp2
                          go_ret
                          rw [book_no (fun h => by have := h.2.2.2; rw [ok_no (k := 0) (by omega) hp] at this; cases this)]
                          exact ⟨rfl, below_end (below_of hW.out (below_regrown _ dq osq))⟩
                        · have hp : outT a.1 a.2.1 a.2.2.1 (prevO a.2.2.2 0) (a.2.2.2[0]'(by omega)) = true := by
                            rw [prev_zero a.2.2.2, ef]
                            simp [outT, c0, c1, c2]
                          go_wp2
                          refine wp_region_quiet_below (by kernel_rfl) (by kernel_rfl) ?_
                          repeat (first | go_big_quiet_step (first | (with_reducible exact nameS_q _ _ z0 _ c0 _ _) | (with_reducible exact vesselS_q S _ _ _ _ a.2.2.1 _ _ J2.out hSa _ _) | (with_reducible exact holdsS_q S _ _ _ _ a.1 a.2.1 f.2.1 f.2.2 _ _ _ _ J0.out J1.out M1.out M2.out hSa (by decide) (by decide) _ c2 _ _)) | quiet_step (first | (with_reducible exact nameS_q _ _ z0 _ c0 _ _) | (with_reducible exact vesselS_q S _ _ _ _ a.2.2.1 _ _ J2.out hSa _ _) | (with_reducible exact holdsS_q S _ _ _ _ a.1 a.2.1 f.2.1 f.2.2 _ _ _ _ J0.out J1.out M1.out M2.out hSa (by decide) (by decide) _ c2 _ _)))
                          refine wpQuiet_nil ?_
                          intro _ hw'
                          obtain ⟨⟨dq, osq⟩, hw''⟩ := hw'
                          subst hw''
                          go_wp2
                          go_roundw
                          case rel => exact ⟨0 + 1, by omega, by go_num, fun j hj hjk => by
                            by_cases e : j = 0
                            · subst e; exact hp
                            · exact hall.out j hj (by omega), below_of hW.out (below_regrown _ dq osq)⟩
                          case measure => simp [intOf]; omega
                      · have hp : outT a.1 a.2.1 a.2.2.1 (prevO a.2.2.2 0) (a.2.2.2[0]'(by omega)) = false := by
                          rw [prev_zero a.2.2.2, ef]
                          simp [outT, c0, c1]
                        go_wp2
                        refine wp_region_quiet_below (by kernel_rfl) (by kernel_rfl) ?_
                        repeat (first | go_big_quiet_step (first | (with_reducible exact nameS_q _ _ z0 _ c0 _ _) | (with_reducible exact vesselS_q S _ _ _ _ a.2.2.1 _ _ J2.out hSa _ _) | (with_reducible exact holdsS_q S _ _ _ _ a.1 a.2.1 f.2.1 f.2.2 _ _ _ _ J0.out J1.out M1.out M2.out hSa (by decide) (by decide) _ c2 _ _)) | quiet_step (first | (with_reducible exact nameS_q _ _ z0 _ c0 _ _) | (with_reducible exact vesselS_q S _ _ _ _ a.2.2.1 _ _ J2.out hSa _ _) | (with_reducible exact holdsS_q S _ _ _ _ a.1 a.2.1 f.2.1 f.2.2 _ _ _ _ J0.out J1.out M1.out M2.out hSa (by decide) (by decide) _ c2 _ _)))
                        refine wpQuiet_nil ?_
                        intro _ hw'
                        obtain ⟨⟨dq, osq⟩, hw''⟩ := hw'
                        subst hw''
                        go_wp2
                        go_ret
                        rw [book_no (fun h => by have := h.2.2.2; rw [ok_no (k := 0) (by omega) hp] at this; cases this)]
                        exact ⟨rfl, below_end (below_of hW.out (below_regrown _ dq osq))⟩
                  · obtain ⟨m, rfl⟩ : ∃ m, q2 = m + 1 := ⟨q2 - 1, by omega⟩
                    obtain ⟨br, fr, rfl, hbSr, cc, hcell, hat⟩ := HO.out (m + 1) (by omega)
                    have hbr := hS br hbSr
                    rw [width_DStuffOut] at hcell
                    have e0 : wr.cell? ⟨br, fr + (m + 1) * 3, none⟩ = some (cc 0) := (hbw.cell (p := ⟨br, fr + (m + 1) * 3, none⟩) (by show br < _; omega)).trans (by simpa using hcell 0 (by omega))
                    have e1 : wr.cell? ⟨br, fr + (m + 1) * 3 + 1, none⟩ = some (cc 1) := (hbw.cell (p := ⟨br, fr + (m + 1) * 3 + 1, none⟩) (by show br < _; omega)).trans (by simpa using hcell 1 (by omega))
                    have e2 : wr.cell? ⟨br, fr + (m + 1) * 3 + 2, none⟩ = some (cc 2) := (hbw.cell (p := ⟨br, fr + (m + 1) * 3 + 2, none⟩) (by show br < _; omega)).trans (by simpa using hcell 2 (by omega))
                    clear hcell
                    have hat := Lay.same hat (Same.of_below hbw hS)
                    rw [at_DStuffOut] at hat
                    obtain ⟨f, ef⟩ : ∃ f, a.2.2.2[(m + 1)]'(by omega) = f := ⟨_, rfl⟩
                    rw [ef] at hat
                    obtain ⟨⟨t0, z0⟩, l1, l2⟩ := hat
                    obtain ⟨so1, sc1, t1, _⟩ := id l1
                    rw [t1] at l1
                    have L1 : Hid (AtL S wr f.2.1 _) := l1
                    clear l1
                    obtain ⟨so2, sc2, t2, _⟩ := id l2
                    rw [t2] at l2
                    have L2 : Hid (AtL S wr f.2.2 _) := l2
                    clear l2
                    rw [t0] at e0
                    rw [t1] at e1
                    rw [t2] at e2
                    clear t0 t1 t2
                    obtain ⟨b', f', e', _, dd, hcell, hat⟩ := HO.out m (by omega)
                    cases e'
                    rw [width_DStuffOut] at hcell
                    have m0 : wr.cell? ⟨br, fr + m * 3, none⟩ = some (dd 0) := (hbw.cell (p := ⟨br, fr + m * 3, none⟩) (by show br < _; omega)).trans (by simpa using hcell 0 (by omega))
                    clear hcell
                    have hat := Lay.same hat (Same.of_below hbw hS)
                    rw [at_DStuffOut] at hat
                    obtain ⟨g, eg⟩ : ∃ f, a.2.2.2[m]'(by omega) = f := ⟨_, rfl⟩
                    rw [eg] at hat
                    rw [hat.1.1] at m0
                    clear hat
                    have gt0 : decide ((0 : Int) < ((m : Int) + 1)) = true := by rw [decide_eq_true_eq]; omega
                    have hW : Hid (Below (w.heap.size + 1) (w.alloc (.cells #[v0, v1, .slice ov q cv, .slice (some ⟨br, fr, none⟩) no co] 36)) (wr.alloc (.cells #[.string f.1, .slice so1 f.2.1.length sc1, .slice so2 f.2.2.length sc2] 55))) := hbel.out.alloc (by omega) _
                    have hSa : ∀ b, S b → b < (wr.alloc (.cells #[.string f.1, .slice so1 f.2.1.length sc1, .slice so2 f.2.2.length sc2] 55)).heap.size := fun b hb => by have := hSr b hb; simp; omega
                    have sA : Same S wr (wr.alloc (.cells #[.string f.1, .slice so1 f.2.1.length sc1, .slice so2 f.2.2.length sc2] 55)) := Same.of_alloc wr _ hSr
                    have J0 : Hid (AtL S (wr.alloc (.cells #[.string f.1, .slice so1 f.2.1.length sc1, .slice so2 f.2.2.length sc2] 55)) a.1 v0) := K0.out.same sA
                    have J1 : Hid (AtL S (wr.alloc (.cells #[.string f.1, .slice so1 f.2.1.length sc1, .slice so2 f.2.2.length sc2] 55)) a.2.1 v1) := K1.out.same sA
                    have J2 : Hid (AtL S (wr.alloc (.cells #[.string f.1, .slice so1 f.2.1.length sc1, .slice so2 f.2.2.length sc2] 55)) a.2.2.1 _) := K2.out.same sA
                    have M1 : Hid (AtL S (wr.alloc (.cells #[.string f.1, .slice so1 f.2.1.length sc1, .slice so2 f.2.2.length sc2] 55)) f.2.1 _) := L1.out.same sA
                    have M2 : Hid (AtL S (wr.alloc (.cells #[.string f.1, .slice so1 f.2.1.length sc1, .slice so2 f.2.2.length sc2] 55)) f.2.2 _) := L2.out.same sA
                    have qn0 := fun d os => cell_regrown (cell_row (heap_alloc_new wr (.cells #[.string f.1, .slice so1 f.2.1.length sc1, .slice so2 f.2.2.length sc2] 55)) 0 (.string f.1) rfl).1 d os
                    have qn1 := fun d os => cell_regrown (cell_row (heap_alloc_new wr (.cells #[.string f.1, .slice so1 f.2.1.length sc1, .slice so2 f.2.2.length sc2] 55)) 1 (.slice so1 f.2.1.length sc1) rfl).1 d os
                    have qn2 := fun d os => cell_regrown (cell_row (heap_alloc_new wr (.cells #[.string f.1, .slice so1 f.2.1.length sc1, .slice so2 f.2.2.length sc2] 55)) 2 (.slice so2 f.2.2.length sc2) rfl).1 d os
                    have qx0 := fun d os => cell_regrown (cell_past x0 (by omega) (.cells #[.string f.1, .slice so1 f.2.1.length sc1, .slice so2 f.2.2.length sc2] 55)) d os
                    have qx1 := fun d os => cell_regrown (cell_past x1 (by omega) (.cells #[.string f.1, .slice so1 f.2.1.length sc1, .slice so2 f.2.2.length sc2] 55)) d os
                    have qx2 := fun d os => cell_regrown (cell_past x2 (by omega) (.cells #[.string f.1, .slice so1 f.2.1.length sc1, .slice so2 f.2.2.length sc2] 55)) d os
                    have qx3 := fun d os => cell_regrown (cell_past x3 (by omega) (.cells #[.string f.1, .slice so1 f.2.1.length sc1, .slice so2 f.2.2.length sc2] 55)) d os
                    have qm0 := fun d os => cell_regrown (cell_past m0 (by omega) (.cells #[.string f.1, .slice so1 f.2.1.length sc1, .slice so2 f.2.2.length sc2] 55)) d os
                    cases c0 : (nameB f.1)
                    · have hp : outT a.1 a.2.1 a.2.2.1 (prevO a.2.2.2 (m + 1)) (a.2.2.2[(m + 1)]'(by omega)) = false := by
                        rw [prev_succ a.2.2.2 m (by omega), ef, eg]
                        simp [outT, c0]
                      go_wp2
                      refine wp_region_quiet_below (by kernel_rfl) (by kernel_rfl) ?_
                      repeat (first | go_big_quiet_step (first | (with_reducible exact nameS_q _ _ z0 _ c0 _ _) | (with_reducible exact vesselS_q S _ _ _ _ a.2.2.1 _ _ J2.out hSa _ _) | (with_reducible exact holdsS_q S _ _ _ _ a.1 a.2.1 f.2.1 f.2.2 _ _ _ _ J0.out J1.out M1.out M2.out hSa (by decide) (by decide) _ c3 _ _)) | quiet_step (first | (with_reducible exact nameS_q _ _ z0 _ c0 _ _) | (with_reducible exact vesselS_q S _ _ _ _ a.2.2.1 _ _ J2.out hSa _ _) | (with_reducible exact holdsS_q S _ _ _ _ a.1 a.2.1 f.2.1 f.2.2 _ _ _ _ J0.out J1.out M1.out M2.out hSa (by decide) (by decide) _ c3 _ _)))
                      refine wpQuiet_nil ?_
                      intro _ hw'
                      obtain ⟨⟨dq, osq⟩, hw''⟩ := hw'
                      subst hw''
                      go_wp2
                      go_ret
                      rw [book_no (fun h => by have := h.2.2.2; rw [ok_no (k := (m + 1)) (by omega) hp] at this; cases this)]
                      exact ⟨rfl, below_end (below_of hW.out (below_regrown _ dq osq))⟩
                    · cases c1 : (Op.bytesLess g.1.toList f.1.toList)
                      · have hp : outT a.1 a.2.1 a.2.2.1 (prevO a.2.2.2 (m + 1)) (a.2.2.2[(m + 1)]'(by omega)) = false := by
                          rw [prev_succ a.2.2.2 m (by omega), ef, eg]
                          simp [outT, ltB, c0, c1]
                        go_wp2
                        refine wp_region_quiet_below (by kernel_rfl) (by kernel_rfl) ?_
                        repeat (first | go_big_quiet_step (first | (with_reducible exact nameS_q _ _ z0 _ c0 _ _) | (with_reducible exact vesselS_q S _ _ _ _ a.2.2.1 _ _ J2.out hSa _ _) | (with_reducible exact holdsS_q S _ _ _ _ a.1 a.2.1 f.2.1 f.2.2 _ _ _ _ J0.out J1.out M1.out M2.out hSa (by decide) (by decide) _ c3 _ _)) | quiet_step (first | (with_reducible exact nameS_q _ _ z0 _ c0 _ _) | (with_reducible exact vesselS_q S _ _ _ _ a.2.2.1 _ _ J2.out hSa _ _) | (with_reducible exact holdsS_q S _ _ _ _ a.1 a.2.1 f.2.1 f.2.2 _ _ _ _ J0.out J1.out M1.out M2.out hSa (by decide) (by decide) _ c3 _ _)))
                        refine wpQuiet_nil ?_
                        intro _ hw'
                        obtain ⟨⟨dq, osq⟩, hw''⟩ := hw'
                        subst hw''
                        go_wp2
                        go_ret
                        rw [book_no (fun h => by have := h.2.2.2; rw [ok_no (k := (m + 1)) (by omega) hp] at this; cases this)]
                        exact ⟨rfl, below_end (below_of hW.out (below_regrown _ dq osq))⟩
                      · cases c2 : (decide (0 ≤ idxI a.2.2.1 (fun p : DStuffVessel => eqB p.1 f.1)))
                        · cases c3 : (holdsB a.1 a.2.1 f.2.1 f.2.2 1000)
                          · have hp : outT a.1 a.2.1 a.2.2.1 (prevO a.2.2.2 (m + 1)) (a.2.2.2[(m + 1)]'(by omega)) = false := by
                              rw [prev_succ a.2.2.2 m (by omega), ef, eg]
                              simp [outT, ltB, c0, c1, c2, c3]
                            go_wp2
                            refine wp_region_quiet_below (by kernel_rfl) (by kernel_rfl) ?_
                            repeat (first | go_big_quiet_step (first | (with_reducible exact nameS_q _ _ z0 _ c0 _ _) | (with_reducible exact vesselS_q S _ _ _ _ a.2.2.1 _ _ J2.out hSa _ _) | (with_reducible exact holdsS_q S _ _ _ _ a.1 a.2.1 f.2.1 f.2.2 _ _ _ _ J0.out J1.out M1.out M2.out hSa (by decide) (by decide) _ c3 _ _)) | quiet_step (first | (with_reducible exact nameS_q _ _ z0 _ c0 _ _) | (with_reducible exact vesselS_q S _ _ _ _ a.2.2.1 _ _ J2.out hSa _ _) | (with_reducible exact holdsS_q S _ _ _ _ a.1 a.2.1 f.2.1 f.2.2 _ _ _ _ J0.out J1.out M1.out M2.out hSa (by decide) (by decide) _ c3 _ _)))
                            refine wpQuiet_nil ?_
                            intro _ hw'
                            obtain ⟨⟨dq, osq⟩, hw''⟩ := hw'
                            subst hw''
                            go_wp2
                            go_ret
                            rw [book_no (fun h => by have := h.2.2.2; rw [ok_no (k := (m + 1)) (by omega) hp] at this; cases this)]
                            exact ⟨rfl, below_end (below_of hW.out (below_regrown _ dq osq))⟩
                          · have hp : outT a.1 a.2.1 a.2.2.1 (prevO a.2.2.2 (m + 1)) (a.2.2.2[(m + 1)]'(by omega)) = true := by
                              rw [prev_succ a.2.2.2 m (by omega), ef, eg]
                              simp [outT, ltB, c0, c1, c2, c3]
                            go_wp2
                            refine wp_region_quiet_below (by kernel_rfl) (by kernel_rfl) ?_
                            repeat (first | go_big_quiet_step (first | (with_reducible exact nameS_q _ _ z0 _ c0 _ _) | (with_reducible exact vesselS_q S _ _ _ _ a.2.2.1 _ _ J2.out hSa _ _) | (with_reducible exact holdsS_q S _ _ _ _ a.1 a.2.1 f.2.1 f.2.2 _ _ _ _ J0.out J1.out M1.out M2.out hSa (by decide) (by decide) _ c3 _ _)) | quiet_step (first | (with_reducible exact nameS_q _ _ z0 _ c0 _ _) | (with_reducible exact vesselS_q S _ _ _ _ a.2.2.1 _ _ J2.out hSa _ _) | (with_reducible exact holdsS_q S _ _ _ _ a.1 a.2.1 f.2.1 f.2.2 _ _ _ _ J0.out J1.out M1.out M2.out hSa (by decide) (by decide) _ c3 _ _)))
                            refine wpQuiet_nil ?_
                            intro _ hw'
                            obtain ⟨⟨dq, osq⟩, hw''⟩ := hw'
                            subst hw''
                            go_wp2
                            go_roundw
                            case rel => exact ⟨(m + 1) + 1, by omega, by go_num, fun j hj hjk => by
                              by_cases e : j = (m + 1)
                              · subst e; exact hp
                              · exact hall.out j hj (by omega), below_of hW.out (below_regrown _ dq osq)⟩
                            case measure => simp [intOf]; omega
                        · have hp : outT a.1 a.2.1 a.2.2.1 (prevO a.2.2.2 (m + 1)) (a.2.2.2[(m + 1)]'(by omega)) = false := by
                            rw [prev_succ a.2.2.2 m (by omega), ef, eg]
                            simp [outT, ltB, c0, c1, c2]
                          go_wp2
                          refine wp_region_quiet_below (by kernel_rfl) (by kernel_rfl) ?_
                          repeat (first | go_big_quiet_step (first | (with_reducible exact nameS_q _ _ z0 _ c0 _ _) | (with_reducible exact vesselS_q S _ _ _ _ a.2.2.1 _ _ J2.out hSa _ _) | (with_reducible exact holdsS_q S _ _ _ _ a.1 a.2.1 f.2.1 f.2.2 _ _ _ _ J0.out J1.out M1.out M2.out hSa (by decide) (by decide) _ c3 _ _)) | quiet_step (first | (with_reducible exact nameS_q _ _ z0 _ c0 _ _) | (with_reducible exact vesselS_q S _ _ _ _ a.2.2.1 _ _ J2.out hSa _ _) | (with_reducible exact holdsS_q S _ _ _ _ a.1 a.2.1 f.2.1 f.2.2 _ _ _ _ J0.out J1.out M1.out M2.out hSa (by decide) (by decide) _ c3 _ _)))
                          refine wpQuiet_nil ?_
                          intro _ hw'
                          obtain ⟨⟨dq, osq⟩, hw''⟩ := hw'
                          subst hw''
                          go_wp2
                          go_ret
                          rw [book_no (fun h => by have := h.2.2.2; rw [ok_no (k := (m + 1)) (by omega) hp] at this; cases this)]
                          exact ⟨rfl, below_end (below_of hW.out (below_regrown _ dq osq))⟩
                · have hqn2 : q2 = no := by omega
                  subst hqn2
                  go_wp2
                  go_ret
                  rw [book_yes ⟨C0.out, C1.out, ok_yes (by omega) HVA.out, ok_yes (by omega) (fun i h => hall.out i h (by omega))⟩]
                  exact ⟨rfl, hbw⟩
        · have d1 : decide ((12 : Int) < (no : Int)) = true := by simp; omega
          go_enter Tryz.func20, Tryz.ntmps20
          go_wp2_with fail
          refine (foesokS_any S _ _ _ _ a.1 _ K0.out hSr).mono ?_
          rintro e w1 ⟨rfl, hb1⟩
          rw [c0]
          have hbel1 : Hid (Below (w.heap.size + 1) (w.alloc (.cells #[v0, v1, .slice ov nv cv, .slice oo no co] 36)) w1) := by simpa [Hid] using hb1
          clear hb1
          have y0 := box_at _ _ hbel1.out 0 (v0) rfl
          have y1 := box_at _ _ hbel1.out 1 (v1) rfl
          have y2 := box_at _ _ hbel1.out 2 (.slice ov nv cv) rfl
          have y3 := box_at _ _ hbel1.out 3 (.slice oo no co) rfl
          go_wp2_with fail
          refine (lotsS_any S _ _ _ _ a.2.1 _ (H1.out.same (Same.of_below (below_end hbel1.out) hS)) (fun b hb => by have := hS b hb; have := (below_end hbel1.out).size; omega)).mono ?_
          rintro e w2 ⟨rfl, hb2⟩
          rw [c1]
          have hbel2 : Hid (Below (w.heap.size + 1) (w.alloc (.cells #[v0, v1, .slice ov nv cv, .slice oo no co] 36)) w2) := below_of hbel1.out hb2
          clear hb2
          have z0 := box_at _ _ hbel2.out 0 (v0) rfl
          have z1 := box_at _ _ hbel2.out 1 (v1) rfl
          have z2 := box_at _ _ hbel2.out 2 (.slice ov nv cv) rfl
          have z3 := box_at _ _ hbel2.out 3 (.slice oo no co) rfl
          go_wp2_with fail
          go_ret
          rw [book_no (fun h => by have := h.2.2.2; rw [ok_long (by omega)] at this; cases this)]
          exact ⟨rfl, below_end hbel2.out⟩
      · have d0 : decide ((8 : Int) < (nv : Int)) = true := by simp; omega
        go_enter Tryz.func20, Tryz.ntmps20
        go_wp2_with fail
        refine (foesokS_any S _ _ _ _ a.1 _ K0.out hSr).mono ?_
        rintro e w1 ⟨rfl, hb1⟩
        rw [c0]
        have hbel1 : Hid (Below (w.heap.size + 1) (w.alloc (.cells #[v0, v1, .slice ov nv cv, .slice oo no co] 36)) w1) := by simpa [Hid] using hb1
        clear hb1
        have y0 := box_at _ _ hbel1.out 0 (v0) rfl
        have y1 := box_at _ _ hbel1.out 1 (v1) rfl
        have y2 := box_at _ _ hbel1.out 2 (.slice ov nv cv) rfl
        have y3 := box_at _ _ hbel1.out 3 (.slice oo no co) rfl
        go_wp2_with fail
        refine (lotsS_any S _ _ _ _ a.2.1 _ (H1.out.same (Same.of_below (below_end hbel1.out) hS)) (fun b hb => by have := hS b hb; have := (below_end hbel1.out).size; omega)).mono ?_
        rintro e w2 ⟨rfl, hb2⟩
        rw [c1]
        have hbel2 : Hid (Below (w.heap.size + 1) (w.alloc (.cells #[v0, v1, .slice ov nv cv, .slice oo no co] 36)) w2) := below_of hbel1.out hb2
        clear hb2
        have z0 := box_at _ _ hbel2.out 0 (v0) rfl
        have z1 := box_at _ _ hbel2.out 1 (v1) rfl
        have z2 := box_at _ _ hbel2.out 2 (.slice ov nv cv) rfl
        have z3 := box_at _ _ hbel2.out 3 (.slice oo no co) rfl
        go_wp2_with fail
        go_ret
        rw [book_no (fun h => by have := h.2.2.1; rw [ok_long (by omega)] at this; cases this)]
        exact ⟨rfl, below_end hbel2.out⟩

end Go.Proofs.YthleodbbppgadaaGreat
