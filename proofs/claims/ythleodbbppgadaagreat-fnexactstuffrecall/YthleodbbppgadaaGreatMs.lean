/-
  The model's test of what a vessel or an out holds and may hold.
-/
import Derived.Test.YthleodbbppgadaaGreatMr
namespace Go.Proofs.YthleodbbppgadaaGreat
open Go.RowKit

/-- One part that is as it is to be; how much the first k parts are together; one name of what may be in it. -/
def partT (may : List ByteArray) : Option DStuffPart → DStuffPart → Bool
  | none, f => hasB may f.1 && inB f.2 1 1000
  | some p, f => hasB may f.1 && inB f.2 1 1000 && ltB p.1 f.1
def psum (l : List DStuffPart) (k : Nat) : Int := ((l.take k).map (fun p => p.2)).sum
theorem psum_succ (l : List DStuffPart) (k : Nat) (h : k < l.length) : psum l (k + 1) = psum l k + l[k].2 := by
  simp only [psum]
  rw [List.take_add_one, List.getElem?_eq_getElem h, List.map_append, List.sum_append]
  simp
def mayT (lots : List DStuffLot) : Option ByteArray → ByteArray → Bool
  | none, f => !((stuffOf lots f).toList == [])
  | some p, f => !((stuffOf lots f).toList == []) && ltB p f
def HoldsP (foes : List DStuffFoe) (lots : List DStuffLot) (parts : List DStuffPart) (may : List ByteArray) (most : Int) : Prop :=
  (∀ i (h : i < parts.length), partT may (prevO parts i) parts[i] = true) ∧ (∀ k, k ≤ parts.length → psum parts k ≤ most) ∧
  (∀ i (h : i < may.length), mayT lots (prevO may i) may[i] = true ∧ ∀ k (hk : k < i), foeB foes (stuffOf lots may[i]) (stuffOf lots (may[k]'(by omega))) = false)
noncomputable def holdsB (foes : List DStuffFoe) (lots : List DStuffLot) (parts : List DStuffPart) (may : List ByteArray) (most : Int) : Bool := @decide (HoldsP foes lots parts may most) (Classical.propDecidable _)
theorem holds_yes {foes : List DStuffFoe} {lots : List DStuffLot} {parts : List DStuffPart} {may : List ByteArray} {most : Int} (h : HoldsP foes lots parts may most) : holdsB foes lots parts may most = true := by
  unfold holdsB; exact @decide_eq_true _ (Classical.propDecidable _) h
theorem holds_no {foes : List DStuffFoe} {lots : List DStuffLot} {parts : List DStuffPart} {may : List ByteArray} {most : Int} (h : ¬ HoldsP foes lots parts may most) : holdsB foes lots parts may most = false := by
  unfold holdsB; exact @decide_eq_false _ (Classical.propDecidable _) h

open Go.Sort in
theorem hasS_q (S : Nat → Prop) (v : Value) (l : List ByteArray) (x : ByteArray) (wr : World) (h : AtL S wr l v) (hS : ∀ b, S b → b < wr.heap.size) (r : Bool) (hr : hasB l x = r) (d : Nat) (os : Array Obj) : Calls Tryz.prog 21 #[v, .string x] (grow (redrawn wr d) os) fun e w'' => e = .returned (.bool r) ∧ ∃ p : Regrown, w'' = grow (redrawn wr p.d) p.os :=
  Calls.regrown_of (by subst hr; exact hasS_any S v l x _ (h.same (Same.of_below (below_regrown wr d os) hS)))
open Go.Sort in
theorem in_q (n lo hi : Int) (wr : World) (r : Bool) (hr : inB n lo hi = r) (d : Nat) (os : Array Obj) : Calls Tryz.prog 47 #[.int .i64 n, .int .i64 lo, .int .i64 hi] (grow (redrawn wr d) os) fun e w'' => e = .returned (.bool r) ∧ ∃ p : Regrown, w'' = grow (redrawn wr p.d) p.os :=
  Calls.regrown_of ((inB_any n lo hi _).mono fun _ _ ⟨he, hw⟩ => ⟨by subst hr; exact he, by subst hw; exact Below.refl _ _⟩)

set_option maxRecDepth 100000 in
set_option maxHeartbeats 16000000 in
theorem holdsS_any (S : Nat → Prop) (v0 v1 v2 v3 : Value) (foes : List DStuffFoe) (lots : List DStuffLot) (parts : List DStuffPart) (may : List ByteArray) (vp vm : Value) (most : Int) (w : World) (h0 : AtL S w foes v0) (h1 : AtL S w lots v1) (h2 : AtL S w parts vp) (h3 : AtL S w may vm) (hS : ∀ b, S b → b < w.heap.size) (m0 : 0 ≤ most) (m1 : most ≤ 1000) :
    Calls Tryz.prog 48 #[.agg #[v0, v1, v2, v3], vp, vm, .int .i64 most] w fun e w' => e = .returned (.bool (holdsB foes lots parts may most)) ∧ Below w.heap.size w w' := by
  have H0 : Hid (AtL S w foes v0) := h0
  have H1 : Hid (AtL S w lots v1) := h1
  clear h0 h1
  obtain ⟨op, cp, rfl, hnp, hcp⟩ := h2
  obtain ⟨np, enp⟩ : ∃ n, parts.length = n := ⟨_, rfl⟩
  rw [enp] at hnp
  rw [enp]
  unfold maxLen at hnp
  have HP : Hid _ := hcp
  clear hcp
  obtain ⟨om, cm, evm, hnm, hcm⟩ := id h3
  subst evm
  obtain ⟨nm, enm⟩ : ∃ n, may.length = n := ⟨_, rfl⟩
  rw [enm] at hnm h3
  rw [enm]
  unfold maxLen at hnm
  have HM : Hid (AtL S w may (.slice om nm cm)) := h3
  have HMC : Hid _ := hcm
  clear hcm h3
  go_enter Tryz.func48, Tryz.ntmps48
  go_wp2
  go_loopw [9, 10] (fun t i wr => ∃ (q : Nat) (y : Int), q ≤ np ∧ i = .int .i64 q ∧ t = .int .i64 y ∧ 0 ≤ y ∧ y ≤ most ∧ Hid (y = psum parts q) ∧ Hid (∀ j, j ≤ q → psum parts j ≤ most) ∧ Hid (∀ j (hj : j < parts.length), j < q → partT may (prevO parts j) parts[j] = true) ∧ Hid (Below (w.heap.size + 1) (w.alloc (.cells #[v0, v1, v2, v3] 36)) wr)) (fun _ i _ => np - (intOf i).toNat)
  case atStart => exact ⟨0, 0, Nat.zero_le _, rfl, rfl, Int.le_refl _, m0, rfl, fun j hj => by rw [Nat.le_zero.1 hj]; exact m0, fun _ _ h => by omega, Below.refl _ _⟩
  case round =>
    obtain ⟨q, y, hq, rfl, rfl, hy0, hy1, hys, hsum, hall, hbel⟩ := hrel
    have hbw := below_end hbel.out
    have hsz : w.heap.size + 1 ≤ wr.heap.size := by have := hbel.out.size; simpa using this
    have hSr : ∀ b, S b → b < wr.heap.size := fun b hb => by have := hS b hb; omega
    have x0 := box_at _ _ hbel.out 0 _ rfl
    have x1 := box_at _ _ hbel.out 1 _ rfl
    have x2 := box_at _ _ hbel.out 2 _ rfl
    have x3 := box_at _ _ hbel.out 3 _ rfl
    simp only [List.getElem_toArray, List.getElem_cons_zero, List.getElem_cons_succ] at x0 x1 x2 x3
    have qx0 := fun d os => cell_regrown x0 d os
    have qx1 := fun d os => cell_regrown x1 d os
    have qx2 := fun d os => cell_regrown x2 d os
    have qx3 := fun d os => cell_regrown x3 d os
    have K0 : Hid (AtL S wr foes v0) := H0.out.same (Same.of_below hbw hS)
    have K1 : Hid (AtL S wr lots v1) := H1.out.same (Same.of_below hbw hS)
    have KM : Hid (AtL S wr may (.slice om nm cm)) := HM.out.same (Same.of_below hbw hS)
    by_cases hlt : q < np
    · rcases Nat.eq_zero_or_pos q with rfl | hpos
      · obtain ⟨bp, fp, rfl, hbSp, cc, hcell, hat⟩ := HP.out 0 (by omega)
        have hbp := hS bp hbSp
        rw [width_DStuffPart] at hcell
        have e0 : wr.cell? ⟨bp, fp, none⟩ = some (cc 0) := (hbw.cell (p := ⟨bp, fp, none⟩) (by show bp < _; omega)).trans (by simpa using hcell 0 (by omega))
        have e1 : wr.cell? ⟨bp, fp + 1, none⟩ = some (cc 1) := (hbw.cell (p := ⟨bp, fp + 1, none⟩) (by show bp < _; omega)).trans (by simpa using hcell 1 (by omega))
        clear hcell
        rw [at_DStuffPart] at hat
        obtain ⟨⟨t0, _⟩, t1, el, eu⟩ := hat
        rw [t0] at e0
        rw [t1] at e1
        clear t0 t1
        obtain ⟨f, ef⟩ : ∃ f, parts[0]'(by omega) = f := ⟨_, rfl⟩
        rw [ef] at e0 e1 el eu
        have qe0 := fun d os => cell_regrown e0 d os
        have qe1 := fun d os => cell_regrown e1 d os
        cases c0 : (hasB may f.1)
        · have hp : partT may (prevO parts 0) (parts[0]'(by omega)) = false := by
            rw [prev_zero parts, ef]
            simp [partT, c0]
          go_wp2
          refine wp_region_quiet_below (by kernel_rfl) (by kernel_rfl) ?_
          repeat (first | go_big_quiet_step (first | (with_reducible exact hasS_q S _ may _ _ KM.out hSr _ c0 _ _) | (with_reducible exact in_q _ _ _ _ _ c1 _ _)) | quiet_step (first | (with_reducible exact hasS_q S _ may _ _ KM.out hSr _ c0 _ _) | (with_reducible exact in_q _ _ _ _ _ c1 _ _)))
          refine wpQuiet_nil ?_
          intro _ hw'
          obtain ⟨⟨dq, osq⟩, hw''⟩ := hw'
          subst hw''
          go_wp2
          go_ret
          rw [holds_no (fun h => by have := h.1 0 (by omega); rw [hp] at this; cases this)]
          exact ⟨rfl, below_end (below_of hbel.out (below_regrown _ dq osq))⟩
        · cases c1 : (inB f.2 1 1000)
          · have hp : partT may (prevO parts 0) (parts[0]'(by omega)) = false := by
              rw [prev_zero parts, ef]
              simp [partT, c0, c1]
            go_wp2
            refine wp_region_quiet_below (by kernel_rfl) (by kernel_rfl) ?_
            repeat (first | go_big_quiet_step (first | (with_reducible exact hasS_q S _ may _ _ KM.out hSr _ c0 _ _) | (with_reducible exact in_q _ _ _ _ _ c1 _ _)) | quiet_step (first | (with_reducible exact hasS_q S _ may _ _ KM.out hSr _ c0 _ _) | (with_reducible exact in_q _ _ _ _ _ c1 _ _)))
            refine wpQuiet_nil ?_
            intro _ hw'
            obtain ⟨⟨dq, osq⟩, hw''⟩ := hw'
            subst hw''
            go_wp2
            go_ret
            rw [holds_no (fun h => by have := h.1 0 (by omega); rw [hp] at this; cases this)]
            exact ⟨rfl, below_end (below_of hbel.out (below_regrown _ dq osq))⟩
          · have hp : partT may (prevO parts 0) (parts[0]'(by omega)) = true := by
              rw [prev_zero parts, ef]
              simp [partT, c0, c1]
            have hin : 1 ≤ f.2 ∧ f.2 ≤ 1000 := by have := c1; unfold inB at this; exact of_decide_eq_true this
            have hps : psum parts (0 + 1) = y + f.2 := by rw [psum_succ parts 0 (by omega), ef, hys.out]
            have HPS : Hid _ := hps
            clear hps
            by_cases hov : most < y + f.2
            · have hd : decide (most < y + f.2) = true := decide_eq_true hov
              go_wp2
              refine wp_region_quiet_below (by kernel_rfl) (by kernel_rfl) ?_
              repeat (first | go_big_quiet_step (first | (with_reducible exact hasS_q S _ may _ _ KM.out hSr _ c0 _ _) | (with_reducible exact in_q _ _ _ _ _ c1 _ _)) | quiet_step (first | (with_reducible exact hasS_q S _ may _ _ KM.out hSr _ c0 _ _) | (with_reducible exact in_q _ _ _ _ _ c1 _ _)))
              refine wpQuiet_nil ?_
              intro _ hw'
              obtain ⟨⟨dq, osq⟩, hw''⟩ := hw'
              subst hw''
              go_wp2
              go_ret
              rw [holds_no (fun h => by have := h.2.1 (0 + 1) (by omega); rw [HPS.out] at this; omega)]
              exact ⟨rfl, below_end (below_of hbel.out (below_regrown _ dq osq))⟩
            · have hd : decide (most < y + f.2) = false := decide_eq_false hov
              go_wp2
              refine wp_region_quiet_below (by kernel_rfl) (by kernel_rfl) ?_
              repeat (first | go_big_quiet_step (first | (with_reducible exact hasS_q S _ may _ _ KM.out hSr _ c0 _ _) | (with_reducible exact in_q _ _ _ _ _ c1 _ _)) | quiet_step (first | (with_reducible exact hasS_q S _ may _ _ KM.out hSr _ c0 _ _) | (with_reducible exact in_q _ _ _ _ _ c1 _ _)))
              refine wpQuiet_nil ?_
              intro _ hw'
              obtain ⟨⟨dq, osq⟩, hw''⟩ := hw'
              subst hw''
              go_wp2
              go_roundw
              case rel => exact ⟨0 + 1, y + f.2, by omega, by go_num, rfl, by omega, by omega, HPS.out.symm, fun j hj => by
                by_cases e : j = 0 + 1
                · subst e; rw [HPS.out]; omega
                · exact hsum.out j (by omega), fun j hj hjk => by
                by_cases e : j = 0
                · subst e; exact hp
                · exact hall.out j hj (by omega), below_of hbel.out (below_regrown _ dq osq)⟩
              case measure => simp [intOf]; omega
      · obtain ⟨m, rfl⟩ : ∃ m, q = m + 1 := ⟨q - 1, by omega⟩
        obtain ⟨bp, fp, rfl, hbSp, cc, hcell, hat⟩ := HP.out (m + 1) (by omega)
        have hbp := hS bp hbSp
        rw [width_DStuffPart] at hcell
        have e0 : wr.cell? ⟨bp, fp + (m + 1) * 2, none⟩ = some (cc 0) := (hbw.cell (p := ⟨bp, fp + (m + 1) * 2, none⟩) (by show bp < _; omega)).trans (by simpa using hcell 0 (by omega))
        have e1 : wr.cell? ⟨bp, fp + (m + 1) * 2 + 1, none⟩ = some (cc 1) := (hbw.cell (p := ⟨bp, fp + (m + 1) * 2 + 1, none⟩) (by show bp < _; omega)).trans (by simpa using hcell 1 (by omega))
        clear hcell
        rw [at_DStuffPart] at hat
        obtain ⟨⟨t0, _⟩, t1, el, eu⟩ := hat
        rw [t0] at e0
        rw [t1] at e1
        clear t0 t1
        obtain ⟨f, ef⟩ : ∃ f, parts[(m + 1)]'(by omega) = f := ⟨_, rfl⟩
        rw [ef] at e0 e1 el eu
        have qe0 := fun d os => cell_regrown e0 d os
        have qe1 := fun d os => cell_regrown e1 d os
        obtain ⟨b', f', e', _, dd, hcell, hat⟩ := HP.out m (by omega)
        cases e'
        rw [width_DStuffPart] at hcell
        have m0 : wr.cell? ⟨bp, fp + m * 2, none⟩ = some (dd 0) := (hbw.cell (p := ⟨bp, fp + m * 2, none⟩) (by show bp < _; omega)).trans (by simpa using hcell 0 (by omega))
        have m1 : wr.cell? ⟨bp, fp + m * 2 + 1, none⟩ = some (dd 1) := (hbw.cell (p := ⟨bp, fp + m * 2 + 1, none⟩) (by show bp < _; omega)).trans (by simpa using hcell 1 (by omega))
        clear hcell
        rw [at_DStuffPart] at hat
        obtain ⟨⟨t0, _⟩, t1, ml, mu⟩ := hat
        rw [t0] at m0
        rw [t1] at m1
        clear t0 t1
        obtain ⟨g, eg⟩ : ∃ f, parts[m]'(by omega) = f := ⟨_, rfl⟩
        rw [eg] at m0 m1 ml mu
        have qm0 := fun d os => cell_regrown m0 d os
        have qm1 := fun d os => cell_regrown m1 d os
        have gt0 : decide ((0 : Int) < ((m : Int) + 1)) = true := by rw [decide_eq_true_eq]; omega
        cases c0 : (hasB may f.1)
        · have hp : partT may (prevO parts (m + 1)) (parts[(m + 1)]'(by omega)) = false := by
            rw [prev_succ parts m (by omega), ef, eg]
            simp [partT, c0]
          go_wp2
          refine wp_region_quiet_below (by kernel_rfl) (by kernel_rfl) ?_
          repeat (first | go_big_quiet_step (first | (with_reducible exact hasS_q S _ may _ _ KM.out hSr _ c0 _ _) | (with_reducible exact in_q _ _ _ _ _ c1 _ _)) | quiet_step (first | (with_reducible exact hasS_q S _ may _ _ KM.out hSr _ c0 _ _) | (with_reducible exact in_q _ _ _ _ _ c1 _ _)))
          refine wpQuiet_nil ?_
          intro _ hw'
          obtain ⟨⟨dq, osq⟩, hw''⟩ := hw'
          subst hw''
          go_wp2
          go_ret
          rw [holds_no (fun h => by have := h.1 (m + 1) (by omega); rw [hp] at this; cases this)]
          exact ⟨rfl, below_end (below_of hbel.out (below_regrown _ dq osq))⟩
        · cases c1 : (inB f.2 1 1000)
          · have hp : partT may (prevO parts (m + 1)) (parts[(m + 1)]'(by omega)) = false := by
              rw [prev_succ parts m (by omega), ef, eg]
              simp [partT, c0, c1]
            go_wp2
            refine wp_region_quiet_below (by kernel_rfl) (by kernel_rfl) ?_
            repeat (first | go_big_quiet_step (first | (with_reducible exact hasS_q S _ may _ _ KM.out hSr _ c0 _ _) | (with_reducible exact in_q _ _ _ _ _ c1 _ _)) | quiet_step (first | (with_reducible exact hasS_q S _ may _ _ KM.out hSr _ c0 _ _) | (with_reducible exact in_q _ _ _ _ _ c1 _ _)))
            refine wpQuiet_nil ?_
            intro _ hw'
            obtain ⟨⟨dq, osq⟩, hw''⟩ := hw'
            subst hw''
            go_wp2
            go_ret
            rw [holds_no (fun h => by have := h.1 (m + 1) (by omega); rw [hp] at this; cases this)]
            exact ⟨rfl, below_end (below_of hbel.out (below_regrown _ dq osq))⟩
          · cases c2 : (Op.bytesLess g.1.toList f.1.toList)
            · have hp : partT may (prevO parts (m + 1)) (parts[(m + 1)]'(by omega)) = false := by
                rw [prev_succ parts m (by omega), ef, eg]
                simp [partT, ltB, c0, c1, c2]
              go_wp2
              refine wp_region_quiet_below (by kernel_rfl) (by kernel_rfl) ?_
              repeat (first | go_big_quiet_step (first | (with_reducible exact hasS_q S _ may _ _ KM.out hSr _ c0 _ _) | (with_reducible exact in_q _ _ _ _ _ c1 _ _)) | quiet_step (first | (with_reducible exact hasS_q S _ may _ _ KM.out hSr _ c0 _ _) | (with_reducible exact in_q _ _ _ _ _ c1 _ _)))
              refine wpQuiet_nil ?_
              intro _ hw'
              obtain ⟨⟨dq, osq⟩, hw''⟩ := hw'
              subst hw''
              go_wp2
              go_ret
              rw [holds_no (fun h => by have := h.1 (m + 1) (by omega); rw [hp] at this; cases this)]
              exact ⟨rfl, below_end (below_of hbel.out (below_regrown _ dq osq))⟩
            · have hp : partT may (prevO parts (m + 1)) (parts[(m + 1)]'(by omega)) = true := by
                rw [prev_succ parts m (by omega), ef, eg]
                simp [partT, ltB, c0, c1, c2]
              have hin : 1 ≤ f.2 ∧ f.2 ≤ 1000 := by have := c1; unfold inB at this; exact of_decide_eq_true this
              have hps : psum parts ((m + 1) + 1) = y + f.2 := by rw [psum_succ parts (m + 1) (by omega), ef, hys.out]
              have HPS : Hid _ := hps
              clear hps
              by_cases hov : most < y + f.2
              · have hd : decide (most < y + f.2) = true := decide_eq_true hov
                go_wp2
                refine wp_region_quiet_below (by kernel_rfl) (by kernel_rfl) ?_
                repeat (first | go_big_quiet_step (first | (with_reducible exact hasS_q S _ may _ _ KM.out hSr _ c0 _ _) | (with_reducible exact in_q _ _ _ _ _ c1 _ _)) | quiet_step (first | (with_reducible exact hasS_q S _ may _ _ KM.out hSr _ c0 _ _) | (with_reducible exact in_q _ _ _ _ _ c1 _ _)))
                refine wpQuiet_nil ?_
                intro _ hw'
                obtain ⟨⟨dq, osq⟩, hw''⟩ := hw'
                subst hw''
                go_wp2
                go_ret
                rw [holds_no (fun h => by have := h.2.1 ((m + 1) + 1) (by omega); rw [HPS.out] at this; omega)]
                exact ⟨rfl, below_end (below_of hbel.out (below_regrown _ dq osq))⟩
              · have hd : decide (most < y + f.2) = false := decide_eq_false hov
                go_wp2
                refine wp_region_quiet_below (by kernel_rfl) (by kernel_rfl) ?_
                repeat (first | go_big_quiet_step (first | (with_reducible exact hasS_q S _ may _ _ KM.out hSr _ c0 _ _) | (with_reducible exact in_q _ _ _ _ _ c1 _ _)) | quiet_step (first | (with_reducible exact hasS_q S _ may _ _ KM.out hSr _ c0 _ _) | (with_reducible exact in_q _ _ _ _ _ c1 _ _)))
                refine wpQuiet_nil ?_
                intro _ hw'
                obtain ⟨⟨dq, osq⟩, hw''⟩ := hw'
                subst hw''
                go_wp2
                go_roundw
                case rel => exact ⟨(m + 1) + 1, y + f.2, by omega, by go_num, rfl, by omega, by omega, HPS.out.symm, fun j hj => by
                  by_cases e : j = (m + 1) + 1
                  · subst e; rw [HPS.out]; omega
                  · exact hsum.out j (by omega), fun j hj hjk => by
                  by_cases e : j = (m + 1)
                  · subst e; exact hp
                  · exact hall.out j hj (by omega), below_of hbel.out (below_regrown _ dq osq)⟩
                case measure => simp [intOf]; omega
    · have hqn : q = np := by omega
      subst hqn
      have HPA : Hid (∀ j (hj : j < parts.length), partT may (prevO parts j) parts[j] = true) := fun j hj => hall.out j hj (by omega)
      have HPB : Hid (∀ j, j ≤ parts.length → psum parts j ≤ most) := fun j hj => hsum.out j (by omega)
      clear hall hsum hbw hsz hSr x0 x1 x2 x3 qx0 qx1 qx2 qx3 K0 K1 KM hys
      go_wp2
      go_loopw [11] (fun i wr => ∃ (q2 : Nat), q2 ≤ nm ∧ i = .int .i64 q2 ∧ Hid (∀ j (hj : j < may.length), j < q2 → mayT lots (prevO may j) may[j] = true ∧ ∀ k (hk : k < j), foeB foes (stuffOf lots may[j]) (stuffOf lots (may[k]'(by omega))) = false) ∧ Hid (Below (w.heap.size + 1) (w.alloc (.cells #[v0, v1, v2, v3] 36)) wr)) (fun i _ => nm - (intOf i).toNat)
      case atStart => exact ⟨0, Nat.zero_le _, rfl, fun _ _ h => by omega, hbel⟩
      case round =>
        clear hbel
        obtain ⟨q2, hq2, rfl, hall, hbel⟩ := hrel
        have hbw := below_end hbel.out
        have hsz : w.heap.size + 1 ≤ wr.heap.size := by have := hbel.out.size; simpa using this
        have hSr : ∀ b, S b → b < wr.heap.size := fun b hb => by have := hS b hb; omega
        have x0 := box_at _ _ hbel.out 0 _ rfl
        have x1 := box_at _ _ hbel.out 1 _ rfl
        have x2 := box_at _ _ hbel.out 2 _ rfl
        have x3 := box_at _ _ hbel.out 3 _ rfl
        simp only [List.getElem_toArray, List.getElem_cons_zero, List.getElem_cons_succ] at x0 x1 x2 x3
        have qx0 := fun d os => cell_regrown x0 d os
        have qx1 := fun d os => cell_regrown x1 d os
        have qx2 := fun d os => cell_regrown x2 d os
        have qx3 := fun d os => cell_regrown x3 d os
        have K0 : Hid (AtL S wr foes v0) := H0.out.same (Same.of_below hbw hS)
        have K1 : Hid (AtL S wr lots v1) := H1.out.same (Same.of_below hbw hS)
        have KM : Hid (AtL S wr may (.slice om nm cm)) := HM.out.same (Same.of_below hbw hS)
        by_cases hlt2 : q2 < nm
        · rcases Nat.eq_zero_or_pos q2 with rfl | hpos
          · obtain ⟨bm, fm, rfl, hbSm, cc, hcell, hat⟩ := HMC.out 0 (by omega)
            have hbm := hS bm hbSm
            rw [width_str] at hcell
            have e0 : wr.cell? ⟨bm, fm, none⟩ = some (cc 0) := (hbw.cell (p := ⟨bm, fm, none⟩) (by show bm < _; omega)).trans (by simpa using hcell 0 (by omega))
            clear hcell
            rw [at_str] at hat
            rw [hat.1] at e0
            clear hat
            obtain ⟨f, ef⟩ : ∃ f, may[0]'(by omega) = f := ⟨_, rfl⟩
            rw [ef] at e0
            have qe0 := fun d os => cell_regrown e0 d os
            cases c0 : ((stuffOf lots f).toList == [])
            · have hp : mayT lots (prevO may 0) (may[0]'(by omega)) = true := by
                rw [prev_zero may, ef]
                simp [mayT, c0]
              go_wp2
              refine wp_region_quiet_below (by kernel_rfl) (by kernel_rfl) ?_
              repeat (first | go_big_quiet_step (with_reducible exact stuffS_q S _ _ _ _ lots _ _ K1.out hSr _ _) | quiet_step (with_reducible exact stuffS_q S _ _ _ _ lots _ _ K1.out hSr _ _))
              refine wpQuiet_nil ?_
              intro _ hw'
              obtain ⟨⟨dq, osq⟩, hw''⟩ := hw'
              subst hw''
              have hbel2 : Hid _ := below_of hbel.out (below_regrown _ dq osq)
              clear hbel hbw hsz hSr x0 x1 x2 x3 qx0 qx1 qx2 qx3 K0 K1 KM e0 qe0
              go_wp2
              go_loopw [12] (fun i wr => ∃ (k : Nat), k ≤ 0 ∧ i = .int .i64 k ∧ Hid (∀ j (hj : j < may.length), j < k → foeB foes (stuffOf lots f) (stuffOf lots may[j]) = false) ∧ Hid (Below (w.heap.size + 1) (w.alloc (.cells #[v0, v1, v2, v3] 36)) wr)) (fun i _ => 0 - (intOf i).toNat)
              case atStart => exact ⟨0, Nat.zero_le _, rfl, fun _ _ h => by omega, hbel2⟩
              case round =>
                clear hbel2
                obtain ⟨k, hk, rfl, hin, hbel⟩ := hrel
                have hbw := below_end hbel.out
                have hsz : w.heap.size + 1 ≤ wr.heap.size := by have := hbel.out.size; simpa using this
                have hSr : ∀ b, S b → b < wr.heap.size := fun b hb => by have := hS b hb; omega
                have x0 := box_at _ _ hbel.out 0 _ rfl
                have x1 := box_at _ _ hbel.out 1 _ rfl
                have x2 := box_at _ _ hbel.out 2 _ rfl
                have x3 := box_at _ _ hbel.out 3 _ rfl
                simp only [List.getElem_toArray, List.getElem_cons_zero, List.getElem_cons_succ] at x0 x1 x2 x3
                have qx0 := fun d os => cell_regrown x0 d os
                have qx1 := fun d os => cell_regrown x1 d os
                have qx2 := fun d os => cell_regrown x2 d os
                have qx3 := fun d os => cell_regrown x3 d os
                have K0 : Hid (AtL S wr foes v0) := H0.out.same (Same.of_below hbw hS)
                have K1 : Hid (AtL S wr lots v1) := H1.out.same (Same.of_below hbw hS)
                have hkn : k = 0 := by omega
                subst hkn
                go_wp2
                go_roundw
                case rel => exact ⟨0 + 1, by omega, by go_num, fun j hj hjk => by
                  by_cases e : j = 0
                  · subst e; exact ⟨hp, fun k hk => by rw [ef]; exact hin.out k (by omega) hk⟩
                  · exact hall.out j hj (by omega), hbel⟩
                case measure => simp [intOf]; omega
            · have hp : mayT lots (prevO may 0) (may[0]'(by omega)) = false := by
                rw [prev_zero may, ef]
                simp [mayT, c0]
              go_wp2
              refine wp_region_quiet_below (by kernel_rfl) (by kernel_rfl) ?_
              repeat (first | go_big_quiet_step (with_reducible exact stuffS_q S _ _ _ _ lots _ _ K1.out hSr _ _) | quiet_step (with_reducible exact stuffS_q S _ _ _ _ lots _ _ K1.out hSr _ _))
              refine wpQuiet_nil ?_
              intro _ hw'
              obtain ⟨⟨dq, osq⟩, hw''⟩ := hw'
              subst hw''
              go_wp2
              go_ret
              rw [holds_no (fun h => by have := (h.2.2 0 (by omega)).1; rw [hp] at this; cases this)]
              exact ⟨rfl, below_end (below_of hbel.out (below_regrown _ dq osq))⟩
          · obtain ⟨m, rfl⟩ : ∃ m, q2 = m + 1 := ⟨q2 - 1, by omega⟩
            obtain ⟨bm, fm, rfl, hbSm, cc, hcell, hat⟩ := HMC.out (m + 1) (by omega)
            have hbm := hS bm hbSm
            rw [width_str] at hcell
            have e0 : wr.cell? ⟨bm, fm + (m + 1), none⟩ = some (cc 0) := (hbw.cell (p := ⟨bm, fm + (m + 1), none⟩) (by show bm < _; omega)).trans (by simpa using hcell 0 (by omega))
            clear hcell
            rw [at_str] at hat
            rw [hat.1] at e0
            clear hat
            obtain ⟨f, ef⟩ : ∃ f, may[(m + 1)]'(by omega) = f := ⟨_, rfl⟩
            rw [ef] at e0
            have qe0 := fun d os => cell_regrown e0 d os
            obtain ⟨b', f', e', _, dd, hcell, hat⟩ := HMC.out m (by omega)
            cases e'
            rw [width_str] at hcell
            have m0_0 : wr.cell? ⟨bm, fm + m, none⟩ = some (dd 0) := (hbw.cell (p := ⟨bm, fm + m, none⟩) (by show bm < _; omega)).trans (by simpa using hcell 0 (by omega))
            clear hcell
            rw [at_str] at hat
            rw [hat.1] at m0_0
            clear hat
            obtain ⟨g, eg⟩ : ∃ f, may[m]'(by omega) = f := ⟨_, rfl⟩
            rw [eg] at m0_0
            have qm0_0 := fun d os => cell_regrown m0_0 d os
            have gt0 : decide ((0 : Int) < ((m : Int) + 1)) = true := by rw [decide_eq_true_eq]; omega
            cases c0 : ((stuffOf lots f).toList == [])
            · cases c1 : (Op.bytesLess g.toList f.toList)
              · have hp : mayT lots (prevO may (m + 1)) (may[(m + 1)]'(by omega)) = false := by
                  rw [prev_succ may m (by omega), ef, eg]
                  simp [mayT, ltB, c0, c1]
                go_wp2
                refine wp_region_quiet_below (by kernel_rfl) (by kernel_rfl) ?_
                repeat (first | go_big_quiet_step (with_reducible exact stuffS_q S _ _ _ _ lots _ _ K1.out hSr _ _) | quiet_step (with_reducible exact stuffS_q S _ _ _ _ lots _ _ K1.out hSr _ _))
                refine wpQuiet_nil ?_
                intro _ hw'
                obtain ⟨⟨dq, osq⟩, hw''⟩ := hw'
                subst hw''
                go_wp2
                go_ret
                rw [holds_no (fun h => by have := (h.2.2 (m + 1) (by omega)).1; rw [hp] at this; cases this)]
                exact ⟨rfl, below_end (below_of hbel.out (below_regrown _ dq osq))⟩
              · have hp : mayT lots (prevO may (m + 1)) (may[(m + 1)]'(by omega)) = true := by
                  rw [prev_succ may m (by omega), ef, eg]
                  simp [mayT, ltB, c0, c1]
                go_wp2
                refine wp_region_quiet_below (by kernel_rfl) (by kernel_rfl) ?_
                repeat (first | go_big_quiet_step (with_reducible exact stuffS_q S _ _ _ _ lots _ _ K1.out hSr _ _) | quiet_step (with_reducible exact stuffS_q S _ _ _ _ lots _ _ K1.out hSr _ _))
                refine wpQuiet_nil ?_
                intro _ hw'
                obtain ⟨⟨dq, osq⟩, hw''⟩ := hw'
                subst hw''
                have hbel2 : Hid _ := below_of hbel.out (below_regrown _ dq osq)
                clear hbel hbw hsz hSr x0 x1 x2 x3 qx0 qx1 qx2 qx3 K0 K1 KM e0 qe0 m0_0 qm0_0
                go_wp2
                go_loopw [12] (fun i wr => ∃ (k : Nat), k ≤ (m + 1) ∧ i = .int .i64 k ∧ Hid (∀ j (hj : j < may.length), j < k → foeB foes (stuffOf lots f) (stuffOf lots may[j]) = false) ∧ Hid (Below (w.heap.size + 1) (w.alloc (.cells #[v0, v1, v2, v3] 36)) wr)) (fun i _ => (m + 1) - (intOf i).toNat)
                case atStart => exact ⟨0, Nat.zero_le _, rfl, fun _ _ h => by omega, hbel2⟩
                case round =>
                  clear hbel2
                  obtain ⟨k, hk, rfl, hin, hbel⟩ := hrel
                  have hbw := below_end hbel.out
                  have hsz : w.heap.size + 1 ≤ wr.heap.size := by have := hbel.out.size; simpa using this
                  have hSr : ∀ b, S b → b < wr.heap.size := fun b hb => by have := hS b hb; omega
                  have x0 := box_at _ _ hbel.out 0 _ rfl
                  have x1 := box_at _ _ hbel.out 1 _ rfl
                  have x2 := box_at _ _ hbel.out 2 _ rfl
                  have x3 := box_at _ _ hbel.out 3 _ rfl
                  simp only [List.getElem_toArray, List.getElem_cons_zero, List.getElem_cons_succ] at x0 x1 x2 x3
                  have qx0 := fun d os => cell_regrown x0 d os
                  have qx1 := fun d os => cell_regrown x1 d os
                  have qx2 := fun d os => cell_regrown x2 d os
                  have qx3 := fun d os => cell_regrown x3 d os
                  have K0 : Hid (AtL S wr foes v0) := H0.out.same (Same.of_below hbw hS)
                  have K1 : Hid (AtL S wr lots v1) := H1.out.same (Same.of_below hbw hS)
                  by_cases hlk : k < m + 1
                  · obtain ⟨b', f', e', _, cc2, hcell, hat⟩ := HMC.out (m + 1) (by omega)
                    cases e'
                    rw [width_str] at hcell
                    have e0 : wr.cell? ⟨bm, fm + (m + 1), none⟩ = some (cc2 0) := (hbw.cell (p := ⟨bm, fm + (m + 1), none⟩) (by show bm < _; omega)).trans (by simpa using hcell 0 (by omega))
                    clear hcell
                    rw [at_str] at hat
                    rw [hat.1] at e0
                    clear hat
                    obtain ⟨f2, ef2⟩ : ∃ f, may[(m + 1)]'(by omega) = f := ⟨_, rfl⟩
                    rw [ef2] at e0
                    have qe0 := fun d os => cell_regrown e0 d os
                    obtain ⟨b', f', e', _, dd2, hcell, hat⟩ := HMC.out k (by omega)
                    cases e'
                    rw [width_str] at hcell
                    have n0 : wr.cell? ⟨bm, fm + k, none⟩ = some (dd2 0) := (hbw.cell (p := ⟨bm, fm + k, none⟩) (by show bm < _; omega)).trans (by simpa using hcell 0 (by omega))
                    clear hcell
                    rw [at_str] at hat
                    rw [hat.1] at n0
                    clear hat
                    obtain ⟨g2, eg2⟩ : ∃ f, may[k]'(by omega) = f := ⟨_, rfl⟩
                    rw [eg2] at n0
                    have qn0 := fun d os => cell_regrown n0 d os
                    have ef2' : f2 = f := ef2.symm.trans ef
                    subst ef2'
                    cases hf : foeB foes (stuffOf lots f2) (stuffOf lots g2)
                    · go_wp2
                      refine wp_region_quiet_below (by kernel_rfl) (by kernel_rfl) ?_
                      repeat (first | go_big_quiet_step (first | (with_reducible exact stuffS_q S _ _ _ _ lots _ _ K1.out hSr _ _) | (with_reducible exact foesS_q S _ _ _ _ foes _ _ _ K0.out hSr _ hf _ _)) | quiet_step (first | (with_reducible exact stuffS_q S _ _ _ _ lots _ _ K1.out hSr _ _) | (with_reducible exact foesS_q S _ _ _ _ foes _ _ _ K0.out hSr _ hf _ _)))
                      refine wpQuiet_nil ?_
                      intro _ hw'
                      obtain ⟨⟨dq, osq⟩, hw''⟩ := hw'
                      subst hw''
                      go_wp2
                      go_roundw
                      case rel => exact ⟨k + 1, by omega, by go_num, fun j hj hjk => by
                        by_cases e : j = k
                        · subst e; rw [eg2]; exact hf
                        · exact hin.out j hj (by omega), below_of hbel.out (below_regrown _ dq osq)⟩
                      case measure => simp [intOf]; omega
                    · go_wp2
                      refine wp_region_quiet_below (by kernel_rfl) (by kernel_rfl) ?_
                      repeat (first | go_big_quiet_step (first | (with_reducible exact stuffS_q S _ _ _ _ lots _ _ K1.out hSr _ _) | (with_reducible exact foesS_q S _ _ _ _ foes _ _ _ K0.out hSr _ hf _ _)) | quiet_step (first | (with_reducible exact stuffS_q S _ _ _ _ lots _ _ K1.out hSr _ _) | (with_reducible exact foesS_q S _ _ _ _ foes _ _ _ K0.out hSr _ hf _ _)))
                      refine wpQuiet_nil ?_
                      intro _ hw'
                      obtain ⟨⟨dq, osq⟩, hw''⟩ := hw'
                      subst hw''
                      go_wp2
                      go_ret
                      rw [holds_no (fun h => by have := (h.2.2 (m + 1) (by omega)).2 k hlk; rw [ef2, eg2, hf] at this; cases this)]
                      exact ⟨rfl, below_end (below_of hbel.out (below_regrown _ dq osq))⟩
                  · have hkn : k = m + 1 := by omega
                    subst hkn
                    go_wp2
                    go_roundw
                    case rel => exact ⟨(m + 1) + 1, by omega, by go_num, fun j hj hjk => by
                      by_cases e : j = (m + 1)
                      · subst e; exact ⟨hp, fun k hk => by rw [ef]; exact hin.out k (by omega) hk⟩
                      · exact hall.out j hj (by omega), hbel⟩
                    case measure => simp [intOf]; omega
            · have hp : mayT lots (prevO may (m + 1)) (may[(m + 1)]'(by omega)) = false := by
                rw [prev_succ may m (by omega), ef, eg]
                simp [mayT, c0]
              go_wp2
              refine wp_region_quiet_below (by kernel_rfl) (by kernel_rfl) ?_
              repeat (first | go_big_quiet_step (with_reducible exact stuffS_q S _ _ _ _ lots _ _ K1.out hSr _ _) | quiet_step (with_reducible exact stuffS_q S _ _ _ _ lots _ _ K1.out hSr _ _))
              refine wpQuiet_nil ?_
              intro _ hw'
              obtain ⟨⟨dq, osq⟩, hw''⟩ := hw'
              subst hw''
              go_wp2
              go_ret
              rw [holds_no (fun h => by have := (h.2.2 (m + 1) (by omega)).1; rw [hp] at this; cases this)]
              exact ⟨rfl, below_end (below_of hbel.out (below_regrown _ dq osq))⟩
        · have hqn2 : q2 = nm := by omega
          subst hqn2
          go_wp2
          go_ret
          rw [holds_yes ⟨HPA.out, HPB.out, fun i h => hall.out i h (by omega)⟩]
          exact ⟨rfl, hbw⟩

end Go.Proofs.YthleodbbppgadaaGreat
