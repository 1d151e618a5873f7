/-
  Several texts in one.
-/
import Derived.Test.YtobchllaopdchaaXn
namespace Go.Proofs.Ytobchllaopdchaa
open Go.RowKit
def atI (r : List DRecPhase) (x : ByteArray) : Int := idxI r (fun p : DRecPhase => eqB p.1 x)
def goesB (r : List DRecPhase) (i : Nat) (x : ByteArray) : Bool := !(endI x == 0) || decide ((i : Int) < atI r x)
def stepB (r : List DRecPhase) (i : Nat) (p : DRecPhase) : Bool := phaseB p && (atI r p.1 == (i : Int)) && goesB r i p.2.2.2.2.2.2.1 && goesB r i p.2.2.2.2.2.2.2
def RecP (r : List DRecPhase) : Prop := (1 ≤ r.length ∧ r.length ≤ 12) ∧ ∀ i (h : i < r.length), stepB r i r[i] = true
noncomputable def recB (r : List DRecPhase) : Bool := @decide (RecP r) (Classical.propDecidable _)
theorem rec_yes {r : List DRecPhase} (h : RecP r) : recB r = true := by unfold recB; exact @decide_eq_true _ (Classical.propDecidable _) h
theorem rec_no {r : List DRecPhase} (h : ¬ RecP r) : recB r = false := by unfold recB; exact @decide_eq_false _ (Classical.propDecidable _) h
theorem rec_iff {r : List DRecPhase} : recB r = true ↔ RecP r := by unfold recB; exact @decide_eq_true_iff _ (Classical.propDecidable _)
theorem rec_bad {r : List DRecPhase} {k : Nat} (hk : k < r.length) (h : stepB r k r[k] = false) : recB r = false := rec_no (fun hp => by have := hp.2 k hk; rw [h] at this; cases this)
theorem goes_end {r : List DRecPhase} {i : Nat} {x : ByteArray} (h : ¬ endI x = 0) : goesB r i x = true := by simp [goesB, h]
theorem goes_yes {r : List DRecPhase} {i : Nat} {x : ByteArray} (h : ¬ atI r x ≤ (i : Int)) : goesB r i x = true := by simp [goesB]; omega
theorem goes_no {r : List DRecPhase} {i : Nat} {x : ByteArray} (h0 : endI x = 0) (h : atI r x ≤ (i : Int)) : goesB r i x = false := by simp [goesB, h0]; omega
set_option maxRecDepth 100000 in
set_option maxHeartbeats 4000000 in
theorem atX_any (S : Nat → Prop) (r : List DRecPhase) (v : Value) (x : ByteArray) (w : World) (h : AtL S w r v) :
    Calls Try.prog 18 #[v, .string x] w fun e w' => e = .returned (.int .i64 (atI r x)) ∧ w' = w := by
  obtain ⟨oa, cap, rfl, hn, hc⟩ := h
  obtain ⟨n, en⟩ : ∃ n, r.length = n := ⟨_, rfl⟩
  rw [en] at hn
  rw [en]
  unfold maxLen at hn
  have HC : Hid _ := hc
  clear hc
  go_enter Try.func18, Try.ntmps18
  go_wp2
  go_loop [5] (fun i => ∃ k : Nat, k ≤ n ∧ i = .int .i64 k ∧ Hid (∀ j (hj : j < r.length), j < k → (fun p : DRecPhase => eqB p.1 x) r[j] = false)) (fun i => n - (intOf i).toNat)
  case atStart => exact ⟨0, Nat.zero_le _, rfl, fun _ _ h => by omega⟩
  case round =>
    obtain ⟨k, hk, rfl, hno⟩ := hrel
    by_cases hlt : k < n
    · obtain ⟨b, off, rfl, _, cc, hcell, hat⟩ := HC.out k (by omega)
      rw [width_DRecPhase] at hcell
      have e0 : w.cell? ⟨b, off + k * 8, none⟩ = some (cc 0) := by simpa using hcell 0 (by omega)
      clear hcell
      rw [at_DRecPhase] at hat
      rw [hat.1.1] at e0
      clear hat
      obtain ⟨f, ef⟩ : ∃ f, r[k]'(by omega) = f := ⟨_, rfl⟩
      rw [ef] at e0
      cases c0 : (f.1.toList == x.toList)
      · have hp : (fun p : DRecPhase => eqB p.1 x) (r[k]'(by omega)) = false := by rw [ef]; simp [eqB, c0]
        go_wp2
        go_round
        case rel => exact ⟨k + 1, by omega, by go_num, fun j hj hjk => by
          by_cases e : j = k
          · subst e; exact hp
          · exact hno.out j hj (by omega)⟩
        case measure => simp [intOf]; omega
      · have hp : (fun p : DRecPhase => eqB p.1 x) (r[k]'(by omega)) = true := by rw [ef]; simp [eqB, c0]
        go_wp2
        have hr : atI r x = k := idx_yes (p := fun p : DRecPhase => eqB p.1 x) (by omega) hp hno.out
        rw [hr]
        go_ret
        exact ⟨rfl, rfl⟩
    · have hkn : k = n := by omega
      subst hkn
      go_wp2
      go_ret
      have hr : atI r x = -1 := idx_no (p := fun p : DRecPhase => eqB p.1 x) (fun j hj => hno.out j hj (by omega))
      rw [hr]
      exact ⟨rfl, rfl⟩
set_option maxRecDepth 100000 in
set_option maxHeartbeats 4000000 in
theorem okX_any (S : Nat → Prop) (r : List DRecPhase) (v : Value) (w : World) (h : AtL S w r v) (hS : ∀ b, S b → b < w.heap.size) :
    Calls Try.prog 34 #[v] w fun e w' => e = .returned (.bool (recB r)) ∧ Below w.heap.size w w' := by
  obtain ⟨oa, cap, ev, hx⟩ := id h
  obtain ⟨hn, hc⟩ := hx
  subst ev
  obtain ⟨n, en⟩ : ∃ n, r.length = n := ⟨_, rfl⟩
  rw [en] at h hn
  rw [en]
  unfold maxLen at hn
  have H : Hid (∀ w', Below w.heap.size w w' → AtL S w' r (.slice oa n cap)) := fun w' hb => h.same (Same.of_below hb hS)
  have HC : Hid _ := hc
  clear hc h
  by_cases hl : 1 ≤ n ∧ n ≤ 12
  · have hin : inB (n : Int) 1 12 = true := by simp [inB]; omega
    go_enter Try.func34, Try.ntmps34
    go_wp2_with fail
    refine (inX_any _ _ _ _).mono ?_; rintro e w1 ⟨rfl, rfl⟩; rw [hin]
    go_wp2_with fail
    go_loopw [3] (fun i wr => ∃ k : Nat, k ≤ n ∧ i = .int .i64 k ∧ Hid (∀ j (hj : j < r.length), j < k → stepB r j r[j] = true) ∧ Hid (Below w1.heap.size w1 wr)) (fun i _ => n - (intOf i).toNat)
    case atStart => exact ⟨0, Nat.zero_le _, rfl, fun _ _ h => by omega, Below.refl _ _⟩
    case round =>
      obtain ⟨k, hk, rfl, hno, hbel⟩ := hrel
      have hs := hbel.out.size
      by_cases hlt : k < n
      · obtain ⟨b, off, rfl, hbS, cc, hcell, hat⟩ := HC.out k (by omega)
        have hb := hS b hbS
        rw [width_DRecPhase] at hcell
        rw [at_DRecPhase] at hat
        obtain ⟨f, ef⟩ : ∃ f, r[k]'(by omega) = f := ⟨_, rfl⟩
        rw [ef] at hat
        obtain ⟨nm, kd, a, b', n', wi, th, el⟩ := f
        obtain ⟨⟨q0, z0⟩, ⟨q1, _, _⟩, ⟨q2, z2⟩, ⟨q3, z3⟩, ⟨q4, _, _⟩, ⟨q5, _, _⟩, ⟨q6, z6⟩, ⟨q7, z7⟩⟩ := hat
        simp only at q0 q1 q2 q3 q4 q5 q6 q7 z0 z2 z3 z6 z7
        have CELL : Hid (∀ j, j < 8 → w1.cell? ⟨b, off + k * 8 + j, none⟩ = some (cc j)) := fun j hj => hcell j hj
        clear hcell
        have E : Hid (∀ u, Below w1.heap.size w1 u → u.cell? ⟨b, off + k * 8, none⟩ = some (.string nm) ∧ u.cell? ⟨b, off + k * 8 + 1, none⟩ = some (.int .i64 kd) ∧ u.cell? ⟨b, off + k * 8 + 2, none⟩ = some (.string a) ∧ u.cell? ⟨b, off + k * 8 + 3, none⟩ = some (.string b') ∧ u.cell? ⟨b, off + k * 8 + 4, none⟩ = some (.int .i64 n') ∧ u.cell? ⟨b, off + k * 8 + 5, none⟩ = some (.int .i64 wi) ∧ u.cell? ⟨b, off + k * 8 + 6, none⟩ = some (.string th) ∧ u.cell? ⟨b, off + k * 8 + 7, none⟩ = some (.string el)) := fun u hu => by
          rw [← q0, ← q1, ← q2, ← q3, ← q4, ← q5, ← q6, ← q7]
          exact ⟨(hu.cell hb).trans (CELL.out 0 (by omega)), (hu.cell hb).trans (CELL.out 1 (by omega)), (hu.cell hb).trans (CELL.out 2 (by omega)), (hu.cell hb).trans (CELL.out 3 (by omega)), (hu.cell hb).trans (CELL.out 4 (by omega)), (hu.cell hb).trans (CELL.out 5 (by omega)), (hu.cell hb).trans (CELL.out 6 (by omega)), (hu.cell hb).trans (CELL.out 7 (by omega))⟩
        clear q0 q1 q2 q3 q4 q5 q6 q7 CELL
        have HNO : Hid (stepB r k (r[k]'(by omega)) = false → recB r = false) := fun h => rec_bad (by omega) h
        obtain ⟨x0, x1, x2, x3, x4, x5, x6, x7⟩ := E.out wr hbel.out
        go_wp2_with fail
        refine (phaseX_any nm a b' th el kd n' wi _ z0 z2 z3 z6 z7).mono ?_; rintro e u1 ⟨rfl, hb1⟩
        have b1 : Hid (Below w1.heap.size w1 u1) := hbel.out.trans (hb1.mono hs)
        clear x0 x1 x2 x3 x4 x5 x6 x7 hb1
        obtain ⟨x0, x1, x2, x3, x4, x5, x6, x7⟩ := E.out u1 b1.out
        cases c1 : phaseB (nm, kd, a, b', n', wi, th, el)
        · have _u := trivial
          go_wp2_with fail
          rw [HNO.out (by rw [ef]; simp [stepB, c1])]
          go_ret
          exact ⟨rfl, b1.out⟩
        · go_wp2_with fail
          refine (atX_any S r _ nm _ (H.out _ b1.out)).mono ?_; rintro e u2 ⟨rfl, rfl⟩
          by_cases c2 : atI r nm = (k : Int)
          · rw [c2]
            go_wp2_with fail
            refine (endX_any th _).mono ?_; rintro e u3 ⟨rfl, rfl⟩
            by_cases c3 : endI th = 0
            · rw [c3]
              go_wp2_with fail
              refine (atX_any S r _ th _ (H.out _ b1.out)).mono ?_; rintro e u4 ⟨rfl, rfl⟩
              by_cases c4 : atI r th ≤ (k : Int)
              · have g1 : goesB r k th = false := goes_no c3 c4
                go_wp2_with fail
                rw [HNO.out (by rw [ef]; simp [stepB, g1])]
                go_ret
                exact ⟨rfl, b1.out⟩
              · have g1 : goesB r k th = true := goes_yes c4
                go_wp2_with fail
                refine (endX_any el _).mono ?_; rintro e u4 ⟨rfl, rfl⟩
                by_cases c5 : endI el = 0
                · rw [c5]
                  go_wp2_with fail
                  refine (atX_any S r _ el _ (H.out _ b1.out)).mono ?_; rintro e u5 ⟨rfl, rfl⟩
                  by_cases c6 : atI r el ≤ (k : Int)
                  · have g2 : goesB r k el = false := goes_no c5 c6
                    go_wp2_with fail
                    rw [HNO.out (by rw [ef]; simp [stepB, g2])]
                    go_ret
                    exact ⟨rfl, b1.out⟩
                  · have g2 : goesB r k el = true := goes_yes c6
                    go_wp2_with fail
                    go_roundw
                    case rel => exact ⟨k + 1, by omega, by go_num, fun j hj hjk => by
                      by_cases ej : j = k
                      · subst ej; rw [ef]; simp [stepB, c1, c2, g1, g2]
                      · exact hno.out j hj (by omega), b1.out⟩
                    case measure => simp [intOf]; omega
                · have g2 : goesB r k el = true := goes_end c5
                  have c5n : (endI el == 0) = false := by simp [c5]
                  go_wp2_with fail
                  go_roundw
                  case rel => exact ⟨k + 1, by omega, by go_num, fun j hj hjk => by
                    by_cases ej : j = k
                    · subst ej; rw [ef]; simp [stepB, c1, c2, g1, g2]
                    · exact hno.out j hj (by omega), b1.out⟩
                  case measure => simp [intOf]; omega
            · have g1 : goesB r k th = true := goes_end c3
              have c3n : (endI th == 0) = false := by simp [c3]
              go_wp2_with fail
              refine (endX_any el _).mono ?_; rintro e u4 ⟨rfl, rfl⟩
              by_cases c5 : endI el = 0
              · rw [c5]
                go_wp2_with fail
                refine (atX_any S r _ el _ (H.out _ b1.out)).mono ?_; rintro e u5 ⟨rfl, rfl⟩
                by_cases c6 : atI r el ≤ (k : Int)
                · have g2 : goesB r k el = false := goes_no c5 c6
                  go_wp2_with fail
                  rw [HNO.out (by rw [ef]; simp [stepB, g2])]
                  go_ret
                  exact ⟨rfl, b1.out⟩
                · have g2 : goesB r k el = true := goes_yes c6
                  go_wp2_with fail
                  go_roundw
                  case rel => exact ⟨k + 1, by omega, by go_num, fun j hj hjk => by
                    by_cases ej : j = k
                    · subst ej; rw [ef]; simp [stepB, c1, c2, g1, g2]
                    · exact hno.out j hj (by omega), b1.out⟩
                  case measure => simp [intOf]; omega
              · have g2 : goesB r k el = true := goes_end c5
                have c5n : (endI el == 0) = false := by simp [c5]
                go_wp2_with fail
                go_roundw
                case rel => exact ⟨k + 1, by omega, by go_num, fun j hj hjk => by
                  by_cases ej : j = k
                  · subst ej; rw [ef]; simp [stepB, c1, c2, g1, g2]
                  · exact hno.out j hj (by omega), b1.out⟩
                case measure => simp [intOf]; omega
          · have c2n : (atI r nm == (k : Int)) = false := by simp [c2]
            go_wp2_with fail
            rw [HNO.out (by rw [ef]; simp [stepB, c2n])]
            go_ret
            exact ⟨rfl, b1.out⟩
      · have hkn : k = n := by omega
        subst hkn
        go_wp2_with fail
        rw [rec_yes ⟨by omega, fun i hi => hno.out i hi (by omega)⟩]
        go_ret
        exact ⟨rfl, hbel.out⟩
  · have hin : inB (n : Int) 1 12 = false := by simp [inB]; omega
    rw [rec_no (fun hp => hl (by have := hp.1; omega))]
    go_enter Try.func34, Try.ntmps34
    go_wp2_with fail
    refine (inX_any _ _ _ _).mono ?_; rintro e w1 ⟨rfl, rfl⟩; rw [hin]
    go_wp2_with fail
    go_ret
    exact ⟨rfl, Below.refl _ _⟩
end Go.Proofs.Ytobchllaopdchaa

namespace Go.Proofs.Ytobchllaopdchaa
open Go.RowKit
theorem at_cases (r : List DRecPhase) (x : ByteArray) : atI r x = -1 ∨ ∃ (k : Nat) (hk : k < r.length), atI r x = (k : Int) ∧ eqB r[k].1 x = true := by
  unfold atI idxI
  cases h : r.findIdx? (fun p : DRecPhase => eqB p.1 x) with
  | none => exact Or.inl rfl
  | some i =>
    obtain ⟨hi, hp, _⟩ := List.findIdx?_eq_some_iff_getElem.1 h
    exact Or.inr ⟨i, hi, rfl, hp⟩
theorem end_eq {a b : ByteArray} (h : eqB a b = true) : endI a = endI b := by
  have e : a.toList = b.toList := by simpa [eqB] using h
  unfold endI isT
  rw [e]
def phX (r : List DRecPhase) (x : ByteArray) : DRecPhase := (r[(atI r x).toNat]?).getD default
theorem ph_at {r : List DRecPhase} {x : ByteArray} {k : Nat} (hk : k < r.length) (h : atI r x = (k : Int)) : phX r x = r[k] := by
  unfold phX
  rw [h, Int.toNat_natCast, List.getElem?_eq_getElem hk]; rfl
theorem step_of {r : List DRecPhase} (h : RecP r) {k : Nat} (hk : k < r.length) : phaseB r[k] = true ∧ goesB r k r[k].2.2.2.2.2.2.1 = true ∧ goesB r k r[k].2.2.2.2.2.2.2 = true := by
  have := h.2 k hk
  simp only [stepB, Bool.and_eq_true] at this
  exact ⟨this.1.1.1, this.1.2, this.2⟩
theorem ph_name {p : DRecPhase} (h : phaseB p = true) : nameB p.1 = true ∧ endI p.1 = 0 ∧ (1 ≤ p.2.2.2.2.2.1 ∧ p.2.2.2.2.2.1 ≤ 1000) ∧ nameB p.2.2.1 = true := by
  simp only [phaseB, plainB, Bool.and_eq_true, inB, decide_eq_true_eq, beq_iff_eq] at h
  refine ⟨h.1.1.1.1.1, h.1.1.1.1.2, h.1.1.1.2, ?_⟩
  have ha := h.1.1.2
  unfold argsB at ha
  repeat' split at ha
  all_goals simp_all
theorem go_next {r : List DRecPhase} (h : RecP r) {k : Nat} {x : ByteArray} (hg : goesB r k x = true) (j : Nat) (hj : atI r x = (j : Int)) : k < j := by
  by_cases c : endI x = 0
  · simp [goesB, c] at hg; omega
  · exfalso
    rcases at_cases r x with e | ⟨i, hi, _, hx⟩
    · omega
    · exact c (by rw [← end_eq hx]; exact (ph_name (step_of h hi).1).2.1)
end Go.Proofs.Ytobchllaopdchaa
