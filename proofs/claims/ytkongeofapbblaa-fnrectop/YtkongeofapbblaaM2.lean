/-
  Several texts in one.
-/
import Derived.Test.YtkongeofapbblaaXn
/-
  The model's recipes: where a phase stands, whether a recipe is ok.
-/
namespace Go.Proofs.Ytkongeofapbblaa
open Go.RowKit

/-- Where the phase of this name stands, -1 if there is none. -/
def atI (r : List DRecPhase) (x : ByteArray) : Int := idxI r (fun p : DRecPhase => eqB p.1 x)
/-- Is it an end, or a phase behind this place? -/
def goesB (r : List DRecPhase) (i : Nat) (x : ByteArray) : Bool := !(endI x == 0) || decide ((i : Int) < atI r x)
def stepB (r : List DRecPhase) (i : Nat) (p : DRecPhase) : Bool := phaseB p && (atI r p.1 == (i : Int)) && goesB r i p.2.2.2.2.2.2.1 && goesB r i p.2.2.2.2.2.2.2
/-- Is a recipe ok? -/
def RecP (r : List DRecPhase) : Prop := (1 ≤ r.length ∧ r.length ≤ 12) ∧ ∀ i (h : i < r.length), stepB r i r[i] = true
noncomputable def recB (r : List DRecPhase) : Bool := @decide (RecP r) (Classical.propDecidable _)
theorem rec_yes {r : List DRecPhase} (h : RecP r) : recB r = true := by unfold recB; exact @decide_eq_true _ (Classical.propDecidable _) h
theorem rec_no {r : List DRecPhase} (h : ¬ RecP r) : recB r = false := by unfold recB; exact @decide_eq_false _ (Classical.propDecidable _) h
theorem rec_iff {r : List DRecPhase} : recB r = true ↔ RecP r := by unfold recB; exact @decide_eq_true_iff _ (Classical.propDecidable _)
theorem rec_bad {r : List DRecPhase} {k : Nat} (hk : k < r.length) (h : stepB r k r[k] = false) : recB r = false := rec_no (fun hp => by have := hp.2 k hk; rw [h] at this; cases this)
theorem goes_end {r : List DRecPhase} {i : Nat} {x : ByteArray} (h : ¬ endI x = 0) : goesB r i x = true := by simp [goesB, h]
theorem goes_yes {r : List DRecPhase} {i : Nat} {x : ByteArray} (h : ¬ atI r x ≤ (i : Int)) : goesB r i x = true := by simp [goesB]; omega
theorem goes_no {r : List DRecPhase} {i : Nat} {x : ByteArray} (h0 : endI x = 0) (h : atI r x ≤ (i : Int)) : goesB r i x = false := by simp [goesB, h0]; omega

set_option maxRecDepth 100000 in
set_option maxHeartbeats 4000000 in
theorem atX_any (S : Nat → Prop) (r : List DRecPhase) (v : Value) (x : ByteArray) (w : World) (h : AtL S w r v) :
    Calls Try.prog 23 #[v, .string x] w fun e w' => e = .returned (.int .i64 (atI r x)) ∧ w' = w := by
  obtain ⟨oa, cap, rfl, hn, hc⟩ := h
  obtain ⟨n, en⟩ : ∃ n, r.length = n := ⟨_, rfl⟩
  rw [en] at hn
  rw [en]
  unfold maxLen at hn
  have HC : Hid _ := hc
  clear hc
  go_enter Try.func23, Try.ntmps23
  go_wp2
  go_loop [5] (fun i => ∃ k : Nat, k ≤ n ∧ i = .int .i64 k ∧ Hid (∀ j (hj : j < r.length), j < k → (fun p : DRecPhase => eqB p.1 x) r[j] = false)) (fun i => n - (intOf i).toNat)
  case atStart => exact ⟨0, Nat.zero_le _, rfl, fun _ _ h => by omega⟩
  case round =>
    obtain ⟨k, hk, rfl, hno⟩ := hrel
    by_cases hlt : k < n
    · obtain ⟨b, off, rfl, _, cc, hcell, hat⟩ := HC.out k (by omega)
      rw [width_DRecPhase] at hcell
      have e0 : w.cell? ⟨b, off + k * 8, none⟩ = some (cc 0) := by simpa using hcell 0 (by omega)
      clear hcell
      rw [at_DRecPhase] at hat
      rw [hat.1.1] at e0
      clear hat
      obtain ⟨f, ef⟩ : ∃ f, r[k]'(by omega) = f := ⟨_, rfl⟩
      rw [ef] at e0
      cases c0 : (f.1.toList == x.toList)
      · have hp : (fun p : DRecPhase => eqB p.1 x) (r[k]'(by omega)) = false := by rw [ef]; simp [eqB, c0]
        go_wp2
        go_round
        case rel => exact ⟨k + 1, by omega, by go_num, fun j hj hjk => by
          by_cases e : j = k
          · subst e; exact hp
          · exact hno.out j hj (by omega)⟩
        case measure => simp [intOf]; omega
      · have hp : (fun p : DRecPhase => eqB p.1 x) (r[k]'(by omega)) = true := by rw [ef]; simp [eqB, c0]
        go_wp2
        have hr : atI r x = k := idx_yes (p := fun p : DRecPhase => eqB p.1 x) (by omega) hp hno.out
        rw [hr]
        go_ret
        exact ⟨rfl, rfl⟩
    · have hkn : k = n := by omega
      subst hkn
      go_wp2
      go_ret
      have hr : atI r x = -1 := idx_no (p := fun p : DRecPhase => eqB p.1 x) (fun j hj => hno.out j hj (by omega))
      rw [hr]
      exact ⟨rfl, rfl⟩

set_option maxRecDepth 100000 in
set_option maxHeartbeats 4000000 in
theorem okX_any (S : Nat → Prop) (r : List DRecPhase) (v : Value) (w : World) (h : AtL S w r v) (hS : ∀ b, S b → b < w.heap.size) :
    Calls Try.prog 8 #[v] w fun e w' => e = .returned (.bool (recB r)) ∧ Below w.heap.size w w' := by
  obtain ⟨oa, cap, ev, hx⟩ := id h
  obtain ⟨hn, hc⟩ := hx
  subst ev
  obtain ⟨n, en⟩ : ∃ n, r.length = n := ⟨_, rfl⟩
  rw [en] at h hn
  rw [en]
  unfold maxLen at hn
  have H : Hid (∀ w', Below w.heap.size w w' → AtL S w' r (.slice oa n cap)) := fun w' hb => h.same (Same.of_below hb hS)
  have HC : Hid _ := hc
  clear hc h
  by_cases hl : 1 ≤ n ∧ n ≤ 12
  · have hin : inB (n : Int) 1 12 = true := by simp [inB]; omega
    go_enter Try.func8, Try.ntmps8
    go_wp2_with fail
    refine (inX_any _ _ _ _).mono ?_; rintro e w1 ⟨rfl, rfl⟩; rw [hin]
    go_wp2_with fail
    go_loopw [3] (fun i wr => ∃ k : Nat, k ≤ n ∧ i = .int .i64 k ∧ Hid (∀ j (hj : j < r.length), j < k → stepB r j r[j] = true) ∧ Hid (Below w1.heap.size w1 wr)) (fun i _ => n - (intOf i).toNat)
    case atStart => exact ⟨0, Nat.zero_le _, rfl, fun _ _ h => by omega, Below.refl _ _⟩
    case round =>
      obtain ⟨k, hk, rfl, hno, hbel⟩ := hrel
      have hs := hbel.out.size
      by_cases hlt : k < n
      · obtain ⟨b, off, rfl, hbS, cc, hcell, hat⟩ := HC.out k (by omega)
        have hb := hS b hbS
        rw [width_DRecPhase] at hcell
        rw [at_DRecPhase] at hat
        obtain ⟨f, ef⟩ : ∃ f, r[k]'(by omega) = f := ⟨_, rfl⟩
        rw [ef] at hat
        obtain ⟨nm, kd, a, b', n', wi, th, el⟩ := f
        obtain ⟨⟨q0, z0⟩, ⟨q1, _, _⟩, ⟨q2, z2⟩, ⟨q3, z3⟩, ⟨q4, _, _⟩, ⟨q5, _, _⟩, ⟨q6, z6⟩, ⟨q7, z7⟩⟩ := hat
        simp only at q0 q1 q2 q3 q4 q5 q6 q7 z0 z2 z3 z6 z7
        have CELL : Hid (∀ j, j < 8 → w1.cell? ⟨b, off + k * 8 + j, none⟩ = some (cc j)) := fun j hj => hcell j hj
        clear hcell
        have E : Hid (∀ u, Below w1.heap.size w1 u → u.cell? ⟨b, off + k * 8, none⟩ = some (.string nm) ∧ u.cell? ⟨b, off + k * 8 + 1, none⟩ = some (.int .i64 kd) ∧ u.cell? ⟨b, off + k * 8 + 2, none⟩ = some (.string a) ∧ u.cell? ⟨b, off + k * 8 + 3, none⟩ = some (.string b') ∧ u.cell? ⟨b, off + k * 8 + 4, none⟩ = some (.int .i64 n') ∧ u.cell? ⟨b, off + k * 8 + 5, none⟩ = some (.int .i64 wi) ∧ u.cell? ⟨b, off + k * 8 + 6, none⟩ = some (.string th) ∧ u.cell? ⟨b, off + k * 8 + 7, none⟩ = some (.string el)) := fun u hu => by
          rw [← q0, ← q1, ← q2, ← q3, ← q4, ← q5, ← q6, ← q7]
          exact ⟨(hu.cell hb).trans (CELL.out 0 (by omega)), (hu.cell hb).trans (CELL.out 1 (by omega)), (hu.cell hb).trans (CELL.out 2 (by omega)), (hu.cell hb).trans (CELL.out 3 (by omega)), (hu.cell hb).trans (CELL.out 4 (by omega)), (hu.cell hb).trans (CELL.out 5 (by omega)), (hu.cell hb).trans (CELL.out 6 (by omega)), (hu.cell hb).trans (CELL.out 7 (by omega))⟩
        clear q0 q1 q2 q3 q4 q5 q6 q7 CELL
        have HNO : Hid (stepB r k (r[k]'(by omega)) = false → recB r = false) := fun h => rec_bad (by omega) h
        obtain ⟨x0, x1, x2, x3, x4, x5, x6, x7⟩ := E.out wr hbel.out
        go_wp2_with fail
        refine (phaseX_any nm a b' th el kd n' wi _ z0 z2 z3 z6 z7).mono ?_; rintro e u1 ⟨rfl, hb1⟩
        have b1 : Hid (Below w1.heap.size w1 u1) := hbel.out.trans (hb1.mono hs)
        clear x0 x1 x2 x3 x4 x5 x6 x7 hb1
        obtain ⟨x0, x1, x2, x3, x4, x5, x6, x7⟩ := E.out u1 b1.out
        cases c1 : phaseB (nm, kd, a, b', n', wi, th, el)
        · have _u := trivial
          go_wp2_with fail
          rw [HNO.out (by rw [ef]; simp [stepB, c1])]
          go_ret
          exact ⟨rfl, b1.out⟩
        · go_wp2_with fail
          refine (atX_any S r _ nm _ (H.out _ b1.out)).mono ?_; rintro e u2 ⟨rfl, rfl⟩
          by_cases c2 : atI r nm = (k : Int)
          · rw [c2]
            go_wp2_with fail
            refine (endX_any th _).mono ?_; rintro e u3 ⟨rfl, rfl⟩
            by_cases c3 : endI th = 0
            · rw [c3]
              go_wp2_with fail
              refine (atX_any S r _ th _ (H.out _ b1.out)).mono ?_; rintro e u4 ⟨rfl, rfl⟩
              by_cases c4 : atI r th ≤ (k : Int)
              · have g1 : goesB r k th = false := goes_no c3 c4
                go_wp2_with fail
                rw [HNO.out (by rw [ef]; simp [stepB, g1])]
                go_ret
                exact ⟨rfl, b1.out⟩
              · have g1 : goesB r k th = true := goes_yes c4
                go_wp2_with fail
                refine (endX_any el _).mono ?_; rintro e u4 ⟨rfl, rfl⟩
                by_cases c5 : endI el = 0
                · rw [c5]
                  go_wp2_with fail
                  refine (atX_any S r _ el _ (H.out _ b1.out)).mono ?_; rintro e u5 ⟨rfl, rfl⟩
                  by_cases c6 : atI r el ≤ (k : Int)
                  · have g2 : goesB r k el = false := goes_no c5 c6
                    go_wp2_with fail
                    rw [HNO.out (by rw [ef]; simp [stepB, g2])]
                    go_ret
                    exact ⟨rfl, b1.out⟩
                  · have g2 : goesB r k el = true := goes_yes c6
                    go_wp2_with fail
                    go_roundw
                    case rel => exact ⟨k + 1, by omega, by go_num, fun j hj hjk => by
                      by_cases ej : j = k
                      · subst ej; rw [ef]; simp [stepB, c1, c2, g1, g2]
                      · exact hno.out j hj (by omega), b1.out⟩
                    case measure => simp [intOf]; omega
                · have g2 : goesB r k el = true := goes_end c5
                  have c5n : (endI el == 0) = false := by simp [c5]
                  go_wp2_with fail
                  go_roundw
                  case rel => exact ⟨k + 1, by omega, by go_num, fun j hj hjk => by
                    by_cases ej : j = k
                    · subst ej; rw [ef]; simp [stepB, c1, c2, g1, g2]
                    · exact hno.out j hj (by omega), b1.out⟩
                  case measure => simp [intOf]; omega
            · have g1 : goesB r k th = true := goes_end c3
              have c3n : (endI th == 0) = false := by simp [c3]
              go_wp2_with fail
              refine (endX_any el _).mono ?_; rintro e u4 ⟨rfl, rfl⟩
              by_cases c5 : endI el = 0
              · rw [c5]
                go_wp2_with fail
                refine (atX_any S r _ el _ (H.out _ b1.out)).mono ?_; rintro e u5 ⟨rfl, rfl⟩
                by_cases c6 : atI r el ≤ (k : Int)
                · have g2 : goesB r k el = false := goes_no c5 c6
                  go_wp2_with fail
                  rw [HNO.out (by rw [ef]; simp [stepB, g2])]
                  go_ret
                  exact ⟨rfl, b1.out⟩
                · have g2 : goesB r k el = true := goes_yes c6
                  go_wp2_with fail
                  go_roundw
                  case rel => exact ⟨k + 1, by omega, by go_num, fun j hj hjk => by
                    by_cases ej : j = k
                    · subst ej; rw [ef]; simp [stepB, c1, c2, g1, g2]
                    · exact hno.out j hj (by omega), b1.out⟩
                  case measure => simp [intOf]; omega
              · have g2 : goesB r k el = true := goes_end c5
                have c5n : (endI el == 0) = false := by simp [c5]
                go_wp2_with fail
                go_roundw
                case rel => exact ⟨k + 1, by omega, by go_num, fun j hj hjk => by
                  by_cases ej : j = k
                  · subst ej; rw [ef]; simp [stepB, c1, c2, g1, g2]
                  · exact hno.out j hj (by omega), b1.out⟩
                case measure => simp [intOf]; omega
          · have c2n : (atI r nm == (k : Int)) = false := by simp [c2]
            go_wp2_with fail
            rw [HNO.out (by rw [ef]; simp [stepB, c2n])]
            go_ret
            exact ⟨rfl, b1.out⟩
      · have hkn : k = n := by omega
        subst hkn
        go_wp2_with fail
        rw [rec_yes ⟨by omega, fun i hi => hno.out i hi (by omega)⟩]
        go_ret
        exact ⟨rfl, hbel.out⟩
  · have hin : inB (n : Int) 1 12 = false := by simp [inB]; omega
    rw [rec_no (fun hp => hl (by have := hp.1; omega))]
    go_enter Try.func8, Try.ntmps8
    go_wp2_with fail
    refine (inX_any _ _ _ _).mono ?_; rintro e w1 ⟨rfl, rfl⟩; rw [hin]
    go_wp2_with fail
    go_ret
    exact ⟨rfl, Below.refl _ _⟩

end Go.Proofs.Ytkongeofapbblaa

/-
  The model's recipes: how long they may take, to which ends they may come.
-/
namespace Go.Proofs.Ytkongeofapbblaa
open Go.RowKit

theorem at_cases (r : List DRecPhase) (x : ByteArray) : atI r x = -1 ∨ ∃ (k : Nat) (hk : k < r.length), atI r x = (k : Int) ∧ eqB r[k].1 x = true := by
  unfold atI idxI
  cases h : r.findIdx? (fun p : DRecPhase => eqB p.1 x) with
  | none => exact Or.inl rfl
  | some i =>
    obtain ⟨hi, hp, _⟩ := List.findIdx?_eq_some_iff_getElem.1 h
    exact Or.inr ⟨i, hi, rfl, hp⟩
theorem end_eq {a b : ByteArray} (h : eqB a b = true) : endI a = endI b := by
  have e : a.toList = b.toList := by simpa [eqB] using h
  unfold endI isT
  rw [e]
/-- The phase of a name. -/
def phX (r : List DRecPhase) (x : ByteArray) : DRecPhase := (r[(atI r x).toNat]?).getD default
theorem ph_at {r : List DRecPhase} {x : ByteArray} {k : Nat} (hk : k < r.length) (h : atI r x = (k : Int)) : phX r x = r[k] := by
  unfold phX
  rw [h, Int.toNat_natCast, List.getElem?_eq_getElem hk]; rfl
theorem step_of {r : List DRecPhase} (h : RecP r) {k : Nat} (hk : k < r.length) : phaseB r[k] = true ∧ goesB r k r[k].2.2.2.2.2.2.1 = true ∧ goesB r k r[k].2.2.2.2.2.2.2 = true := by
  have := h.2 k hk
  simp only [stepB, Bool.and_eq_true] at this
  exact ⟨this.1.1.1, this.1.2, this.2⟩
theorem ph_name {p : DRecPhase} (h : phaseB p = true) : nameB p.1 = true ∧ endI p.1 = 0 ∧ (1 ≤ p.2.2.2.2.2.1 ∧ p.2.2.2.2.2.1 ≤ 1000) ∧ nameB p.2.2.1 = true := by
  simp only [phaseB, plainB, Bool.and_eq_true, inB, decide_eq_true_eq, beq_iff_eq] at h
  refine ⟨h.1.1.1.1.1, h.1.1.1.1.2, h.1.1.1.2, ?_⟩
  have ha := h.1.1.2
  unfold argsB at ha
  repeat' split at ha
  all_goals simp_all
theorem go_next {r : List DRecPhase} (h : RecP r) {k : Nat} {x : ByteArray} (hg : goesB r k x = true) (j : Nat) (hj : atI r x = (j : Int)) : k < j := by
  by_cases c : endI x = 0
  · simp [goesB, c] at hg; omega
  · exfalso
    rcases at_cases r x with e | ⟨i, hi, _, hx⟩
    · omega
    · exact c (by rw [← end_eq hx]; exact (ph_name (step_of h hi).1).2.1)
/-- How long a way from here may be, by at most so many phases. -/
def bndF : Nat → List DRecPhase → ByteArray → Int
  | 0, _, _ => 0
  | n + 1, r, x => if atI r x < 0 then 0 else max (bndF n r (phX r x).2.2.2.2.2.2.1) (bndF n r (phX r x).2.2.2.2.2.2.2) + (phX r x).2.2.2.2.2.1
/-- May this end come from here, by at most so many phases? -/
def canF : Nat → List DRecPhase → ByteArray → Int → Bool
  | 0, _, x, e => endI x == e
  | n + 1, r, x, e => if atI r x < 0 then endI x == e else canF n r (phX r x).2.2.2.2.2.2.1 e || canF n r (phX r x).2.2.2.2.2.2.2 e
theorem bnd_le {r : List DRecPhase} (h : RecP r) : ∀ (n : Nat) (x : ByteArray), 0 ≤ bndF n r x ∧ bndF n r x ≤ 1000 * n
  | 0, x => by simp [bndF]
  | n + 1, x => by
    rcases at_cases r x with e | ⟨k, hk, e, _⟩
    · simp [bndF, e]; omega
    · have h1 := bnd_le h n (phX r x).2.2.2.2.2.2.1
      have h2 := bnd_le h n (phX r x).2.2.2.2.2.2.2
      have h3 := (ph_name (step_of h hk).1).2.2.1
      rw [← ph_at hk e] at h3
      have hx : ¬ (atI r x < 0) := by omega
      simp only [bndF, if_neg hx]
      omega

end Go.Proofs.Ytkongeofapbblaa

/-
  How long the model's recipes may take.
-/
namespace Go.Proofs.Ytkongeofapbblaa
open Go.RowKit

set_option maxRecDepth 100000 in
set_option maxHeartbeats 4000000 in
theorem bndX_any (S : Nat → Prop) (r : List DRecPhase) (hR : RecP r) : ∀ (n : Nat) (v : Value) (x : ByteArray) (w : World), n ≤ 12 → AtL S w r v → (∀ k : Nat, atI r x = (k : Int) → r.length ≤ k + n) → Calls Try.prog 72 #[v, .string x] w fun e w' => e = .returned (.int .i64 (bndF n r x)) ∧ w' = w := by
  intro n
  induction n with
  | zero =>
    intro v x w _ h hd
    have e : atI r x = -1 := by
      rcases at_cases r x with e | ⟨k, hk, e, _⟩
      · exact e
      · have := hd k e; omega
    go_enter Try.func72, Try.ntmps72
    go_wp2_with fail
    refine (atX_any S r v x w h).mono ?_; rintro e' w1 ⟨rfl, rfl⟩; rw [e]
    go_wp2_with fail
    go_ret
    exact ⟨rfl, rfl⟩
  | succ n IH =>
    intro v x w hn12 h hd
    rcases at_cases r x with e | ⟨k, hk, e, _⟩
    · have hr : bndF (n + 1) r x = 0 := by simp [bndF, e]
      rw [hr]
      go_enter Try.func72, Try.ntmps72
      go_wp2_with fail
      refine (atX_any S r v x w h).mono ?_; rintro e' w1 ⟨rfl, rfl⟩; rw [e]
      go_wp2_with fail
      go_ret
      exact ⟨rfl, rfl⟩
    obtain ⟨oa, cap, ev, hx⟩ := id h
    subst ev
    obtain ⟨b, off, rfl, hbS, cc, hcell, hat⟩ := hx.2 k hk
    clear hx
    have hph := ph_at hk e
    rw [width_DRecPhase] at hcell
    rw [at_DRecPhase] at hat
    obtain ⟨nl, en⟩ : ∃ n, r.length = n := ⟨_, rfl⟩
    obtain ⟨f, ef⟩ : ∃ f, r[k] = f := ⟨_, rfl⟩
    have hst := step_of hR hk
    have hin := (ph_name hst.1).2.2.1
    rw [ef] at hph hst hin hat
    obtain ⟨nm, kd, a, b', n', wi, th, el⟩ := f
    obtain ⟨_, _, _, _, _, ⟨q5, _, _⟩, ⟨q6, _⟩, ⟨q7, _⟩⟩ := hat
    have e5 : w.cell? ⟨b, off + k * 8 + 5, none⟩ = some (.int .i64 wi) := (hcell 5 (by omega)).trans (by rw [q5])
    have e6 : w.cell? ⟨b, off + k * 8 + 6, none⟩ = some (.string th) := (hcell 6 (by omega)).trans (by rw [q6])
    have e7 : w.cell? ⟨b, off + k * 8 + 7, none⟩ = some (.string el) := (hcell 7 (by omega)).trans (by rw [q7])
    clear hcell q5 q6 q7
    have HT : Hid (∀ j : Nat, atI r th = (j : Int) → r.length ≤ j + n) := fun j hj => by have := go_next hR hst.2.1 j hj; have := hd k e; omega
    have HE : Hid (∀ j : Nat, atI r el = (j : Int) → r.length ≤ j + n) := fun j hj => by have := go_next hR hst.2.2 j hj; have := hd k e; omega
    simp only at hin
    rw [en] at h
    rw [en]
    have H : Hid (AtL S w r (.slice (some ⟨b, off, none⟩) nl cap)) := h
    have hkn : k < nl := by omega
    have hnl : nl ≤ 12 := by have := hR.1; omega
    have hnx : ¬ (atI r x < 0) := by omega
    have hr : Hid (bndF (n + 1) r x = max (bndF n r th) (bndF n r el) + wi) := by show _ = _; simp only [bndF, if_neg hnx, hph]
    obtain ⟨A, hA⟩ : ∃ A, A = bndF n r th := ⟨_, rfl⟩
    obtain ⟨B, hB⟩ : ∃ B, B = bndF n r el := ⟨_, rfl⟩
    have bA := bnd_le hR n th
    have bB := bnd_le hR n el
    rw [← hA] at bA
    rw [← hB] at bB
    have CT : Hid (Calls Try.prog 72 #[.slice (some ⟨b, off, none⟩) nl cap, .string th] w fun e w' => e = .returned (.int .i64 A) ∧ w' = w) := by rw [hA]; exact IH _ th w (by omega) H.out HT.out
    have CE : Hid (Calls Try.prog 72 #[.slice (some ⟨b, off, none⟩) nl cap, .string el] w fun e w' => e = .returned (.int .i64 B) ∧ w' = w) := by rw [hB]; exact IH _ el w (by omega) H.out HE.out
    have HR2 : Hid (bndF (n + 1) r x = max A B + wi) := by rw [hA, hB]; exact hr.out
    clear hA hB IH hd hst hph hr HT HE h hR en ef
    rw [HR2.out]
    go_enter Try.func72, Try.ntmps72
    go_wp2_with fail
    refine (atX_any S r _ x w H.out).mono ?_; rintro e' w1 ⟨rfl, rfl⟩; rw [e]
    clear e
    go_wp2_with fail
    refine CT.out.mono ?_; rintro e' w2 ⟨rfl, rfl⟩
    go_wp2_with fail
    refine CE.out.mono ?_; rintro e' w3 ⟨rfl, rfl⟩
    by_cases c : A < B
    · have hm : Hid (max A B = B) := by show _ = _; omega
      go_wp2_with fail
      go_ret
      exact ⟨by rw [hm.out]; rfl, rfl⟩
    · have hm : Hid (max A B = A) := by show _ = _; omega
      go_wp2_with fail
      go_ret
      exact ⟨by rw [hm.out]; rfl, rfl⟩

end Go.Proofs.Ytkongeofapbblaa

/-
  The model's runs of a recipe: where a run stands, how a phase goes.
-/
namespace Go.Proofs.Ytkongeofapbblaa
open Go.RowKit


set_option maxRecDepth 100000 in
set_option maxHeartbeats 4000000 in
theorem stX_any (S : Nat → Prop) (r : List DRecPhase) (hR : RecP r) (v : Value) (x : ByteArray) (now : Int) (w : World) (h : AtL S w r v) (hS : ∀ b, S b → b < w.heap.size) :
    Calls Try.prog 54 #[v, .string x, .int .i64 now] w fun e w' => e = .returned (.agg #[.string x, .int .i64 now, .int .i64 (bndF 12 r x)]) ∧ Below w.heap.size w w' := by
  have b0 : Hid (Below w.heap.size w (w.alloc (.cells #[.string ⟨#[]⟩, .int .i64 0, .int .i64 0] 28))) := (Below.refl _ _).alloc (Nat.le_refl _) _
  have H : Hid (AtL S (w.alloc (.cells #[.string ⟨#[]⟩, .int .i64 0, .int .i64 0] 28)) r v) := h.same (Same.of_below b0.out hS)
  obtain ⟨R, hRR⟩ : ∃ R, R = bndF 12 r x := ⟨_, rfl⟩
  have CB : Hid (Calls Try.prog 72 #[v, .string x] (w.alloc (.cells #[.string ⟨#[]⟩, .int .i64 0, .int .i64 0] 28)) fun e w' => e = .returned (.int .i64 R) ∧ w' = (w.alloc (.cells #[.string ⟨#[]⟩, .int .i64 0, .int .i64 0] 28))) := by rw [hRR]; exact bndX_any S r hR 12 v x _ (Nat.le_refl _) H.out (fun k _ => by have := hR.1; omega)
  rw [← hRR]
  clear hRR h
  go_enter Try.func54, Try.ntmps54
  go_wp2_with fail
  refine CB.out.mono ?_; rintro e w1 ⟨rfl, rfl⟩
  go_wp2_with fail
  exact bodyPost_ret (v := .agg #[.string x, .int .i64 now, .int .i64 R]) (by simp [results, Try.results54, go_sem]) rfl ⟨rfl, (Below.refl _ _).alloc (Nat.le_refl _) _⟩

end Go.Proofs.Ytkongeofapbblaa
