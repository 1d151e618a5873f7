/-
  Several texts in one.
-/
import Derived.Test.YtobchllaopdchacGreatM1
import Derived.Test.YtobchllaopdchacGreatM11
import Derived.Test.YtobchllaopdchacGreatXpp
import Derived.Test.YtobchllaopdchacGreatM2
namespace Go.Proofs.YtobchllaopdchacGreat
open Go.RowKit
theorem atl_nil {α : Type} [Lay α] (S : Nat → Prop) (w : World) (oa : Option Addr) : AtL S w ([] : List α) (.slice oa 0 0) :=
  ⟨oa, 0, rfl, ⟨Nat.zero_le _, Nat.le_refl _, fun _ => rfl⟩, fun _ h => absurd h (Nat.not_lt_zero _)⟩
theorem atl_drop {α : Type} [Lay α] {S : Nat → Prop} {w : World} {l : List α} {b off n cap : Nat} (h : AtL S w l (.slice (some ⟨b, off, none⟩) n cap)) (k : Nat) (hk : k ≤ n) : AtL S w (l.drop k) (.slice (some ⟨b, off + k * Lay.width α, none⟩) (n - k) (cap - k)) := by
  obtain ⟨oa, c, e, hn, hc⟩ := h
  injection e with e1 e2 e3
  subst e1 e2 e3
  refine ⟨_, _, by rw [List.length_drop], ⟨by rw [List.length_drop]; omega, by rw [List.length_drop]; omega, fun h => by cases h⟩, fun i hi => ?_⟩
  rw [List.length_drop] at hi
  obtain ⟨b', off', e, hS, cc, h3, h4⟩ := hc (k + i) (by omega)
  cases e
  refine ⟨_, _, rfl, hS, cc, fun j hj => ?_, ?_⟩
  · have := h3 j hj
    rw [Nat.add_mul, ← Nat.add_assoc] at this
    exact this
  · rw [List.getElem_drop]; exact h4
set_option maxRecDepth 100000 in
set_option maxHeartbeats 4000000 in
theorem phIs_any (nm a b th el x : ByteArray) (kd n wi : Int) (nb : Nat) (w : World) (hx : w.cell? ⟨nb, 0, none⟩ = some (.string x)) (hnb : nb < w.heap.size) :
    Calls Tryz.prog 149 #[.agg #[.string nm, .int .i64 kd, .string a, .string b, .int .i64 n, .int .i64 wi, .string th, .string el], .pointer (some ⟨nb, 0, none⟩)] w fun e w' => e = .returned (.bool (eqB nm x)) ∧ Below w.heap.size w w' := by
  have hx' := fun o => cell_past hx hnb o
  go_enter Tryz.func149, Tryz.ntmps149
  go_wp2
  go_ret
  exact ⟨rfl, (Below.refl _ _).alloc (Nat.le_refl _) _⟩
set_option maxRecDepth 100000 in
set_option maxHeartbeats 4000000 in
theorem phIdx_any (S : Nat → Prop) (v : Value) (r : List DRecPhase) (x : ByteArray) (nb : Nat) (w : World) (h : AtL S w r v) (hS : ∀ b, S b → b < w.heap.size) (hx : w.cell? ⟨nb, 0, none⟩ = some (.string x)) (hnb : nb < w.heap.size) :
    Calls Tryz.prog 148 #[v, .func (.func 149) #[] #[.pointer (some ⟨nb, 0, none⟩)]] w fun e w' => e = .returned (.int .i64 (atI r x)) ∧ Below w.heap.size w w' := by
  obtain ⟨oa, cap, rfl, hn, hc⟩ := h
  obtain ⟨n, en⟩ : ∃ n, r.length = n := ⟨_, rfl⟩
  rw [en] at hn
  rw [en]
  unfold maxLen at hn
  have HC : Hid _ := hc
  clear hc
  have HX : Hid _ := hx
  clear hx
  go_enter Tryz.func148, Tryz.ntmps148
  go_wp2
  go_loopw [8] (fun i wr => ∃ k : Nat, k ≤ n ∧ i = .int .i64 k ∧ Hid (∀ j (hj : j < r.length), j < k → (fun p : DRecPhase => eqB p.1 x) r[j] = false) ∧ Hid (Below w.heap.size w wr)) (fun i _ => n - (intOf i).toNat)
  case atStart => exact ⟨0, Nat.zero_le _, rfl, fun _ _ h => by omega, Below.refl _ _⟩
  case round =>
    obtain ⟨k, hk, rfl, hno, hbel⟩ := hrel
    have hs := hbel.out.size
    by_cases hlt : k < n
    · obtain ⟨b, off, rfl, hbS, cc, hcell, hat⟩ := HC.out k (by omega)
      have hb := hS b hbS
      rw [width_DRecPhase] at hcell
      rw [at_DRecPhase] at hat
      obtain ⟨f, ef⟩ : ∃ f, r[k]'(by omega) = f := ⟨_, rfl⟩
      rw [ef] at hat
      obtain ⟨nm, kd, a, b', n', wi, th, el⟩ := f
      obtain ⟨⟨q0, z0⟩, ⟨q1, _, _⟩, ⟨q2, z2⟩, ⟨q3, z3⟩, ⟨q4, _, _⟩, ⟨q5, _, _⟩, ⟨q6, z6⟩, ⟨q7, z7⟩⟩ := hat
      simp only at q0 q1 q2 q3 q4 q5 q6 q7 z0 z2 z3 z6 z7
      have CELL : Hid (∀ j, j < 8 → w.cell? ⟨b, off + k * 8 + j, none⟩ = some (cc j)) := fun j hj => hcell j hj
      clear hcell
      have E : Hid (∀ u, Below w.heap.size w u → u.cell? ⟨b, off + k * 8, none⟩ = some (.string nm) ∧ u.cell? ⟨b, off + k * 8 + 1, none⟩ = some (.int .i64 kd) ∧ u.cell? ⟨b, off + k * 8 + 2, none⟩ = some (.string a) ∧ u.cell? ⟨b, off + k * 8 + 3, none⟩ = some (.string b') ∧ u.cell? ⟨b, off + k * 8 + 4, none⟩ = some (.int .i64 n') ∧ u.cell? ⟨b, off + k * 8 + 5, none⟩ = some (.int .i64 wi) ∧ u.cell? ⟨b, off + k * 8 + 6, none⟩ = some (.string th) ∧ u.cell? ⟨b, off + k * 8 + 7, none⟩ = some (.string el)) := fun u hu => by
        rw [← q0, ← q1, ← q2, ← q3, ← q4, ← q5, ← q6, ← q7]
        exact ⟨(hu.cell hb).trans (CELL.out 0 (by omega)), (hu.cell hb).trans (CELL.out 1 (by omega)), (hu.cell hb).trans (CELL.out 2 (by omega)), (hu.cell hb).trans (CELL.out 3 (by omega)), (hu.cell hb).trans (CELL.out 4 (by omega)), (hu.cell hb).trans (CELL.out 5 (by omega)), (hu.cell hb).trans (CELL.out 6 (by omega)), (hu.cell hb).trans (CELL.out 7 (by omega))⟩
      clear q0 q1 q2 q3 q4 q5 q6 q7 CELL
      obtain ⟨x0, x1, x2, x3, x4, x5, x6, x7⟩ := E.out wr hbel.out
      have HXR : Hid (wr.cell? ⟨nb, 0, none⟩ = some (.string x)) := (hbel.out.cell (p := ⟨nb, 0, none⟩) hnb).trans HX.out
      cases hy : eqB nm x
      · have hp : (fun p : DRecPhase => eqB p.1 x) (r[k]'(by omega)) = false := by rw [ef]; exact hy
        go_wp2_with (go_at_call 149; refine (phIs_any nm a b' th el x kd n' wi nb _ HXR.out (by omega)).mono ?_; rintro e w1 ⟨rfl, hb1⟩; rw [hy])
        go_roundw
        case rel => exact ⟨k + 1, by omega, by go_num, fun j hj hjk => by
          by_cases e : j = k
          · subst e; exact hp
          · exact hno.out j hj (by omega), hbel.out.trans (hb1.mono hs)⟩
        case measure => simp [intOf]; omega
      · have hp : (fun p : DRecPhase => eqB p.1 x) (r[k]'(by omega)) = true := by rw [ef]; exact hy
        go_wp2_with (go_at_call 149; refine (phIs_any nm a b' th el x kd n' wi nb _ HXR.out (by omega)).mono ?_; rintro e w1 ⟨rfl, hb1⟩; rw [hy])
        have hr : atI r x = k := idx_yes (p := fun p : DRecPhase => eqB p.1 x) (by omega) hp hno.out
        rw [hr]
        go_ret
        exact ⟨rfl, hbel.out.trans (hb1.mono hs)⟩
    · go_wp2
      go_ret
      have hr : atI r x = -1 := idx_no (p := fun p : DRecPhase => eqB p.1 x) (fun j hj => hno.out j hj (by omega))
      rw [hr]
      exact ⟨rfl, hbel.out⟩
set_option maxRecDepth 100000 in
set_option maxHeartbeats 4000000 in
theorem phAt_any (S : Nat → Prop) (r : List DRecPhase) (v : Value) (x : ByteArray) (w : World) (h : AtL S w r v) (hS : ∀ b, S b → b < w.heap.size) :
    Calls Tryz.prog 111 #[v, .string x] w fun e w' => e = .returned (.int .i64 (atI r x)) ∧ Below w.heap.size w w' := by
  have hmf : ∀ (fn : Fn) (first cap : Array Value) (w : World), (Instr.makeFunc fn first cap).run Tryz.prog w = .ok (.func fn first cap) w := fun _ _ _ _ => rfl
  have H : Hid (∀ o1, AtL S (w.alloc o1) r v) := fun o1 => h.same (Same.of_below ((Below.refl _ _).alloc (Nat.le_refl _) o1) hS)
  have HS : Hid (∀ o1 b, S b → b < (w.alloc o1).heap.size) := fun o1 b hb => by have := hS b hb; simp; omega
  clear h
  go_enter Tryz.func111, Tryz.ntmps111
  go_wp2_with (go_at_call 148; refine (phIdx_any S v r x w.heap.size _ (H.out _) (HS.out _) (by simp) (by simp)).mono ?_; rintro e w1 ⟨rfl, hb1⟩)
  go_ret
  exact ⟨rfl, ((Below.refl _ _).alloc (Nat.le_refl _) _).trans (hb1.mono (by simp))⟩
def canI (l : List DRecPhase) (x : ByteArray) : Bool := !(endI x == 0) || decide (0 ≤ atI l x)
set_option maxRecDepth 100000 in
set_option maxHeartbeats 4000000 in
theorem canGoP_any (S : Nat → Prop) (r : List DRecPhase) (v : Value) (x : ByteArray) (w : World) (h : AtL S w r v) (hS : ∀ b, S b → b < w.heap.size) :
    Calls Tryz.prog 122 #[v, .string x] w fun e w' => e = .returned (.bool (canI r x)) ∧ Below w.heap.size w w' := by
  obtain ⟨oa, cap, rfl, hx⟩ := id h
  have H : Hid (AtL S w r (.slice oa r.length cap)) := h
  clear h hx
  obtain ⟨n, en⟩ : ∃ n, r.length = n := ⟨_, rfl⟩
  rw [en] at H
  rw [en]
  clear en
  by_cases c : endI x = 0
  · obtain ⟨A, hA⟩ : ∃ A, A = atI r x := ⟨_, rfl⟩
    have hw : canI r x = decide (0 ≤ A) := by rw [hA]; simp [canI, c]
    rw [hw]
    have HA : Hid (A = atI r x) := hA
    clear hA hw
    go_enter Tryz.func122, Tryz.ntmps122
    go_wp2_with fail
    refine (endP_any x _).mono ?_; rintro e w1 ⟨rfl, rfl⟩
    rw [c]
    go_wp2_with fail
    refine (phAt_any S r _ x _ H.out hS).mono ?_; rintro e w2 ⟨rfl, hb2⟩
    have HB : Hid _ := hb2
    clear hb2
    rw [← HA.out]
    go_wp2_with fail
    go_ret
    exact ⟨rfl, HB.out⟩
  · have hw : canI r x = true := by simp [canI, c]
    rw [hw]
    go_enter Tryz.func122, Tryz.ntmps122
    go_wp2_with fail
    refine (endP_any x _).mono ?_; rintro e w1 ⟨rfl, rfl⟩
    obtain ⟨E, hE⟩ : ∃ E, E = endI x := ⟨_, rfl⟩
    rw [← hE]
    rw [← hE] at c
    clear hE
    go_wp2_with fail
    go_ret
    exact ⟨rfl, Below.refl _ _⟩
end Go.Proofs.YtobchllaopdchacGreat

namespace Go.Proofs.YtobchllaopdchacGreat
open Go.RowKit
def stepI (l : List DRecPhase) (p : DRecPhase) : Bool := phaseB p && !(decide (0 ≤ atI l p.1)) && canI l p.2.2.2.2.2.2.1 && canI l p.2.2.2.2.2.2.2
theorem at_yes {r : List DRecPhase} {x : ByteArray} {j : Nat} (hj : j < r.length) (h : eqB r[j].1 x = true) : ∃ (k : Nat) (hk : k < r.length), atI r x = (k : Int) ∧ k ≤ j ∧ eqB r[k].1 x = true := by
  unfold atI idxI
  cases hf : r.findIdx? (fun p : DRecPhase => eqB p.1 x) with
  | none =>
    have := List.findIdx?_eq_none_iff.1 hf r[j] (List.getElem_mem hj)
    rw [h] at this; cases this
  | some i =>
    obtain ⟨hi, hp, hno⟩ := List.findIdx?_eq_some_iff_getElem.1 hf
    refine ⟨i, hi, rfl, ?_, hp⟩
    by_cases c : j < i
    · have := hno j c
      simp only [h] at this
      exact absurd trivial this
    · omega
theorem eqB_to {a b : ByteArray} : eqB a b = true ↔ a.toList = b.toList := by simp [eqB]
theorem at_drop {r : List DRecPhase} {x : ByteArray} {k : Nat} : (0 ≤ atI (r.drop k) x) ↔ ∃ (j : Nat) (hj : j < r.length), k ≤ j ∧ eqB r[j].1 x = true := by
  constructor
  · intro h
    rcases at_cases (r.drop k) x with e | ⟨i, hi, e, hx⟩
    · omega
    · rw [List.length_drop] at hi
      rw [List.getElem_drop] at hx
      exact ⟨k + i, by omega, by omega, hx⟩
  · rintro ⟨j, hj, hk, hx⟩
    obtain ⟨i, hi, e, _⟩ := at_yes (r := r.drop k) (x := x) (j := j - k) (by rw [List.length_drop]; omega) (by
      rw [List.getElem_drop]
      have : k + (j - k) = j := by omega
      simp only [this]; exact hx)
    omega
theorem stepI_same {r : List DRecPhase} : (∀ i (h : i < r.length), stepB r i r[i] = true) ↔ (∀ i (h : i < r.length), stepI (r.drop (i + 1)) r[i] = true) := by
  constructor
  · intro H i hi
    have hs := H i hi
    simp only [stepB, Bool.and_eq_true, beq_iff_eq] at hs
    obtain ⟨⟨⟨h1, h2⟩, h3⟩, h4⟩ := hs
    have can : ∀ x, goesB r i x = true → canI (r.drop (i + 1)) x = true := by
      intro x hg
      by_cases c : endI x = 0
      · have hlt : (i : Int) < atI r x := by simpa [goesB, c] using hg
        rcases at_cases r x with e | ⟨j, hj, e, hx⟩
        · omega
        · have : 0 ≤ atI (r.drop (i + 1)) x := at_drop.2 ⟨j, hj, by omega, hx⟩
          simp [canI, this]
      · simp [canI, c]
    have hno : ¬ 0 ≤ atI (r.drop (i + 1)) r[i].1 := by
      intro h
      obtain ⟨j, hj, hk, hx⟩ := at_drop.1 h
      have hs' := H j hj
      simp only [stepB, Bool.and_eq_true, beq_iff_eq] at hs'
      have hj' := hs'.1.1.2
      obtain ⟨m, hm, em, hle, _⟩ := at_yes (r := r) (x := r[j].1) (j := i) hi (by rw [eqB_to] at hx ⊢; exact hx.symm)
      omega
    simp only [stepI, Bool.and_eq_true]
    exact ⟨⟨⟨h1, by simp only [decide_eq_false hno, Bool.not_false]⟩, can _ h3⟩, can _ h4⟩
  · intro H
    have uni : ∀ i j (hij : i < j) (hj : j < r.length), ¬ eqB (r[j]).1 (r[i]'(by omega)).1 = true := by
      intro i j hij hj hx
      have hs := H i (by omega)
      simp only [stepI, Bool.and_eq_true, Bool.not_eq_true', decide_eq_false_iff_not] at hs
      exact hs.1.1.2 (at_drop.2 ⟨j, hj, by omega, hx⟩)
    intro i hi
    have hs := H i hi
    simp only [stepI, Bool.and_eq_true] at hs
    obtain ⟨⟨⟨h1, _⟩, h3⟩, h4⟩ := hs
    have can : ∀ x, canI (r.drop (i + 1)) x = true → goesB r i x = true := by
      intro x hg
      by_cases c : endI x = 0
      · have h0 : 0 ≤ atI (r.drop (i + 1)) x := by simpa [canI, c] using hg
        obtain ⟨j, hj, hk, hx⟩ := at_drop.1 h0
        obtain ⟨m, hm, em, hle, hmx⟩ := at_yes hj hx
        have hmi : i < m := by
          by_cases d : i < m
          · exact d
          · exfalso
            refine uni m j (by omega) hj ?_
            rw [eqB_to] at hx hmx ⊢
            exact hx.trans hmx.symm
        have : (i : Int) < atI r x := by omega
        simp [goesB, this]
      · simp [goesB, c]
    have hat : atI r r[i].1 = (i : Int) := by
      obtain ⟨m, hm, em, hle, hmx⟩ := at_yes (r := r) (x := r[i].1) hi (eqB_refl _)
      by_cases d : m = i
      · rw [em, d]
      · exfalso
        refine uni m i (by omega) hi ?_
        rw [eqB_to] at hmx ⊢
        exact hmx.symm
    simp only [stepB, Bool.and_eq_true, beq_iff_eq]
    exact ⟨⟨⟨h1, hat⟩, can _ h3⟩, can _ h4⟩
theorem recI_bad {r : List DRecPhase} {k : Nat} (hk : k < r.length) (h : stepI (r.drop (k + 1)) r[k] = false) : recB r = false := rec_no (fun hp => by
  have := stepI_same.1 hp.2 k hk; rw [h] at this; cases this)
set_option maxRecDepth 100000 in
set_option maxHeartbeats 4000000 in
theorem okI_any (S : Nat → Prop) (r : List DRecPhase) (v : Value) (w : World) (h : AtL S w r v) (hS : ∀ b, S b → b < w.heap.size) (_ : totL r ≤ 1048576) :
    Calls Tryz.prog 85 #[v] w fun e w' => e = .returned (.bool (recB r)) ∧ Below w.heap.size w w' := by
  obtain ⟨oa, cap, ev, hx⟩ := id h
  obtain ⟨hn, hc⟩ := hx
  subst ev
  obtain ⟨n, en⟩ : ∃ n, r.length = n := ⟨_, rfl⟩
  rw [en] at h hn
  rw [en]
  unfold maxLen at hn
  have H : Hid (∀ w', Below w.heap.size w w' → AtL S w' r (.slice oa n cap)) := fun w' hb => h.same (Same.of_below hb hS)
  have HC : Hid _ := hc
  clear hc h
  by_cases hl : 1 ≤ n ∧ n ≤ 12
  · have d1 : decide ((n : Int) < 1) = false := by simp; omega
    have d2 : decide ((12 : Int) < (n : Int)) = false := by simp; omega
    go_enter Tryz.func85, Tryz.ntmps85
    go_wp2_with fail
    go_loopw [16] (fun i wr => ∃ k : Nat, k ≤ n ∧ i = .int .i64 k ∧ Hid (∀ j (hj : j < r.length), j < k → stepI (r.drop (j + 1)) r[j] = true) ∧ Hid (Below w.heap.size w wr)) (fun i _ => n - (intOf i).toNat)
    case atStart => exact ⟨0, Nat.zero_le _, rfl, fun _ _ h => by omega, Below.refl _ _⟩
    case round =>
      obtain ⟨k, hk, rfl, hno, hbel⟩ := hrel
      have hs := hbel.out.size
      by_cases hlt : k < n
      · obtain ⟨b, off, rfl, hbS, cc, hcell, hat⟩ := HC.out k (by omega)
        have hb := hS b hbS
        rw [width_DRecPhase] at hcell
        rw [at_DRecPhase] at hat
        obtain ⟨f, ef⟩ : ∃ f, r[k]'(by omega) = f := ⟨_, rfl⟩
        rw [ef] at hat
        obtain ⟨nm, kd, a, b', n', wi, th, el⟩ := f
        obtain ⟨⟨q0, z0⟩, ⟨q1, y1⟩, ⟨q2, z2⟩, ⟨q3, z3⟩, ⟨q4, y4⟩, ⟨q5, y5⟩, ⟨q6, z6⟩, ⟨q7, z7⟩⟩ := hat
        simp only at q0 q1 q2 q3 q4 q5 q6 q7 z0 z2 z3 z6 z7
        have CELL : Hid (∀ j, j < 8 → w.cell? ⟨b, off + k * 8 + j, none⟩ = some (cc j)) := fun j hj => hcell j hj
        clear hcell
        have E : Hid (∀ u, Below w.heap.size w u → u.cell? ⟨b, off + k * 8, none⟩ = some (.string nm) ∧ u.cell? ⟨b, off + k * 8 + 1, none⟩ = some (.int .i64 kd) ∧ u.cell? ⟨b, off + k * 8 + 2, none⟩ = some (.string a) ∧ u.cell? ⟨b, off + k * 8 + 3, none⟩ = some (.string b') ∧ u.cell? ⟨b, off + k * 8 + 4, none⟩ = some (.int .i64 n') ∧ u.cell? ⟨b, off + k * 8 + 5, none⟩ = some (.int .i64 wi) ∧ u.cell? ⟨b, off + k * 8 + 6, none⟩ = some (.string th) ∧ u.cell? ⟨b, off + k * 8 + 7, none⟩ = some (.string el)) := fun u hu => by
          rw [← q0, ← q1, ← q2, ← q3, ← q4, ← q5, ← q6, ← q7]
          exact ⟨(hu.cell hb).trans (CELL.out 0 (by omega)), (hu.cell hb).trans (CELL.out 1 (by omega)), (hu.cell hb).trans (CELL.out 2 (by omega)), (hu.cell hb).trans (CELL.out 3 (by omega)), (hu.cell hb).trans (CELL.out 4 (by omega)), (hu.cell hb).trans (CELL.out 5 (by omega)), (hu.cell hb).trans (CELL.out 6 (by omega)), (hu.cell hb).trans (CELL.out 7 (by omega))⟩
        clear q0 q1 q2 q3 q4 q5 q6 q7 CELL
        have HNO : Hid (stepI (r.drop (k + 1)) (r[k]'(by omega)) = false → recB r = false) := fun h => recI_bad (by omega) h
        have HSD : Hid _ := lt_up hS
        obtain ⟨x0, x1, x2, x3, x4, x5, x6, x7⟩ := E.out wr hbel.out
        have K0 : Hid (Below (wr.heap.size + 1) (wr.alloc (.cells #[.string nm, .int .i64 kd, .string a, .string b', .int .i64 n', .int .i64 wi, .string th, .string el] 75)) (wr.alloc (.cells #[.string nm, .int .i64 kd, .string a, .string b', .int .i64 n', .int .i64 wi, .string th, .string el] 75))) := Below.refl _ _
        have G0 : Hid (Below w.heap.size w (wr.alloc (.cells #[.string nm, .int .i64 kd, .string a, .string b', .int .i64 n', .int .i64 wi, .string th, .string el] 75))) := hbel.out.alloc hs _
        have p0 := box_at _ _ K0.out 0 (.string nm) rfl
        have p1 := box_at _ _ K0.out 1 (.int .i64 kd) rfl
        have p2 := box_at _ _ K0.out 2 (.string a) rfl
        have p3 := box_at _ _ K0.out 3 (.string b') rfl
        have p4 := box_at _ _ K0.out 4 (.int .i64 n') rfl
        have p5 := box_at _ _ K0.out 5 (.int .i64 wi) rfl
        have p6 := box_at _ _ K0.out 6 (.string th) rfl
        have p7 := box_at _ _ K0.out 7 (.string el) rfl
        by_cases hl1 : k + 1 < n
        · have d3 : k + 1 < cap := by omega
          have D : Hid (∀ u, Below w.heap.size w u → AtL S u (r.drop (k + 1)) (.slice (some ⟨b, off + (k + 1) * 8, none⟩) (n - (k + 1)) (cap - (k + 1)))) := fun u hu => atl_drop (H.out u hu) (k + 1) (by omega)
          go_wp2_with fail
          refine (phaseI_any nm a b' th el kd n' wi _ z0 z2 z3 z6 z7 y1 y4 y5).mono ?_; rintro e u1 ⟨rfl, hb1⟩
          have K1 : Hid (Below (wr.heap.size + 1) (wr.alloc (.cells #[.string nm, .int .i64 kd, .string a, .string b', .int .i64 n', .int .i64 wi, .string th, .string el] 75)) u1) := below_of K0.out hb1
          have G1 : Hid (Below w.heap.size w u1) := hbel.out.trans ((below_end K1.out).mono hs)
          clear hb1
          clear p0 p1 p2 p3 p4 p5 p6 p7
          have p0 := box_at _ _ K1.out 0 (.string nm) rfl
          have p1 := box_at _ _ K1.out 1 (.int .i64 kd) rfl
          have p2 := box_at _ _ K1.out 2 (.string a) rfl
          have p3 := box_at _ _ K1.out 3 (.string b') rfl
          have p4 := box_at _ _ K1.out 4 (.int .i64 n') rfl
          have p5 := box_at _ _ K1.out 5 (.int .i64 wi) rfl
          have p6 := box_at _ _ K1.out 6 (.string th) rfl
          have p7 := box_at _ _ K1.out 7 (.string el) rfl
          cases c1 : phaseB (nm, kd, a, b', n', wi, th, el)
          · go_wp2_with fail
            rw [HNO.out (by rw [ef]; simp [stepI, c1])]
            go_ret
            exact ⟨rfl, G1.out⟩
          · go_wp2_with fail
            refine (phAt_any S (r.drop (k + 1)) _ nm _ (D.out _ G1.out) (HSD.out _ G1.out)).mono ?_; rintro e u2 ⟨rfl, hb2⟩
            have K2 : Hid (Below (wr.heap.size + 1) (wr.alloc (.cells #[.string nm, .int .i64 kd, .string a, .string b', .int .i64 n', .int .i64 wi, .string th, .string el] 75)) u2) := below_of K1.out hb2
            have G2 : Hid (Below w.heap.size w u2) := hbel.out.trans ((below_end K2.out).mono hs)
            clear hb2
            clear p0 p1 p2 p3 p4 p5 p6 p7
            have p0 := box_at _ _ K2.out 0 (.string nm) rfl
            have p1 := box_at _ _ K2.out 1 (.int .i64 kd) rfl
            have p2 := box_at _ _ K2.out 2 (.string a) rfl
            have p3 := box_at _ _ K2.out 3 (.string b') rfl
            have p4 := box_at _ _ K2.out 4 (.int .i64 n') rfl
            have p5 := box_at _ _ K2.out 5 (.int .i64 wi) rfl
            have p6 := box_at _ _ K2.out 6 (.string th) rfl
            have p7 := box_at _ _ K2.out 7 (.string el) rfl
            obtain ⟨A, hA⟩ : ∃ A, A = atI (r.drop (k + 1)) nm := ⟨_, rfl⟩
            rw [← hA]
            by_cases c2p : 0 ≤ A
            · have c2 : (0 ≤ atI (r.drop (k + 1)) nm) := by rw [← hA]; exact c2p
              clear hA
              go_wp2_with fail
              rw [HNO.out (by rw [ef]; simp [stepI, c2])]
              go_ret
              exact ⟨rfl, G2.out⟩
            · have c2 : Hid (¬ (0 ≤ atI (r.drop (k + 1)) nm)) := by rw [← hA]; exact c2p
              clear hA
              go_wp2_with fail
              refine (canGoP_any S (r.drop (k + 1)) _ th _ (D.out _ G2.out) (HSD.out _ G2.out)).mono ?_; rintro e u3 ⟨rfl, hb3⟩
              have K3 : Hid (Below (wr.heap.size + 1) (wr.alloc (.cells #[.string nm, .int .i64 kd, .string a, .string b', .int .i64 n', .int .i64 wi, .string th, .string el] 75)) u3) := below_of K2.out hb3
              have G3 : Hid (Below w.heap.size w u3) := hbel.out.trans ((below_end K3.out).mono hs)
              clear hb3
              clear p0 p1 p2 p3 p4 p5 p6 p7
              have p0 := box_at _ _ K3.out 0 (.string nm) rfl
              have p1 := box_at _ _ K3.out 1 (.int .i64 kd) rfl
              have p2 := box_at _ _ K3.out 2 (.string a) rfl
              have p3 := box_at _ _ K3.out 3 (.string b') rfl
              have p4 := box_at _ _ K3.out 4 (.int .i64 n') rfl
              have p5 := box_at _ _ K3.out 5 (.int .i64 wi) rfl
              have p6 := box_at _ _ K3.out 6 (.string th) rfl
              have p7 := box_at _ _ K3.out 7 (.string el) rfl
              cases c3 : canI (r.drop (k + 1)) th
              · go_wp2_with fail
                rw [HNO.out (by rw [ef]; simp [stepI, c3])]
                go_ret
                exact ⟨rfl, G3.out⟩
              · go_wp2_with fail
                refine (canGoP_any S (r.drop (k + 1)) _ el _ (D.out _ G3.out) (HSD.out _ G3.out)).mono ?_; rintro e u4 ⟨rfl, hb4⟩
                have K4 : Hid (Below (wr.heap.size + 1) (wr.alloc (.cells #[.string nm, .int .i64 kd, .string a, .string b', .int .i64 n', .int .i64 wi, .string th, .string el] 75)) u4) := below_of K3.out hb4
                have G4 : Hid (Below w.heap.size w u4) := hbel.out.trans ((below_end K4.out).mono hs)
                clear hb4
                clear p0 p1 p2 p3 p4 p5 p6 p7
                have p0 := box_at _ _ K4.out 0 (.string nm) rfl
                have p1 := box_at _ _ K4.out 1 (.int .i64 kd) rfl
                have p2 := box_at _ _ K4.out 2 (.string a) rfl
                have p3 := box_at _ _ K4.out 3 (.string b') rfl
                have p4 := box_at _ _ K4.out 4 (.int .i64 n') rfl
                have p5 := box_at _ _ K4.out 5 (.int .i64 wi) rfl
                have p6 := box_at _ _ K4.out 6 (.string th) rfl
                have p7 := box_at _ _ K4.out 7 (.string el) rfl
                cases c4 : canI (r.drop (k + 1)) el
                · go_wp2_with fail
                  rw [HNO.out (by rw [ef]; simp [stepI, c4])]
                  go_ret
                  exact ⟨rfl, G4.out⟩
                · go_wp2_with fail
                  go_roundw
                  case rel => exact ⟨k + 1, by omega, by go_num, fun j hj hjk => by
                    by_cases ej : j = k
                    · subst ej; rw [ef]; simp only [stepI, c1, c3, c4, show decide (0 ≤ atI (r.drop (j + 1)) nm) = false from decide_eq_false (by have := c2.out; omega), Bool.not_false, Bool.and_self]
                    · exact hno.out j hj (by omega), G4.out⟩
                  case measure => simp [intOf]; omega
        · have D0 : r.drop (k + 1) = [] := List.drop_eq_nil_of_le (by omega)
          have dn : n - (k + 1) = 0 := by omega
          by_cases hce : cap = k + 1
          · subst hce
            have D : Hid (∀ u, Below w.heap.size w u → AtL S u (r.drop (k + 1)) (.slice (some ⟨b, off, none⟩) 0 0)) := fun u hu => by rw [D0]; exact atl_nil S u _
            clear D0
            go_wp2_with fail
            refine (phaseI_any nm a b' th el kd n' wi _ z0 z2 z3 z6 z7 y1 y4 y5).mono ?_; rintro e u1 ⟨rfl, hb1⟩
            have K1 : Hid (Below (wr.heap.size + 1) (wr.alloc (.cells #[.string nm, .int .i64 kd, .string a, .string b', .int .i64 n', .int .i64 wi, .string th, .string el] 75)) u1) := below_of K0.out hb1
            have G1 : Hid (Below w.heap.size w u1) := hbel.out.trans ((below_end K1.out).mono hs)
            clear hb1
            clear p0 p1 p2 p3 p4 p5 p6 p7
            have p0 := box_at _ _ K1.out 0 (.string nm) rfl
            have p1 := box_at _ _ K1.out 1 (.int .i64 kd) rfl
            have p2 := box_at _ _ K1.out 2 (.string a) rfl
            have p3 := box_at _ _ K1.out 3 (.string b') rfl
            have p4 := box_at _ _ K1.out 4 (.int .i64 n') rfl
            have p5 := box_at _ _ K1.out 5 (.int .i64 wi) rfl
            have p6 := box_at _ _ K1.out 6 (.string th) rfl
            have p7 := box_at _ _ K1.out 7 (.string el) rfl
            cases c1 : phaseB (nm, kd, a, b', n', wi, th, el)
            · go_wp2_with fail
              rw [HNO.out (by rw [ef]; simp [stepI, c1])]
              go_ret
              exact ⟨rfl, G1.out⟩
            · go_wp2_with fail
              refine (phAt_any S (r.drop (k + 1)) _ nm _ (D.out _ G1.out) (HSD.out _ G1.out)).mono ?_; rintro e u2 ⟨rfl, hb2⟩
              have K2 : Hid (Below (wr.heap.size + 1) (wr.alloc (.cells #[.string nm, .int .i64 kd, .string a, .string b', .int .i64 n', .int .i64 wi, .string th, .string el] 75)) u2) := below_of K1.out hb2
              have G2 : Hid (Below w.heap.size w u2) := hbel.out.trans ((below_end K2.out).mono hs)
              clear hb2
              clear p0 p1 p2 p3 p4 p5 p6 p7
              have p0 := box_at _ _ K2.out 0 (.string nm) rfl
              have p1 := box_at _ _ K2.out 1 (.int .i64 kd) rfl
              have p2 := box_at _ _ K2.out 2 (.string a) rfl
              have p3 := box_at _ _ K2.out 3 (.string b') rfl
              have p4 := box_at _ _ K2.out 4 (.int .i64 n') rfl
              have p5 := box_at _ _ K2.out 5 (.int .i64 wi) rfl
              have p6 := box_at _ _ K2.out 6 (.string th) rfl
              have p7 := box_at _ _ K2.out 7 (.string el) rfl
              obtain ⟨A, hA⟩ : ∃ A, A = atI (r.drop (k + 1)) nm := ⟨_, rfl⟩
              rw [← hA]
              by_cases c2p : 0 ≤ A
              · have c2 : (0 ≤ atI (r.drop (k + 1)) nm) := by rw [← hA]; exact c2p
                clear hA
                go_wp2_with fail
                rw [HNO.out (by rw [ef]; simp [stepI, c2])]
                go_ret
                exact ⟨rfl, G2.out⟩
              · have c2 : Hid (¬ (0 ≤ atI (r.drop (k + 1)) nm)) := by rw [← hA]; exact c2p
                clear hA
                go_wp2_with fail
                refine (canGoP_any S (r.drop (k + 1)) _ th _ (D.out _ G2.out) (HSD.out _ G2.out)).mono ?_; rintro e u3 ⟨rfl, hb3⟩
                have K3 : Hid (Below (wr.heap.size + 1) (wr.alloc (.cells #[.string nm, .int .i64 kd, .string a, .string b', .int .i64 n', .int .i64 wi, .string th, .string el] 75)) u3) := below_of K2.out hb3
                have G3 : Hid (Below w.heap.size w u3) := hbel.out.trans ((below_end K3.out).mono hs)
                clear hb3
                clear p0 p1 p2 p3 p4 p5 p6 p7
                have p0 := box_at _ _ K3.out 0 (.string nm) rfl
                have p1 := box_at _ _ K3.out 1 (.int .i64 kd) rfl
                have p2 := box_at _ _ K3.out 2 (.string a) rfl
                have p3 := box_at _ _ K3.out 3 (.string b') rfl
                have p4 := box_at _ _ K3.out 4 (.int .i64 n') rfl
                have p5 := box_at _ _ K3.out 5 (.int .i64 wi) rfl
                have p6 := box_at _ _ K3.out 6 (.string th) rfl
                have p7 := box_at _ _ K3.out 7 (.string el) rfl
                cases c3 : canI (r.drop (k + 1)) th
                · go_wp2_with fail
                  rw [HNO.out (by rw [ef]; simp [stepI, c3])]
                  go_ret
                  exact ⟨rfl, G3.out⟩
                · go_wp2_with fail
                  refine (canGoP_any S (r.drop (k + 1)) _ el _ (D.out _ G3.out) (HSD.out _ G3.out)).mono ?_; rintro e u4 ⟨rfl, hb4⟩
                  have K4 : Hid (Below (wr.heap.size + 1) (wr.alloc (.cells #[.string nm, .int .i64 kd, .string a, .string b', .int .i64 n', .int .i64 wi, .string th, .string el] 75)) u4) := below_of K3.out hb4
                  have G4 : Hid (Below w.heap.size w u4) := hbel.out.trans ((below_end K4.out).mono hs)
                  clear hb4
                  clear p0 p1 p2 p3 p4 p5 p6 p7
                  have p0 := box_at _ _ K4.out 0 (.string nm) rfl
                  have p1 := box_at _ _ K4.out 1 (.int .i64 kd) rfl
                  have p2 := box_at _ _ K4.out 2 (.string a) rfl
                  have p3 := box_at _ _ K4.out 3 (.string b') rfl
                  have p4 := box_at _ _ K4.out 4 (.int .i64 n') rfl
                  have p5 := box_at _ _ K4.out 5 (.int .i64 wi) rfl
                  have p6 := box_at _ _ K4.out 6 (.string th) rfl
                  have p7 := box_at _ _ K4.out 7 (.string el) rfl
                  cases c4 : canI (r.drop (k + 1)) el
                  · go_wp2_with fail
                    rw [HNO.out (by rw [ef]; simp [stepI, c4])]
                    go_ret
                    exact ⟨rfl, G4.out⟩
                  · go_wp2_with fail
                    go_roundw
                    case rel => exact ⟨k + 1, by omega, by go_num, fun j hj hjk => by
                      by_cases ej : j = k
                      · subst ej; rw [ef]; simp only [stepI, c1, c3, c4, show decide (0 ≤ atI (r.drop (j + 1)) nm) = false from decide_eq_false (by have := c2.out; omega), Bool.not_false, Bool.and_self]
                      · exact hno.out j hj (by omega), G4.out⟩
                    case measure => simp [intOf]; omega
          · have D : Hid (∀ u, Below w.heap.size w u → AtL S u (r.drop (k + 1)) (.slice (some ⟨b, off + (k + 1) * 8, none⟩) 0 (cap - (k + 1)))) := fun u hu => by
              have := atl_drop (H.out u hu) (k + 1) (by omega)
              rw [dn] at this; exact this
            clear D0
            go_wp2_with fail
            refine (phaseI_any nm a b' th el kd n' wi _ z0 z2 z3 z6 z7 y1 y4 y5).mono ?_; rintro e u1 ⟨rfl, hb1⟩
            have K1 : Hid (Below (wr.heap.size + 1) (wr.alloc (.cells #[.string nm, .int .i64 kd, .string a, .string b', .int .i64 n', .int .i64 wi, .string th, .string el] 75)) u1) := below_of K0.out hb1
            have G1 : Hid (Below w.heap.size w u1) := hbel.out.trans ((below_end K1.out).mono hs)
            clear hb1
            clear p0 p1 p2 p3 p4 p5 p6 p7
            have p0 := box_at _ _ K1.out 0 (.string nm) rfl
            have p1 := box_at _ _ K1.out 1 (.int .i64 kd) rfl
            have p2 := box_at _ _ K1.out 2 (.string a) rfl
            have p3 := box_at _ _ K1.out 3 (.string b') rfl
            have p4 := box_at _ _ K1.out 4 (.int .i64 n') rfl
            have p5 := box_at _ _ K1.out 5 (.int .i64 wi) rfl
            have p6 := box_at _ _ K1.out 6 (.string th) rfl
            have p7 := box_at _ _ K1.out 7 (.string el) rfl
            cases c1 : phaseB (nm, kd, a, b', n', wi, th, el)
            · go_wp2_with fail
              rw [HNO.out (by rw [ef]; simp [stepI, c1])]
              go_ret
              exact ⟨rfl, G1.out⟩
            · go_wp2_with fail
              refine (phAt_any S (r.drop (k + 1)) _ nm _ (D.out _ G1.out) (HSD.out _ G1.out)).mono ?_; rintro e u2 ⟨rfl, hb2⟩
              have K2 : Hid (Below (wr.heap.size + 1) (wr.alloc (.cells #[.string nm, .int .i64 kd, .string a, .string b', .int .i64 n', .int .i64 wi, .string th, .string el] 75)) u2) := below_of K1.out hb2
              have G2 : Hid (Below w.heap.size w u2) := hbel.out.trans ((below_end K2.out).mono hs)
              clear hb2
              clear p0 p1 p2 p3 p4 p5 p6 p7
              have p0 := box_at _ _ K2.out 0 (.string nm) rfl
              have p1 := box_at _ _ K2.out 1 (.int .i64 kd) rfl
              have p2 := box_at _ _ K2.out 2 (.string a) rfl
              have p3 := box_at _ _ K2.out 3 (.string b') rfl
              have p4 := box_at _ _ K2.out 4 (.int .i64 n') rfl
              have p5 := box_at _ _ K2.out 5 (.int .i64 wi) rfl
              have p6 := box_at _ _ K2.out 6 (.string th) rfl
              have p7 := box_at _ _ K2.out 7 (.string el) rfl
              obtain ⟨A, hA⟩ : ∃ A, A = atI (r.drop (k + 1)) nm := ⟨_, rfl⟩
              rw [← hA]
              by_cases c2p : 0 ≤ A
              · have c2 : (0 ≤ atI (r.drop (k + 1)) nm) := by rw [← hA]; exact c2p
                clear hA
                go_wp2_with fail
                rw [HNO.out (by rw [ef]; simp [stepI, c2])]
                go_ret
                exact ⟨rfl, G2.out⟩
              · have c2 : Hid (¬ (0 ≤ atI (r.drop (k + 1)) nm)) := by rw [← hA]; exact c2p
                clear hA
                go_wp2_with fail
                refine (canGoP_any S (r.drop (k + 1)) _ th _ (D.out _ G2.out) (HSD.out _ G2.out)).mono ?_; rintro e u3 ⟨rfl, hb3⟩
                have K3 : Hid (Below (wr.heap.size + 1) (wr.alloc (.cells #[.string nm, .int .i64 kd, .string a, .string b', .int .i64 n', .int .i64 wi, .string th, .string el] 75)) u3) := below_of K2.out hb3
                have G3 : Hid (Below w.heap.size w u3) := hbel.out.trans ((below_end K3.out).mono hs)
                clear hb3
                clear p0 p1 p2 p3 p4 p5 p6 p7
                have p0 := box_at _ _ K3.out 0 (.string nm) rfl
                have p1 := box_at _ _ K3.out 1 (.int .i64 kd) rfl
                have p2 := box_at _ _ K3.out 2 (.string a) rfl
                have p3 := box_at _ _ K3.out 3 (.string b') rfl
                have p4 := box_at _ _ K3.out 4 (.int .i64 n') rfl
                have p5 := box_at _ _ K3.out 5 (.int .i64 wi) rfl
                have p6 := box_at _ _ K3.out 6 (.string th) rfl
                have p7 := box_at _ _ K3.out 7 (.string el) rfl
                cases c3 : canI (r.drop (k + 1)) th
                · go_wp2_with fail
                  rw [HNO.out (by rw [ef]; simp [stepI, c3])]
                  go_ret
                  exact ⟨rfl, G3.out⟩
                · go_wp2_with fail
                  refine (canGoP_any S (r.drop (k + 1)) _ el _ (D.out _ G3.out) (HSD.out _ G3.out)).mono ?_; rintro e u4 ⟨rfl, hb4⟩
                  have K4 : Hid (Below (wr.heap.size + 1) (wr.alloc (.cells #[.string nm, .int .i64 kd, .string a, .string b', .int .i64 n', .int .i64 wi, .string th, .string el] 75)) u4) := below_of K3.out hb4
                  have G4 : Hid (Below w.heap.size w u4) := hbel.out.trans ((below_end K4.out).mono hs)
                  clear hb4
                  clear p0 p1 p2 p3 p4 p5 p6 p7
                  have p0 := box_at _ _ K4.out 0 (.string nm) rfl
                  have p1 := box_at _ _ K4.out 1 (.int .i64 kd) rfl
                  have p2 := box_at _ _ K4.out 2 (.string a) rfl
                  have p3 := box_at _ _ K4.out 3 (.string b') rfl
                  have p4 := box_at _ _ K4.out 4 (.int .i64 n') rfl
                  have p5 := box_at _ _ K4.out 5 (.int .i64 wi) rfl
                  have p6 := box_at _ _ K4.out 6 (.string th) rfl
                  have p7 := box_at _ _ K4.out 7 (.string el) rfl
                  cases c4 : canI (r.drop (k + 1)) el
                  · go_wp2_with fail
                    rw [HNO.out (by rw [ef]; simp [stepI, c4])]
                    go_ret
                    exact ⟨rfl, G4.out⟩
                  · go_wp2_with fail
                    go_roundw
                    case rel => exact ⟨k + 1, by omega, by go_num, fun j hj hjk => by
                      by_cases ej : j = k
                      · subst ej; rw [ef]; simp only [stepI, c1, c3, c4, show decide (0 ≤ atI (r.drop (j + 1)) nm) = false from decide_eq_false (by have := c2.out; omega), Bool.not_false, Bool.and_self]
                      · exact hno.out j hj (by omega), G4.out⟩
                    case measure => simp [intOf]; omega
      · have hkn : k = n := by omega
        subst hkn
        go_wp2_with fail
        rw [rec_yes ⟨by omega, stepI_same.2 (fun i hi => hno.out i hi (by omega))⟩]
        go_ret
        exact ⟨rfl, hbel.out⟩
  · rw [rec_no (fun hp => hl (by have := hp.1; omega))]
    by_cases h0 : n = 0
    · subst h0
      go_enter Tryz.func85, Tryz.ntmps85
      go_wp2_with fail
      go_ret
      exact ⟨rfl, Below.refl _ _⟩
    · have d1 : decide ((n : Int) < 1) = false := by simp; omega
      have d2 : decide ((12 : Int) < (n : Int)) = true := by simp; omega
      go_enter Tryz.func85, Tryz.ntmps85
      go_wp2_with fail
      go_ret
      exact ⟨rfl, Below.refl _ _⟩
end Go.Proofs.YtobchllaopdchacGreat
