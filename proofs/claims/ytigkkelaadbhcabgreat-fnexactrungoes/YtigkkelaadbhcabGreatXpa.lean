import Derived.Test.YtigkkelaadbhcabGreatM8
import Derived.Test.YtigkkelaadbhcabGreatM24
namespace Go.Proofs.YtigkkelaadbhcabGreat
open Go.RowKit
theorem atl_nil {α : Type} [Lay α] (S : Nat → Prop) (w : World) (oa : Option Addr) : AtL S w ([] : List α) (.slice oa 0 0) :=
  ⟨oa, 0, rfl, ⟨Nat.zero_le _, Nat.le_refl _, fun _ => rfl⟩, fun _ h => absurd h (Nat.not_lt_zero _)⟩
theorem atl_drop {α : Type} [Lay α] {S : Nat → Prop} {w : World} {l : List α} {b off n cap : Nat} (h : AtL S w l (.slice (some ⟨b, off, none⟩) n cap)) (k : Nat) (hk : k ≤ n) : AtL S w (l.drop k) (.slice (some ⟨b, off + k * Lay.width α, none⟩) (n - k) (cap - k)) := by
  obtain ⟨oa, c, e, hn, hc⟩ := h
  injection e with e1 e2 e3
  subst e1 e2 e3
  refine ⟨_, _, by rw [List.length_drop], ⟨by rw [List.length_drop]; omega, by rw [List.length_drop]; omega, fun h => by cases h⟩, fun i hi => ?_⟩
  rw [List.length_drop] at hi
  obtain ⟨b', off', e, hS, cc, h3, h4⟩ := hc (k + i) (by omega)
  cases e
  refine ⟨_, _, rfl, hS, cc, fun j hj => ?_, ?_⟩
  · have := h3 j hj
    rw [Nat.add_mul, ← Nat.add_assoc] at this
    exact this
  · rw [List.getElem_drop]; exact h4
set_option maxRecDepth 100000 in
set_option maxHeartbeats 4000000 in
theorem phIs_any (nm a b th el x : ByteArray) (kd n wi : Int) (nb : Nat) (w : World) (hx : w.cell? ⟨nb, 0, none⟩ = some (.string x)) (hnb : nb < w.heap.size) :
    Calls Tryz.prog 149 #[.agg #[.string nm, .int .i64 kd, .string a, .string b, .int .i64 n, .int .i64 wi, .string th, .string el], .pointer (some ⟨nb, 0, none⟩)] w fun e w' => e = .returned (.bool (eqB nm x)) ∧ Below w.heap.size w w' := by
  have hx' := fun o => cell_past hx hnb o
  go_enter Tryz.func149, Tryz.ntmps149
  go_wp2
  go_ret
  exact ⟨rfl, (Below.refl _ _).alloc (Nat.le_refl _) _⟩
set_option maxRecDepth 100000 in
set_option maxHeartbeats 4000000 in
theorem phIdx_any (S : Nat → Prop) (v : Value) (r : List DRecPhase) (x : ByteArray) (nb : Nat) (w : World) (h : AtL S w r v) (hS : ∀ b, S b → b < w.heap.size) (hx : w.cell? ⟨nb, 0, none⟩ = some (.string x)) (hnb : nb < w.heap.size) :
    Calls Tryz.prog 148 #[v, .func (.func 149) #[] #[.pointer (some ⟨nb, 0, none⟩)]] w fun e w' => e = .returned (.int .i64 (atI r x)) ∧ Below w.heap.size w w' := by
  obtain ⟨oa, cap, rfl, hn, hc⟩ := h
  obtain ⟨n, en⟩ : ∃ n, r.length = n := ⟨_, rfl⟩
  rw [en] at hn
  rw [en]
  unfold maxLen at hn
  have HC : Hid _ := hc
  clear hc
  have HX : Hid _ := hx
  clear hx
  go_enter Tryz.func148, Tryz.ntmps148
  go_wp2
  go_loopw [8] (fun i wr => ∃ k : Nat, k ≤ n ∧ i = .int .i64 k ∧ Hid (∀ j (hj : j < r.length), j < k → (fun p : DRecPhase => eqB p.1 x) r[j] = false) ∧ Hid (Below w.heap.size w wr)) (fun i _ => n - (intOf i).toNat)
  case atStart => exact ⟨0, Nat.zero_le _, rfl, fun _ _ h => by omega, Below.refl _ _⟩
  case round =>
    obtain ⟨k, hk, rfl, hno, hbel⟩ := hrel
    have hs := hbel.out.size
    by_cases hlt : k < n
    · obtain ⟨b, off, rfl, hbS, cc, hcell, hat⟩ := HC.out k (by omega)
      have hb := hS b hbS
      rw [width_DRecPhase] at hcell
      rw [at_DRecPhase] at hat
      obtain ⟨f, ef⟩ : ∃ f, r[k]'(by omega) = f := ⟨_, rfl⟩
      rw [ef] at hat
      obtain ⟨nm, kd, a, b', n', wi, th, el⟩ := f
      obtain ⟨⟨q0, z0⟩, ⟨q1, _, _⟩, ⟨q2, z2⟩, ⟨q3, z3⟩, ⟨q4, _, _⟩, ⟨q5, _, _⟩, ⟨q6, z6⟩, ⟨q7, z7⟩⟩ := hat
      simp only at q0 q1 q2 q3 q4 q5 q6 q7 z0 z2 z3 z6 z7
      have CELL : Hid (∀ j, j < 8 → w.cell? ⟨b, off + k * 8 + j, none⟩ = some (cc j)) := fun j hj => hcell j hj
      clear hcell
      have E : Hid (∀ u, Below w.heap.size w u → u.cell? ⟨b, off + k * 8, none⟩ = some (.string nm) ∧ u.cell? ⟨b, off + k * 8 + 1, none⟩ = some (.int .i64 kd) ∧ u.cell? ⟨b, off + k * 8 + 2, none⟩ = some (.string a) ∧ u.cell? ⟨b, off + k * 8 + 3, none⟩ = some (.string b') ∧ u.cell? ⟨b, off + k * 8 + 4, none⟩ = some (.int .i64 n') ∧ u.cell? ⟨b, off + k * 8 + 5, none⟩ = some (.int .i64 wi) ∧ u.cell? ⟨b, off + k * 8 + 6, none⟩ = some (.string th) ∧ u.cell? ⟨b, off + k * 8 + 7, none⟩ = some (.string el)) := fun u hu => by
        rw [← q0, ← q1, ← q2, ← q3, ← q4, ← q5, ← q6, ← q7]
        exact ⟨(hu.cell hb).trans (CELL.out 0 (by omega)), (hu.cell hb).trans (CELL.out 1 (by omega)), (hu.cell hb).trans (CELL.out 2 (by omega)), (hu.cell hb).trans (CELL.out 3 (by omega)), (hu.cell hb).trans (CELL.out 4 (by omega)), (hu.cell hb).trans (CELL.out 5 (by omega)), (hu.cell hb).trans (CELL.out 6 (by omega)), (hu.cell hb).trans (CELL.out 7 (by omega))⟩
      clear q0 q1 q2 q3 q4 q5 q6 q7 CELL
      obtain ⟨x0, x1, x2, x3, x4, x5, x6, x7⟩ := E.out wr hbel.out
      have HXR : Hid (wr.cell? ⟨nb, 0, none⟩ = some (.string x)) := (hbel.out.cell (p := ⟨nb, 0, none⟩) hnb).trans HX.out
      cases hy : eqB nm x
      · have hp : (fun p : DRecPhase => eqB p.1 x) (r[k]'(by omega)) = false := by rw [ef]; exact hy
        go_wp2_with (go_at_call 149; refine (phIs_any nm a b' th el x kd n' wi nb _ HXR.out (by omega)).mono ?_; rintro e w1 ⟨rfl, hb1⟩; rw [hy])
        go_roundw
        case rel => exact ⟨k + 1, by omega, by go_num, fun j hj hjk => by
          by_cases e : j = k
          · subst e; exact hp
          · exact hno.out j hj (by omega), hbel.out.trans (hb1.mono hs)⟩
        case measure => simp [intOf]; omega
      · have hp : (fun p : DRecPhase => eqB p.1 x) (r[k]'(by omega)) = true := by rw [ef]; exact hy
        go_wp2_with (go_at_call 149; refine (phIs_any nm a b' th el x kd n' wi nb _ HXR.out (by omega)).mono ?_; rintro e w1 ⟨rfl, hb1⟩; rw [hy])
        have hr : atI r x = k := idx_yes (p := fun p : DRecPhase => eqB p.1 x) (by omega) hp hno.out
        rw [hr]
        go_ret
        exact ⟨rfl, hbel.out.trans (hb1.mono hs)⟩
    · go_wp2
      go_ret
      have hr : atI r x = -1 := idx_no (p := fun p : DRecPhase => eqB p.1 x) (fun j hj => hno.out j hj (by omega))
      rw [hr]
      exact ⟨rfl, hbel.out⟩
set_option maxRecDepth 100000 in
set_option maxHeartbeats 4000000 in
theorem phAt_any (S : Nat → Prop) (r : List DRecPhase) (v : Value) (x : ByteArray) (w : World) (h : AtL S w r v) (hS : ∀ b, S b → b < w.heap.size) :
    Calls Tryz.prog 114 #[v, .string x] w fun e w' => e = .returned (.int .i64 (atI r x)) ∧ Below w.heap.size w w' := by
  have hmf : ∀ (fn : Fn) (first cap : Array Value) (w : World), (Instr.makeFunc fn first cap).run Tryz.prog w = .ok (.func fn first cap) w := fun _ _ _ _ => rfl
  have H : Hid (∀ o1, AtL S (w.alloc o1) r v) := fun o1 => h.same (Same.of_below ((Below.refl _ _).alloc (Nat.le_refl _) o1) hS)
  have HS : Hid (∀ o1 b, S b → b < (w.alloc o1).heap.size) := fun o1 b hb => by have := hS b hb; simp; omega
  clear h
  go_enter Tryz.func114, Tryz.ntmps114
  go_wp2_with (go_at_call 148; refine (phIdx_any S v r x w.heap.size _ (H.out _) (HS.out _) (by simp) (by simp)).mono ?_; rintro e w1 ⟨rfl, hb1⟩)
  go_ret
  exact ⟨rfl, ((Below.refl _ _).alloc (Nat.le_refl _) _).trans (hb1.mono (by simp))⟩
def canI (l : List DRecPhase) (x : ByteArray) : Bool := !(endI x == 0) || decide (0 ≤ atI l x)
set_option maxRecDepth 100000 in
set_option maxHeartbeats 4000000 in
theorem canGoP_any (S : Nat → Prop) (r : List DRecPhase) (v : Value) (x : ByteArray) (w : World) (h : AtL S w r v) (hS : ∀ b, S b → b < w.heap.size) :
    Calls Tryz.prog 142 #[v, .string x] w fun e w' => e = .returned (.bool (canI r x)) ∧ Below w.heap.size w w' := by
  obtain ⟨oa, cap, rfl, hx⟩ := id h
  have H : Hid (AtL S w r (.slice oa r.length cap)) := h
  clear h hx
  obtain ⟨n, en⟩ : ∃ n, r.length = n := ⟨_, rfl⟩
  rw [en] at H
  rw [en]
  clear en
  by_cases c : endI x = 0
  · obtain ⟨A, hA⟩ : ∃ A, A = atI r x := ⟨_, rfl⟩
    have hw : canI r x = decide (0 ≤ A) := by rw [hA]; simp [canI, c]
    rw [hw]
    have HA : Hid (A = atI r x) := hA
    clear hA hw
    go_enter Tryz.func142, Tryz.ntmps142
    go_wp2_with fail
    refine (endP_any x _).mono ?_; rintro e w1 ⟨rfl, rfl⟩
    rw [c]
    go_wp2_with fail
    refine (phAt_any S r _ x _ H.out hS).mono ?_; rintro e w2 ⟨rfl, hb2⟩
    have HB : Hid _ := hb2
    clear hb2
    rw [← HA.out]
    go_wp2_with fail
    go_ret
    exact ⟨rfl, HB.out⟩
  · have hw : canI r x = true := by simp [canI, c]
    rw [hw]
    go_enter Tryz.func142, Tryz.ntmps142
    go_wp2_with fail
    refine (endP_any x _).mono ?_; rintro e w1 ⟨rfl, rfl⟩
    obtain ⟨E, hE⟩ : ∃ E, E = endI x := ⟨_, rfl⟩
    rw [← hE]
    rw [← hE] at c
    clear hE
    go_wp2_with fail
    go_ret
    exact ⟨rfl, Below.refl _ _⟩
end Go.Proofs.YtigkkelaadbhcabGreat
