/-
  The walk of wrReach.
-/
import Derived.Test.YtmccbkmfcldbgabXdl
namespace Go.Proofs.Ytmccbkmfcldbgab
open Go.RowKit Go.Sort


set_option maxRecDepth 100000 in
set_option maxHeartbeats 4000000 in
theorem reach_one (S : Nat → Prop) (r : List DRecPhase) (v : Value) (x y : ByteArray) (w : World) (T E : Bool) (h : AtL S w r v)
    (hT : ∀ k (hk : k < r.length), atI r x = (k : Int) → Calls Try.prog 10 #[v, .string r[k].2.2.2.2.2.2.1, .string y] w fun e w' => e = .returned (.bool T) ∧ w' = w)
    (hE : ∀ k (hk : k < r.length), atI r x = (k : Int) → Calls Try.prog 10 #[v, .string r[k].2.2.2.2.2.2.2, .string y] w fun e w' => e = .returned (.bool E) ∧ w' = w) :
    Calls Try.prog 10 #[v, .string x, .string y] w fun e w' => e = .returned (.bool (eqB x y || (if atI r x < 0 then false else T || E))) ∧ w' = w := by
  obtain ⟨oa, cap, rfl, hn, hc⟩ := h
  obtain ⟨n, en⟩ : ∃ n, r.length = n := ⟨_, rfl⟩
  rw [en] at hn
  have HT : Hid (∀ k (hk : k < r.length), atI r x = (k : Int) → Calls Try.prog 10 #[.slice oa n cap, .string r[k].2.2.2.2.2.2.1, .string y] w fun e w' => e = .returned (.bool T) ∧ w' = w) := by
    rw [← en]; exact hT
  have HE : Hid (∀ k (hk : k < r.length), atI r x = (k : Int) → Calls Try.prog 10 #[.slice oa n cap, .string r[k].2.2.2.2.2.2.2, .string y] w fun e w' => e = .returned (.bool E) ∧ w' = w) := by
    rw [← en]; exact hE
  rw [en]
  unfold maxLen at hn
  have HC : Hid _ := hc
  clear hc hT hE
  cases c1 : (x.toList == y.toList)
  · have q1 : eqB x y = false := by simp [eqB, c1]
    rw [q1, Bool.false_or]
    obtain ⟨A, hA⟩ : ∃ A, (if atI r x < 0 then false else T || E) = A := ⟨_, rfl⟩
    have HA : Hid ((if atI r x < 0 then false else T || E) = A) := hA
    rw [hA]
    clear hA
    go_enter Try.func10, Try.ntmps10
    go_wp2
    go_loop [7] (fun i => ∃ k : Nat, k ≤ n ∧ i = .int .i64 k ∧ Hid (∀ j (hj : j < r.length), j < k → (fun p : DRecPhase => eqB p.1 x) r[j] = false)) (fun i => n - (intOf i).toNat)
    case atStart => exact ⟨0, Nat.zero_le _, rfl, fun _ _ h => by omega⟩
    case round =>
      obtain ⟨k, hk, rfl, hno⟩ := hrel
      by_cases hlt : k < n
      · obtain ⟨b, off, rfl, _, cc, hcell, hat⟩ := HC.out k (by omega)
        rw [width_DRecPhase] at hcell
        have e0 : w.cell? ⟨b, off + k * 8, none⟩ = some (cc 0) := by simpa using hcell 0 (by omega)
        have e6 := hcell 6 (by omega)
        have e7 := hcell 7 (by omega)
        clear hcell
        rw [at_DRecPhase] at hat
        rw [hat.1.1] at e0
        have CT : Hid _ := HT.out k (by omega)
        have CE : Hid _ := HE.out k (by omega)
        obtain ⟨f, ef⟩ : ∃ f, r[k]'(by omega) = f := ⟨_, rfl⟩
        rw [ef] at e0 hat CT CE
        obtain ⟨nm, kd, a, b', n', wi, th, el⟩ := f
        obtain ⟨_, _, _, _, _, _, ⟨q6, _⟩, ⟨q7, _⟩⟩ := hat
        rw [q6] at e6
        rw [q7] at e7
        clear q6 q7
        replace e0 : w.cell? ⟨b, off + k * 8, none⟩ = some (.string nm) := e0
        replace e6 : w.cell? ⟨b, off + k * 8 + 6, none⟩ = some (.string th) := e6
        replace e7 : w.cell? ⟨b, off + k * 8 + 7, none⟩ = some (.string el) := e7
        cases c0 : (nm.toList == x.toList)
        · have hp : (fun p : DRecPhase => eqB p.1 x) (r[k]'(by omega)) = false := by rw [ef]; simp [eqB, c0]
          clear CT CE e6 e7
          go_wp2
          go_round
          case rel => exact ⟨k + 1, by omega, by go_num, fun j hj hjk => by
            by_cases e : j = k
            · subst e; exact hp
            · exact hno.out j hj (by omega)⟩
          case measure => simp [intOf]; omega
        · have hp : (fun p : DRecPhase => eqB p.1 x) (r[k]'(by omega)) = true := by rw [ef]; simp [eqB, c0]
          have hr : atI r x = k := idx_yes (p := fun p : DRecPhase => eqB p.1 x) (by omega) hp hno.out
          have CT2 : Hid (Calls Try.prog 10 #[.slice (some ⟨b, off, none⟩) n cap, .string th, .string y] w fun e w' => e = .returned (.bool T) ∧ w' = w) := CT.out hr
          have CE2 : Hid (Calls Try.prog 10 #[.slice (some ⟨b, off, none⟩) n cap, .string el, .string y] w fun e w' => e = .returned (.bool E) ∧ w' = w) := CE.out hr
          have hnn : ¬ (atI r x < 0) := by omega
          have HW : Hid (A = (T || E)) := by rw [← HA.out, if_neg hnn]; exact rfl
          clear CT CE HT HE hp hr hnn hno ef HC HA
          cases T
          · go_wp2_with fail
            refine CT2.out.mono ?_; rintro e' w2 ⟨rfl, rfl⟩
            go_wp2_with fail
            refine CE2.out.mono ?_; rintro e' w3 ⟨rfl, rfl⟩
            go_wp2_with fail
            rw [HW.out]
            go_ret
            exact ⟨rfl, rfl⟩
          · go_wp2_with fail
            refine CT2.out.mono ?_; rintro e' w2 ⟨rfl, rfl⟩
            go_wp2_with fail
            rw [HW.out]
            go_ret
            exact ⟨rfl, rfl⟩
      · have hkn : k = n := by omega
        subst hkn
        have hr : atI r x = -1 := idx_no (p := fun p : DRecPhase => eqB p.1 x) (fun j hj => hno.out j hj (by omega))
        have HW : Hid (A = false) := by rw [← HA.out, hr]; rfl
        clear HT HE HC hno HA hr
        go_wp2
        rw [HW.out]
        go_ret
        exact ⟨rfl, rfl⟩
  · have q1 : eqB x y = true := by simp [eqB, c1]
    rw [q1, Bool.true_or]
    clear HT HE HC
    go_enter Try.func10, Try.ntmps10
    go_wp2
    go_ret
    exact ⟨rfl, rfl⟩
theorem reach_any (S : Nat → Prop) (r : List DRecPhase) (hR : RecP r) (y : ByteArray) : ∀ (n : Nat) (v : Value) (x : ByteArray) (w : World), AtL S w r v → (∀ k : Nat, atI r x = (k : Int) → r.length ≤ k + n) → Calls Try.prog 10 #[v, .string x, .string y] w fun e w' => e = .returned (.bool (rchF n r x y)) ∧ w' = w := by
  intro n
  induction n with
  | zero =>
    intro v x w h hd
    have c : atI r x = -1 := by
      rcases at_cases r x with e | ⟨k, hk, e, _⟩
      · exact e
      · have := hd k e; omega
    refine (reach_one S r v x y w false false h (fun k hk e => by omega) (fun k hk e => by omega)).mono ?_
    rintro e w' ⟨rfl, rfl⟩
    refine ⟨?_, rfl⟩
    simp [rchF, c]
  | succ n ih =>
    intro v x w h hd
    have hs : rchF (n + 1) r x y = (eqB x y || (if atI r x < 0 then false else rchF n r (phX r x).2.2.2.2.2.2.1 y || rchF n r (phX r x).2.2.2.2.2.2.2 y)) := rfl
    rw [hs]
    refine reach_one S r v x y w _ _ h (fun k hk e => ?_) (fun k hk e => ?_)
    · rw [ph_at hk e]
      exact ih v _ w h (fun j hj => by have := go_next hR (step_of hR hk).2.1 j hj; have := hd k e; omega)
    · rw [ph_at hk e]
      exact ih v _ w h (fun j hj => by have := go_next hR (step_of hR hk).2.2 j hj; have := hd k e; omega)

end Go.Proofs.Ytmccbkmfcldbgab
