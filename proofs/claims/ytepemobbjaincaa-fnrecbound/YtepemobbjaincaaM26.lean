/-
  Several texts in one.
-/
import Derived.Test.YtepemobbjaincaaXdq
import Derived.Lib.QuietBelow
import Derived.Test.YtepemobbjaincaaM10
import Derived.Test.YtepemobbjaincaaM11
/-
  The laws' own comparing of lists of texts, of two that hold the same.
-/
namespace Go.Proofs.Ytepemobbjaincaa
open Go.RowKit

set_option maxRecDepth 100000 in
set_option maxHeartbeats 4000000 in
theorem wrTexts_any (S S' : Nat → Prop) (l : List ByteArray) (va vb : Value) (w : World) (ha : AtL S w l va) (hb : AtL S' w l vb) (hS : ∀ b, S b → b < w.heap.size) (hS' : ∀ b, S' b → b < w.heap.size) :
    Calls Try.prog 8 #[va, vb] w fun e w' => e = .returned (.bool true) ∧ Below w.heap.size w w' := by
  obtain ⟨oa, ca, rfl, hn, hca⟩ := ha
  obtain ⟨ob, cb, rfl, _, hcb⟩ := hb
  obtain ⟨n, en⟩ : ∃ n, l.length = n := ⟨_, rfl⟩
  rw [en] at hn
  rw [en]
  unfold maxLen at hn
  have HA : Hid _ := hca
  have HB : Hid _ := hcb
  clear hca hcb
  go_enter Try.func8, Try.ntmps8
  go_wp2
  go_loopw [5] (fun i wr => ∃ k : Nat, k ≤ n ∧ i = .int .i64 k ∧ Hid (Below w.heap.size w wr)) (fun i _ => n - (intOf i).toNat)
  case atStart => exact ⟨0, Nat.zero_le _, rfl, Below.refl _ _⟩
  case round =>
    obtain ⟨k, hk, rfl, hbel⟩ := hrel
    have hs := hbel.out.size
    by_cases hlt : k < n
    · obtain ⟨ba, fa, rfl, hba, cc, hxa, hata⟩ := HA.out k (by omega)
      obtain ⟨bb, fb, rfl, hbb, dd, hxb, hatb⟩ := HB.out k (by omega)
      have hba' := hS ba hba
      have hbb' := hS' bb hbb
      rw [width_str] at hxa hxb
      have a0 : wr.cell? ⟨ba, fa + k, none⟩ = some (cc 0) := (hbel.out.cell (p := ⟨ba, fa + k, none⟩) (by show ba < _; omega)).trans (by simpa using hxa 0 (by omega))
      have c0 : wr.cell? ⟨bb, fb + k, none⟩ = some (dd 0) := (hbel.out.cell (p := ⟨bb, fb + k, none⟩) (by show bb < _; omega)).trans (by simpa using hxb 0 (by omega))
      rw [at_str] at hata hatb
      rw [hata.1] at a0
      rw [hatb.1] at c0
      clear hata hatb
      clear hxa hxb
      have qa0 := fun d os => cell_regrown a0 d os
      have qc0 := fun d os => cell_regrown c0 d os
      go_wp2
      refine wp_region_quiet_below (by kernel_rfl) (by kernel_rfl) ?_
      repeat (first | go_big_quiet_step (fail) | quiet_step (fail))
      refine wpQuiet_nil ?_
      intro _ hw'
      obtain ⟨⟨dq, osq⟩, hw''⟩ := hw'
      subst hw''
      go_wp2
      go_roundw
      case rel => exact ⟨k + 1, by omega, by go_num, hbel.out.trans ((below_regrown _ dq osq).mono hs)⟩
      case measure => simp [intOf]; omega
    · go_wp2
      go_ret
      exact ⟨rfl, hbel.out⟩

end Go.Proofs.Ytepemobbjaincaa

/-
  The longest way through a recipe, gone step by step: the time that is spent and what the way from here may last add up, and each step goes on in the list.
-/
namespace Go.Proofs.Ytepemobbjaincaa
open Go.RowKit

/-- Where the longest way goes on from a phase. -/
def wayT (r : List DRecPhase) (p : DRecPhase) : ByteArray := if bndF 12 r p.2.2.2.2.2.2.2 < bndF 12 r p.2.2.2.2.2.2.1 then p.2.2.2.2.2.2.1 else p.2.2.2.2.2.2.2
theorem way_next {r : List DRecPhase} (h : RecP r) {k : Nat} (hk : k < r.length) : atI r (wayT r r[k]) = -1 ∨ (k : Int) + 1 ≤ atI r (wayT r r[k]) := by
  rcases at_cases r (wayT r r[k]) with e | ⟨j, _, e, _⟩
  · exact .inl e
  · refine .inr ?_
    have hg : goesB r k (wayT r r[k]) = true := by
      unfold wayT
      split
      · exact (step_of h hk).2.1
      · exact (step_of h hk).2.2
    have := go_next h hg j e
    omega
theorem way_step {r : List DRecPhase} (h : RecP r) {x : ByteArray} {k : Nat} (hk : k < r.length) (e : atI r x = (k : Int)) : bndF 12 r x = r[k].2.2.2.2.2.1 + bndF 12 r (wayT r r[k]) := by
  rw [bnd_at h hk e 12, bnd_step h hk]
  unfold wayT
  split
  all_goals omega
/-- After as many steps as the recipe has phases the way has come to its end: what is left is nothing. -/
theorem way_end {r : List DRecPhase} {x : ByteArray} (e : atI r x = -1 ∨ (r.length : Int) ≤ atI r x) : bndF 12 r x = 0 := by
  rcases at_cases r x with c | ⟨k, hk, c, _⟩
  · exact bnd_none c 12
  · omega
end Go.Proofs.Ytepemobbjaincaa

/-
  The walk of wrReach.
-/
namespace Go.Proofs.Ytepemobbjaincaa
open Go.RowKit Go.Sort


set_option maxRecDepth 100000 in
set_option maxHeartbeats 4000000 in
theorem reach_one (S : Nat → Prop) (r : List DRecPhase) (v : Value) (x y : ByteArray) (w : World) (T E : Bool) (h : AtL S w r v)
    (hT : ∀ k (hk : k < r.length), atI r x = (k : Int) → Calls Try.prog 11 #[v, .string r[k].2.2.2.2.2.2.1, .string y] w fun e w' => e = .returned (.bool T) ∧ w' = w)
    (hE : ∀ k (hk : k < r.length), atI r x = (k : Int) → Calls Try.prog 11 #[v, .string r[k].2.2.2.2.2.2.2, .string y] w fun e w' => e = .returned (.bool E) ∧ w' = w) :
    Calls Try.prog 11 #[v, .string x, .string y] w fun e w' => e = .returned (.bool (eqB x y || (if atI r x < 0 then false else T || E))) ∧ w' = w := by
  obtain ⟨oa, cap, rfl, hn, hc⟩ := h
  obtain ⟨n, en⟩ : ∃ n, r.length = n := ⟨_, rfl⟩
  rw [en] at hn
  have HT : Hid (∀ k (hk : k < r.length), atI r x = (k : Int) → Calls Try.prog 11 #[.slice oa n cap, .string r[k].2.2.2.2.2.2.1, .string y] w fun e w' => e = .returned (.bool T) ∧ w' = w) := by
    rw [← en]; exact hT
  have HE : Hid (∀ k (hk : k < r.length), atI r x = (k : Int) → Calls Try.prog 11 #[.slice oa n cap, .string r[k].2.2.2.2.2.2.2, .string y] w fun e w' => e = .returned (.bool E) ∧ w' = w) := by
    rw [← en]; exact hE
  rw [en]
  unfold maxLen at hn
  have HC : Hid _ := hc
  clear hc hT hE
  cases c1 : (x.toList == y.toList)
  · have q1 : eqB x y = false := by simp [eqB, c1]
    rw [q1, Bool.false_or]
    obtain ⟨A, hA⟩ : ∃ A, (if atI r x < 0 then false else T || E) = A := ⟨_, rfl⟩
    have HA : Hid ((if atI r x < 0 then false else T || E) = A) := hA
    rw [hA]
    clear hA
    go_enter Try.func11, Try.ntmps11
    go_wp2
    go_loop [7] (fun i => ∃ k : Nat, k ≤ n ∧ i = .int .i64 k ∧ Hid (∀ j (hj : j < r.length), j < k → (fun p : DRecPhase => eqB p.1 x) r[j] = false)) (fun i => n - (intOf i).toNat)
    case atStart => exact ⟨0, Nat.zero_le _, rfl, fun _ _ h => by omega⟩
    case round =>
      obtain ⟨k, hk, rfl, hno⟩ := hrel
      by_cases hlt : k < n
      · obtain ⟨b, off, rfl, _, cc, hcell, hat⟩ := HC.out k (by omega)
        rw [width_DRecPhase] at hcell
        have e0 : w.cell? ⟨b, off + k * 8, none⟩ = some (cc 0) := by simpa using hcell 0 (by omega)
        have e6 := hcell 6 (by omega)
        have e7 := hcell 7 (by omega)
        clear hcell
        rw [at_DRecPhase] at hat
        rw [hat.1.1] at e0
        have CT : Hid _ := HT.out k (by omega)
        have CE : Hid _ := HE.out k (by omega)
        obtain ⟨f, ef⟩ : ∃ f, r[k]'(by omega) = f := ⟨_, rfl⟩
        rw [ef] at e0 hat CT CE
        obtain ⟨nm, kd, a, b', n', wi, th, el⟩ := f
        obtain ⟨_, _, _, _, _, _, ⟨q6, _⟩, ⟨q7, _⟩⟩ := hat
        rw [q6] at e6
        rw [q7] at e7
        clear q6 q7
        replace e0 : w.cell? ⟨b, off + k * 8, none⟩ = some (.string nm) := e0
        replace e6 : w.cell? ⟨b, off + k * 8 + 6, none⟩ = some (.string th) := e6
        replace e7 : w.cell? ⟨b, off + k * 8 + 7, none⟩ = some (.string el) := e7
        cases c0 : (nm.toList == x.toList)
        · have hp : (fun p : DRecPhase => eqB p.1 x) (r[k]'(by omega)) = false := by rw [ef]; simp [eqB, c0]
          clear CT CE e6 e7
          go_wp2
          go_round
          case rel => exact ⟨k + 1, by omega, by go_num, fun j hj hjk => by
            by_cases e : j = k
            · subst e; exact hp
            · exact hno.out j hj (by omega)⟩
          case measure => simp [intOf]; omega
        · have hp : (fun p : DRecPhase => eqB p.1 x) (r[k]'(by omega)) = true := by rw [ef]; simp [eqB, c0]
          have hr : atI r x = k := idx_yes (p := fun p : DRecPhase => eqB p.1 x) (by omega) hp hno.out
          have CT2 : Hid (Calls Try.prog 11 #[.slice (some ⟨b, off, none⟩) n cap, .string th, .string y] w fun e w' => e = .returned (.bool T) ∧ w' = w) := CT.out hr
          have CE2 : Hid (Calls Try.prog 11 #[.slice (some ⟨b, off, none⟩) n cap, .string el, .string y] w fun e w' => e = .returned (.bool E) ∧ w' = w) := CE.out hr
          have hnn : ¬ (atI r x < 0) := by omega
          have HW : Hid (A = (T || E)) := by rw [← HA.out, if_neg hnn]; exact rfl
          clear CT CE HT HE hp hr hnn hno ef HC HA
          cases T
          · go_wp2_with fail
            refine CT2.out.mono ?_; rintro e' w2 ⟨rfl, rfl⟩
            go_wp2_with fail
            refine CE2.out.mono ?_; rintro e' w3 ⟨rfl, rfl⟩
            go_wp2_with fail
            rw [HW.out]
            go_ret
            exact ⟨rfl, rfl⟩
          · go_wp2_with fail
            refine CT2.out.mono ?_; rintro e' w2 ⟨rfl, rfl⟩
            go_wp2_with fail
            rw [HW.out]
            go_ret
            exact ⟨rfl, rfl⟩
      · have hkn : k = n := by omega
        subst hkn
        have hr : atI r x = -1 := idx_no (p := fun p : DRecPhase => eqB p.1 x) (fun j hj => hno.out j hj (by omega))
        have HW : Hid (A = false) := by rw [← HA.out, hr]; rfl
        clear HT HE HC hno HA hr
        go_wp2
        rw [HW.out]
        go_ret
        exact ⟨rfl, rfl⟩
  · have q1 : eqB x y = true := by simp [eqB, c1]
    rw [q1, Bool.true_or]
    clear HT HE HC
    go_enter Try.func11, Try.ntmps11
    go_wp2
    go_ret
    exact ⟨rfl, rfl⟩
theorem reach_any (S : Nat → Prop) (r : List DRecPhase) (hR : RecP r) (y : ByteArray) : ∀ (n : Nat) (v : Value) (x : ByteArray) (w : World), AtL S w r v → (∀ k : Nat, atI r x = (k : Int) → r.length ≤ k + n) → Calls Try.prog 11 #[v, .string x, .string y] w fun e w' => e = .returned (.bool (rchF n r x y)) ∧ w' = w := by
  intro n
  induction n with
  | zero =>
    intro v x w h hd
    have c : atI r x = -1 := by
      rcases at_cases r x with e | ⟨k, hk, e, _⟩
      · exact e
      · have := hd k e; omega
    refine (reach_one S r v x y w false false h (fun k hk e => by omega) (fun k hk e => by omega)).mono ?_
    rintro e w' ⟨rfl, rfl⟩
    refine ⟨?_, rfl⟩
    simp [rchF, c]
  | succ n ih =>
    intro v x w h hd
    have hs : rchF (n + 1) r x y = (eqB x y || (if atI r x < 0 then false else rchF n r (phX r x).2.2.2.2.2.2.1 y || rchF n r (phX r x).2.2.2.2.2.2.2 y)) := rfl
    rw [hs]
    refine reach_one S r v x y w _ _ h (fun k hk e => ?_) (fun k hk e => ?_)
    · rw [ph_at hk e]
      exact ih v _ w h (fun j hj => by have := go_next hR (step_of hR hk).2.1 j hj; have := hd k e; omega)
    · rw [ph_at hk e]
      exact ih v _ w h (fun j hj => by have := go_next hR (step_of hR hk).2.2 j hj; have := hd k e; omega)

end Go.Proofs.Ytepemobbjaincaa
