/-
  The program's parts of the test of a want: its kind, its lists, texts in common.
-/
import Derived.Test.YticojnepejboaacGreatCv
namespace Go.Proofs.YticojnepejboaacGreat
open Go.RowKit

set_option maxRecDepth 100000 in
set_option maxHeartbeats 4000000 in
theorem claiming_any (nu kd : Int) (o2 : Option Addr) (n2 k2 : Nat) (v3 v4 v5 : Value) (w : World) :
    Calls Tryz.prog 134 #[.agg #[.int .i64 nu, .int .i64 kd, .slice o2 n2 k2, v3, v4, v5]] w fun e w' => e = .returned (clV kd (.slice o2 n2 k2)) ∧ Below w.heap.size w w' := by
  by_cases h1 : kd = 1
  · subst h1
    rw [show clV 1 (.slice o2 n2 k2) = .iface 160 (.agg #[.slice o2 n2 k2]) from rfl]
    go_enter Tryz.func134, Tryz.ntmps134
    go_wp2
    go_ret
    exact ⟨rfl, (Below.refl _ _).alloc (Nat.le_refl _) _⟩
  · have g1 : (kd == 1) = false := by simpa using h1
    by_cases h2 : kd = 2
    · subst h2
      rw [show clV 2 (.slice o2 n2 k2) = .iface 163 (.agg #[]) from rfl]
      go_enter Tryz.func134, Tryz.ntmps134
      go_wp2
      go_ret
      exact ⟨rfl, (Below.refl _ _).alloc (Nat.le_refl _) _⟩
    · have g2 : (kd == 2) = false := by simpa using h2
      by_cases h3 : kd = 3
      · subst h3
        rw [show clV 3 (.slice o2 n2 k2) = .iface 169 (.agg #[]) from rfl]
        go_enter Tryz.func134, Tryz.ntmps134
        go_wp2
        go_ret
        exact ⟨rfl, (Below.refl _ _).alloc (Nat.le_refl _) _⟩
      · have g3 : (kd == 3) = false := by simpa using h3
        rw [show clV kd (.slice o2 n2 k2) = .iface 174 (.agg #[]) by unfold clV; rw [if_neg h1, if_neg h2, if_neg h3]]
        clear h1 h2 h3
        go_enter Tryz.func134, Tryz.ntmps134
        go_wp2
        go_ret
        exact ⟨rfl, (Below.refl _ _).alloc (Nat.le_refl _) _⟩

set_option maxRecDepth 100000 in
set_option maxHeartbeats 4000000 in
theorem empty_any (v0 v1 v2 : Value) (o3 o4 o5 : Option Addr) (n3 n4 n5 k3 k4 k5 : Nat) (w : World) (h3 : n3 ≤ maxLen) (h4 : n4 ≤ maxLen) (h5 : n5 ≤ maxLen) :
    Calls Tryz.prog 124 #[.agg #[v0, v1, v2, .slice o3 n3 k3, .slice o4 n4 k4, .slice o5 n5 k5]] w fun e w' => e = .returned (.bool (decide (n3 + n4 + n5 = 0))) ∧ Below w.heap.size w w' := by
  unfold maxLen at h3 h4 h5
  by_cases z3 : n3 = 0
  · have g3 : ((n3 : Int) == 0) = true := by simpa using z3
    by_cases z4 : n4 = 0
    · have g4 : ((n4 : Int) == 0) = true := by simpa using z4
      by_cases z5 : n5 = 0
      · have g5 : ((n5 : Int) == 0) = true := by simpa using z5
        rw [decide_eq_true (show n3 + n4 + n5 = 0 by omega)]
        clear z3 z4 z5
        go_enter Tryz.func124, Tryz.ntmps124
        go_wp2
        go_ret
        exact ⟨rfl, (Below.refl _ _).alloc (Nat.le_refl _) _⟩
      · have g5 : ((n5 : Int) == 0) = false := by simpa using z5
        rw [decide_eq_false (show ¬ n3 + n4 + n5 = 0 by omega)]
        clear z3 z4 z5
        go_enter Tryz.func124, Tryz.ntmps124
        go_wp2
        go_ret
        exact ⟨rfl, (Below.refl _ _).alloc (Nat.le_refl _) _⟩
    · have g4 : ((n4 : Int) == 0) = false := by simpa using z4
      rw [decide_eq_false (show ¬ n3 + n4 + n5 = 0 by omega)]
      clear z3 z4
      go_enter Tryz.func124, Tryz.ntmps124
      go_wp2
      go_ret
      exact ⟨rfl, (Below.refl _ _).alloc (Nat.le_refl _) _⟩
  · have g3 : ((n3 : Int) == 0) = false := by simpa using z3
    rw [decide_eq_false (show ¬ n3 + n4 + n5 = 0 by omega)]
    clear z3
    go_enter Tryz.func124, Tryz.ntmps124
    go_wp2
    go_ret
    exact ⟨rfl, (Below.refl _ _).alloc (Nat.le_refl _) _⟩

theorem names_any (S : Nat → Prop) (v : Value) (l : List ByteArray) (lim : Nat) (w : World) (h : AtL S w l v) (hS : ∀ b, S b → b < w.heap.size) :
    Calls Tryz.prog 95 #[v, .int .i64 lim] w fun e w' => e = .returned (.bool (okB lim (tst nameB ltB) l)) ∧ Below w.heap.size w w' := by
  have H : Hid _ := liststring_any S v l lim w h hS
  clear h
  go_enter Tryz.func95, Tryz.ntmps95
  go_wp2_with fail
  refine Calls.mono H.out ?_
  rintro e w1 ⟨rfl, hb1⟩
  go_wp2_with fail
  go_ret
  exact ⟨rfl, hb1⟩

set_option maxRecDepth 100000 in
set_option maxHeartbeats 4000000 in
theorem shareIs_any (S : Nat → Prop) (vb : Value) (b : List ByteArray) (x : ByteArray) (nb : Nat) (w : World) (h : AtL S w b vb) (hx : w.cell? ⟨nb, 0, none⟩ = some vb) :
    Calls Tryz.prog 149 #[.string x, .pointer (some ⟨nb, 0, none⟩)] w fun e w' => e = .returned (.bool (hasB b x)) ∧ w' = w := by
  have H : Hid _ := hasI_any S vb b x w h
  clear h
  go_enter Tryz.func149, Tryz.ntmps149
  go_wp2_with fail
  refine Calls.mono H.out ?_
  rintro e w1 ⟨rfl, rfl⟩
  go_wp2_with fail
  go_ret
  exact ⟨rfl, rfl⟩

set_option maxRecDepth 100000 in
set_option maxHeartbeats 4000000 in
theorem shareIdx_any (S : Nat → Prop) (va vb : Value) (a b : List ByteArray) (nb : Nat) (w : World) (ha : AtL S w a va) (hb : AtL S w b vb) (hx : w.cell? ⟨nb, 0, none⟩ = some vb) :
    Calls Tryz.prog 148 #[va, .func (.func 149) #[] #[.pointer (some ⟨nb, 0, none⟩)]] w fun e w' => e = .returned (.int .i64 (idxI a (fun x => hasB b x))) ∧ w' = w := by
  obtain ⟨oa, cap, rfl, hn, hc⟩ := ha
  obtain ⟨n, en⟩ : ∃ n, a.length = n := ⟨_, rfl⟩
  rw [en] at hn
  rw [en]
  unfold maxLen at hn
  have HC : Hid _ := hc
  have HI : Hid (∀ x, Calls Tryz.prog 149 #[.string x, .pointer (some ⟨nb, 0, none⟩)] w fun e w' => e = .returned (.bool (hasB b x)) ∧ w' = w) := fun x => shareIs_any S vb b x nb w hb hx
  clear hc hb hx
  go_enter Tryz.func148, Tryz.ntmps148
  go_wp2
  go_loop [8] (fun i => ∃ k : Nat, k ≤ n ∧ i = .int .i64 k ∧ Hid (∀ j (hj : j < a.length), j < k → hasB b a[j] = false)) (fun i => n - (intOf i).toNat)
  case atStart => exact ⟨0, Nat.zero_le _, rfl, fun _ _ h => by omega⟩
  case round =>
    obtain ⟨k, hk, rfl, hno⟩ := hrel
    by_cases hlt : k < n
    · obtain ⟨q, off, rfl, _, cc, hcell, hat⟩ := HC.out k (by omega)
      rw [width_str] at hcell
      have hcell := hcell 0 (by omega)
      rw [Nat.mul_one, Nat.add_zero] at hcell
      rw [at_str] at hat
      rw [hat.1] at hcell
      clear hat
      obtain ⟨f, ef⟩ : ∃ f, a[k]'(by omega) = f := ⟨_, rfl⟩
      rw [ef] at hcell
      cases hy : hasB b f
      all_goals
        go_wp2_with (go_at_call 149; refine Calls.mono (HI.out f) ?_; rintro e w1 ⟨rfl, rfl⟩; rw [hy])
      · go_round
        case rel => exact ⟨k + 1, by omega, by go_num, fun j hj hjk => by
          by_cases e : j = k
          · subst e; rw [ef]; exact hy
          · exact hno.out j hj (by omega)⟩
        case measure => simp [intOf]; omega
      · rw [idx_yes (k := k) (by omega) (by rw [ef]; exact hy) hno.out]
        go_ret
        exact ⟨rfl, rfl⟩
    · go_wp2
      go_ret
      rw [idx_no (fun j hj => hno.out j hj (by omega))]
      exact ⟨rfl, rfl⟩

theorem idx_any {α : Type} (l : List α) (p : α → Bool) : decide (0 ≤ idxI l p) = l.any p := by
  cases h : l.any p
  · have hn : ∀ j (hj : j < l.length), p l[j] = false := fun j hj => by
      have := (List.any_eq_false.1 h) _ (List.getElem_mem hj)
      simpa using this
    rw [idx_no hn]; decide
  · obtain ⟨y, hy, hp⟩ := List.any_eq_true.1 h
    have : l.findIdx? p ≠ none := by
      rw [ne_eq, List.findIdx?_eq_none_iff]
      intro h'
      have := h' y hy
      rw [hp] at this; cases this
    unfold idxI
    cases e : l.findIdx? p with
    | none => exact absurd e this
    | some i => simp
theorem shareCF_any (S : Nat → Prop) (va vb : Value) (a b : List ByteArray) (nb : Nat) (w : World) (ha : AtL S w a va) (hb : AtL S w b vb) (hx : w.cell? ⟨nb, 0, none⟩ = some vb) :
    Calls Tryz.prog 131 #[va, .func (.func 149) #[] #[.pointer (some ⟨nb, 0, none⟩)]] w fun e w' => e = .returned (.bool (shareB a b)) ∧ w' = w := by
  rw [show shareB a b = decide (0 ≤ idxI a (fun x => hasB b x)) from (idx_any a _).symm]
  have H : Hid _ := shareIdx_any S va vb a b nb w ha hb hx
  clear ha hb hx
  go_enter Tryz.func131, Tryz.ntmps131
  go_wp2_with fail
  refine Calls.mono H.out ?_
  rintro e w1 ⟨rfl, rfl⟩
  go_wp2_with fail
  go_ret
  exact ⟨rfl, rfl⟩
set_option maxRecDepth 100000 in
set_option maxHeartbeats 4000000 in
theorem share_any (S : Nat → Prop) (va vb : Value) (a b : List ByteArray) (w : World) (ha : AtL S w a va) (hb : AtL S w b vb) (hS : ∀ b, S b → b < w.heap.size) :
    Calls Tryz.prog 133 #[va, vb] w fun e w' => e = .returned (.bool (shareB a b)) ∧ Below w.heap.size w w' := by
  obtain ⟨oa, ca, rfl, _⟩ := id ha
  obtain ⟨ob, cb, rfl, _⟩ := id hb
  have hmf : ∀ (fn : Fn) (first cap : Array Value) (w : World), (Instr.makeFunc fn first cap).run Tryz.prog w = .ok (.func fn first cap) w := fun _ _ _ _ => rfl
  have B1 : Below w.heap.size w (w.alloc (.cells #[.slice ob b.length cb] 24)) := (Below.refl _ _).alloc (Nat.le_refl _) _
  have H : Hid _ := shareCF_any S _ _ a b w.heap.size (w.alloc (.cells #[.slice ob b.length cb] 24)) (ha.same (Same.of_below B1 hS)) (hb.same (Same.of_below B1 hS)) (new_cell w _ _ 0 _ rfl)
  have HB : Hid _ := B1
  clear ha hb B1
  go_enter Tryz.func133, Tryz.ntmps133
  go_wp2_with fail
  refine Calls.mono H.out ?_
  rintro e w1 ⟨rfl, rfl⟩
  go_wp2_with fail
  go_ret
  exact ⟨rfl, HB.out⟩

end Go.Proofs.YticojnepejboaacGreat
