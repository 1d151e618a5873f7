/-
  Several texts in one.
-/
import Derived.Test.YtciembgenlcogaeGreatCv

/-
  The program's parts of the test of a want: its kind, its lists, texts in common.
-/
namespace Go.Proofs.YtciembgenlcogaeGreat.C
open Go.RowKit

set_option maxRecDepth 100000 in
set_option maxHeartbeats 4000000 in
theorem claiming_any (nu kd : Int) (o2 : Option Addr) (n2 k2 : Nat) (v3 v4 v5 : Value) (w : World) :
    Calls Tryz.prog 118 #[.agg #[.int .i64 nu, .int .i64 kd, .slice o2 n2 k2, v3, v4, v5]] w fun e w' => e = .returned (clV kd (.slice o2 n2 k2)) ∧ Below w.heap.size w w' := by
  by_cases h1 : kd = 1
  · subst h1
    rw [show clV 1 (.slice o2 n2 k2) = .iface 173 (.agg #[.slice o2 n2 k2]) from rfl]
    go_enter Tryz.func118, Tryz.ntmps118
    go_wp2
    go_ret
    exact ⟨rfl, (Below.refl _ _).alloc (Nat.le_refl _) _⟩
  · have g1 : (kd == 1) = false := by simpa using h1
    by_cases h2 : kd = 2
    · subst h2
      rw [show clV 2 (.slice o2 n2 k2) = .iface 174 (.agg #[]) from rfl]
      go_enter Tryz.func118, Tryz.ntmps118
      go_wp2
      go_ret
      exact ⟨rfl, (Below.refl _ _).alloc (Nat.le_refl _) _⟩
    · have g2 : (kd == 2) = false := by simpa using h2
      by_cases h3 : kd = 3
      · subst h3
        rw [show clV 3 (.slice o2 n2 k2) = .iface 175 (.agg #[]) from rfl]
        go_enter Tryz.func118, Tryz.ntmps118
        go_wp2
        go_ret
        exact ⟨rfl, (Below.refl _ _).alloc (Nat.le_refl _) _⟩
      · have g3 : (kd == 3) = false := by simpa using h3
        rw [show clV kd (.slice o2 n2 k2) = .iface 188 (.agg #[]) by unfold clV; rw [if_neg h1, if_neg h2, if_neg h3]]
        clear h1 h2 h3
        go_enter Tryz.func118, Tryz.ntmps118
        go_wp2
        go_ret
        exact ⟨rfl, (Below.refl _ _).alloc (Nat.le_refl _) _⟩

set_option maxRecDepth 100000 in
set_option maxHeartbeats 4000000 in
theorem empty_any (v0 v1 v2 : Value) (o3 o4 o5 : Option Addr) (n3 n4 n5 k3 k4 k5 : Nat) (w : World) (h3 : n3 ≤ maxLen) (h4 : n4 ≤ maxLen) (h5 : n5 ≤ maxLen) :
    Calls Tryz.prog 97 #[.agg #[v0, v1, v2, .slice o3 n3 k3, .slice o4 n4 k4, .slice o5 n5 k5]] w fun e w' => e = .returned (.bool (decide (n3 + n4 + n5 = 0))) ∧ Below w.heap.size w w' := by
  unfold maxLen at h3 h4 h5
  by_cases z3 : n3 = 0
  · have g3 : ((n3 : Int) == 0) = true := by simpa using z3
    by_cases z4 : n4 = 0
    · have g4 : ((n4 : Int) == 0) = true := by simpa using z4
      by_cases z5 : n5 = 0
      · have g5 : ((n5 : Int) == 0) = true := by simpa using z5
        rw [decide_eq_true (show n3 + n4 + n5 = 0 by omega)]
        clear z3 z4 z5
        go_enter Tryz.func97, Tryz.ntmps97
        go_wp2
        go_ret
        exact ⟨rfl, (Below.refl _ _).alloc (Nat.le_refl _) _⟩
      · have g5 : ((n5 : Int) == 0) = false := by simpa using z5
        rw [decide_eq_false (show ¬ n3 + n4 + n5 = 0 by omega)]
        clear z3 z4 z5
        go_enter Tryz.func97, Tryz.ntmps97
        go_wp2
        go_ret
        exact ⟨rfl, (Below.refl _ _).alloc (Nat.le_refl _) _⟩
    · have g4 : ((n4 : Int) == 0) = false := by simpa using z4
      rw [decide_eq_false (show ¬ n3 + n4 + n5 = 0 by omega)]
      clear z3 z4
      go_enter Tryz.func97, Tryz.ntmps97
      go_wp2
      go_ret
      exact ⟨rfl, (Below.refl _ _).alloc (Nat.le_refl _) _⟩
  · have g3 : ((n3 : Int) == 0) = false := by simpa using z3
    rw [decide_eq_false (show ¬ n3 + n4 + n5 = 0 by omega)]
    clear z3
    go_enter Tryz.func97, Tryz.ntmps97
    go_wp2
    go_ret
    exact ⟨rfl, (Below.refl _ _).alloc (Nat.le_refl _) _⟩

theorem names_any (S : Nat → Prop) (v : Value) (l : List ByteArray) (lim : Nat) (w : World) (h : AtL S w l v) (hS : ∀ b, S b → b < w.heap.size) :
    Calls Tryz.prog 99 #[v, .int .i64 lim] w fun e w' => e = .returned (.bool (okB lim (tst nameB ltB) l)) ∧ Below w.heap.size w w' := by
  have H : Hid _ := liststring_any S v l lim w h hS
  clear h
  go_enter Tryz.func99, Tryz.ntmps99
  go_wp2_with fail
  refine Calls.mono H.out ?_
  rintro e w1 ⟨rfl, hb1⟩
  go_wp2_with fail
  go_ret
  exact ⟨rfl, hb1⟩

set_option maxRecDepth 100000 in
set_option maxHeartbeats 4000000 in
theorem shareIs_any (S : Nat → Prop) (vb : Value) (b : List ByteArray) (x : ByteArray) (nb : Nat) (w : World) (h : AtL S w b vb) (hx : w.cell? ⟨nb, 0, none⟩ = some vb) :
    Calls Tryz.prog 132 #[.string x, .pointer (some ⟨nb, 0, none⟩)] w fun e w' => e = .returned (.bool (hasB b x)) ∧ w' = w := by
  have H : Hid _ := hasI_any S vb b x w h
  clear h
  go_enter Tryz.func132, Tryz.ntmps132
  go_wp2_with fail
  refine Calls.mono H.out ?_
  rintro e w1 ⟨rfl, rfl⟩
  go_wp2_with fail
  go_ret
  exact ⟨rfl, rfl⟩

set_option maxRecDepth 100000 in
set_option maxHeartbeats 4000000 in
theorem shareIdx_any (S : Nat → Prop) (va vb : Value) (a b : List ByteArray) (nb : Nat) (w : World) (ha : AtL S w a va) (hb : AtL S w b vb) (hx : w.cell? ⟨nb, 0, none⟩ = some vb) :
    Calls Tryz.prog 134 #[va, .func (.func 132) #[] #[.pointer (some ⟨nb, 0, none⟩)]] w fun e w' => e = .returned (.int .i64 (idxI a (fun x => hasB b x))) ∧ w' = w := by
  obtain ⟨oa, cap, rfl, hn, hc⟩ := ha
  obtain ⟨n, en⟩ : ∃ n, a.length = n := ⟨_, rfl⟩
  rw [en] at hn
  rw [en]
  unfold maxLen at hn
  have HC : Hid _ := hc
  have HI : Hid (∀ x, Calls Tryz.prog 132 #[.string x, .pointer (some ⟨nb, 0, none⟩)] w fun e w' => e = .returned (.bool (hasB b x)) ∧ w' = w) := fun x => shareIs_any S vb b x nb w hb hx
  clear hc hb hx
  go_enter Tryz.func134, Tryz.ntmps134
  go_wp2
  go_loop [8] (fun i => ∃ k : Nat, k ≤ n ∧ i = .int .i64 k ∧ Hid (∀ j (hj : j < a.length), j < k → hasB b a[j] = false)) (fun i => n - (intOf i).toNat)
  case atStart => exact ⟨0, Nat.zero_le _, rfl, fun _ _ h => by omega⟩
  case round =>
    obtain ⟨k, hk, rfl, hno⟩ := hrel
    by_cases hlt : k < n
    · obtain ⟨q, off, rfl, _, cc, hcell, hat⟩ := HC.out k (by omega)
      rw [width_str] at hcell
      have hcell := hcell 0 (by omega)
      rw [Nat.mul_one, Nat.add_zero] at hcell
      rw [at_str] at hat
      rw [hat.1] at hcell
      clear hat
      obtain ⟨f, ef⟩ : ∃ f, a[k]'(by omega) = f := ⟨_, rfl⟩
      rw [ef] at hcell
      cases hy : hasB b f
      all_goals
        go_wp2_with (go_at_call 132; refine Calls.mono (HI.out f) ?_; rintro e w1 ⟨rfl, rfl⟩; rw [hy])
      · go_round
        case rel => exact ⟨k + 1, by omega, by go_num, fun j hj hjk => by
          by_cases e : j = k
          · subst e; rw [ef]; exact hy
          · exact hno.out j hj (by omega)⟩
        case measure => simp [intOf]; omega
      · rw [idx_yes (k := k) (by omega) (by rw [ef]; exact hy) hno.out]
        go_ret
        exact ⟨rfl, rfl⟩
    · go_wp2
      go_ret
      rw [idx_no (fun j hj => hno.out j hj (by omega))]
      exact ⟨rfl, rfl⟩

theorem idx_any {α : Type} (l : List α) (p : α → Bool) : decide (0 ≤ idxI l p) = l.any p := by
  cases h : l.any p
  · have hn : ∀ j (hj : j < l.length), p l[j] = false := fun j hj => by
      have := (List.any_eq_false.1 h) _ (List.getElem_mem hj)
      simpa using this
    rw [idx_no hn]; decide
  · obtain ⟨y, hy, hp⟩ := List.any_eq_true.1 h
    have : l.findIdx? p ≠ none := by
      rw [ne_eq, List.findIdx?_eq_none_iff]
      intro h'
      have := h' y hy
      rw [hp] at this; cases this
    unfold idxI
    cases e : l.findIdx? p with
    | none => exact absurd e this
    | some i => simp
theorem shareCF_any (S : Nat → Prop) (va vb : Value) (a b : List ByteArray) (nb : Nat) (w : World) (ha : AtL S w a va) (hb : AtL S w b vb) (hx : w.cell? ⟨nb, 0, none⟩ = some vb) :
    Calls Tryz.prog 131 #[va, .func (.func 132) #[] #[.pointer (some ⟨nb, 0, none⟩)]] w fun e w' => e = .returned (.bool (shareB a b)) ∧ w' = w := by
  rw [show shareB a b = decide (0 ≤ idxI a (fun x => hasB b x)) from (idx_any a _).symm]
  have H : Hid _ := shareIdx_any S va vb a b nb w ha hb hx
  clear ha hb hx
  go_enter Tryz.func131, Tryz.ntmps131
  go_wp2_with fail
  refine Calls.mono H.out ?_
  rintro e w1 ⟨rfl, rfl⟩
  go_wp2_with fail
  go_ret
  exact ⟨rfl, rfl⟩
set_option maxRecDepth 100000 in
set_option maxHeartbeats 4000000 in
theorem share_any (S : Nat → Prop) (va vb : Value) (a b : List ByteArray) (w : World) (ha : AtL S w a va) (hb : AtL S w b vb) (hS : ∀ b, S b → b < w.heap.size) :
    Calls Tryz.prog 123 #[va, vb] w fun e w' => e = .returned (.bool (shareB a b)) ∧ Below w.heap.size w w' := by
  obtain ⟨oa, ca, rfl, _⟩ := id ha
  obtain ⟨ob, cb, rfl, _⟩ := id hb
  have hmf : ∀ (fn : Fn) (first cap : Array Value) (w : World), (Instr.makeFunc fn first cap).run Tryz.prog w = .ok (.func fn first cap) w := fun _ _ _ _ => rfl
  have B1 : Below w.heap.size w (w.alloc (.cells #[.slice ob b.length cb] 22)) := (Below.refl _ _).alloc (Nat.le_refl _) _
  have H : Hid _ := shareCF_any S _ _ a b w.heap.size (w.alloc (.cells #[.slice ob b.length cb] 22)) (ha.same (Same.of_below B1 hS)) (hb.same (Same.of_below B1 hS)) (new_cell w _ _ 0 _ rfl)
  have HB : Hid _ := B1
  clear ha hb B1
  go_enter Tryz.func123, Tryz.ntmps123
  go_wp2_with fail
  refine Calls.mono H.out ?_
  rintro e w1 ⟨rfl, rfl⟩
  go_wp2_with fail
  go_ret
  exact ⟨rfl, HB.out⟩

end Go.Proofs.YtciembgenlcogaeGreat.C

/-
  The program's test of a want, whole.
-/
namespace Go.Proofs.YtciembgenlcogaeGreat.C
open Go.RowKit

/-- What hangs on the kind alone. -/
def kindB (kd : Int) (n2 n4 : Nat) : Bool := if kd = 1 then decide (0 < n2) else if kd = 2 ∨ kd = 3 then decide (n2 = 0 ∧ n4 = 0) else false
set_option maxRecDepth 100000 in
set_option maxHeartbeats 1000000 in
theorem kind1_any (nu : Int) (o2 : Option Addr) (n2 k2 : Nat) (v3 : Value) (o4 : Option Addr) (n4 k4 : Nat) (v5 : Value) (w : World) (h2 : n2 ≤ maxLen) (h4 : n4 ≤ maxLen) :
    Calls Tryz.prog 98 #[.agg #[.int .i64 nu, .int .i64 1, .slice o2 n2 k2, v3, .slice o4 n4 k4, v5]] w fun e w' => e = .returned (.bool (kindB 1 n2 n4)) ∧ Below w.heap.size w w' := by
  have _ := h2
  have _ := h4
  unfold maxLen at h2 h4
  have ta0 : ∀ W, (Instr.typeAssert (.iface 173 (.agg #[.slice o2 n2 k2])) 170 173 true).run Tryz.prog W = .ok (.tuple #[.agg #[.slice o2 n2 k2], .bool true]) W := fun W => by kernel_rfl
  have e0 : clV 1 (.slice o2 n2 k2) = .iface 173 (.agg #[.slice o2 n2 k2]) := rfl
  have HC : Hid _ := claiming_any nu 1 o2 n2 k2 v3 (.slice o4 n4 k4) v5 (w.alloc (.cells #[.int .i64 nu, .int .i64 1, .slice o2 n2 k2, v3, .slice o4 n4 k4, v5] 44))
  rw [e0] at HC
  clear e0
  by_cases z : 0 < n2
  · have d : decide ((0 : Int) < (n2 : Int)) = true := by simp; omega
    rw [show kindB 1 n2 n4 = true by unfold kindB; rw [if_pos rfl]; exact decide_eq_true z]
    go_enter Tryz.func98, Tryz.ntmps98
    go_wp2_with fail
    refine Calls.mono HC.out ?_
    rintro e w1 ⟨rfl, hb1⟩
    have hbel1 : Hid (Below (w.heap.size + 1) (w.alloc (.cells #[.int .i64 nu, .int .i64 1, .slice o2 n2 k2, v3, .slice o4 n4 k4, v5] 44)) w1) := by simpa [Hid] using hb1
    have y2 := box_at _ _ hbel1.out 2 (.slice o2 n2 k2) rfl
    have y4 := box_at _ _ hbel1.out 4 (.slice o4 n4 k4) rfl
    clear hb1
    have hs1 := hbel1.out.size
    go_wp2_with fail
    go_ret
    exact ⟨rfl, (below_end hbel1.out).alloc (by have := (below_end hbel1.out).size; exact this) _⟩
  · have d : decide ((0 : Int) < (n2 : Int)) = false := by simp; omega
    rw [show kindB 1 n2 n4 = false by unfold kindB; rw [if_pos rfl]; exact decide_eq_false z]
    go_enter Tryz.func98, Tryz.ntmps98
    go_wp2_with fail
    refine Calls.mono HC.out ?_
    rintro e w1 ⟨rfl, hb1⟩
    have hbel1 : Hid (Below (w.heap.size + 1) (w.alloc (.cells #[.int .i64 nu, .int .i64 1, .slice o2 n2 k2, v3, .slice o4 n4 k4, v5] 44)) w1) := by simpa [Hid] using hb1
    have y2 := box_at _ _ hbel1.out 2 (.slice o2 n2 k2) rfl
    have y4 := box_at _ _ hbel1.out 4 (.slice o4 n4 k4) rfl
    clear hb1
    have hs1 := hbel1.out.size
    go_wp2_with fail
    go_ret
    exact ⟨rfl, (below_end hbel1.out).alloc (by have := (below_end hbel1.out).size; exact this) _⟩

set_option maxRecDepth 100000 in
set_option maxHeartbeats 1000000 in
theorem kind2_any (nu : Int) (o2 : Option Addr) (n2 k2 : Nat) (v3 : Value) (o4 : Option Addr) (n4 k4 : Nat) (v5 : Value) (w : World) (h2 : n2 ≤ maxLen) (h4 : n4 ≤ maxLen) :
    Calls Tryz.prog 98 #[.agg #[.int .i64 nu, .int .i64 2, .slice o2 n2 k2, v3, .slice o4 n4 k4, v5]] w fun e w' => e = .returned (.bool (kindB 2 n2 n4)) ∧ Below w.heap.size w w' := by
  have _ := h2
  have _ := h4
  unfold maxLen at h2 h4
  have ta0 : ∀ W, (Instr.typeAssert (.iface 174 (.agg #[])) 170 173 true).run Tryz.prog W = .ok (.tuple #[.agg #[.slice none 0 0], .bool false]) W := fun W => by kernel_rfl
  have ta1 : ∀ W, (Instr.typeAssert (.iface 174 (.agg #[])) 170 174 true).run Tryz.prog W = .ok (.tuple #[.agg #[], .bool true]) W := fun W => by kernel_rfl
  have ta2 : ∀ W, (Instr.typeAssert (.iface 174 (.agg #[])) 170 175 true).run Tryz.prog W = .ok (.tuple #[.agg #[], .bool false]) W := fun W => by kernel_rfl
  have e0 : clV 2 (.slice o2 n2 k2) = .iface 174 (.agg #[]) := rfl
  have HC : Hid _ := claiming_any nu 2 o2 n2 k2 v3 (.slice o4 n4 k4) v5 (w.alloc (.cells #[.int .i64 nu, .int .i64 2, .slice o2 n2 k2, v3, .slice o4 n4 k4, v5] 44))
  rw [e0] at HC
  clear e0
  by_cases z : n2 = 0
  · have d : ((n2 : Int) == 0) = true := by simpa using z
    by_cases y : n4 = 0
    · have d4 : ((n4 : Int) == 0) = true := by simpa using y
      rw [show kindB 2 n2 n4 = true by unfold kindB; rw [if_neg (by decide), if_pos (by decide)]; exact decide_eq_true ⟨z, y⟩]
      clear z y
      go_enter Tryz.func98, Tryz.ntmps98
      go_wp2_with fail
      refine Calls.mono HC.out ?_
      rintro e w1 ⟨rfl, hb1⟩
      have hbel1 : Hid (Below (w.heap.size + 1) (w.alloc (.cells #[.int .i64 nu, .int .i64 2, .slice o2 n2 k2, v3, .slice o4 n4 k4, v5] 44)) w1) := by simpa [Hid] using hb1
      have y2 := box_at _ _ hbel1.out 2 (.slice o2 n2 k2) rfl
      have y4 := box_at _ _ hbel1.out 4 (.slice o4 n4 k4) rfl
      clear hb1
      have hs1 := hbel1.out.size
      go_wp2_with fail
      go_ret
      exact ⟨rfl, below_end hbel1.out⟩
    · have d4 : ((n4 : Int) == 0) = false := by simpa using y
      rw [show kindB 2 n2 n4 = false by unfold kindB; rw [if_neg (by decide), if_pos (by decide)]; exact decide_eq_false (fun h => y h.2)]
      clear z y
      go_enter Tryz.func98, Tryz.ntmps98
      go_wp2_with fail
      refine Calls.mono HC.out ?_
      rintro e w1 ⟨rfl, hb1⟩
      have hbel1 : Hid (Below (w.heap.size + 1) (w.alloc (.cells #[.int .i64 nu, .int .i64 2, .slice o2 n2 k2, v3, .slice o4 n4 k4, v5] 44)) w1) := by simpa [Hid] using hb1
      have y2 := box_at _ _ hbel1.out 2 (.slice o2 n2 k2) rfl
      have y4 := box_at _ _ hbel1.out 4 (.slice o4 n4 k4) rfl
      clear hb1
      have hs1 := hbel1.out.size
      go_wp2_with fail
      go_ret
      exact ⟨rfl, below_end hbel1.out⟩
  · have d : ((n2 : Int) == 0) = false := by simpa using z
    rw [show kindB 2 n2 n4 = false by unfold kindB; rw [if_neg (by decide), if_pos (by decide)]; exact decide_eq_false (fun h => z h.1)]
    clear z
    go_enter Tryz.func98, Tryz.ntmps98
    go_wp2_with fail
    refine Calls.mono HC.out ?_
    rintro e w1 ⟨rfl, hb1⟩
    have hbel1 : Hid (Below (w.heap.size + 1) (w.alloc (.cells #[.int .i64 nu, .int .i64 2, .slice o2 n2 k2, v3, .slice o4 n4 k4, v5] 44)) w1) := by simpa [Hid] using hb1
    have y2 := box_at _ _ hbel1.out 2 (.slice o2 n2 k2) rfl
    have y4 := box_at _ _ hbel1.out 4 (.slice o4 n4 k4) rfl
    clear hb1
    have hs1 := hbel1.out.size
    go_wp2_with fail
    go_ret
    exact ⟨rfl, below_end hbel1.out⟩

set_option maxRecDepth 100000 in
set_option maxHeartbeats 1000000 in
theorem kind3_any (nu : Int) (o2 : Option Addr) (n2 k2 : Nat) (v3 : Value) (o4 : Option Addr) (n4 k4 : Nat) (v5 : Value) (w : World) (h2 : n2 ≤ maxLen) (h4 : n4 ≤ maxLen) :
    Calls Tryz.prog 98 #[.agg #[.int .i64 nu, .int .i64 3, .slice o2 n2 k2, v3, .slice o4 n4 k4, v5]] w fun e w' => e = .returned (.bool (kindB 3 n2 n4)) ∧ Below w.heap.size w w' := by
  have _ := h2
  have _ := h4
  unfold maxLen at h2 h4
  have ta0 : ∀ W, (Instr.typeAssert (.iface 175 (.agg #[])) 170 173 true).run Tryz.prog W = .ok (.tuple #[.agg #[.slice none 0 0], .bool false]) W := fun W => by kernel_rfl
  have ta1 : ∀ W, (Instr.typeAssert (.iface 175 (.agg #[])) 170 174 true).run Tryz.prog W = .ok (.tuple #[.agg #[], .bool false]) W := fun W => by kernel_rfl
  have ta2 : ∀ W, (Instr.typeAssert (.iface 175 (.agg #[])) 170 175 true).run Tryz.prog W = .ok (.tuple #[.agg #[], .bool true]) W := fun W => by kernel_rfl
  have e0 : clV 3 (.slice o2 n2 k2) = .iface 175 (.agg #[]) := rfl
  have HC : Hid _ := claiming_any nu 3 o2 n2 k2 v3 (.slice o4 n4 k4) v5 (w.alloc (.cells #[.int .i64 nu, .int .i64 3, .slice o2 n2 k2, v3, .slice o4 n4 k4, v5] 44))
  rw [e0] at HC
  clear e0
  by_cases z : n2 = 0
  · have d : ((n2 : Int) == 0) = true := by simpa using z
    by_cases y : n4 = 0
    · have d4 : ((n4 : Int) == 0) = true := by simpa using y
      rw [show kindB 3 n2 n4 = true by unfold kindB; rw [if_neg (by decide), if_pos (by decide)]; exact decide_eq_true ⟨z, y⟩]
      clear z y
      go_enter Tryz.func98, Tryz.ntmps98
      go_wp2_with fail
      refine Calls.mono HC.out ?_
      rintro e w1 ⟨rfl, hb1⟩
      have hbel1 : Hid (Below (w.heap.size + 1) (w.alloc (.cells #[.int .i64 nu, .int .i64 3, .slice o2 n2 k2, v3, .slice o4 n4 k4, v5] 44)) w1) := by simpa [Hid] using hb1
      have y2 := box_at _ _ hbel1.out 2 (.slice o2 n2 k2) rfl
      have y4 := box_at _ _ hbel1.out 4 (.slice o4 n4 k4) rfl
      clear hb1
      have hs1 := hbel1.out.size
      go_wp2_with fail
      go_ret
      exact ⟨rfl, below_end hbel1.out⟩
    · have d4 : ((n4 : Int) == 0) = false := by simpa using y
      rw [show kindB 3 n2 n4 = false by unfold kindB; rw [if_neg (by decide), if_pos (by decide)]; exact decide_eq_false (fun h => y h.2)]
      clear z y
      go_enter Tryz.func98, Tryz.ntmps98
      go_wp2_with fail
      refine Calls.mono HC.out ?_
      rintro e w1 ⟨rfl, hb1⟩
      have hbel1 : Hid (Below (w.heap.size + 1) (w.alloc (.cells #[.int .i64 nu, .int .i64 3, .slice o2 n2 k2, v3, .slice o4 n4 k4, v5] 44)) w1) := by simpa [Hid] using hb1
      have y2 := box_at _ _ hbel1.out 2 (.slice o2 n2 k2) rfl
      have y4 := box_at _ _ hbel1.out 4 (.slice o4 n4 k4) rfl
      clear hb1
      have hs1 := hbel1.out.size
      go_wp2_with fail
      go_ret
      exact ⟨rfl, below_end hbel1.out⟩
  · have d : ((n2 : Int) == 0) = false := by simpa using z
    rw [show kindB 3 n2 n4 = false by unfold kindB; rw [if_neg (by decide), if_pos (by decide)]; exact decide_eq_false (fun h => z h.1)]
    clear z
    go_enter Tryz.func98, Tryz.ntmps98
    go_wp2_with fail
    refine Calls.mono HC.out ?_
    rintro e w1 ⟨rfl, hb1⟩
    have hbel1 : Hid (Below (w.heap.size + 1) (w.alloc (.cells #[.int .i64 nu, .int .i64 3, .slice o2 n2 k2, v3, .slice o4 n4 k4, v5] 44)) w1) := by simpa [Hid] using hb1
    have y2 := box_at _ _ hbel1.out 2 (.slice o2 n2 k2) rfl
    have y4 := box_at _ _ hbel1.out 4 (.slice o4 n4 k4) rfl
    clear hb1
    have hs1 := hbel1.out.size
    go_wp2_with fail
    go_ret
    exact ⟨rfl, below_end hbel1.out⟩

set_option maxRecDepth 100000 in
set_option maxHeartbeats 1000000 in
theorem kindo_any (nu kd : Int) (o2 : Option Addr) (n2 k2 : Nat) (v3 : Value) (o4 : Option Addr) (n4 k4 : Nat) (v5 : Value) (w : World) (h2 : n2 ≤ maxLen) (h4 : n4 ≤ maxLen) (g1 : kd ≠ 1) (g2 : kd ≠ 2) (g3 : kd ≠ 3) :
    Calls Tryz.prog 98 #[.agg #[.int .i64 nu, .int .i64 kd, .slice o2 n2 k2, v3, .slice o4 n4 k4, v5]] w fun e w' => e = .returned (.bool (kindB kd n2 n4)) ∧ Below w.heap.size w w' := by
  have _ := h2
  have _ := h4
  unfold maxLen at h2 h4
  have ta0 : ∀ W, (Instr.typeAssert (.iface 188 (.agg #[])) 170 173 true).run Tryz.prog W = .ok (.tuple #[.agg #[.slice none 0 0], .bool false]) W := fun W => by kernel_rfl
  have ta1 : ∀ W, (Instr.typeAssert (.iface 188 (.agg #[])) 170 174 true).run Tryz.prog W = .ok (.tuple #[.agg #[], .bool false]) W := fun W => by kernel_rfl
  have ta2 : ∀ W, (Instr.typeAssert (.iface 188 (.agg #[])) 170 175 true).run Tryz.prog W = .ok (.tuple #[.agg #[], .bool false]) W := fun W => by kernel_rfl
  have e0 : clV kd (.slice o2 n2 k2) = .iface 188 (.agg #[]) := by unfold clV; rw [if_neg g1, if_neg g2, if_neg g3]
  have HC : Hid _ := claiming_any nu kd o2 n2 k2 v3 (.slice o4 n4 k4) v5 (w.alloc (.cells #[.int .i64 nu, .int .i64 kd, .slice o2 n2 k2, v3, .slice o4 n4 k4, v5] 44))
  rw [e0] at HC
  clear e0
  rw [show kindB kd n2 n4 = false by unfold kindB; rw [if_neg g1, if_neg (by omega)]]
  go_enter Tryz.func98, Tryz.ntmps98
  go_wp2_with fail
  refine Calls.mono HC.out ?_
  rintro e w1 ⟨rfl, hb1⟩
  have hbel1 : Hid (Below (w.heap.size + 1) (w.alloc (.cells #[.int .i64 nu, .int .i64 kd, .slice o2 n2 k2, v3, .slice o4 n4 k4, v5] 44)) w1) := by simpa [Hid] using hb1
  have y2 := box_at _ _ hbel1.out 2 (.slice o2 n2 k2) rfl
  have y4 := box_at _ _ hbel1.out 4 (.slice o4 n4 k4) rfl
  clear hb1
  have hs1 := hbel1.out.size
  go_wp2_with fail
  go_ret
  exact ⟨rfl, below_end hbel1.out⟩


end Go.Proofs.YtciembgenlcogaeGreat.C

/-
  The program's test of a want, whole; it is the model's.
-/
namespace Go.Proofs.YtciembgenlcogaeGreat.C
open Go.RowKit

theorem use_may {kd : Int} (h : kd = 1 ∨ kd = 2 ∨ kd = 3) (u : DClaimUse) : (nameB u.1 && mayP kd u.2.1 u.2.2) = useP kd u := by
  have _ := h
  unfold mayP useP nothB
  by_cases h3 : u.2.1 = 3
  · rw [if_neg (by omega), if_pos h3, show inB u.2.1 1 3 = true by rw [h3]; rfl, Bool.and_true]
    congr 1
    by_cases h4 : u.2.2 = 0
    · rw [decide_eq_true ⟨h3, h4⟩, decide_eq_true h4]
    · rw [decide_eq_false (fun q => h4 q.2), decide_eq_false h4]
  · rw [if_neg h3]
    by_cases h12 : u.2.1 = 1 ∨ u.2.1 = 2
    · rw [show inB u.2.1 1 3 = true from decide_eq_true (by omega), Bool.and_true]
      congr 1
      by_cases hk : kd = 1
      · rw [if_pos ⟨hk, h12⟩, decide_eq_true hk, Bool.true_and]
      · rw [if_neg (fun q => hk q.1), decide_eq_false hk, Bool.false_and]
        exact decide_eq_false (fun q => h3 q.1)
    · rw [if_neg (fun q => h12 q.2), show inB u.2.1 1 3 = false from decide_eq_false (by omega), Bool.and_false, Bool.false_and, show decide (u.2.1 = 3 ∧ u.2.2 = 0) = false from decide_eq_false (fun q => h3 q.1), Bool.and_false]

set_option maxRecDepth 100000 in
set_option maxHeartbeats 4000000 in
theorem usesI_any (S : Nat → Prop) (nu kd : Int) (o2 : Option Addr) (n2 k2 : Nat) (v3 v4 v5 : Value) (l : List DClaimUse) (w : World) (h : AtL S w l v3) (hS : ∀ b, S b → b < w.heap.size) (hk : kd = 1 ∨ kd = 2 ∨ kd = 3) :
    Calls Tryz.prog 100 #[.agg #[.int .i64 nu, .int .i64 kd, .slice o2 n2 k2, v3, v4, v5]] w fun e w' => e = .returned (.bool (okB 8 (tst (useP kd) useR) l)) ∧ Below w.heap.size w w' := by
  have hmf : ∀ (fn : Fn) (first cap : Array Value) (w : World), (Instr.makeFunc fn first cap).run Tryz.prog w = .ok (.func fn first cap) w := fun _ _ _ _ => rfl
  have H3 : Hid (∀ w', Below w.heap.size w w' → AtL S w' l v3) := fun w' hb => h.same (Same.of_below hb hS)
  have HT : Hid ((fun f : DClaimUse => nameB f.1 && mayP kd f.2.1 f.2.2) = useP kd) := funext (use_may hk)
  have HK : Hid _ := hk
  obtain ⟨cl, ecl⟩ : ∃ cl, clV kd (.slice o2 n2 k2) = cl := ⟨_, rfl⟩
  have HC : Hid _ := claiming_any nu kd o2 n2 k2 v3 v4 v5 (w.alloc (.cells #[.int .i64 nu, .int .i64 kd, .slice o2 n2 k2, v3, v4, v5] 44))
  obtain ⟨ct, cv, ecv⟩ : ∃ ct cv, cl = .iface ct cv := by
    rw [← ecl]
    rcases hk with rfl | rfl | rfl
    · exact ⟨_, _, rfl⟩
    · exact ⟨_, _, rfl⟩
    · exact ⟨_, _, rfl⟩
  rw [ecl, ecv] at HC
  have ECL : Hid (clV kd (.slice o2 n2 k2) = .iface ct cv) := by show _ = _; rw [ecl, ecv]
  clear h ecl ecv hk
  go_enter Tryz.func100, Tryz.ntmps100
  go_wp2_with fail
  refine Calls.mono HC.out ?_
  rintro e w1 ⟨rfl, hb1⟩
  have hbel1 : Hid (Below (w.heap.size + 1) (w.alloc (.cells #[.int .i64 nu, .int .i64 kd, .slice o2 n2 k2, v3, v4, v5] 44)) w1) := by simpa [Hid] using hb1
  have y3 := box_at _ _ hbel1.out 3 v3 rfl
  have hs1 : w.heap.size + 1 ≤ w1.heap.size := by have := hbel1.out.size; simpa using this
  have HB1 : Hid (Below w.heap.size w (w1.alloc (.cells #[.iface ct cv] 170))) := (below_end hbel1.out).alloc (below_end hbel1.out).size _
  have HX : Hid ((w1.alloc (.cells #[.iface ct cv] 170)).cell? ⟨w1.heap.size, 0, none⟩ = some (.iface ct cv)) := new_cell w1 _ _ 0 _ rfl
  clear hb1
  have y3' := cell_past y3 (by omega) (.cells #[.iface ct cv] 170)
  go_wp2_with fail
  refine (listClaimUse_any S w1.heap.size kd (.slice o2 n2 k2) v3 l 8 _ (H3.out _ HB1.out) (fun b hb => by have := hS b hb; have := HB1.out.size; omega) ⟨by simp, by rw [ECL.out]; exact HX.out, HK.out⟩).mono ?_
  rintro e w2 ⟨rfl, hb2⟩
  rw [HT.out]
  go_wp2_with fail
  go_ret
  exact ⟨rfl, HB1.out.trans (hb2.mono HB1.out.size)⟩

set_option maxRecDepth 100000 in
set_option maxHeartbeats 8000000 in
theorem turnsI_any (S : Nat → Prop) (a : DClaimWant) (o2 o3 o4 o5 : Option Addr) (n2 n3 n4 n5 k2 k3 k4 k5 : Nat) (w : World) (h2 : AtL S w a.2.2.1 (.slice o2 n2 k2)) (h3 : AtL S w a.2.2.2.1 (.slice o3 n3 k3)) (h4 : AtL S w a.2.2.2.2.1 (.slice o4 n4 k4)) (h5 : AtL S w a.2.2.2.2.2 (.slice o5 n5 k5)) (hS : ∀ b, S b → b < w.heap.size) :
    Calls Tryz.prog 101 #[.agg #[.int .i64 a.1, .int .i64 a.2.1, .slice o2 n2 k2, .slice o3 n3 k3, .slice o4 n4 k4, .slice o5 n5 k5]] w fun e w' => e = .returned (.bool (okB 12 (tst nameB ltB) a.2.2.2.2.1 && okB 12 (tst nameB ltB) a.2.2.2.2.2 && !shareB a.2.2.2.2.1 a.2.2.2.2.2)) ∧ Below w.heap.size w w' := by
  have H2 : Hid (∀ w', Below w.heap.size w w' → AtL S w' a.2.2.1 (.slice o2 n2 k2)) := fun w' hb => h2.same (Same.of_below hb hS)
  have H3 : Hid (∀ w', Below w.heap.size w w' → AtL S w' a.2.2.2.1 (.slice o3 n3 k3)) := fun w' hb => h3.same (Same.of_below hb hS)
  have H4 : Hid (∀ w', Below w.heap.size w w' → AtL S w' a.2.2.2.2.1 (.slice o4 n4 k4)) := fun w' hb => h4.same (Same.of_below hb hS)
  have H5 : Hid (∀ w', Below w.heap.size w w' → AtL S w' a.2.2.2.2.2 (.slice o5 n5 k5)) := fun w' hb => h5.same (Same.of_below hb hS)
  have hbx : Hid (Below w.heap.size w (w.alloc (.cells #[.int .i64 a.1, .int .i64 a.2.1, .slice o2 n2 k2, .slice o3 n3 k3, .slice o4 n4 k4, .slice o5 n5 k5] 44))) := (Below.refl _ _).alloc (Nat.le_refl _) _
  have S0 : ∀ b, S b → b < (w.alloc (.cells #[.int .i64 a.1, .int .i64 a.2.1, .slice o2 n2 k2, .slice o3 n3 k3, .slice o4 n4 k4, .slice o5 n5 k5] 44)).heap.size := fun b hb => by have := hS b hb; simp; omega
  clear h2 h3 h4 h5
  have _ := H2
  have _ := H3
  go_enter Tryz.func101, Tryz.ntmps101
  cases hO : okB 12 (tst nameB ltB) a.2.2.2.2.1
  · go_wp2_with fail
    refine (names_any S _ a.2.2.2.2.1 12 _ (H4.out _ hbx.out) S0).mono ?_
    rintro e w1 ⟨rfl, hb1⟩
    rw [hO]
    have hbel1 : Hid (Below (w.heap.size + 1) (w.alloc (.cells #[.int .i64 a.1, .int .i64 a.2.1, .slice o2 n2 k2, .slice o3 n3 k3, .slice o4 n4 k4, .slice o5 n5 k5] 44)) w1) := by simpa [Hid] using hb1
    have y10 := box_at _ _ hbel1.out 0 (.int .i64 a.1) rfl
    have y11 := box_at _ _ hbel1.out 1 (.int .i64 a.2.1) rfl
    have y12 := box_at _ _ hbel1.out 2 (.slice o2 n2 k2) rfl
    have y13 := box_at _ _ hbel1.out 3 (.slice o3 n3 k3) rfl
    have y14 := box_at _ _ hbel1.out 4 (.slice o4 n4 k4) rfl
    have y15 := box_at _ _ hbel1.out 5 (.slice o5 n5 k5) rfl
    have B1 : Hid (Below w.heap.size w w1) := below_end hbel1.out
    have S1 : ∀ b, S b → b < w1.heap.size := fun b hb => by have := hS b hb; have := B1.out.size; omega
    clear hb1
    go_wp2_with fail
    go_ret
    exact ⟨by first | rfl | (rw [hO]; rfl), B1.out⟩
  · go_wp2_with fail
    refine (names_any S _ a.2.2.2.2.1 12 _ (H4.out _ hbx.out) S0).mono ?_
    rintro e w1 ⟨rfl, hb1⟩
    rw [hO]
    have hbel1 : Hid (Below (w.heap.size + 1) (w.alloc (.cells #[.int .i64 a.1, .int .i64 a.2.1, .slice o2 n2 k2, .slice o3 n3 k3, .slice o4 n4 k4, .slice o5 n5 k5] 44)) w1) := by simpa [Hid] using hb1
    have y10 := box_at _ _ hbel1.out 0 (.int .i64 a.1) rfl
    have y11 := box_at _ _ hbel1.out 1 (.int .i64 a.2.1) rfl
    have y12 := box_at _ _ hbel1.out 2 (.slice o2 n2 k2) rfl
    have y13 := box_at _ _ hbel1.out 3 (.slice o3 n3 k3) rfl
    have y14 := box_at _ _ hbel1.out 4 (.slice o4 n4 k4) rfl
    have y15 := box_at _ _ hbel1.out 5 (.slice o5 n5 k5) rfl
    have B1 : Hid (Below w.heap.size w w1) := below_end hbel1.out
    have S1 : ∀ b, S b → b < w1.heap.size := fun b hb => by have := hS b hb; have := B1.out.size; omega
    clear hb1
    cases hH : okB 12 (tst nameB ltB) a.2.2.2.2.2
    · go_wp2_with fail
      refine (names_any S _ a.2.2.2.2.2 12 w1 (H5.out _ B1.out) S1).mono ?_
      rintro e w2 ⟨rfl, hb2⟩
      rw [hH]
      have hbel2 : Hid (Below (w.heap.size + 1) (w.alloc (.cells #[.int .i64 a.1, .int .i64 a.2.1, .slice o2 n2 k2, .slice o3 n3 k3, .slice o4 n4 k4, .slice o5 n5 k5] 44)) w2) := below_of hbel1.out hb2
      have y20 := box_at _ _ hbel2.out 0 (.int .i64 a.1) rfl
      have y21 := box_at _ _ hbel2.out 1 (.int .i64 a.2.1) rfl
      have y22 := box_at _ _ hbel2.out 2 (.slice o2 n2 k2) rfl
      have y23 := box_at _ _ hbel2.out 3 (.slice o3 n3 k3) rfl
      have y24 := box_at _ _ hbel2.out 4 (.slice o4 n4 k4) rfl
      have y25 := box_at _ _ hbel2.out 5 (.slice o5 n5 k5) rfl
      have B2 : Hid (Below w.heap.size w w2) := below_end hbel2.out
      have S2 : ∀ b, S b → b < w2.heap.size := fun b hb => by have := hS b hb; have := B2.out.size; omega
      clear hb2
      go_wp2_with fail
      go_ret
      exact ⟨by first | rfl | (rw [hO, hH]; rfl) | (rw [hH]; rfl), B2.out⟩
    · go_wp2_with fail
      refine (names_any S _ a.2.2.2.2.2 12 w1 (H5.out _ B1.out) S1).mono ?_
      rintro e w2 ⟨rfl, hb2⟩
      rw [hH]
      have hbel2 : Hid (Below (w.heap.size + 1) (w.alloc (.cells #[.int .i64 a.1, .int .i64 a.2.1, .slice o2 n2 k2, .slice o3 n3 k3, .slice o4 n4 k4, .slice o5 n5 k5] 44)) w2) := below_of hbel1.out hb2
      have y20 := box_at _ _ hbel2.out 0 (.int .i64 a.1) rfl
      have y21 := box_at _ _ hbel2.out 1 (.int .i64 a.2.1) rfl
      have y22 := box_at _ _ hbel2.out 2 (.slice o2 n2 k2) rfl
      have y23 := box_at _ _ hbel2.out 3 (.slice o3 n3 k3) rfl
      have y24 := box_at _ _ hbel2.out 4 (.slice o4 n4 k4) rfl
      have y25 := box_at _ _ hbel2.out 5 (.slice o5 n5 k5) rfl
      have B2 : Hid (Below w.heap.size w w2) := below_end hbel2.out
      have S2 : ∀ b, S b → b < w2.heap.size := fun b hb => by have := hS b hb; have := B2.out.size; omega
      clear hb2
      go_wp2_with fail
      refine (share_any S _ _ a.2.2.2.2.1 a.2.2.2.2.2 w2 (H4.out _ B2.out) (H5.out _ B2.out) S2).mono ?_
      rintro e w3 ⟨rfl, hb3⟩
      have hbel3 : Hid (Below (w.heap.size + 1) (w.alloc (.cells #[.int .i64 a.1, .int .i64 a.2.1, .slice o2 n2 k2, .slice o3 n3 k3, .slice o4 n4 k4, .slice o5 n5 k5] 44)) w3) := below_of hbel2.out hb3
      have y30 := box_at _ _ hbel3.out 0 (.int .i64 a.1) rfl
      have y31 := box_at _ _ hbel3.out 1 (.int .i64 a.2.1) rfl
      have y32 := box_at _ _ hbel3.out 2 (.slice o2 n2 k2) rfl
      have y33 := box_at _ _ hbel3.out 3 (.slice o3 n3 k3) rfl
      have y34 := box_at _ _ hbel3.out 4 (.slice o4 n4 k4) rfl
      have y35 := box_at _ _ hbel3.out 5 (.slice o5 n5 k5) rfl
      have B3 : Hid (Below w.heap.size w w3) := below_end hbel3.out
      have S3 : ∀ b, S b → b < w3.heap.size := fun b hb => by have := hS b hb; have := B3.out.size; omega
      clear hb3
      go_wp2_with fail
      go_ret
      exact ⟨by first | rfl | (rw [hO, hH]; rfl) | (rw [hH]; rfl), B3.out⟩

/-- The program's test, part by part. -/
noncomputable def wantI (a : DClaimWant) : Bool := inB a.1 1 1000000 && !decide (a.2.2.2.1.length + a.2.2.2.2.1.length + a.2.2.2.2.2.length = 0) && kindB a.2.1 a.2.2.1.length a.2.2.2.2.1.length && okB 8 (tst nameB ltB) a.2.2.1 && okB 8 (tst (useP a.2.1) useR) a.2.2.2.1 && (okB 12 (tst nameB ltB) a.2.2.2.2.1 && okB 12 (tst nameB ltB) a.2.2.2.2.2 && !shareB a.2.2.2.2.1 a.2.2.2.2.2)
theorem want_same (a : DClaimWant) : wantI a = wantB a := by
  have key : kindB a.2.1 a.2.2.1.length a.2.2.2.2.1.length = (inB a.2.1 1 3 && decide (a.2.1 = 1 ∨ a.2.2.2.2.1.length = 0) && decide (a.2.1 = 1 ↔ 0 < a.2.2.1.length)) := by
    rw [Bool.eq_iff_iff]
    simp only [Bool.and_eq_true, decide_eq_true_eq, inB]
    unfold kindB
    split
    · rw [decide_eq_true_eq]; omega
    · split
      · rw [decide_eq_true_eq]; omega
      · constructor
        · intro h; cases h
        · intro h; omega
  unfold wantI wantB
  rw [key, Bool.eq_iff_iff]
  simp only [Bool.and_eq_true]
  constructor
  · rintro ⟨⟨⟨⟨⟨p1, p2⟩, ⟨p3, p4⟩, p5⟩, p6⟩, p7⟩, ⟨p8, p9⟩, p10⟩
    exact ⟨⟨⟨⟨⟨⟨⟨⟨⟨p1, p3⟩, p7⟩, p8⟩, p9⟩, p10⟩, p2⟩, p4⟩, p6⟩, p5⟩
  · rintro ⟨⟨⟨⟨⟨⟨⟨⟨⟨p1, p3⟩, p7⟩, p8⟩, p9⟩, p10⟩, p2⟩, p4⟩, p6⟩, p5⟩
    exact ⟨⟨⟨⟨⟨p1, p2⟩, ⟨p3, p4⟩, p5⟩, p6⟩, p7⟩, ⟨p8, p9⟩, p10⟩
theorem kind_any (nu kd : Int) (o2 : Option Addr) (n2 k2 : Nat) (v3 : Value) (o4 : Option Addr) (n4 k4 : Nat) (v5 : Value) (w : World) (h2 : n2 ≤ maxLen) (h4 : n4 ≤ maxLen) :
    Calls Tryz.prog 98 #[.agg #[.int .i64 nu, .int .i64 kd, .slice o2 n2 k2, v3, .slice o4 n4 k4, v5]] w fun e w' => e = .returned (.bool (kindB kd n2 n4)) ∧ Below w.heap.size w w' := by
  by_cases g1 : kd = 1
  · subst g1; exact kind1_any nu o2 n2 k2 v3 o4 n4 k4 v5 w h2 h4
  by_cases g2 : kd = 2
  · subst g2; exact kind2_any nu o2 n2 k2 v3 o4 n4 k4 v5 w h2 h4
  by_cases g3 : kd = 3
  · subst g3; exact kind3_any nu o2 n2 k2 v3 o4 n4 k4 v5 w h2 h4
  exact kindo_any nu kd o2 n2 k2 v3 o4 n4 k4 v5 w h2 h4 g1 g2 g3
theorem kind_in {kd : Int} {n2 n4 : Nat} (h : kindB kd n2 n4 = true) : kd = 1 ∨ kd = 2 ∨ kd = 3 := by
  unfold kindB at h
  split at h
  · rename_i q; exact .inl q
  · split at h
    · rename_i q; exact .inr q
    · cases h

set_option maxRecDepth 100000 in
set_option maxHeartbeats 8000000 in
theorem wantI_any (S : Nat → Prop) (a : DClaimWant) (o2 o3 o4 o5 : Option Addr) (n2 n3 n4 n5 k2 k3 k4 k5 : Nat) (w : World) (h2 : AtL S w a.2.2.1 (.slice o2 n2 k2)) (h3 : AtL S w a.2.2.2.1 (.slice o3 n3 k3)) (h4 : AtL S w a.2.2.2.2.1 (.slice o4 n4 k4)) (h5 : AtL S w a.2.2.2.2.2 (.slice o5 n5 k5)) (hS : ∀ b, S b → b < w.heap.size) (m2 : a.2.2.1.length = n2) (m3 : a.2.2.2.1.length = n3) (m4 : a.2.2.2.2.1.length = n4) (m5 : a.2.2.2.2.2.length = n5) (b2 : n2 ≤ maxLen) (b3 : n3 ≤ maxLen) (b4 : n4 ≤ maxLen) (b5 : n5 ≤ maxLen) :
    Calls Tryz.prog 85 #[.agg #[.int .i64 a.1, .int .i64 a.2.1, .slice o2 n2 k2, .slice o3 n3 k3, .slice o4 n4 k4, .slice o5 n5 k5]] w fun e w' => e = .returned (.bool (wantI a)) ∧ Below w.heap.size w w' := by
  have H2 : Hid (∀ w', Below w.heap.size w w' → AtL S w' a.2.2.1 (.slice o2 n2 k2)) := fun w' hb => h2.same (Same.of_below hb hS)
  have H3 : Hid (∀ w', Below w.heap.size w w' → AtL S w' a.2.2.2.1 (.slice o3 n3 k3)) := fun w' hb => h3.same (Same.of_below hb hS)
  have H4 : Hid (∀ w', Below w.heap.size w w' → AtL S w' a.2.2.2.2.1 (.slice o4 n4 k4)) := fun w' hb => h4.same (Same.of_below hb hS)
  have H5 : Hid (∀ w', Below w.heap.size w w' → AtL S w' a.2.2.2.2.2 (.slice o5 n5 k5)) := fun w' hb => h5.same (Same.of_below hb hS)
  have hbx : Hid (Below w.heap.size w (w.alloc (.cells #[.int .i64 a.1, .int .i64 a.2.1, .slice o2 n2 k2, .slice o3 n3 k3, .slice o4 n4 k4, .slice o5 n5 k5] 44))) := (Below.refl _ _).alloc (Nat.le_refl _) _
  have S0 : ∀ b, S b → b < (w.alloc (.cells #[.int .i64 a.1, .int .i64 a.2.1, .slice o2 n2 k2, .slice o3 n3 k3, .slice o4 n4 k4, .slice o5 n5 k5] 44)).heap.size := fun b hb => by have := hS b hb; simp; omega
  have HT : Hid (∀ w', Below w.heap.size w w' → Calls Tryz.prog 101 #[.agg #[.int .i64 a.1, .int .i64 a.2.1, .slice o2 n2 k2, .slice o3 n3 k3, .slice o4 n4 k4, .slice o5 n5 k5]] w' fun e w'' => e = .returned (.bool (okB 12 (tst nameB ltB) a.2.2.2.2.1 && okB 12 (tst nameB ltB) a.2.2.2.2.2 && !shareB a.2.2.2.2.1 a.2.2.2.2.2)) ∧ Below w'.heap.size w' w'') := fun w' hb => turnsI_any S a o2 o3 o4 o5 n2 n3 n4 n5 k2 k3 k4 k5 w' (H2.out _ hb) (H3.out _ hb) (H4.out _ hb) (H5.out _ hb) (fun b hq => Nat.lt_of_lt_of_le (hS b hq) hb.size)
  have HM : Hid (wantI a = (inB a.1 1 1000000 && !decide (n3 + n4 + n5 = 0) && kindB a.2.1 n2 n4 && okB 8 (tst nameB ltB) a.2.2.1 && okB 8 (tst (useP a.2.1) useR) a.2.2.2.1 && (okB 12 (tst nameB ltB) a.2.2.2.2.1 && okB 12 (tst nameB ltB) a.2.2.2.2.2 && !shareB a.2.2.2.2.1 a.2.2.2.2.2))) := by show _ = _; unfold wantI; rw [m2, m3, m4, m5]
  rw [HM.out]
  have B0 : Hid _ := b2
  have BB : Hid (n3 ≤ maxLen ∧ n4 ≤ maxLen ∧ n5 ≤ maxLen) := ⟨b3, b4, b5⟩
  clear h2 h3 h4 h5 m2 m3 m4 m5 b2 b3 b4 b5
  by_cases hlo : a.1 < 1
  · have d1 : decide (a.1 < 1) = true := decide_eq_true hlo
    rw [show inB a.1 1 1000000 = false from decide_eq_false (by omega)]
    go_enter Tryz.func85, Tryz.ntmps85
    go_wp2_with fail
    go_ret
    exact ⟨rfl, hbx.out⟩
  · have d1 : decide (a.1 < 1) = false := decide_eq_false hlo
    by_cases hhi : 1000000 < a.1
    · have d2 : decide (1000000 < a.1) = true := decide_eq_true hhi
      rw [show inB a.1 1 1000000 = false from decide_eq_false (by omega)]
      go_enter Tryz.func85, Tryz.ntmps85
      go_wp2_with fail
      go_ret
      exact ⟨rfl, hbx.out⟩
    · have d2 : decide (1000000 < a.1) = false := decide_eq_false hhi
      rw [show inB a.1 1 1000000 = true from decide_eq_true (by omega)]
      go_enter Tryz.func85, Tryz.ntmps85
      cases hE : decide (n3 + n4 + n5 = 0)
      · go_wp2_with fail
        refine (empty_any _ _ _ _ _ _ n3 n4 n5 _ _ _ _ BB.out.1 BB.out.2.1 BB.out.2.2).mono ?_
        rintro e w1 ⟨rfl, hb1⟩
        rw [hE]
        have hbel1 : Hid (Below (w.heap.size + 1) (w.alloc (.cells #[.int .i64 a.1, .int .i64 a.2.1, .slice o2 n2 k2, .slice o3 n3 k3, .slice o4 n4 k4, .slice o5 n5 k5] 44)) w1) := by simpa [Hid] using hb1
        have y10 := box_at _ _ hbel1.out 0 (.int .i64 a.1) rfl
        have y11 := box_at _ _ hbel1.out 1 (.int .i64 a.2.1) rfl
        have y12 := box_at _ _ hbel1.out 2 (.slice o2 n2 k2) rfl
        have y13 := box_at _ _ hbel1.out 3 (.slice o3 n3 k3) rfl
        have y14 := box_at _ _ hbel1.out 4 (.slice o4 n4 k4) rfl
        have y15 := box_at _ _ hbel1.out 5 (.slice o5 n5 k5) rfl
        have B1 : Hid (Below w.heap.size w w1) := below_end hbel1.out
        have S1 : ∀ b, S b → b < w1.heap.size := fun b hb => by have := hS b hb; have := B1.out.size; omega
        clear hb1
        cases hK : kindB a.2.1 n2 n4
        · go_wp2_with fail
          refine (kind_any _ _ _ n2 _ _ _ n4 _ _ w1 B0.out BB.out.2.1).mono ?_
          rintro e w2 ⟨rfl, hb2⟩
          rw [hK]
          have hbel2 : Hid (Below (w.heap.size + 1) (w.alloc (.cells #[.int .i64 a.1, .int .i64 a.2.1, .slice o2 n2 k2, .slice o3 n3 k3, .slice o4 n4 k4, .slice o5 n5 k5] 44)) w2) := below_of hbel1.out hb2
          have y20 := box_at _ _ hbel2.out 0 (.int .i64 a.1) rfl
          have y21 := box_at _ _ hbel2.out 1 (.int .i64 a.2.1) rfl
          have y22 := box_at _ _ hbel2.out 2 (.slice o2 n2 k2) rfl
          have y23 := box_at _ _ hbel2.out 3 (.slice o3 n3 k3) rfl
          have y24 := box_at _ _ hbel2.out 4 (.slice o4 n4 k4) rfl
          have y25 := box_at _ _ hbel2.out 5 (.slice o5 n5 k5) rfl
          have B2 : Hid (Below w.heap.size w w2) := below_end hbel2.out
          have S2 : ∀ b, S b → b < w2.heap.size := fun b hb => by have := hS b hb; have := B2.out.size; omega
          clear hb2
          go_wp2_with fail
          go_ret
          exact ⟨by first | rfl | (rw [hE, hK]; rfl) | (rw [hK]; rfl), B2.out⟩
        · go_wp2_with fail
          refine (kind_any _ _ _ n2 _ _ _ n4 _ _ w1 B0.out BB.out.2.1).mono ?_
          rintro e w2 ⟨rfl, hb2⟩
          rw [hK]
          have hbel2 : Hid (Below (w.heap.size + 1) (w.alloc (.cells #[.int .i64 a.1, .int .i64 a.2.1, .slice o2 n2 k2, .slice o3 n3 k3, .slice o4 n4 k4, .slice o5 n5 k5] 44)) w2) := below_of hbel1.out hb2
          have y20 := box_at _ _ hbel2.out 0 (.int .i64 a.1) rfl
          have y21 := box_at _ _ hbel2.out 1 (.int .i64 a.2.1) rfl
          have y22 := box_at _ _ hbel2.out 2 (.slice o2 n2 k2) rfl
          have y23 := box_at _ _ hbel2.out 3 (.slice o3 n3 k3) rfl
          have y24 := box_at _ _ hbel2.out 4 (.slice o4 n4 k4) rfl
          have y25 := box_at _ _ hbel2.out 5 (.slice o5 n5 k5) rfl
          have B2 : Hid (Below w.heap.size w w2) := below_end hbel2.out
          have S2 : ∀ b, S b → b < w2.heap.size := fun b hb => by have := hS b hb; have := B2.out.size; omega
          clear hb2
          cases hS3 : okB 8 (tst nameB ltB) a.2.2.1
          · go_wp2_with fail
            refine (names_any S _ a.2.2.1 8 w2 (H2.out _ B2.out) S2).mono ?_
            rintro e w3 ⟨rfl, hb3⟩
            rw [hS3]
            have hbel3 : Hid (Below (w.heap.size + 1) (w.alloc (.cells #[.int .i64 a.1, .int .i64 a.2.1, .slice o2 n2 k2, .slice o3 n3 k3, .slice o4 n4 k4, .slice o5 n5 k5] 44)) w3) := below_of hbel2.out hb3
            have y30 := box_at _ _ hbel3.out 0 (.int .i64 a.1) rfl
            have y31 := box_at _ _ hbel3.out 1 (.int .i64 a.2.1) rfl
            have y32 := box_at _ _ hbel3.out 2 (.slice o2 n2 k2) rfl
            have y33 := box_at _ _ hbel3.out 3 (.slice o3 n3 k3) rfl
            have y34 := box_at _ _ hbel3.out 4 (.slice o4 n4 k4) rfl
            have y35 := box_at _ _ hbel3.out 5 (.slice o5 n5 k5) rfl
            have B3 : Hid (Below w.heap.size w w3) := below_end hbel3.out
            have S33 : ∀ b, S b → b < w3.heap.size := fun b hb => by have := hS b hb; have := B3.out.size; omega
            clear hb3
            go_wp2_with fail
            go_ret
            exact ⟨by first | rfl | (rw [hE, hK, hS3]; rfl) | (rw [hK, hS3]; rfl) | (rw [hS3]; rfl), B3.out⟩
          · go_wp2_with fail
            refine (names_any S _ a.2.2.1 8 w2 (H2.out _ B2.out) S2).mono ?_
            rintro e w3 ⟨rfl, hb3⟩
            rw [hS3]
            have hbel3 : Hid (Below (w.heap.size + 1) (w.alloc (.cells #[.int .i64 a.1, .int .i64 a.2.1, .slice o2 n2 k2, .slice o3 n3 k3, .slice o4 n4 k4, .slice o5 n5 k5] 44)) w3) := below_of hbel2.out hb3
            have y30 := box_at _ _ hbel3.out 0 (.int .i64 a.1) rfl
            have y31 := box_at _ _ hbel3.out 1 (.int .i64 a.2.1) rfl
            have y32 := box_at _ _ hbel3.out 2 (.slice o2 n2 k2) rfl
            have y33 := box_at _ _ hbel3.out 3 (.slice o3 n3 k3) rfl
            have y34 := box_at _ _ hbel3.out 4 (.slice o4 n4 k4) rfl
            have y35 := box_at _ _ hbel3.out 5 (.slice o5 n5 k5) rfl
            have B3 : Hid (Below w.heap.size w w3) := below_end hbel3.out
            have S33 : ∀ b, S b → b < w3.heap.size := fun b hb => by have := hS b hb; have := B3.out.size; omega
            clear hb3
            cases hU : okB 8 (tst (useP a.2.1) useR) a.2.2.2.1
            · go_wp2_with fail
              refine (usesI_any S a.1 a.2.1 _ _ _ _ _ _ a.2.2.2.1 w3 (H3.out _ B3.out) S33 (kind_in hK)).mono ?_
              rintro e w4 ⟨rfl, hb4⟩
              rw [hU]
              have hbel4 : Hid (Below (w.heap.size + 1) (w.alloc (.cells #[.int .i64 a.1, .int .i64 a.2.1, .slice o2 n2 k2, .slice o3 n3 k3, .slice o4 n4 k4, .slice o5 n5 k5] 44)) w4) := below_of hbel3.out hb4
              have y40 := box_at _ _ hbel4.out 0 (.int .i64 a.1) rfl
              have y41 := box_at _ _ hbel4.out 1 (.int .i64 a.2.1) rfl
              have y42 := box_at _ _ hbel4.out 2 (.slice o2 n2 k2) rfl
              have y43 := box_at _ _ hbel4.out 3 (.slice o3 n3 k3) rfl
              have y44 := box_at _ _ hbel4.out 4 (.slice o4 n4 k4) rfl
              have y45 := box_at _ _ hbel4.out 5 (.slice o5 n5 k5) rfl
              have B4 : Hid (Below w.heap.size w w4) := below_end hbel4.out
              have S4 : ∀ b, S b → b < w4.heap.size := fun b hb => by have := hS b hb; have := B4.out.size; omega
              clear hb4
              go_wp2_with fail
              go_ret
              exact ⟨by first | rfl | (rw [hE, hK, hS3, hU]; rfl) | (rw [hK, hS3, hU]; rfl) | (rw [hS3, hU]; rfl) | (rw [hU]; rfl), B4.out⟩
            · go_wp2_with fail
              refine (usesI_any S a.1 a.2.1 _ _ _ _ _ _ a.2.2.2.1 w3 (H3.out _ B3.out) S33 (kind_in hK)).mono ?_
              rintro e w4 ⟨rfl, hb4⟩
              rw [hU]
              have hbel4 : Hid (Below (w.heap.size + 1) (w.alloc (.cells #[.int .i64 a.1, .int .i64 a.2.1, .slice o2 n2 k2, .slice o3 n3 k3, .slice o4 n4 k4, .slice o5 n5 k5] 44)) w4) := below_of hbel3.out hb4
              have y40 := box_at _ _ hbel4.out 0 (.int .i64 a.1) rfl
              have y41 := box_at _ _ hbel4.out 1 (.int .i64 a.2.1) rfl
              have y42 := box_at _ _ hbel4.out 2 (.slice o2 n2 k2) rfl
              have y43 := box_at _ _ hbel4.out 3 (.slice o3 n3 k3) rfl
              have y44 := box_at _ _ hbel4.out 4 (.slice o4 n4 k4) rfl
              have y45 := box_at _ _ hbel4.out 5 (.slice o5 n5 k5) rfl
              have B4 : Hid (Below w.heap.size w w4) := below_end hbel4.out
              have S4 : ∀ b, S b → b < w4.heap.size := fun b hb => by have := hS b hb; have := B4.out.size; omega
              clear hb4
              go_wp2_with fail
              refine (HT.out _ B4.out).mono ?_
              rintro e w5 ⟨rfl, hb5⟩
              have hbel5 : Hid (Below (w.heap.size + 1) (w.alloc (.cells #[.int .i64 a.1, .int .i64 a.2.1, .slice o2 n2 k2, .slice o3 n3 k3, .slice o4 n4 k4, .slice o5 n5 k5] 44)) w5) := below_of hbel4.out hb5
              have y50 := box_at _ _ hbel5.out 0 (.int .i64 a.1) rfl
              have y51 := box_at _ _ hbel5.out 1 (.int .i64 a.2.1) rfl
              have y52 := box_at _ _ hbel5.out 2 (.slice o2 n2 k2) rfl
              have y53 := box_at _ _ hbel5.out 3 (.slice o3 n3 k3) rfl
              have y54 := box_at _ _ hbel5.out 4 (.slice o4 n4 k4) rfl
              have y55 := box_at _ _ hbel5.out 5 (.slice o5 n5 k5) rfl
              have B5 : Hid (Below w.heap.size w w5) := below_end hbel5.out
              have S5 : ∀ b, S b → b < w5.heap.size := fun b hb => by have := hS b hb; have := B5.out.size; omega
              clear hb5
              go_wp2_with fail
              go_ret
              exact ⟨by first | rfl | (rw [hE, hK, hS3, hU]; rfl) | (rw [hK, hS3, hU]; rfl) | (rw [hS3, hU]; rfl) | (rw [hU]; rfl), B5.out⟩
      · go_wp2_with fail
        refine (empty_any _ _ _ _ _ _ n3 n4 n5 _ _ _ _ BB.out.1 BB.out.2.1 BB.out.2.2).mono ?_
        rintro e w1 ⟨rfl, hb1⟩
        rw [hE]
        have hbel1 : Hid (Below (w.heap.size + 1) (w.alloc (.cells #[.int .i64 a.1, .int .i64 a.2.1, .slice o2 n2 k2, .slice o3 n3 k3, .slice o4 n4 k4, .slice o5 n5 k5] 44)) w1) := by simpa [Hid] using hb1
        have y10 := box_at _ _ hbel1.out 0 (.int .i64 a.1) rfl
        have y11 := box_at _ _ hbel1.out 1 (.int .i64 a.2.1) rfl
        have y12 := box_at _ _ hbel1.out 2 (.slice o2 n2 k2) rfl
        have y13 := box_at _ _ hbel1.out 3 (.slice o3 n3 k3) rfl
        have y14 := box_at _ _ hbel1.out 4 (.slice o4 n4 k4) rfl
        have y15 := box_at _ _ hbel1.out 5 (.slice o5 n5 k5) rfl
        have B1 : Hid (Below w.heap.size w w1) := below_end hbel1.out
        have S1 : ∀ b, S b → b < w1.heap.size := fun b hb => by have := hS b hb; have := B1.out.size; omega
        clear hb1
        go_wp2_with fail
        go_ret
        exact ⟨by first | rfl | (rw [hE]; rfl), B1.out⟩

end Go.Proofs.YtciembgenlcogaeGreat.C
