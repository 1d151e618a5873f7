/-
  Contracts of the program's test of a word: what it says by its kind, and what it has.
-/
import Derived.Test.YtciembgenlcogaeGreatBb
import Derived.Test.YtciembgenlcogaeGreatWmg
import Derived.Test.YtciembgenlcogaeGreatHc
import Derived.Test.YtciembgenlcogaeGreatWmd
import Derived.Stop.Asserts
namespace Go.Proofs.YtciembgenlcogaeGreat
open Go.RowKit

/-- What a word says, by its kind; X is its want. -/
def sayV (k : Int) (X : Value) (mv : Int) : Value :=
  if k = 1 then .iface 121 X else if k = 2 then .iface 123 (.agg #[]) else if k = 3 then .iface 124 (.agg #[]) else if k = 4 then .iface 125 (.agg #[]) else if k = 5 then .iface 126 (.agg #[]) else if k = 6 then .iface 130 (.agg #[.int .i64 mv]) else if k = 7 then .iface 131 (.agg #[.int .i64 mv]) else if k = 8 then .iface 132 (.agg #[]) else if k = 9 then .iface 135 (.agg #[]) else if k = 10 then .iface 136 (.agg #[]) else .iface 137 (.agg #[])
theorem say_no {k : Int} (X : Value) (mv : Int) (h1 : ¬ k = 1) (h2 : ¬ k = 2) (h3 : ¬ k = 3) (h4 : ¬ k = 4) (h5 : ¬ k = 5) (h6 : ¬ k = 6) (h7 : ¬ k = 7) (h8 : ¬ k = 8) (h9 : ¬ k = 9) (h10 : ¬ k = 10) : sayV k X mv = .iface 137 (.agg #[]) := by
  unfold sayV
  rw [if_neg h1, if_neg h2, if_neg h3, if_neg h4, if_neg h5, if_neg h6, if_neg h7, if_neg h8, if_neg h9, if_neg h10]
theorem say_1 (X : Value) (mv : Int) : sayV 1 X mv = .iface 121 X := rfl
theorem say_2 (X : Value) (mv : Int) : sayV 2 X mv = .iface 123 (.agg #[]) := rfl
theorem say_3 (X : Value) (mv : Int) : sayV 3 X mv = .iface 124 (.agg #[]) := rfl
theorem say_4 (X : Value) (mv : Int) : sayV 4 X mv = .iface 125 (.agg #[]) := rfl
theorem say_5 (X : Value) (mv : Int) : sayV 5 X mv = .iface 126 (.agg #[]) := rfl
theorem say_6 (X : Value) (mv : Int) : sayV 6 X mv = .iface 130 (.agg #[.int .i64 mv]) := rfl
theorem say_7 (X : Value) (mv : Int) : sayV 7 X mv = .iface 131 (.agg #[.int .i64 mv]) := rfl
theorem say_8 (X : Value) (mv : Int) : sayV 8 X mv = .iface 132 (.agg #[]) := rfl
theorem say_9 (X : Value) (mv : Int) : sayV 9 X mv = .iface 135 (.agg #[]) := rfl
theorem say_10 (X : Value) (mv : Int) : sayV 10 X mv = .iface 136 (.agg #[]) := rfl

set_option maxRecDepth 100000 in
set_option maxHeartbeats 4000000 in
theorem saying_any (k n p q mv : Int) (st : ByteArray) (dn : Bool) (o2 o3 o4 o5 : Option Addr) (n2 n3 n4 n5 k2 k3 k4 k5 : Nat) (w : World) :
    Calls Tryz.prog 56 #[.agg #[.int .i64 k, .string st, .int .i64 n, .int .i64 p, .int .i64 q, .slice o2 n2 k2, .slice o3 n3 k3, .slice o4 n4 k4, .slice o5 n5 k5, .int .i64 mv, .bool dn]] w fun e w' => e = .returned (sayV k (.agg #[.int .i64 p, .int .i64 q, .slice o2 n2 k2, .slice o3 n3 k3, .slice o4 n4 k4, .slice o5 n5 k5]) mv) ∧ Below w.heap.size w w' := by
  by_cases h1 : k = 1
  · subst h1
    rw [say_1]
    go_enter Tryz.func56, Tryz.ntmps56
    go_wp2
    go_ret
    exact ⟨rfl, (Below.refl _ _).alloc (Nat.le_refl _) _⟩
  · by_cases h2 : k = 2
    · subst h2
      rw [say_2]
      go_enter Tryz.func56, Tryz.ntmps56
      go_wp2
      go_ret
      exact ⟨rfl, (Below.refl _ _).alloc (Nat.le_refl _) _⟩
    · by_cases h3 : k = 3
      · subst h3
        rw [say_3]
        go_enter Tryz.func56, Tryz.ntmps56
        go_wp2
        go_ret
        exact ⟨rfl, (Below.refl _ _).alloc (Nat.le_refl _) _⟩
      · by_cases h4 : k = 4
        · subst h4
          rw [say_4]
          go_enter Tryz.func56, Tryz.ntmps56
          go_wp2
          go_ret
          exact ⟨rfl, (Below.refl _ _).alloc (Nat.le_refl _) _⟩
        · by_cases h5 : k = 5
          · subst h5
            rw [say_5]
            go_enter Tryz.func56, Tryz.ntmps56
            go_wp2
            go_ret
            exact ⟨rfl, (Below.refl _ _).alloc (Nat.le_refl _) _⟩
          · by_cases h6 : k = 6
            · subst h6
              rw [say_6]
              go_enter Tryz.func56, Tryz.ntmps56
              go_wp2
              go_ret
              exact ⟨rfl, (Below.refl _ _).alloc (Nat.le_refl _) _⟩
            · by_cases h7 : k = 7
              · subst h7
                rw [say_7]
                go_enter Tryz.func56, Tryz.ntmps56
                go_wp2
                go_ret
                exact ⟨rfl, (Below.refl _ _).alloc (Nat.le_refl _) _⟩
              · by_cases h8 : k = 8
                · subst h8
                  rw [say_8]
                  go_enter Tryz.func56, Tryz.ntmps56
                  go_wp2
                  go_ret
                  exact ⟨rfl, (Below.refl _ _).alloc (Nat.le_refl _) _⟩
                · by_cases h9 : k = 9
                  · subst h9
                    rw [say_9]
                    go_enter Tryz.func56, Tryz.ntmps56
                    go_wp2
                    go_ret
                    exact ⟨rfl, (Below.refl _ _).alloc (Nat.le_refl _) _⟩
                  · by_cases h10 : k = 10
                    · subst h10
                      rw [say_10]
                      go_enter Tryz.func56, Tryz.ntmps56
                      go_wp2
                      go_ret
                      exact ⟨rfl, (Below.refl _ _).alloc (Nat.le_refl _) _⟩
                    · have g := say_no (.agg #[.int .i64 p, .int .i64 q, .slice o2 n2 k2, .slice o3 n3 k3, .slice o4 n4 k4, .slice o5 n5 k5]) mv h1 h2 h3 h4 h5 h6 h7 h8 h9 h10
                      rw [g]
                      clear g
                      have g1 : (k == 1) = false := by simpa using h1
                      have g2 : (k == 2) = false := by simpa using h2
                      have g3 : (k == 3) = false := by simpa using h3
                      have g4 : (k == 4) = false := by simpa using h4
                      have g5 : (k == 5) = false := by simpa using h5
                      have g6 : (k == 6) = false := by simpa using h6
                      have g7 : (k == 7) = false := by simpa using h7
                      have g8 : (k == 8) = false := by simpa using h8
                      have g9 : (k == 9) = false := by simpa using h9
                      have g10 : (k == 10) = false := by simpa using h10
                      clear h1 h2 h3 h4 h5 h6 h7 h8 h9 h10
                      go_enter Tryz.func56, Tryz.ntmps56
                      go_wp2
                      go_ret
                      exact ⟨rfl, (Below.refl _ _).alloc (Nat.le_refl _) _⟩
theorem taA_no {k : Int} (p q : Int) (o2 o3 o4 o5 : Option Addr) (n2 n3 n4 n5 k2 k3 k4 k5 : Nat) (mv : Int) (h1 : ¬ k = 1) (W : World) : (Instr.typeAssert (sayV k (.agg #[.int .i64 p, .int .i64 q, .slice o2 n2 k2, .slice o3 n3 k3, .slice o4 n4 k4, .slice o5 n5 k5]) mv) 95 121 true).run Tryz.prog W = .ok (.tuple #[.agg #[.int .i64 0, .int .i64 0, .slice none 0 0, .slice none 0 0, .slice none 0 0, .slice none 0 0], .bool false]) W := by
  by_cases h2 : k = 2
  · subst h2
    rw [say_2]
    kernel_rfl
  · by_cases h3 : k = 3
    · subst h3
      rw [say_3]
      kernel_rfl
    · by_cases h4 : k = 4
      · subst h4
        rw [say_4]
        kernel_rfl
      · by_cases h5 : k = 5
        · subst h5
          rw [say_5]
          kernel_rfl
        · by_cases h6 : k = 6
          · subst h6
            rw [say_6]
            kernel_rfl
          · by_cases h7 : k = 7
            · subst h7
              rw [say_7]
              kernel_rfl
            · by_cases h8 : k = 8
              · subst h8
                rw [say_8]
                kernel_rfl
              · by_cases h9 : k = 9
                · subst h9
                  rw [say_9]
                  kernel_rfl
                · by_cases h10 : k = 10
                  · subst h10
                    rw [say_10]
                    kernel_rfl
                  · rw [say_no _ mv h1 h2 h3 h4 h5 h6 h7 h8 h9 h10]
                    kernel_rfl
theorem taO_no {k : Int} (p q : Int) (o2 o3 o4 o5 : Option Addr) (n2 n3 n4 n5 k2 k3 k4 k5 : Nat) (mv : Int) (h7 : ¬ k = 7) (W : World) : (Instr.typeAssert (sayV k (.agg #[.int .i64 p, .int .i64 q, .slice o2 n2 k2, .slice o3 n3 k3, .slice o4 n4 k4, .slice o5 n5 k5]) mv) 95 131 true).run Tryz.prog W = .ok (.tuple #[.agg #[.int .i64 0], .bool false]) W := by
  by_cases h1 : k = 1
  · subst h1
    rw [say_1]
    kernel_rfl
  · by_cases h2 : k = 2
    · subst h2
      rw [say_2]
      kernel_rfl
    · by_cases h3 : k = 3
      · subst h3
        rw [say_3]
        kernel_rfl
      · by_cases h4 : k = 4
        · subst h4
          rw [say_4]
          kernel_rfl
        · by_cases h5 : k = 5
          · subst h5
            rw [say_5]
            kernel_rfl
          · by_cases h6 : k = 6
            · subst h6
              rw [say_6]
              kernel_rfl
            · by_cases h8 : k = 8
              · subst h8
                rw [say_8]
                kernel_rfl
              · by_cases h9 : k = 9
                · subst h9
                  rw [say_9]
                  kernel_rfl
                · by_cases h10 : k = 10
                  · subst h10
                    rw [say_10]
                    kernel_rfl
                  · rw [say_no _ mv h1 h2 h3 h4 h5 h6 h7 h8 h9 h10]
                    kernel_rfl
theorem taM_no {k : Int} (p q : Int) (o2 o3 o4 o5 : Option Addr) (n2 n3 n4 n5 k2 k3 k4 k5 : Nat) (mv : Int) (h6 : ¬ k = 6) (h7 : ¬ k = 7) (W : World) : (Instr.typeAssert (sayV k (.agg #[.int .i64 p, .int .i64 q, .slice o2 n2 k2, .slice o3 n3 k3, .slice o4 n4 k4, .slice o5 n5 k5]) mv) 95 140 true).run Tryz.prog W = .ok (.tuple #[.nilIface, .bool false]) W := by
  by_cases h1 : k = 1
  · subst h1
    rw [say_1]
    exact run_typeAssert_lacksB Tryz.underlying140 (by kernel_rfl) (by kernel_rfl) _ _ W
  · by_cases h2 : k = 2
    · subst h2
      rw [say_2]
      exact run_typeAssert_lacksB Tryz.underlying140 (by kernel_rfl) (by kernel_rfl) _ _ W
    · by_cases h3 : k = 3
      · subst h3
        rw [say_3]
        exact run_typeAssert_lacksB Tryz.underlying140 (by kernel_rfl) (by kernel_rfl) _ _ W
      · by_cases h4 : k = 4
        · subst h4
          rw [say_4]
          exact run_typeAssert_lacksB Tryz.underlying140 (by kernel_rfl) (by kernel_rfl) _ _ W
        · by_cases h5 : k = 5
          · subst h5
            rw [say_5]
            exact run_typeAssert_lacksB Tryz.underlying140 (by kernel_rfl) (by kernel_rfl) _ _ W
          · by_cases h8 : k = 8
            · subst h8
              rw [say_8]
              exact run_typeAssert_lacksB Tryz.underlying140 (by kernel_rfl) (by kernel_rfl) _ _ W
            · by_cases h9 : k = 9
              · subst h9
                rw [say_9]
                exact run_typeAssert_lacksB Tryz.underlying140 (by kernel_rfl) (by kernel_rfl) _ _ W
              · by_cases h10 : k = 10
                · subst h10
                  rw [say_10]
                  exact run_typeAssert_lacksB Tryz.underlying140 (by kernel_rfl) (by kernel_rfl) _ _ W
                · rw [say_no _ mv h1 h2 h3 h4 h5 h6 h7 h8 h9 h10]
                  exact run_typeAssert_lacksB Tryz.underlying140 (by kernel_rfl) (by kernel_rfl) _ _ W
theorem taA_yes (p q : Int) (o2 o3 o4 o5 : Option Addr) (n2 n3 n4 n5 k2 k3 k4 k5 : Nat) (mv : Int) (W : World) : (Instr.typeAssert (sayV 1 (.agg #[.int .i64 p, .int .i64 q, .slice o2 n2 k2, .slice o3 n3 k3, .slice o4 n4 k4, .slice o5 n5 k5]) mv) 95 121 true).run Tryz.prog W = .ok (.tuple #[.agg #[.int .i64 p, .int .i64 q, .slice o2 n2 k2, .slice o3 n3 k3, .slice o4 n4 k4, .slice o5 n5 k5], .bool true]) W := by
  rw [say_1]
  kernel_rfl
theorem taO_yes (X : Value) (mv : Int) (W : World) : (Instr.typeAssert (sayV 7 X mv) 95 131 true).run Tryz.prog W = .ok (.tuple #[.agg #[.int .i64 mv], .bool true]) W := by
  rw [say_7]
  kernel_rfl
theorem taM_6 (X : Value) (mv : Int) (W : World) : (Instr.typeAssert (sayV 6 X mv) 95 140 true).run Tryz.prog W = .ok (.tuple #[.iface 130 (.agg #[.int .i64 mv]), .bool true]) W := by
  rw [say_6]
  exact run_typeAssert_hasB Tryz.underlying140 (by kernel_rfl) _ _ W
theorem taM_7 (X : Value) (mv : Int) (W : World) : (Instr.typeAssert (sayV 7 X mv) 95 140 true).run Tryz.prog W = .ok (.tuple #[.iface 131 (.agg #[.int .i64 mv]), .bool true]) W := by
  rw [say_7]
  exact run_typeAssert_hasB Tryz.underlying140 (by kernel_rfl) _ _ W

set_option maxRecDepth 100000 in
set_option maxHeartbeats 4000000 in
theorem eqU0_any (oa : Option Addr) (n c : Nat) (w : World) (hn : n ≤ maxLen) :
    Calls Tryz.prog 102 #[.slice oa n c, .slice none 0 0] w fun e w' => e = .returned (.bool (decide (n = 0))) ∧ w' = w := by
  unfold maxLen at hn
  by_cases h : n = 0
  · subst h
    go_enter Tryz.func102, Tryz.ntmps102
    go_wp2
    go_loop [13] (fun i => i = .int .i64 0) (fun _ => 0)
    case atStart => rfl
    case round =>
      subst hrel
      go_wp2
      go_ret
      exact ⟨rfl, rfl⟩
  · rw [decide_eq_false h]
    have g : ((n : Int) == 0) = false := by simpa using h
    go_enter Tryz.func102, Tryz.ntmps102
    go_wp2
    go_ret
    exact ⟨rfl, rfl⟩

set_option maxRecDepth 100000 in
set_option maxHeartbeats 4000000 in
theorem eqS0_any (oa : Option Addr) (n c : Nat) (w : World) (hn : n ≤ maxLen) :
    Calls Tryz.prog 103 #[.slice oa n c, .slice none 0 0] w fun e w' => e = .returned (.bool (decide (n = 0))) ∧ w' = w := by
  unfold maxLen at hn
  by_cases h : n = 0
  · subst h
    go_enter Tryz.func103, Tryz.ntmps103
    go_wp2
    go_loop [13] (fun i => i = .int .i64 0) (fun _ => 0)
    case atStart => rfl
    case round =>
      subst hrel
      go_wp2
      go_ret
      exact ⟨rfl, rfl⟩
  · rw [decide_eq_false h]
    have g : ((n : Int) == 0) = false := by simpa using h
    go_enter Tryz.func103, Tryz.ntmps103
    go_wp2
    go_ret
    exact ⟨rfl, rfl⟩

/-- No want at all. -/
def zW (p q : Int) (n2 n3 n4 n5 : Nat) : Bool := (p == 0) && (q == 0) && decide (n3 = 0) && decide (n2 = 0) && decide (n4 = 0) && decide (n5 = 0)

set_option maxRecDepth 100000 in
set_option maxHeartbeats 4000000 in
theorem isZ_any (p q : Int) (o2 o3 o4 o5 : Option Addr) (n2 n3 n4 n5 k2 k3 k4 k5 : Nat) (w : World) (h2 : n2 ≤ maxLen) (h3 : n3 ≤ maxLen) (h4 : n4 ≤ maxLen) (h5 : n5 ≤ maxLen) :
    Calls Tryz.prog 86 #[.agg #[.int .i64 p, .int .i64 q, .slice o2 n2 k2, .slice o3 n3 k3, .slice o4 n4 k4, .slice o5 n5 k5], .agg #[.int .i64 0, .int .i64 0, .slice none 0 0, .slice none 0 0, .slice none 0 0, .slice none 0 0]] w fun e w' => e = .returned (.bool (zW p q n2 n3 n4 n5)) ∧ Below w.heap.size w w' := by
  have kk : Hid (Below w.heap.size w ((w.alloc (.cells #[.int .i64 p, .int .i64 q, .slice o2 n2 k2, .slice o3 n3 k3, .slice o4 n4 k4, .slice o5 n5 k5] 44)).alloc (.cells #[.int .i64 0, .int .i64 0, .slice none 0 0, .slice none 0 0, .slice none 0 0, .slice none 0 0] 44))) := ((Below.refl _ _).alloc (Nat.le_refl _) _).alloc (by simp) _
  unfold zW
  cases c0 : (p == 0)
  · go_enter Tryz.func86, Tryz.ntmps86
    go_wp2_with fail
    go_ret
    exact ⟨rfl, kk.out⟩
  · cases c1 : (q == 0)
    · go_enter Tryz.func86, Tryz.ntmps86
      go_wp2_with fail
      go_ret
      exact ⟨rfl, kk.out⟩
    · go_enter Tryz.func86, Tryz.ntmps86
      go_wp2_with fail
      refine (eqU0_any _ n3 _ _ h3).mono ?_; rintro e w1 ⟨rfl, rfl⟩
      cases c2 : (decide (n3 = 0))
      · go_wp2_with fail
        go_ret
        exact ⟨by rw [c2]; rfl, kk.out⟩
      · go_wp2_with fail
        refine (eqS0_any _ n2 _ _ h2).mono ?_; rintro e w1 ⟨rfl, rfl⟩
        cases c3 : (decide (n2 = 0))
        · go_wp2_with fail
          go_ret
          exact ⟨by rw [c2, c3]; rfl, kk.out⟩
        · go_wp2_with fail
          refine (eqS0_any _ n4 _ _ h4).mono ?_; rintro e w1 ⟨rfl, rfl⟩
          cases c4 : (decide (n4 = 0))
          · go_wp2_with fail
            go_ret
            exact ⟨by rw [c2, c3, c4]; rfl, kk.out⟩
          · go_wp2_with fail
            refine (eqS0_any _ n5 _ _ h5).mono ?_; rintro e w1 ⟨rfl, rfl⟩
            cases c5 : (decide (n5 = 0))
            · go_wp2_with fail
              go_ret
              exact ⟨by rw [c2, c3, c4, c5]; rfl, kk.out⟩
            · go_wp2_with fail
              go_ret
              exact ⟨by rw [c2, c3, c4, c5]; rfl, kk.out⟩

/-- What is asked of a word's want, by its kind. -/
noncomputable def wOk (k n : Int) (a : C.DClaimWant) : Bool := if k = 1 then (a.1 == n) && C.wantB a else zW a.1 a.2.1 a.2.2.1.length a.2.2.2.1.length a.2.2.2.2.1.length a.2.2.2.2.2.length
/-- What is asked of what was moved. -/
def mOk (k mv : Int) : Bool := if k = 6 ∨ k = 7 then decide (0 ≤ mv) && decide (mv ≤ 1000) else mv == 0
/-- What is asked of its being done. -/
def dOk (k : Int) (dn : Bool) : Bool := decide (k = 7) || !dn

set_option maxRecDepth 100000 in
set_option maxHeartbeats 4000000 in
theorem wantOk_any (S : Nat → Prop) (a : C.DClaimWant) (n mv k : Int) (st : ByteArray) (dn : Bool) (o2 o3 o4 o5 : Option Addr) (n2 n3 n4 n5 k2 k3 k4 k5 : Nat) (w : World) (h2 : C.AtL S w a.2.2.1 (.slice o2 n2 k2)) (h3 : C.AtL S w a.2.2.2.1 (.slice o3 n3 k3)) (h4 : C.AtL S w a.2.2.2.2.1 (.slice o4 n4 k4)) (h5 : C.AtL S w a.2.2.2.2.2 (.slice o5 n5 k5)) (hS : ∀ b, S b → b < w.heap.size) (m2 : a.2.2.1.length = n2) (m3 : a.2.2.2.1.length = n3) (m4 : a.2.2.2.2.1.length = n4) (m5 : a.2.2.2.2.2.length = n5) (b2 : n2 ≤ maxLen) (b3 : n3 ≤ maxLen) (b4 : n4 ≤ maxLen) (b5 : n5 ≤ maxLen) :
    Calls Tryz.prog 57 #[.agg #[.int .i64 k, .string st, .int .i64 n, .int .i64 a.1, .int .i64 a.2.1, .slice o2 n2 k2, .slice o3 n3 k3, .slice o4 n4 k4, .slice o5 n5 k5, .int .i64 mv, .bool dn]] w fun e w' => e = .returned (.bool (wOk k n a)) ∧ Below w.heap.size w w' := by
  have HA : Hid (∀ w', Below w.heap.size w w' → C.AtL S w' a.2.2.1 (.slice o2 n2 k2) ∧ C.AtL S w' a.2.2.2.1 (.slice o3 n3 k3) ∧ C.AtL S w' a.2.2.2.2.1 (.slice o4 n4 k4) ∧ C.AtL S w' a.2.2.2.2.2 (.slice o5 n5 k5)) := fun w' hb => ⟨h2.same (C.Same.of_below hb hS), h3.same (C.Same.of_below hb hS), h4.same (C.Same.of_below hb hS), h5.same (C.Same.of_below hb hS)⟩
  have HS : Hid _ := hS
  have M2 : Hid (a.2.2.1.length = n2) := m2
  have M3 : Hid (a.2.2.2.1.length = n3) := m3
  have M4 : Hid (a.2.2.2.2.1.length = n4) := m4
  have M5 : Hid (a.2.2.2.2.2.length = n5) := m5
  clear h2 h3 h4 h5 hS m2 m3 m4 m5
  have k0 : Hid (Below (w.heap.size + 1) (w.alloc (.cells #[.int .i64 k, .string st, .int .i64 n, .int .i64 a.1, .int .i64 a.2.1, .slice o2 n2 k2, .slice o3 n3 k3, .slice o4 n4 k4, .slice o5 n5 k5, .int .i64 mv, .bool dn] 46)) (w.alloc (.cells #[.int .i64 k, .string st, .int .i64 n, .int .i64 a.1, .int .i64 a.2.1, .slice o2 n2 k2, .slice o3 n3 k3, .slice o4 n4 k4, .slice o5 n5 k5, .int .i64 mv, .bool dn] 46))) := Below.refl _ _
  by_cases hk : k = 1
  · subst hk
    have ta := taA_yes a.1 a.2.1 o2 o3 o4 o5 n2 n3 n4 n5 k2 k3 k4 k5 mv
    have EW : Hid (wOk 1 n a = ((a.1 == n) && C.wantB a)) := if_pos rfl
    rw [EW.out]
    go_enter Tryz.func57, Tryz.ntmps57
    go_wp2_with fail
    refine (saying_any 1 n a.1 a.2.1 mv st dn o2 o3 o4 o5 n2 n3 n4 n5 k2 k3 k4 k5 _).mono ?_; rintro e w1 ⟨rfl, hb1⟩
    have k1 : Hid (Below (w.heap.size + 1) (w.alloc (.cells #[.int .i64 1, .string st, .int .i64 n, .int .i64 a.1, .int .i64 a.2.1, .slice o2 n2 k2, .slice o3 n3 k3, .slice o4 n4 k4, .slice o5 n5 k5, .int .i64 mv, .bool dn] 46)) w1) := below_of k0.out hb1
    have s1 : w.heap.size + 1 ≤ w1.heap.size := by have := k1.out.size; simpa using this
    clear hb1
    have x0 := box_in k1.out 0 _ rfl
    have x1 := box_in k1.out 1 _ rfl
    have x2 := box_in k1.out 2 _ rfl
    have x3 := box_in k1.out 3 _ rfl
    have x4 := box_in k1.out 4 _ rfl
    have x5 := box_in k1.out 5 _ rfl
    have x6 := box_in k1.out 6 _ rfl
    have x7 := box_in k1.out 7 _ rfl
    have x8 := box_in k1.out 8 _ rfl
    have x9 := box_in k1.out 9 _ rfl
    have x10 := box_in k1.out 10 _ rfl
    simp only [List.getElem_toArray, List.getElem_cons_zero, List.getElem_cons_succ] at x0 x1 x2 x3 x4 x5 x6 x7 x8 x9 x10
    have x2' := cell_past x2 (by omega) (.cells #[.int .i64 a.1, .int .i64 a.2.1, .slice o2 n2 k2, .slice o3 n3 k3, .slice o4 n4 k4, .slice o5 n5 k5] 121)
    have k2' : Hid (Below w.heap.size w (w1.alloc (.cells #[.int .i64 a.1, .int .i64 a.2.1, .slice o2 n2 k2, .slice o3 n3 k3, .slice o4 n4 k4, .slice o5 n5 k5] 121))) := (below_end k1.out).alloc (by omega) _
    cases c : (a.1 == n)
    · go_wp2_with fail
      go_ret
      exact ⟨by rw [c]; rfl, k2'.out⟩
    · go_wp2_with fail
      obtain ⟨A2, A3, A4, A5⟩ := HA.out _ k2'.out
      refine (C.wantI_any S a o2 o3 o4 o5 n2 n3 n4 n5 k2 k3 k4 k5 _ A2 A3 A4 A5 (fun b hb => by have := HS.out b hb; have := k2'.out.size; omega) M2.out M3.out M4.out M5.out b2 b3 b4 b5).mono ?_; rintro e w3 ⟨rfl, hb3⟩
      rw [C.want_same]
      have k3' : Hid (Below w.heap.size w w3) := k2'.out.trans (hb3.mono k2'.out.size)
      clear A2 A3 A4 A5 hb3
      go_wp2_with fail
      go_ret
      exact ⟨by rw [c]; rfl, k3'.out⟩
  · have ta := taA_no (k := k) a.1 a.2.1 o2 o3 o4 o5 n2 n3 n4 n5 k2 k3 k4 k5 mv hk
    have EW : Hid (wOk k n a = zW a.1 a.2.1 n2 n3 n4 n5) := by show _ = _; unfold wOk; rw [if_neg hk, M2.out, M3.out, M4.out, M5.out]
    rw [EW.out]
    go_enter Tryz.func57, Tryz.ntmps57
    go_wp2_with fail
    refine (saying_any k n a.1 a.2.1 mv st dn o2 o3 o4 o5 n2 n3 n4 n5 k2 k3 k4 k5 _).mono ?_; rintro e w1 ⟨rfl, hb1⟩
    have k1 : Hid (Below (w.heap.size + 1) (w.alloc (.cells #[.int .i64 k, .string st, .int .i64 n, .int .i64 a.1, .int .i64 a.2.1, .slice o2 n2 k2, .slice o3 n3 k3, .slice o4 n4 k4, .slice o5 n5 k5, .int .i64 mv, .bool dn] 46)) w1) := below_of k0.out hb1
    have s1 : w.heap.size + 1 ≤ w1.heap.size := by have := k1.out.size; simpa using this
    clear hb1
    have x0 := box_in k1.out 0 _ rfl
    have x1 := box_in k1.out 1 _ rfl
    have x2 := box_in k1.out 2 _ rfl
    have x3 := box_in k1.out 3 _ rfl
    have x4 := box_in k1.out 4 _ rfl
    have x5 := box_in k1.out 5 _ rfl
    have x6 := box_in k1.out 6 _ rfl
    have x7 := box_in k1.out 7 _ rfl
    have x8 := box_in k1.out 8 _ rfl
    have x9 := box_in k1.out 9 _ rfl
    have x10 := box_in k1.out 10 _ rfl
    simp only [List.getElem_toArray, List.getElem_cons_zero, List.getElem_cons_succ] at x0 x1 x2 x3 x4 x5 x6 x7 x8 x9 x10
    have x3' := cell_past x3 (by omega) (.cells #[.int .i64 0, .int .i64 0, .slice none 0 0, .slice none 0 0, .slice none 0 0, .slice none 0 0] 121)
    have x4' := cell_past x4 (by omega) (.cells #[.int .i64 0, .int .i64 0, .slice none 0 0, .slice none 0 0, .slice none 0 0, .slice none 0 0] 121)
    have x5' := cell_past x5 (by omega) (.cells #[.int .i64 0, .int .i64 0, .slice none 0 0, .slice none 0 0, .slice none 0 0, .slice none 0 0] 121)
    have x6' := cell_past x6 (by omega) (.cells #[.int .i64 0, .int .i64 0, .slice none 0 0, .slice none 0 0, .slice none 0 0, .slice none 0 0] 121)
    have x7' := cell_past x7 (by omega) (.cells #[.int .i64 0, .int .i64 0, .slice none 0 0, .slice none 0 0, .slice none 0 0, .slice none 0 0] 121)
    have x8' := cell_past x8 (by omega) (.cells #[.int .i64 0, .int .i64 0, .slice none 0 0, .slice none 0 0, .slice none 0 0, .slice none 0 0] 121)
    have k2' : Hid (Below w.heap.size w (w1.alloc (.cells #[.int .i64 0, .int .i64 0, .slice none 0 0, .slice none 0 0, .slice none 0 0, .slice none 0 0] 121))) := (below_end k1.out).alloc (by omega) _
    go_wp2_with fail
    refine (isZ_any a.1 a.2.1 o2 o3 o4 o5 n2 n3 n4 n5 k2 k3 k4 k5 _ b2 b3 b4 b5).mono ?_; rintro e w3 ⟨rfl, hb3⟩
    have k3' : Hid (Below w.heap.size w w3) := k2'.out.trans (hb3.mono k2'.out.size)
    clear hb3
    go_wp2_with fail
    go_ret
    exact ⟨rfl, k3'.out⟩

set_option maxRecDepth 100000 in
set_option maxHeartbeats 4000000 in
theorem measured_any (mv : Int) (w : World) : Calls Tryz.prog 153 #[.agg #[.int .i64 mv]] w fun e w' => e = .returned (.int .i64 mv) ∧ Below w.heap.size w w' := by
  go_enter Tryz.func153, Tryz.ntmps153
  go_wp2
  go_ret
  exact ⟨rfl, (Below.refl _ _).alloc (Nat.le_refl _) _⟩

set_option maxRecDepth 100000 in
set_option maxHeartbeats 4000000 in
theorem movedOk_any (k n p q mv : Int) (st : ByteArray) (dn : Bool) (o2 o3 o4 o5 : Option Addr) (n2 n3 n4 n5 k2 k3 k4 k5 : Nat) (w : World) :
    Calls Tryz.prog 58 #[.agg #[.int .i64 k, .string st, .int .i64 n, .int .i64 p, .int .i64 q, .slice o2 n2 k2, .slice o3 n3 k3, .slice o4 n4 k4, .slice o5 n5 k5, .int .i64 mv, .bool dn]] w fun e w' => e = .returned (.bool (mOk k mv)) ∧ Below w.heap.size w w' := by
  have k0 : Hid (Below (w.heap.size + 1) (w.alloc (.cells #[.int .i64 k, .string st, .int .i64 n, .int .i64 p, .int .i64 q, .slice o2 n2 k2, .slice o3 n3 k3, .slice o4 n4 k4, .slice o5 n5 k5, .int .i64 mv, .bool dn] 46)) (w.alloc (.cells #[.int .i64 k, .string st, .int .i64 n, .int .i64 p, .int .i64 q, .slice o2 n2 k2, .slice o3 n3 k3, .slice o4 n4 k4, .slice o5 n5 k5, .int .i64 mv, .bool dn] 46))) := Below.refl _ _
  by_cases h6 : k = 6
  · subst h6
    have ta := taM_6 (.agg #[.int .i64 p, .int .i64 q, .slice o2 n2 k2, .slice o3 n3 k3, .slice o4 n4 k4, .slice o5 n5 k5]) mv
    have hm : ∀ W, (Go.method 310 130 (.agg #[.int .i64 mv]) "loop.example/malthouse/impl.measured").run Tryz.prog W = .ok (153, .agg #[.int .i64 mv]) W := fun W => by kernel_rfl
    have EW : Hid (mOk 6 mv = (decide (0 ≤ mv) && decide (mv ≤ 1000))) := rfl
    rw [EW.out]
    go_enter Tryz.func58, Tryz.ntmps58
    go_wp2_with fail
    refine (saying_any 6 n p q mv st dn o2 o3 o4 o5 n2 n3 n4 n5 k2 k3 k4 k5 _).mono ?_; rintro e w1 ⟨rfl, hb1⟩
    have k1 : Hid (Below w.heap.size w w1) := below_end (below_of k0.out hb1)
    clear hb1
    go_wp2_with fail
    refine (measured_any mv _).mono ?_; rintro e w2 ⟨rfl, hb2⟩
    have k2 : Hid (Below w.heap.size w w2) := k1.out.trans (hb2.mono k1.out.size)
    clear hb2
    cases c : (decide (0 ≤ mv))
    · go_wp2_with fail
      go_ret
      exact ⟨by rw [c]; rfl, k2.out⟩
    · go_wp2_with fail
      refine (measured_any mv _).mono ?_; rintro e w3 ⟨rfl, hb3⟩
      have k3 : Hid (Below w.heap.size w w3) := k2.out.trans (hb3.mono k2.out.size)
      clear hb3
      go_wp2_with fail
      go_ret
      exact ⟨by rw [c]; rfl, k3.out⟩
  · by_cases h7 : k = 7
    · subst h7
      have ta := taM_7 (.agg #[.int .i64 p, .int .i64 q, .slice o2 n2 k2, .slice o3 n3 k3, .slice o4 n4 k4, .slice o5 n5 k5]) mv
      have hm : ∀ W, (Go.method 310 131 (.agg #[.int .i64 mv]) "loop.example/malthouse/impl.measured").run Tryz.prog W = .ok (153, .agg #[.int .i64 mv]) W := fun W => by kernel_rfl
      have EW : Hid (mOk 7 mv = (decide (0 ≤ mv) && decide (mv ≤ 1000))) := rfl
      rw [EW.out]
      go_enter Tryz.func58, Tryz.ntmps58
      go_wp2_with fail
      refine (saying_any 7 n p q mv st dn o2 o3 o4 o5 n2 n3 n4 n5 k2 k3 k4 k5 _).mono ?_; rintro e w1 ⟨rfl, hb1⟩
      have k1 : Hid (Below w.heap.size w w1) := below_end (below_of k0.out hb1)
      clear hb1
      go_wp2_with fail
      refine (measured_any mv _).mono ?_; rintro e w2 ⟨rfl, hb2⟩
      have k2 : Hid (Below w.heap.size w w2) := k1.out.trans (hb2.mono k1.out.size)
      clear hb2
      cases c : (decide (0 ≤ mv))
      · go_wp2_with fail
        go_ret
        exact ⟨by rw [c]; rfl, k2.out⟩
      · go_wp2_with fail
        refine (measured_any mv _).mono ?_; rintro e w3 ⟨rfl, hb3⟩
        have k3 : Hid (Below w.heap.size w w3) := k2.out.trans (hb3.mono k2.out.size)
        clear hb3
        go_wp2_with fail
        go_ret
        exact ⟨by rw [c]; rfl, k3.out⟩
    · have ta := taM_no (k := k) p q o2 o3 o4 o5 n2 n3 n4 n5 k2 k3 k4 k5 mv h6 h7
      have EW : Hid (mOk k mv = (mv == 0)) := if_neg (fun h => h.elim h6 h7)
      rw [EW.out]
      go_enter Tryz.func58, Tryz.ntmps58
      go_wp2_with fail
      refine (saying_any k n p q mv st dn o2 o3 o4 o5 n2 n3 n4 n5 k2 k3 k4 k5 _).mono ?_; rintro e w1 ⟨rfl, hb1⟩
      have k1 : Hid (Below (w.heap.size + 1) (w.alloc (.cells #[.int .i64 k, .string st, .int .i64 n, .int .i64 p, .int .i64 q, .slice o2 n2 k2, .slice o3 n3 k3, .slice o4 n4 k4, .slice o5 n5 k5, .int .i64 mv, .bool dn] 46)) w1) := below_of k0.out hb1
      clear hb1
      have x9 := box_in k1.out 9 _ rfl
      simp only [List.getElem_toArray, List.getElem_cons_zero, List.getElem_cons_succ] at x9
      go_wp2_with fail
      go_ret
      exact ⟨rfl, below_end k1.out⟩

set_option maxRecDepth 100000 in
set_option maxHeartbeats 4000000 in
theorem doneOk_any (k n p q mv : Int) (st : ByteArray) (dn : Bool) (o2 o3 o4 o5 : Option Addr) (n2 n3 n4 n5 k2 k3 k4 k5 : Nat) (w : World) :
    Calls Tryz.prog 59 #[.agg #[.int .i64 k, .string st, .int .i64 n, .int .i64 p, .int .i64 q, .slice o2 n2 k2, .slice o3 n3 k3, .slice o4 n4 k4, .slice o5 n5 k5, .int .i64 mv, .bool dn]] w fun e w' => e = .returned (.bool (dOk k dn)) ∧ Below w.heap.size w w' := by
  have k0 : Hid (Below (w.heap.size + 1) (w.alloc (.cells #[.int .i64 k, .string st, .int .i64 n, .int .i64 p, .int .i64 q, .slice o2 n2 k2, .slice o3 n3 k3, .slice o4 n4 k4, .slice o5 n5 k5, .int .i64 mv, .bool dn] 46)) (w.alloc (.cells #[.int .i64 k, .string st, .int .i64 n, .int .i64 p, .int .i64 q, .slice o2 n2 k2, .slice o3 n3 k3, .slice o4 n4 k4, .slice o5 n5 k5, .int .i64 mv, .bool dn] 46))) := Below.refl _ _
  by_cases h7 : k = 7
  · subst h7
    have ta := taO_yes (.agg #[.int .i64 p, .int .i64 q, .slice o2 n2 k2, .slice o3 n3 k3, .slice o4 n4 k4, .slice o5 n5 k5]) mv
    have EW : Hid (dOk 7 dn = true) := rfl
    rw [EW.out]
    go_enter Tryz.func59, Tryz.ntmps59
    go_wp2_with fail
    refine (saying_any 7 n p q mv st dn o2 o3 o4 o5 n2 n3 n4 n5 k2 k3 k4 k5 _).mono ?_; rintro e w1 ⟨rfl, hb1⟩
    have k1 : Hid (Below (w.heap.size + 1) (w.alloc (.cells #[.int .i64 7, .string st, .int .i64 n, .int .i64 p, .int .i64 q, .slice o2 n2 k2, .slice o3 n3 k3, .slice o4 n4 k4, .slice o5 n5 k5, .int .i64 mv, .bool dn] 46)) w1) := below_of k0.out hb1
    have s1 : w.heap.size + 1 ≤ w1.heap.size := by have := k1.out.size; simpa using this
    clear hb1
    have x10 := box_in k1.out 10 _ rfl
    simp only [List.getElem_toArray, List.getElem_cons_zero, List.getElem_cons_succ] at x10
    have x10' := cell_past x10 (by omega) (.cells #[.int .i64 mv] 131)
    go_wp2_with fail
    go_ret
    exact ⟨rfl, (below_end k1.out).alloc (by omega) _⟩
  · have ta := taO_no (k := k) p q o2 o3 o4 o5 n2 n3 n4 n5 k2 k3 k4 k5 mv h7
    have EW : Hid (dOk k dn = !dn) := by show _ = _; unfold dOk; rw [decide_eq_false h7]; rfl
    rw [EW.out]
    go_enter Tryz.func59, Tryz.ntmps59
    go_wp2_with fail
    refine (saying_any k n p q mv st dn o2 o3 o4 o5 n2 n3 n4 n5 k2 k3 k4 k5 _).mono ?_; rintro e w1 ⟨rfl, hb1⟩
    have k1 : Hid (Below (w.heap.size + 1) (w.alloc (.cells #[.int .i64 k, .string st, .int .i64 n, .int .i64 p, .int .i64 q, .slice o2 n2 k2, .slice o3 n3 k3, .slice o4 n4 k4, .slice o5 n5 k5, .int .i64 mv, .bool dn] 46)) w1) := below_of k0.out hb1
    have s1 : w.heap.size + 1 ≤ w1.heap.size := by have := k1.out.size; simpa using this
    clear hb1
    have x10 := box_in k1.out 10 _ rfl
    simp only [List.getElem_toArray, List.getElem_cons_zero, List.getElem_cons_succ] at x10
    have x10' := cell_past x10 (by omega) (.cells #[.int .i64 0] 131)
    go_wp2_with fail
    go_ret
    exact ⟨rfl, (below_end k1.out).alloc (by omega) _⟩

end Go.Proofs.YtciembgenlcogaeGreat
