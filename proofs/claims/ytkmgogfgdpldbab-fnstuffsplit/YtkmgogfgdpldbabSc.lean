/-
  Contracts of the program's comparing of two remainders.
-/
import Derived.Test.YtkmgogfgdpldbabHp
import Derived.Test.YtkmgogfgdpldbabHq
namespace Go.Proofs.Ytkmgogfgdpldbab
open Go.RowKit

theorem new_cell (w : World) (c : Array Value) (t : TypeId) (j : Nat) (v : Value) (h : c[j]? = some v) : (w.alloc (.cells c t)).cell? ⟨w.heap.size, j, none⟩ = some v := by
  simp only [World.cell?, heap_alloc_new, h]; rfl

/-- How two numbers are compared; two remainders. -/
def cmpI (x y : Int) : Int := if x < y then -1 else if y < x then 1 else 0
def cmpR (a b : Int × Int) : Int := if cmpI b.2 a.2 = 0 then cmpI a.1 b.1 else cmpI b.2 a.2
theorem cmpR_lt (a b : Int × Int) : decide (cmpR a b < 0) = ahd a b := by
  unfold cmpR cmpI ahd
  rw [Bool.eq_iff_iff]
  simp only [decide_eq_true_eq]
  split <;> split <;> omega
theorem cmpR_ge (a b : Int × Int) : decide (0 ≤ cmpR a b) = !ahd a b := by
  rw [← cmpR_lt]
  by_cases h : cmpR a b < 0
  · rw [decide_eq_true h, decide_eq_false (by omega)]; rfl
  · rw [decide_eq_false h, decide_eq_true (by omega)]; rfl

set_option maxHeartbeats 1000000 in
theorem nan_any (x : Int) (w : World) : Calls Try.prog 26 #[.int .i64 x] w fun e w' => e = .returned (.bool false) ∧ w' = w := by
  have hx : (x == x) = true := by simp
  go_enter Try.func26, Try.ntmps26
  go_wp2
  go_ret
  exact ⟨by simp, rfl⟩
set_option maxHeartbeats 1000000 in
theorem cmpI_any (x y : Int) (w : World) : Calls Try.prog 23 #[.int .i64 x, .int .i64 y] w fun e w' => e = .returned (.int .i64 (cmpI x y)) ∧ w' = w := by
  by_cases h1 : x < y
  · rw [show cmpI x y = -1 from if_pos h1]
    have d1 : decide (x < y) = true := decide_eq_true h1
    go_enter Try.func23, Try.ntmps23
    go_wp2_with (go_at_call 26; refine (nan_any _ _).mono ?_; rintro e w1 ⟨rfl, rfl⟩)
    go_ret
    exact ⟨rfl, rfl⟩
  · have d1 : decide (x < y) = false := decide_eq_false h1
    by_cases h2 : y < x
    · rw [show cmpI x y = 1 by unfold cmpI; rw [if_neg h1, if_pos h2]]
      have d2 : decide (y < x) = true := decide_eq_true h2
      go_enter Try.func23, Try.ntmps23
      go_wp2_with (go_at_call 26; refine (nan_any _ _).mono ?_; rintro e w1 ⟨rfl, rfl⟩)
      go_ret
      exact ⟨rfl, rfl⟩
    · rw [show cmpI x y = 0 by unfold cmpI; rw [if_neg h1, if_neg h2]]
      have d2 : decide (y < x) = false := decide_eq_false h2
      go_enter Try.func23, Try.ntmps23
      go_wp2_with (go_at_call 26; refine (nan_any _ _).mono ?_; rintro e w1 ⟨rfl, rfl⟩)
      go_ret
      exact ⟨rfl, rfl⟩
open Go.Sort in
theorem cmpI_q (x y : Int) (wr : World) (r : Int) (hr : cmpI x y = r) (d : Nat) (os : Array Obj) : Calls Try.prog 23 #[.int .i64 x, .int .i64 y] (grow (redrawn wr d) os) fun e w'' => e = .returned (.int .i64 r) ∧ ∃ p : Regrown, w'' = grow (redrawn wr p.d) p.os :=
  Calls.regrown_of (by subst hr; exact (cmpI_any x y _).mono fun _ _ ⟨he, hw⟩ => ⟨he, by subst hw; exact Below.refl _ _⟩)

set_option maxRecDepth 100000 in
set_option maxHeartbeats 1000000 in
theorem or_any (x y : Int) (g : Nat) (w : World) (h0 : w.cell? ⟨g, 0, none⟩ = some (.int .i64 x)) (h1 : w.cell? ⟨g, 1, none⟩ = some (.int .i64 y)) :
    Calls Try.prog 22 #[.slice (some ⟨g, 0, none⟩) 2 2] w fun e w' => e = .returned (.int .i64 (if x = 0 then y else x)) ∧ w' = w := by
  obtain ⟨r, hr⟩ : ∃ r : Int, r = if x = 0 then y else x := ⟨_, rfl⟩
  rw [← hr]
  have HR : Hid (r = if x = 0 then y else x) := hr
  clear hr
  go_enter Try.func22, Try.ntmps22
  go_wp2
  go_loop [8] (fun i => i = .int .i64 0 ∨ (i = .int .i64 1 ∧ Hid (x = 0)) ∨ (i = .int .i64 2 ∧ Hid (x = 0) ∧ Hid (y = 0))) (fun i => 2 - (intOf i).toNat)
  case atStart => exact Or.inl rfl
  case round =>
    rcases hrel with rfl | ⟨rfl, hx⟩ | ⟨rfl, hx, hy⟩
    · by_cases hx : x = 0
      · have hx0 : (x == 0) = true := by simpa using hx
        go_wp2
        go_round
        case rel => exact Or.inr (Or.inl ⟨by go_num, hx⟩)
        case measure => simp [intOf]
      · have hx' : (x == 0) = false := by simpa using hx
        go_wp2
        go_ret
        exact ⟨by rw [HR.out, if_neg hx]; rfl, rfl⟩
    · by_cases hy : y = 0
      · have hy0 : (y == 0) = true := by simpa using hy
        go_wp2
        go_round
        case rel => exact Or.inr (Or.inr ⟨by go_num, hx.out, hy⟩)
        case measure => simp [intOf]
      · have hy' : (y == 0) = false := by simpa using hy
        go_wp2
        go_ret
        exact ⟨by rw [HR.out, if_pos hx.out]; rfl, rfl⟩
    · go_wp2
      go_ret
      exact ⟨by rw [HR.out, if_pos hx.out, hy.out]; rfl, rfl⟩


theorem or_new (u : World) (a b : Int × Int) :
    Calls Try.prog 22 #[.slice (some ⟨u.heap.size, 0, none⟩) 2 2] (u.alloc (.cells #[.int .i64 (cmpI b.2 a.2), .int .i64 (cmpI a.1 b.1)] 3)) fun e w' => e = .returned (.int .i64 (cmpR a b)) ∧ w' = u.alloc (.cells #[.int .i64 (cmpI b.2 a.2), .int .i64 (cmpI a.1 b.1)] 3) :=
  or_any (cmpI b.2 a.2) (cmpI a.1 b.1) _ _ (new_cell u _ _ 0 _ rfl) (new_cell u _ _ 1 _ rfl)

open Go.Sort in
set_option maxRecDepth 100000 in
set_option maxHeartbeats 1000000 in
theorem cmpR_any (a b : Int × Int) (w : World) :
    Calls Try.prog 16 #[.agg #[.int .i64 a.1, .int .i64 a.2], .agg #[.int .i64 b.1, .int .i64 b.2]] w fun e w' => e = .returned (.int .i64 (cmpR a b)) ∧ Below w.heap.size w w' := by
  obtain ⟨W, hW⟩ : ∃ W, W = (w.alloc (.cells #[.int .i64 a.1, .int .i64 a.2] 43)).alloc (.cells #[.int .i64 b.1, .int .i64 b.2] 43) := ⟨_, rfl⟩
  have hb : Hid (Below w.heap.size w W) := by rw [hW]; exact ((Below.refl _ _).alloc (Nat.le_refl _) _).alloc (by simp) _
  have hs : w.heap.size ≤ W.heap.size := hb.out.size
  have f0 : W.cell? ⟨w.heap.size, 0, none⟩ = some (.int .i64 a.1) := by rw [hW]; simp
  have f1 : W.cell? ⟨w.heap.size, 1, none⟩ = some (.int .i64 a.2) := by rw [hW]; simp
  have f2 : W.cell? ⟨w.heap.size + 1, 0, none⟩ = some (.int .i64 b.1) := by rw [hW]; simp
  have f3 : W.cell? ⟨w.heap.size + 1, 1, none⟩ = some (.int .i64 b.2) := by rw [hW]; simp
  have q0 := fun d os => cell_regrown f0 d os
  have q1 := fun d os => cell_regrown f1 d os
  have q2 := fun d os => cell_regrown f2 d os
  have q3 := fun d os => cell_regrown f3 d os
  go_enter Try.func16, Try.ntmps16
  go_wp2
  rw [← hW]
  clear hW
  refine wp_region_head_tail 10 (by kernel_rfl) (by kernel_rfl) ?_
  simp only [List.take_succ_cons, List.take_zero, List.drop_succ_cons, List.drop_zero]
  repeat (first | go_big_quiet_step (with_reducible exact cmpI_q _ _ _ _ rfl _ _) | quiet_step (with_reducible exact cmpI_q _ _ _ _ rfl _ _))
  refine wpQuiet_nil ?_
  intro _ hw'
  obtain ⟨⟨dq, osq⟩, hw''⟩ := hw'
  subst hw''
  have hb2 : Hid (Below w.heap.size w (grow (redrawn W dq) osq)) := hb.out.trans ((below_regrown _ dq osq).mono hs)
  have hs2 := hb2.out.size
  generalize grow (redrawn W dq) osq = u at hb2 hs2 ⊢
  go_wp2_with (go_at_call 22; refine (or_new _ a b).mono ?_; rintro e w1 ⟨rfl, rfl⟩)
  go_ret
  exact ⟨rfl, hb2.out.alloc hs2 _⟩
open Go.Sort in
theorem cmpR_q (a b : Int × Int) (wr : World) (r : Int) (hr : cmpR a b = r) (d : Nat) (os : Array Obj) : Calls Try.prog 16 #[.agg #[.int .i64 a.1, .int .i64 a.2], .agg #[.int .i64 b.1, .int .i64 b.2]] (grow (redrawn wr d) os) fun e w'' => e = .returned (.int .i64 r) ∧ ∃ p : Regrown, w'' = grow (redrawn wr p.d) p.os :=
  Calls.regrown_of (by subst hr; exact cmpR_any a b _)

end Go.Proofs.Ytkmgogfgdpldbab
