/-
  The program's test of a want, whole.
-/
import Derived.Test.YticojnepejboaacGreatCq
namespace Go.Proofs.YticojnepejboaacGreat
open Go.RowKit

/-- What hangs on the kind alone. -/
def kindB (kd : Int) (n2 n4 : Nat) : Bool := if kd = 1 then decide (0 < n2) else if kd = 2 ∨ kd = 3 then decide (n2 = 0 ∧ n4 = 0) else false
set_option maxRecDepth 100000 in
set_option maxHeartbeats 1000000 in
theorem kind1_any (nu : Int) (o2 : Option Addr) (n2 k2 : Nat) (v3 : Value) (o4 : Option Addr) (n4 k4 : Nat) (v5 : Value) (w : World) (h2 : n2 ≤ maxLen) (h4 : n4 ≤ maxLen) :
    Calls Tryz.prog 125 #[.agg #[.int .i64 nu, .int .i64 1, .slice o2 n2 k2, v3, .slice o4 n4 k4, v5]] w fun e w' => e = .returned (.bool (kindB 1 n2 n4)) ∧ Below w.heap.size w w' := by
  have _ := h2
  have _ := h4
  unfold maxLen at h2 h4
  have ta0 : ∀ W, (Instr.typeAssert (.iface 160 (.agg #[.slice o2 n2 k2])) 157 160 true).run Tryz.prog W = .ok (.tuple #[.agg #[.slice o2 n2 k2], .bool true]) W := fun W => by kernel_rfl
  have e0 : clV 1 (.slice o2 n2 k2) = .iface 160 (.agg #[.slice o2 n2 k2]) := rfl
  have HC : Hid _ := claiming_any nu 1 o2 n2 k2 v3 (.slice o4 n4 k4) v5 (w.alloc (.cells #[.int .i64 nu, .int .i64 1, .slice o2 n2 k2, v3, .slice o4 n4 k4, v5] 48))
  rw [e0] at HC
  clear e0
  by_cases z : 0 < n2
  · have d : decide ((0 : Int) < (n2 : Int)) = true := by simp; omega
    rw [show kindB 1 n2 n4 = true by unfold kindB; rw [if_pos rfl]; exact decide_eq_true z]
    go_enter Tryz.func125, Tryz.ntmps125
    go_wp2_with fail
    refine Calls.mono HC.out ?_
    rintro e w1 ⟨rfl, hb1⟩
    have hbel1 : Hid (Below (w.heap.size + 1) (w.alloc (.cells #[.int .i64 nu, .int .i64 1, .slice o2 n2 k2, v3, .slice o4 n4 k4, v5] 48)) w1) := by simpa [Hid] using hb1
    have y2 := box_at _ _ hbel1.out 2 (.slice o2 n2 k2) rfl
    have y4 := box_at _ _ hbel1.out 4 (.slice o4 n4 k4) rfl
    clear hb1
    have hs1 := hbel1.out.size
    go_wp2_with fail
    go_ret
    exact ⟨rfl, (below_end hbel1.out).alloc (by have := (below_end hbel1.out).size; exact this) _⟩
  · have d : decide ((0 : Int) < (n2 : Int)) = false := by simp; omega
    rw [show kindB 1 n2 n4 = false by unfold kindB; rw [if_pos rfl]; exact decide_eq_false z]
    go_enter Tryz.func125, Tryz.ntmps125
    go_wp2_with fail
    refine Calls.mono HC.out ?_
    rintro e w1 ⟨rfl, hb1⟩
    have hbel1 : Hid (Below (w.heap.size + 1) (w.alloc (.cells #[.int .i64 nu, .int .i64 1, .slice o2 n2 k2, v3, .slice o4 n4 k4, v5] 48)) w1) := by simpa [Hid] using hb1
    have y2 := box_at _ _ hbel1.out 2 (.slice o2 n2 k2) rfl
    have y4 := box_at _ _ hbel1.out 4 (.slice o4 n4 k4) rfl
    clear hb1
    have hs1 := hbel1.out.size
    go_wp2_with fail
    go_ret
    exact ⟨rfl, (below_end hbel1.out).alloc (by have := (below_end hbel1.out).size; exact this) _⟩

set_option maxRecDepth 100000 in
set_option maxHeartbeats 1000000 in
theorem kind2_any (nu : Int) (o2 : Option Addr) (n2 k2 : Nat) (v3 : Value) (o4 : Option Addr) (n4 k4 : Nat) (v5 : Value) (w : World) (h2 : n2 ≤ maxLen) (h4 : n4 ≤ maxLen) :
    Calls Tryz.prog 125 #[.agg #[.int .i64 nu, .int .i64 2, .slice o2 n2 k2, v3, .slice o4 n4 k4, v5]] w fun e w' => e = .returned (.bool (kindB 2 n2 n4)) ∧ Below w.heap.size w w' := by
  have _ := h2
  have _ := h4
  unfold maxLen at h2 h4
  have ta0 : ∀ W, (Instr.typeAssert (.iface 163 (.agg #[])) 157 160 true).run Tryz.prog W = .ok (.tuple #[.agg #[.slice none 0 0], .bool false]) W := fun W => by kernel_rfl
  have ta1 : ∀ W, (Instr.typeAssert (.iface 163 (.agg #[])) 157 163 true).run Tryz.prog W = .ok (.tuple #[.agg #[], .bool true]) W := fun W => by kernel_rfl
  have ta2 : ∀ W, (Instr.typeAssert (.iface 163 (.agg #[])) 157 169 true).run Tryz.prog W = .ok (.tuple #[.agg #[], .bool false]) W := fun W => by kernel_rfl
  have e0 : clV 2 (.slice o2 n2 k2) = .iface 163 (.agg #[]) := rfl
  have HC : Hid _ := claiming_any nu 2 o2 n2 k2 v3 (.slice o4 n4 k4) v5 (w.alloc (.cells #[.int .i64 nu, .int .i64 2, .slice o2 n2 k2, v3, .slice o4 n4 k4, v5] 48))
  rw [e0] at HC
  clear e0
  by_cases z : n2 = 0
  · have d : ((n2 : Int) == 0) = true := by simpa using z
    by_cases y : n4 = 0
    · have d4 : ((n4 : Int) == 0) = true := by simpa using y
      rw [show kindB 2 n2 n4 = true by unfold kindB; rw [if_neg (by decide), if_pos (by decide)]; exact decide_eq_true ⟨z, y⟩]
      clear z y
      go_enter Tryz.func125, Tryz.ntmps125
      go_wp2_with fail
      refine Calls.mono HC.out ?_
      rintro e w1 ⟨rfl, hb1⟩
      have hbel1 : Hid (Below (w.heap.size + 1) (w.alloc (.cells #[.int .i64 nu, .int .i64 2, .slice o2 n2 k2, v3, .slice o4 n4 k4, v5] 48)) w1) := by simpa [Hid] using hb1
      have y2 := box_at _ _ hbel1.out 2 (.slice o2 n2 k2) rfl
      have y4 := box_at _ _ hbel1.out 4 (.slice o4 n4 k4) rfl
      clear hb1
      have hs1 := hbel1.out.size
      go_wp2_with fail
      go_ret
      exact ⟨rfl, below_end hbel1.out⟩
    · have d4 : ((n4 : Int) == 0) = false := by simpa using y
      rw [show kindB 2 n2 n4 = false by unfold kindB; rw [if_neg (by decide), if_pos (by decide)]; exact decide_eq_false (fun h => y h.2)]
      clear z y
      go_enter Tryz.func125, Tryz.ntmps125
      go_wp2_with fail
      refine Calls.mono HC.out ?_
      rintro e w1 ⟨rfl, hb1⟩
      have hbel1 : Hid (Below (w.heap.size + 1) (w.alloc (.cells #[.int .i64 nu, .int .i64 2, .slice o2 n2 k2, v3, .slice o4 n4 k4, v5] 48)) w1) := by simpa [Hid] using hb1
      have y2 := box_at _ _ hbel1.out 2 (.slice o2 n2 k2) rfl
      have y4 := box_at _ _ hbel1.out 4 (.slice o4 n4 k4) rfl
      clear hb1
      have hs1 := hbel1.out.size
      go_wp2_with fail
      go_ret
      exact ⟨rfl, below_end hbel1.out⟩
  · have d : ((n2 : Int) == 0) = false := by simpa using z
    rw [show kindB 2 n2 n4 = false by unfold kindB; rw [if_neg (by decide), if_pos (by decide)]; exact decide_eq_false (fun h => z h.1)]
    clear z
    go_enter Tryz.func125, Tryz.ntmps125
    go_wp2_with fail
    refine Calls.mono HC.out ?_
    rintro e w1 ⟨rfl, hb1⟩
    have hbel1 : Hid (Below (w.heap.size + 1) (w.alloc (.cells #[.int .i64 nu, .int .i64 2, .slice o2 n2 k2, v3, .slice o4 n4 k4, v5] 48)) w1) := by simpa [Hid] using hb1
    have y2 := box_at _ _ hbel1.out 2 (.slice o2 n2 k2) rfl
    have y4 := box_at _ _ hbel1.out 4 (.slice o4 n4 k4) rfl
    clear hb1
    have hs1 := hbel1.out.size
    go_wp2_with fail
    go_ret
    exact ⟨rfl, below_end hbel1.out⟩

set_option maxRecDepth 100000 in
set_option maxHeartbeats 1000000 in
theorem kind3_any (nu : Int) (o2 : Option Addr) (n2 k2 : Nat) (v3 : Value) (o4 : Option Addr) (n4 k4 : Nat) (v5 : Value) (w : World) (h2 : n2 ≤ maxLen) (h4 : n4 ≤ maxLen) :
    Calls Tryz.prog 125 #[.agg #[.int .i64 nu, .int .i64 3, .slice o2 n2 k2, v3, .slice o4 n4 k4, v5]] w fun e w' => e = .returned (.bool (kindB 3 n2 n4)) ∧ Below w.heap.size w w' := by
  have _ := h2
  have _ := h4
  unfold maxLen at h2 h4
  have ta0 : ∀ W, (Instr.typeAssert (.iface 169 (.agg #[])) 157 160 true).run Tryz.prog W = .ok (.tuple #[.agg #[.slice none 0 0], .bool false]) W := fun W => by kernel_rfl
  have ta1 : ∀ W, (Instr.typeAssert (.iface 169 (.agg #[])) 157 163 true).run Tryz.prog W = .ok (.tuple #[.agg #[], .bool false]) W := fun W => by kernel_rfl
  have ta2 : ∀ W, (Instr.typeAssert (.iface 169 (.agg #[])) 157 169 true).run Tryz.prog W = .ok (.tuple #[.agg #[], .bool true]) W := fun W => by kernel_rfl
  have e0 : clV 3 (.slice o2 n2 k2) = .iface 169 (.agg #[]) := rfl
  have HC : Hid _ := claiming_any nu 3 o2 n2 k2 v3 (.slice o4 n4 k4) v5 (w.alloc (.cells #[.int .i64 nu, .int .i64 3, .slice o2 n2 k2, v3, .slice o4 n4 k4, v5] 48))
  rw [e0] at HC
  clear e0
  by_cases z : n2 = 0
  · have d : ((n2 : Int) == 0) = true := by simpa using z
    by_cases y : n4 = 0
    · have d4 : ((n4 : Int) == 0) = true := by simpa using y
      rw [show kindB 3 n2 n4 = true by unfold kindB; rw [if_neg (by decide), if_pos (by decide)]; exact decide_eq_true ⟨z, y⟩]
      clear z y
      go_enter Tryz.func125, Tryz.ntmps125
      go_wp2_with fail
      refine Calls.mono HC.out ?_
      rintro e w1 ⟨rfl, hb1⟩
      have hbel1 : Hid (Below (w.heap.size + 1) (w.alloc (.cells #[.int .i64 nu, .int .i64 3, .slice o2 n2 k2, v3, .slice o4 n4 k4, v5] 48)) w1) := by simpa [Hid] using hb1
      have y2 := box_at _ _ hbel1.out 2 (.slice o2 n2 k2) rfl
      have y4 := box_at _ _ hbel1.out 4 (.slice o4 n4 k4) rfl
      clear hb1
      have hs1 := hbel1.out.size
      go_wp2_with fail
      go_ret
      exact ⟨rfl, below_end hbel1.out⟩
    · have d4 : ((n4 : Int) == 0) = false := by simpa using y
      rw [show kindB 3 n2 n4 = false by unfold kindB; rw [if_neg (by decide), if_pos (by decide)]; exact decide_eq_false (fun h => y h.2)]
      clear z y
      go_enter Tryz.func125, Tryz.ntmps125
      go_wp2_with fail
      refine Calls.mono HC.out ?_
      rintro e w1 ⟨rfl, hb1⟩
      have hbel1 : Hid (Below (w.heap.size + 1) (w.alloc (.cells #[.int .i64 nu, .int .i64 3, .slice o2 n2 k2, v3, .slice o4 n4 k4, v5] 48)) w1) := by simpa [Hid] using hb1
      have y2 := box_at _ _ hbel1.out 2 (.slice o2 n2 k2) rfl
      have y4 := box_at _ _ hbel1.out 4 (.slice o4 n4 k4) rfl
      clear hb1
      have hs1 := hbel1.out.size
      go_wp2_with fail
      go_ret
      exact ⟨rfl, below_end hbel1.out⟩
  · have d : ((n2 : Int) == 0) = false := by simpa using z
    rw [show kindB 3 n2 n4 = false by unfold kindB; rw [if_neg (by decide), if_pos (by decide)]; exact decide_eq_false (fun h => z h.1)]
    clear z
    go_enter Tryz.func125, Tryz.ntmps125
    go_wp2_with fail
    refine Calls.mono HC.out ?_
    rintro e w1 ⟨rfl, hb1⟩
    have hbel1 : Hid (Below (w.heap.size + 1) (w.alloc (.cells #[.int .i64 nu, .int .i64 3, .slice o2 n2 k2, v3, .slice o4 n4 k4, v5] 48)) w1) := by simpa [Hid] using hb1
    have y2 := box_at _ _ hbel1.out 2 (.slice o2 n2 k2) rfl
    have y4 := box_at _ _ hbel1.out 4 (.slice o4 n4 k4) rfl
    clear hb1
    have hs1 := hbel1.out.size
    go_wp2_with fail
    go_ret
    exact ⟨rfl, below_end hbel1.out⟩

set_option maxRecDepth 100000 in
set_option maxHeartbeats 1000000 in
theorem kindo_any (nu kd : Int) (o2 : Option Addr) (n2 k2 : Nat) (v3 : Value) (o4 : Option Addr) (n4 k4 : Nat) (v5 : Value) (w : World) (h2 : n2 ≤ maxLen) (h4 : n4 ≤ maxLen) (g1 : kd ≠ 1) (g2 : kd ≠ 2) (g3 : kd ≠ 3) :
    Calls Tryz.prog 125 #[.agg #[.int .i64 nu, .int .i64 kd, .slice o2 n2 k2, v3, .slice o4 n4 k4, v5]] w fun e w' => e = .returned (.bool (kindB kd n2 n4)) ∧ Below w.heap.size w w' := by
  have _ := h2
  have _ := h4
  unfold maxLen at h2 h4
  have ta0 : ∀ W, (Instr.typeAssert (.iface 174 (.agg #[])) 157 160 true).run Tryz.prog W = .ok (.tuple #[.agg #[.slice none 0 0], .bool false]) W := fun W => by kernel_rfl
  have ta1 : ∀ W, (Instr.typeAssert (.iface 174 (.agg #[])) 157 163 true).run Tryz.prog W = .ok (.tuple #[.agg #[], .bool false]) W := fun W => by kernel_rfl
  have ta2 : ∀ W, (Instr.typeAssert (.iface 174 (.agg #[])) 157 169 true).run Tryz.prog W = .ok (.tuple #[.agg #[], .bool false]) W := fun W => by kernel_rfl
  have e0 : clV kd (.slice o2 n2 k2) = .iface 174 (.agg #[]) := by unfold clV; rw [if_neg g1, if_neg g2, if_neg g3]
  have HC : Hid _ := claiming_any nu kd o2 n2 k2 v3 (.slice o4 n4 k4) v5 (w.alloc (.cells #[.int .i64 nu, .int .i64 kd, .slice o2 n2 k2, v3, .slice o4 n4 k4, v5] 48))
  rw [e0] at HC
  clear e0
  rw [show kindB kd n2 n4 = false by unfold kindB; rw [if_neg g1, if_neg (by omega)]]
  go_enter Tryz.func125, Tryz.ntmps125
  go_wp2_with fail
  refine Calls.mono HC.out ?_
  rintro e w1 ⟨rfl, hb1⟩
  have hbel1 : Hid (Below (w.heap.size + 1) (w.alloc (.cells #[.int .i64 nu, .int .i64 kd, .slice o2 n2 k2, v3, .slice o4 n4 k4, v5] 48)) w1) := by simpa [Hid] using hb1
  have y2 := box_at _ _ hbel1.out 2 (.slice o2 n2 k2) rfl
  have y4 := box_at _ _ hbel1.out 4 (.slice o4 n4 k4) rfl
  clear hb1
  have hs1 := hbel1.out.size
  go_wp2_with fail
  go_ret
  exact ⟨rfl, below_end hbel1.out⟩


end Go.Proofs.YticojnepejboaacGreat
