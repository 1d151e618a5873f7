/-
  The program's heap of remainders in memory: the first of two below.
-/
import Derived.Test.YtkmgogfgdpldbabSd
namespace Go.Proofs.Ytkmgogfgdpldbab
open Go.RowKit

open Go.Sort in
set_option maxRecDepth 100000 in
set_option maxHeartbeats 8000000 in
theorem fbel_any (r g cap : Nat) (l : List (Int × Int)) (t : Nat) (w : World) (h : Rk w r g cap l) (ht : t ≤ 1048576) (hm : l.length ≤ 1048576) :
    Calls Try.prog 25 #[.pointer (some ⟨r, 0, none⟩), .int .i64 t] w fun e w' => e = .returned (.int .i64 (fbel l t : Nat)) ∧ Below w.heap.size w w' := by
  have q0 := fun d os => cell_regrown h.b0 d os
  have q1 := fun d os => cell_regrown h.b1 d os
  have HR : Hid (Rk w r g cap l) := h
  clear h
  obtain ⟨n, en⟩ : ∃ n, l.length = n := ⟨_, rfl⟩
  rw [en] at hm q0
  have EN : Hid (l.length = n) := en
  clear en
  obtain ⟨a, ea⟩ : ∃ a : Nat, a = 2 * t + 1 := ⟨_, rfl⟩
  obtain ⟨b, eb⟩ : ∃ b : Nat, b = 2 * t + 2 := ⟨_, rfl⟩
  have e1 : (2 * (t : Int) + 1) = (a : Int) := by omega
  have e2 : (2 * (t : Int) + 2) = (b : Int) := by omega
  by_cases hlt : b < n
  · have ca0 := fun d os => cell_regrown (HR.out.c0 a (by rw [EN.out]; omega)).1 d os
    have ca1 := fun d os => cell_regrown (HR.out.c1 a (by rw [EN.out]; omega)).1 d os
    have cb0 := fun d os => cell_regrown (HR.out.c0 b (by rw [EN.out]; omega)).1 d os
    have cb1 := fun d os => cell_regrown (HR.out.c1 b (by rw [EN.out]; omega)).1 d os
    have han : a < n := by omega
    obtain ⟨xa, exa⟩ : ∃ e, nE l a = e := ⟨_, rfl⟩
    obtain ⟨xb, exb⟩ : ∃ e, nE l b = e := ⟨_, rfl⟩
    rw [exa] at ca0 ca1
    rw [exb] at cb0 cb1
    cases ha : ahd xb xa
    · have hd : decide (cmpR xb xa < 0) = false := by rw [cmpR_lt]; exact ha
      have hf : fbel l t = a := by
        unfold fbel; rw [← eb, ← ea, exa, exb, EN.out, if_neg (by rw [ha]; simp)]
      rw [hf]
      clear ea eb hf
      go_enter Try.func25, Try.ntmps25
      go_wp2
      refine wp_region_quiet_below (by kernel_rfl) (by kernel_rfl) ?_
      repeat (first | go_big_quiet_step (with_reducible exact cmpR_q _ _ _ _ rfl _ _) | quiet_step (with_reducible exact cmpR_q _ _ _ _ rfl _ _))
      refine wpQuiet_nil ?_
      intro _ hw'
      obtain ⟨⟨dq, osq⟩, hw''⟩ := hw'
      subst hw''
      go_wp2
      go_ret
      exact ⟨rfl, below_regrown w dq osq⟩
    · have hd : decide (cmpR xb xa < 0) = true := by rw [cmpR_lt]; exact ha
      have hf : fbel l t = b := by
        unfold fbel; rw [← eb, ← ea, exa, exb, EN.out, if_pos ⟨hlt, ha⟩]
      rw [hf]
      clear ea eb hf
      go_enter Try.func25, Try.ntmps25
      go_wp2
      refine wp_region_quiet_below (by kernel_rfl) (by kernel_rfl) ?_
      repeat (first | go_big_quiet_step (with_reducible exact cmpR_q _ _ _ _ rfl _ _) | quiet_step (with_reducible exact cmpR_q _ _ _ _ rfl _ _))
      refine wpQuiet_nil ?_
      intro _ hw'
      obtain ⟨⟨dq, osq⟩, hw''⟩ := hw'
      subst hw''
      go_wp2
      go_ret
      exact ⟨rfl, below_regrown w dq osq⟩
  · have hf : fbel l t = a := by
      unfold fbel; rw [← eb, ← ea, EN.out, if_neg (fun h => hlt h.1)]
    rw [hf]
    clear ea eb hf
    go_enter Try.func25, Try.ntmps25
    go_wp2
    refine wp_region_quiet_below (by kernel_rfl) (by kernel_rfl) ?_
    repeat (first | go_big_quiet_step (fail) | quiet_step (fail))
    refine wpQuiet_nil ?_
    intro _ hw'
    obtain ⟨⟨dq, osq⟩, hw''⟩ := hw'
    subst hw''
    go_wp2
    go_ret
    exact ⟨rfl, below_regrown w dq osq⟩

end Go.Proofs.Ytkmgogfgdpldbab
