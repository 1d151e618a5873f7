/-
  A contract of how the program compares two pairs of foes.
-/
import Derived.Test.YtciembgenlcogabZa
import Derived.Test.YtciembgenlcogabHq
namespace Go.Proofs.Ytciembgenlcogab
open Go.RowKit

open Go.Sort in
theorem cmpSr (a b : ByteArray) (wr : World) (r : Int) (hr : cmpB a b = r) (d : Nat) (os : Array Obj) : Calls Try.prog 73 #[.string a, .string b] (grow (redrawn wr d) os) fun e w'' => e = .returned (.int .i64 r) ∧ ∃ p : Regrown, w'' = grow (redrawn wr p.d) p.os :=
  Calls.regrown_of (by subst hr; exact (cmpS_any a b _).mono fun _ _ ⟨he, hw⟩ => ⟨he, by subst hw; exact Below.refl _ _⟩)

theorem or_new (u : World) (a1 a2 b1 b2 : ByteArray) :
    Calls Try.prog 91 #[.slice (some ⟨u.heap.size, 0, none⟩) 2 2] (u.alloc (.cells #[.int .i64 (cmpB a1 b1), .int .i64 (cmpB a2 b2)] 3)) fun e w' => e = .returned (.int .i64 (cmpF (a1, a2) (b1, b2))) ∧ w' = u.alloc (.cells #[.int .i64 (cmpB a1 b1), .int .i64 (cmpB a2 b2)] 3) :=
  or_any (cmpB a1 b1) (cmpB a2 b2) _ _ (new_cell u _ _ 0 _ rfl) (new_cell u _ _ 1 _ rfl)

open Go.Sort in
set_option maxRecDepth 100000 in
set_option maxHeartbeats 1000000 in
theorem cmpF_any (a1 a2 b1 b2 : ByteArray) (w : World) :
    Calls Try.prog 75 #[.agg #[.string a1, .string a2], .agg #[.string b1, .string b2]] w fun e w' => e = .returned (.int .i64 (cmpF (a1, a2) (b1, b2))) ∧ Below w.heap.size w w' := by
  obtain ⟨W, hW⟩ : ∃ W, W = (w.alloc (.cells #[.string a1, .string a2] 81)).alloc (.cells #[.string b1, .string b2] 81) := ⟨_, rfl⟩
  have hb : Hid (Below w.heap.size w W) := by rw [hW]; exact ((Below.refl _ _).alloc (Nat.le_refl _) _).alloc (by simp) _
  have hs : w.heap.size ≤ W.heap.size := hb.out.size
  have f0 : W.cell? ⟨w.heap.size, 0, none⟩ = some (.string a1) := by rw [hW]; simp
  have f1 : W.cell? ⟨w.heap.size, 1, none⟩ = some (.string a2) := by rw [hW]; simp
  have f2 : W.cell? ⟨w.heap.size + 1, 0, none⟩ = some (.string b1) := by rw [hW]; simp
  have f3 : W.cell? ⟨w.heap.size + 1, 1, none⟩ = some (.string b2) := by rw [hW]; simp
  have q0 := fun d os => cell_regrown f0 d os
  have q1 := fun d os => cell_regrown f1 d os
  have q2 := fun d os => cell_regrown f2 d os
  have q3 := fun d os => cell_regrown f3 d os
  go_enter Try.func75, Try.ntmps75
  go_wp2
  rw [← hW]
  clear hW
  refine wp_region_head_tail 10 (by kernel_rfl) (by kernel_rfl) ?_
  simp only [List.take_succ_cons, List.take_zero, List.drop_succ_cons, List.drop_zero]
  repeat (first | go_big_quiet_step (with_reducible exact cmpSr _ _ _ _ rfl _ _) | quiet_step (with_reducible exact cmpSr _ _ _ _ rfl _ _))
  refine wpQuiet_nil ?_
  intro _ hw'
  obtain ⟨⟨dq, osq⟩, hw''⟩ := hw'
  subst hw''
  have hb2 : Hid (Below w.heap.size w (grow (redrawn W dq) osq)) := hb.out.trans ((below_regrown _ dq osq).mono hs)
  have hs2 := hb2.out.size
  generalize grow (redrawn W dq) osq = u at hb2 hs2 ⊢
  go_wp2_with (go_at_call 91; refine (or_new _ a1 a2 b1 b2).mono ?_; rintro e w1 ⟨rfl, rfl⟩)
  go_ret
  exact ⟨rfl, hb2.out.alloc hs2 _⟩

end Go.Proofs.Ytciembgenlcogab
