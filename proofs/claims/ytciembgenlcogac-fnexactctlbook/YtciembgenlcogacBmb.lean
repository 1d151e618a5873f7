/-
  Several texts in one.
-/
import Derived.Test.YtciembgenlcogacZa
import Derived.Test.YtciembgenlcogacHq
import Derived.Test.YtciembgenlcogacZb

/-
  A contract of how the program compares two pairs of foes.
-/
namespace Go.Proofs.Ytciembgenlcogac
open Go.RowKit

open Go.Sort in
theorem cmpSr (a b : ByteArray) (wr : World) (r : Int) (hr : cmpB a b = r) (d : Nat) (os : Array Obj) : Calls Try.prog 76 #[.string a, .string b] (grow (redrawn wr d) os) fun e w'' => e = .returned (.int .i64 r) ∧ ∃ p : Regrown, w'' = grow (redrawn wr p.d) p.os :=
  Calls.regrown_of (by subst hr; exact (cmpS_any a b _).mono fun _ _ ⟨he, hw⟩ => ⟨he, by subst hw; exact Below.refl _ _⟩)

theorem or_new (u : World) (a1 a2 b1 b2 : ByteArray) :
    Calls Try.prog 89 #[.slice (some ⟨u.heap.size, 0, none⟩) 2 2] (u.alloc (.cells #[.int .i64 (cmpB a1 b1), .int .i64 (cmpB a2 b2)] 3)) fun e w' => e = .returned (.int .i64 (cmpF (a1, a2) (b1, b2))) ∧ w' = u.alloc (.cells #[.int .i64 (cmpB a1 b1), .int .i64 (cmpB a2 b2)] 3) :=
  or_any (cmpB a1 b1) (cmpB a2 b2) _ _ (new_cell u _ _ 0 _ rfl) (new_cell u _ _ 1 _ rfl)

open Go.Sort in
set_option maxRecDepth 100000 in
set_option maxHeartbeats 1000000 in
theorem cmpF_any (a1 a2 b1 b2 : ByteArray) (w : World) :
    Calls Try.prog 79 #[.agg #[.string a1, .string a2], .agg #[.string b1, .string b2]] w fun e w' => e = .returned (.int .i64 (cmpF (a1, a2) (b1, b2))) ∧ Below w.heap.size w w' := by
  obtain ⟨W, hW⟩ : ∃ W, W = (w.alloc (.cells #[.string a1, .string a2] 52)).alloc (.cells #[.string b1, .string b2] 52) := ⟨_, rfl⟩
  have hb : Hid (Below w.heap.size w W) := by rw [hW]; exact ((Below.refl _ _).alloc (Nat.le_refl _) _).alloc (by simp) _
  have hs : w.heap.size ≤ W.heap.size := hb.out.size
  have f0 : W.cell? ⟨w.heap.size, 0, none⟩ = some (.string a1) := by rw [hW]; simp
  have f1 : W.cell? ⟨w.heap.size, 1, none⟩ = some (.string a2) := by rw [hW]; simp
  have f2 : W.cell? ⟨w.heap.size + 1, 0, none⟩ = some (.string b1) := by rw [hW]; simp
  have f3 : W.cell? ⟨w.heap.size + 1, 1, none⟩ = some (.string b2) := by rw [hW]; simp
  have q0 := fun d os => cell_regrown f0 d os
  have q1 := fun d os => cell_regrown f1 d os
  have q2 := fun d os => cell_regrown f2 d os
  have q3 := fun d os => cell_regrown f3 d os
  go_enter Try.func79, Try.ntmps79
  go_wp2
  rw [← hW]
  clear hW
  refine wp_region_head_tail 10 (by kernel_rfl) (by kernel_rfl) ?_
  simp only [List.take_succ_cons, List.take_zero, List.drop_succ_cons, List.drop_zero]
  repeat (first | go_big_quiet_step (with_reducible exact cmpSr _ _ _ _ rfl _ _) | quiet_step (with_reducible exact cmpSr _ _ _ _ rfl _ _))
  refine wpQuiet_nil ?_
  intro _ hw'
  obtain ⟨⟨dq, osq⟩, hw''⟩ := hw'
  subst hw''
  have hb2 : Hid (Below w.heap.size w (grow (redrawn W dq) osq)) := hb.out.trans ((below_regrown _ dq osq).mono hs)
  have hs2 := hb2.out.size
  generalize grow (redrawn W dq) osq = u at hb2 hs2 ⊢
  go_wp2_with (go_at_call 89; refine (or_new _ a1 a2 b1 b2).mono ?_; rintro e w1 ⟨rfl, rfl⟩)
  go_ret
  exact ⟨rfl, hb2.out.alloc hs2 _⟩

end Go.Proofs.Ytciembgenlcogac

/-
  Contracts of the program's test whether a list ascends, at foes.
-/
namespace Go.Proofs.Ytciembgenlcogac
open Go.RowKit

open Go.Sort in
theorem cmpFq (a1 a2 b1 b2 : ByteArray) (wr : World) (r : Int) (hr : cmpF (a1, a2) (b1, b2) = r) (d : Nat) (os : Array Obj) : Calls Try.prog 79 #[.agg #[.string a1, .string a2], .agg #[.string b1, .string b2]] (grow (redrawn wr d) os) fun e w'' => e = .returned (.int .i64 r) ∧ ∃ p : Regrown, w'' = grow (redrawn wr p.d) p.os :=
  Calls.regrown_of (by subst hr; exact cmpF_any a1 a2 b1 b2 _)

set_option maxRecDepth 100000 in
set_option maxHeartbeats 1000000 in
theorem ascF_any (B : Nat) (v : Value) (n : Nat) (f : Nat → ByteArray × ByteArray) (w : World) (h : Lst B w v n 2 (cF f)) (hB : B ≤ w.heap.size) :
    Calls Try.prog 78 #[v, .func (.func 79) #[] #[]] w fun e w' => ∃ b, e = .returned (.bool b) ∧ (b = true ↔ ∀ i, 0 < i → i < n → befB ((f (i - 1)).1, (f (i - 1)).2) ((f i).1, (f i).2) = true) ∧ Below w.heap.size w w' := by
  obtain ⟨oa, cap, rfl, hn, hc⟩ := h
  unfold maxLen at hn
  have HC : Hid _ := hc
  clear hc
  go_enter Try.func78, Try.ntmps78
  go_wp2
  go_loopw [5] (fun i wr => ∃ k : Nat, i = .int .i64 ((k : Int) + 1) ∧ (k + 1 ≤ n ∨ k = 0) ∧ Hid (∀ i, 0 < i → i < k + 1 → befB ((f (i - 1)).1, (f (i - 1)).2) ((f i).1, (f i).2) = true) ∧ Hid (Below w.heap.size w wr)) (fun i _ => n - (intOf i).toNat)
  case atStart => exact ⟨0, rfl, Or.inr rfl, fun _ h1 h2 => by omega, Below.refl _ _⟩
  case round =>
    obtain ⟨k, rfl, hk, hall, hbel⟩ := hrel
    have hs := hbel.out.size
    by_cases hlt : k + 1 < n
    · clear hk
      obtain ⟨b, off, rfl, hbB, hcell⟩ := HC.out (k + 1) hlt
      obtain ⟨b', off', e', hbB', hcellm⟩ := HC.out k (by omega)
      cases e'
      have a0 : wr.cell? ⟨b, off + k * 2, none⟩ = some (.string (f k).1) := (hbel.out.cell (p := ⟨b, off + k * 2, none⟩) (by show b < _; omega)).trans (by simpa [cF] using hcellm 0 (by omega))
      have qa0 := fun d os => cell_regrown a0 d os
      have a1 : wr.cell? ⟨b, off + k * 2 + 1, none⟩ = some (.string (f k).2) := (hbel.out.cell (p := ⟨b, off + k * 2 + 1, none⟩) (by show b < _; omega)).trans (by simpa [cF] using hcellm 1 (by omega))
      have qa1 := fun d os => cell_regrown a1 d os
      have c0 : wr.cell? ⟨b, off + (k + 1) * 2, none⟩ = some (.string (f (k + 1)).1) := (hbel.out.cell (p := ⟨b, off + (k + 1) * 2, none⟩) (by show b < _; omega)).trans (by simpa [cF] using hcell 0 (by omega))
      have qc0 := fun d os => cell_regrown c0 d os
      have c1 : wr.cell? ⟨b, off + (k + 1) * 2 + 1, none⟩ = some (.string (f (k + 1)).2) := (hbel.out.cell (p := ⟨b, off + (k + 1) * 2 + 1, none⟩) (by show b < _; omega)).trans (by simpa [cF] using hcell 1 (by omega))
      have qc1 := fun d os => cell_regrown c1 d os
      have hge : decide (0 ≤ cmpF ((f (k)).1, (f (k)).2) ((f (k + 1)).1, (f (k + 1)).2)) = !befB ((f (k)).1, (f (k)).2) ((f (k + 1)).1, (f (k + 1)).2) := cmpF_ge _ _
      cases hlb : befB ((f (k)).1, (f (k)).2) ((f (k + 1)).1, (f (k + 1)).2)
      · rw [hlb, Bool.not_false] at hge
        go_wp2
        refine wp_region_quiet_below (by kernel_rfl) (by kernel_rfl) ?_
        repeat (first | go_big_quiet_step (with_reducible exact cmpFq _ _ _ _ _ _ rfl _ _) | quiet_step (with_reducible exact cmpFq _ _ _ _ _ _ rfl _ _))
        refine wpQuiet_nil ?_
        intro _ hw'
        obtain ⟨⟨dq, osq⟩, hw''⟩ := hw'
        subst hw''
        go_wp2
        go_ret
        exact ⟨false, rfl, ⟨(fun h => by cases h), fun h => by have := h (k + 1) (by omega) hlt; rw [Nat.add_sub_cancel, hlb] at this; cases this⟩, hbel.out.trans ((below_regrown _ dq osq).mono hs)⟩
      · rw [hlb, Bool.not_true] at hge
        go_wp2
        refine wp_region_quiet_below (by kernel_rfl) (by kernel_rfl) ?_
        repeat (first | go_big_quiet_step (with_reducible exact cmpFq _ _ _ _ _ _ rfl _ _) | quiet_step (with_reducible exact cmpFq _ _ _ _ _ _ rfl _ _))
        refine wpQuiet_nil ?_
        intro _ hw'
        obtain ⟨⟨dq, osq⟩, hw''⟩ := hw'
        subst hw''
        go_wp2
        go_roundw
        case rel => exact ⟨k + 1, by go_num, Or.inl (by omega), fun i h1 h2 => by
          by_cases e : i = k + 1
          · subst e; rw [Nat.add_sub_cancel]; exact hlb
          · exact hall.out i h1 (by omega), hbel.out.trans ((below_regrown _ dq osq).mono hs)⟩
        case measure => simp [intOf]; omega
    · go_wp2
      go_ret
      exact ⟨true, rfl, ⟨fun _ i h1 h2 => hall.out i h1 (by omega), fun _ => rfl⟩, hbel.out⟩

end Go.Proofs.Ytciembgenlcogac
