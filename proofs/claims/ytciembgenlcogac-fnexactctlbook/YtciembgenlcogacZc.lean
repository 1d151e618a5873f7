/-
  Contracts of the program's test whether a list ascends, at each kind of list.
-/
import Derived.Test.YtciembgenlcogacZb
namespace Go.Proofs.Ytciembgenlcogac
open Go.RowKit

open Go.Sort in
theorem cmpSq (a b : ByteArray) (wr : World) (r : Int) (hr : cmpB a b = r) (d : Nat) (os : Array Obj) : Calls Try.prog 76 #[.string a, .string b] (grow (redrawn wr d) os) fun e w'' => e = .returned (.int .i64 r) ∧ ∃ p : Regrown, w'' = grow (redrawn wr p.d) p.os :=
  Calls.regrown_of (by subst hr; exact (cmpS_any a b _).mono fun _ _ ⟨he, hw⟩ => ⟨he, by subst hw; exact Below.refl _ _⟩)

set_option maxRecDepth 100000 in
set_option maxHeartbeats 1000000 in
theorem ascS_any (B : Nat) (v : Value) (n : Nat) (f : Nat → ByteArray) (w : World) (h : Lst B w v n 1 (cS f)) (hB : B ≤ w.heap.size) :
    Calls Try.prog 75 #[v, .func (.func 76) #[] #[]] w fun e w' => ∃ b, e = .returned (.bool b) ∧ (b = true ↔ ∀ i, 0 < i → i < n → ltB (f (i - 1)) (f i) = true) ∧ Below w.heap.size w w' := by
  obtain ⟨oa, cap, rfl, hn, hc⟩ := h
  unfold maxLen at hn
  have HC : Hid _ := hc
  clear hc
  go_enter Try.func75, Try.ntmps75
  go_wp2
  go_loopw [5] (fun i wr => ∃ k : Nat, i = .int .i64 ((k : Int) + 1) ∧ (k + 1 ≤ n ∨ k = 0) ∧ Hid (∀ i, 0 < i → i < k + 1 → ltB (f (i - 1)) (f i) = true) ∧ Hid (Below w.heap.size w wr)) (fun i _ => n - (intOf i).toNat)
  case atStart => exact ⟨0, rfl, Or.inr rfl, fun _ h1 h2 => by omega, Below.refl _ _⟩
  case round =>
    obtain ⟨k, rfl, hk, hall, hbel⟩ := hrel
    have hs := hbel.out.size
    by_cases hlt : k + 1 < n
    · clear hk
      obtain ⟨b, off, rfl, hbB, hcell⟩ := HC.out (k + 1) hlt
      obtain ⟨b', off', e', hbB', hcellm⟩ := HC.out k (by omega)
      cases e'
      have a0 : wr.cell? ⟨b, off + k, none⟩ = some (.string (f k)) := (hbel.out.cell (p := ⟨b, off + k, none⟩) (by show b < _; omega)).trans (by simpa [cS] using hcellm 0 (by omega))
      have qa0 := fun d os => cell_regrown a0 d os
      have c0 : wr.cell? ⟨b, off + (k + 1), none⟩ = some (.string (f (k + 1))) := (hbel.out.cell (p := ⟨b, off + (k + 1), none⟩) (by show b < _; omega)).trans (by simpa [cS] using hcell 0 (by omega))
      have qc0 := fun d os => cell_regrown c0 d os
      have hge : decide (0 ≤ cmpB (f k) (f (k + 1))) = !ltB (f k) (f (k + 1)) := cmpB_ge _ _
      cases hlb : ltB (f k) (f (k + 1))
      · rw [hlb, Bool.not_false] at hge
        go_wp2
        refine wp_region_quiet_below (by kernel_rfl) (by kernel_rfl) ?_
        repeat (first | go_big_quiet_step (with_reducible exact cmpSq _ _ _ _ rfl _ _) | quiet_step (with_reducible exact cmpSq _ _ _ _ rfl _ _))
        refine wpQuiet_nil ?_
        intro _ hw'
        obtain ⟨⟨dq, osq⟩, hw''⟩ := hw'
        subst hw''
        go_wp2
        go_ret
        exact ⟨false, rfl, ⟨(fun h => by cases h), fun h => by have := h (k + 1) (by omega) hlt; rw [Nat.add_sub_cancel, hlb] at this; cases this⟩, hbel.out.trans ((below_regrown _ dq osq).mono hs)⟩
      · rw [hlb, Bool.not_true] at hge
        go_wp2
        refine wp_region_quiet_below (by kernel_rfl) (by kernel_rfl) ?_
        repeat (first | go_big_quiet_step (with_reducible exact cmpSq _ _ _ _ rfl _ _) | quiet_step (with_reducible exact cmpSq _ _ _ _ rfl _ _))
        refine wpQuiet_nil ?_
        intro _ hw'
        obtain ⟨⟨dq, osq⟩, hw''⟩ := hw'
        subst hw''
        go_wp2
        go_roundw
        case rel => exact ⟨k + 1, by go_num, Or.inl (by omega), fun i h1 h2 => by
          by_cases e : i = k + 1
          · subst e; rw [Nat.add_sub_cancel]; exact hlb
          · exact hall.out i h1 (by omega), hbel.out.trans ((below_regrown _ dq osq).mono hs)⟩
        case measure => simp [intOf]; omega
    · go_wp2
      go_ret
      exact ⟨true, rfl, ⟨fun _ i h1 h2 => hall.out i h1 (by omega), fun _ => rfl⟩, hbel.out⟩

open Go.Sort in
theorem cmpPq (a s b u : ByteArray) (c e : Int) (wr : World) (r : Int) (hr : cmpB a b = r) (d : Nat) (os : Array Obj) : Calls Try.prog 81 #[.agg #[.string a, .int .i64 c, .string s], .agg #[.string b, .int .i64 e, .string u]] (grow (redrawn wr d) os) fun e w'' => e = .returned (.int .i64 r) ∧ ∃ p : Regrown, w'' = grow (redrawn wr p.d) p.os :=
  Calls.regrown_of (by subst hr; exact cmpP_any a s b u c e _)

set_option maxRecDepth 100000 in
set_option maxHeartbeats 1000000 in
theorem ascP_any (B : Nat) (v : Value) (n : Nat) (f : Nat → ByteArray × Int × ByteArray) (w : World) (h : Lst B w v n 3 (cP f)) (hB : B ≤ w.heap.size) :
    Calls Try.prog 80 #[v, .func (.func 81) #[] #[]] w fun e w' => ∃ b, e = .returned (.bool b) ∧ (b = true ↔ ∀ i, 0 < i → i < n → ltB (f (i - 1)).1 (f i).1 = true) ∧ Below w.heap.size w w' := by
  obtain ⟨oa, cap, rfl, hn, hc⟩ := h
  unfold maxLen at hn
  have HC : Hid _ := hc
  clear hc
  go_enter Try.func80, Try.ntmps80
  go_wp2
  go_loopw [5] (fun i wr => ∃ k : Nat, i = .int .i64 ((k : Int) + 1) ∧ (k + 1 ≤ n ∨ k = 0) ∧ Hid (∀ i, 0 < i → i < k + 1 → ltB (f (i - 1)).1 (f i).1 = true) ∧ Hid (Below w.heap.size w wr)) (fun i _ => n - (intOf i).toNat)
  case atStart => exact ⟨0, rfl, Or.inr rfl, fun _ h1 h2 => by omega, Below.refl _ _⟩
  case round =>
    obtain ⟨k, rfl, hk, hall, hbel⟩ := hrel
    have hs := hbel.out.size
    by_cases hlt : k + 1 < n
    · clear hk
      obtain ⟨b, off, rfl, hbB, hcell⟩ := HC.out (k + 1) hlt
      obtain ⟨b', off', e', hbB', hcellm⟩ := HC.out k (by omega)
      cases e'
      have a0 : wr.cell? ⟨b, off + k * 3, none⟩ = some (.string (f k).1) := (hbel.out.cell (p := ⟨b, off + k * 3, none⟩) (by show b < _; omega)).trans (by simpa [cP] using hcellm 0 (by omega))
      have qa0 := fun d os => cell_regrown a0 d os
      have a1 : wr.cell? ⟨b, off + k * 3 + 1, none⟩ = some (.int .i64 (f k).2.1) := (hbel.out.cell (p := ⟨b, off + k * 3 + 1, none⟩) (by show b < _; omega)).trans (by simpa [cP] using hcellm 1 (by omega))
      have qa1 := fun d os => cell_regrown a1 d os
      have a2 : wr.cell? ⟨b, off + k * 3 + 2, none⟩ = some (.string (f k).2.2) := (hbel.out.cell (p := ⟨b, off + k * 3 + 2, none⟩) (by show b < _; omega)).trans (by simpa [cP] using hcellm 2 (by omega))
      have qa2 := fun d os => cell_regrown a2 d os
      have c0 : wr.cell? ⟨b, off + (k + 1) * 3, none⟩ = some (.string (f (k + 1)).1) := (hbel.out.cell (p := ⟨b, off + (k + 1) * 3, none⟩) (by show b < _; omega)).trans (by simpa [cP] using hcell 0 (by omega))
      have qc0 := fun d os => cell_regrown c0 d os
      have c1 : wr.cell? ⟨b, off + (k + 1) * 3 + 1, none⟩ = some (.int .i64 (f (k + 1)).2.1) := (hbel.out.cell (p := ⟨b, off + (k + 1) * 3 + 1, none⟩) (by show b < _; omega)).trans (by simpa [cP] using hcell 1 (by omega))
      have qc1 := fun d os => cell_regrown c1 d os
      have c2 : wr.cell? ⟨b, off + (k + 1) * 3 + 2, none⟩ = some (.string (f (k + 1)).2.2) := (hbel.out.cell (p := ⟨b, off + (k + 1) * 3 + 2, none⟩) (by show b < _; omega)).trans (by simpa [cP] using hcell 2 (by omega))
      have qc2 := fun d os => cell_regrown c2 d os
      have hge : decide (0 ≤ cmpB (f (k)).1 (f (k + 1)).1) = !ltB (f (k)).1 (f (k + 1)).1 := cmpB_ge _ _
      cases hlb : ltB (f (k)).1 (f (k + 1)).1
      · rw [hlb, Bool.not_false] at hge
        go_wp2
        refine wp_region_quiet_below (by kernel_rfl) (by kernel_rfl) ?_
        repeat (first | go_big_quiet_step (with_reducible exact cmpPq _ _ _ _ _ _ _ _ rfl _ _) | quiet_step (with_reducible exact cmpPq _ _ _ _ _ _ _ _ rfl _ _))
        refine wpQuiet_nil ?_
        intro _ hw'
        obtain ⟨⟨dq, osq⟩, hw''⟩ := hw'
        subst hw''
        go_wp2
        go_ret
        exact ⟨false, rfl, ⟨(fun h => by cases h), fun h => by have := h (k + 1) (by omega) hlt; rw [Nat.add_sub_cancel, hlb] at this; cases this⟩, hbel.out.trans ((below_regrown _ dq osq).mono hs)⟩
      · rw [hlb, Bool.not_true] at hge
        go_wp2
        refine wp_region_quiet_below (by kernel_rfl) (by kernel_rfl) ?_
        repeat (first | go_big_quiet_step (with_reducible exact cmpPq _ _ _ _ _ _ _ _ rfl _ _) | quiet_step (with_reducible exact cmpPq _ _ _ _ _ _ _ _ rfl _ _))
        refine wpQuiet_nil ?_
        intro _ hw'
        obtain ⟨⟨dq, osq⟩, hw''⟩ := hw'
        subst hw''
        go_wp2
        go_roundw
        case rel => exact ⟨k + 1, by go_num, Or.inl (by omega), fun i h1 h2 => by
          by_cases e : i = k + 1
          · subst e; rw [Nat.add_sub_cancel]; exact hlb
          · exact hall.out i h1 (by omega), hbel.out.trans ((below_regrown _ dq osq).mono hs)⟩
        case measure => simp [intOf]; omega
    · go_wp2
      go_ret
      exact ⟨true, rfl, ⟨fun _ i h1 h2 => hall.out i h1 (by omega), fun _ => rfl⟩, hbel.out⟩

open Go.Sort in
theorem cmpVq (a a1 a2 a3 b b1 b2 b3 : ByteArray) (wr : World) (r : Int) (hr : cmpB a b = r) (d : Nat) (os : Array Obj) : Calls Try.prog 84 #[.agg #[.string a, .string a1, .string a2, .string a3], .agg #[.string b, .string b1, .string b2, .string b3]] (grow (redrawn wr d) os) fun e w'' => e = .returned (.int .i64 r) ∧ ∃ p : Regrown, w'' = grow (redrawn wr p.d) p.os :=
  Calls.regrown_of (by subst hr; exact cmpV_any a a1 a2 a3 b b1 b2 b3 _)

set_option maxRecDepth 100000 in
set_option maxHeartbeats 1000000 in
theorem ascV_any (B : Nat) (v : Value) (n : Nat) (f : Nat → ByteArray × ByteArray × ByteArray × ByteArray) (w : World) (h : Lst B w v n 4 (cV f)) (hB : B ≤ w.heap.size) :
    Calls Try.prog 83 #[v, .func (.func 84) #[] #[]] w fun e w' => ∃ b, e = .returned (.bool b) ∧ (b = true ↔ ∀ i, 0 < i → i < n → ltB (f (i - 1)).1 (f i).1 = true) ∧ Below w.heap.size w w' := by
  obtain ⟨oa, cap, rfl, hn, hc⟩ := h
  unfold maxLen at hn
  have HC : Hid _ := hc
  clear hc
  go_enter Try.func83, Try.ntmps83
  go_wp2
  go_loopw [5] (fun i wr => ∃ k : Nat, i = .int .i64 ((k : Int) + 1) ∧ (k + 1 ≤ n ∨ k = 0) ∧ Hid (∀ i, 0 < i → i < k + 1 → ltB (f (i - 1)).1 (f i).1 = true) ∧ Hid (Below w.heap.size w wr)) (fun i _ => n - (intOf i).toNat)
  case atStart => exact ⟨0, rfl, Or.inr rfl, fun _ h1 h2 => by omega, Below.refl _ _⟩
  case round =>
    obtain ⟨k, rfl, hk, hall, hbel⟩ := hrel
    have hs := hbel.out.size
    by_cases hlt : k + 1 < n
    · clear hk
      obtain ⟨b, off, rfl, hbB, hcell⟩ := HC.out (k + 1) hlt
      obtain ⟨b', off', e', hbB', hcellm⟩ := HC.out k (by omega)
      cases e'
      have a0 : wr.cell? ⟨b, off + k * 4, none⟩ = some (.string (f k).1) := (hbel.out.cell (p := ⟨b, off + k * 4, none⟩) (by show b < _; omega)).trans (by simpa [cV] using hcellm 0 (by omega))
      have qa0 := fun d os => cell_regrown a0 d os
      have a1 : wr.cell? ⟨b, off + k * 4 + 1, none⟩ = some (.string (f k).2.1) := (hbel.out.cell (p := ⟨b, off + k * 4 + 1, none⟩) (by show b < _; omega)).trans (by simpa [cV] using hcellm 1 (by omega))
      have qa1 := fun d os => cell_regrown a1 d os
      have a2 : wr.cell? ⟨b, off + k * 4 + 2, none⟩ = some (.string (f k).2.2.1) := (hbel.out.cell (p := ⟨b, off + k * 4 + 2, none⟩) (by show b < _; omega)).trans (by simpa [cV] using hcellm 2 (by omega))
      have qa2 := fun d os => cell_regrown a2 d os
      have a3 : wr.cell? ⟨b, off + k * 4 + 3, none⟩ = some (.string (f k).2.2.2) := (hbel.out.cell (p := ⟨b, off + k * 4 + 3, none⟩) (by show b < _; omega)).trans (by simpa [cV] using hcellm 3 (by omega))
      have qa3 := fun d os => cell_regrown a3 d os
      have c0 : wr.cell? ⟨b, off + (k + 1) * 4, none⟩ = some (.string (f (k + 1)).1) := (hbel.out.cell (p := ⟨b, off + (k + 1) * 4, none⟩) (by show b < _; omega)).trans (by simpa [cV] using hcell 0 (by omega))
      have qc0 := fun d os => cell_regrown c0 d os
      have c1 : wr.cell? ⟨b, off + (k + 1) * 4 + 1, none⟩ = some (.string (f (k + 1)).2.1) := (hbel.out.cell (p := ⟨b, off + (k + 1) * 4 + 1, none⟩) (by show b < _; omega)).trans (by simpa [cV] using hcell 1 (by omega))
      have qc1 := fun d os => cell_regrown c1 d os
      have c2 : wr.cell? ⟨b, off + (k + 1) * 4 + 2, none⟩ = some (.string (f (k + 1)).2.2.1) := (hbel.out.cell (p := ⟨b, off + (k + 1) * 4 + 2, none⟩) (by show b < _; omega)).trans (by simpa [cV] using hcell 2 (by omega))
      have qc2 := fun d os => cell_regrown c2 d os
      have c3 : wr.cell? ⟨b, off + (k + 1) * 4 + 3, none⟩ = some (.string (f (k + 1)).2.2.2) := (hbel.out.cell (p := ⟨b, off + (k + 1) * 4 + 3, none⟩) (by show b < _; omega)).trans (by simpa [cV] using hcell 3 (by omega))
      have qc3 := fun d os => cell_regrown c3 d os
      have hge : decide (0 ≤ cmpB (f (k)).1 (f (k + 1)).1) = !ltB (f (k)).1 (f (k + 1)).1 := cmpB_ge _ _
      cases hlb : ltB (f (k)).1 (f (k + 1)).1
      · rw [hlb, Bool.not_false] at hge
        go_wp2
        refine wp_region_quiet_below (by kernel_rfl) (by kernel_rfl) ?_
        repeat (first | go_big_quiet_step (with_reducible exact cmpVq _ _ _ _ _ _ _ _ _ _ rfl _ _) | quiet_step (with_reducible exact cmpVq _ _ _ _ _ _ _ _ _ _ rfl _ _))
        refine wpQuiet_nil ?_
        intro _ hw'
        obtain ⟨⟨dq, osq⟩, hw''⟩ := hw'
        subst hw''
        go_wp2
        go_ret
        exact ⟨false, rfl, ⟨(fun h => by cases h), fun h => by have := h (k + 1) (by omega) hlt; rw [Nat.add_sub_cancel, hlb] at this; cases this⟩, hbel.out.trans ((below_regrown _ dq osq).mono hs)⟩
      · rw [hlb, Bool.not_true] at hge
        go_wp2
        refine wp_region_quiet_below (by kernel_rfl) (by kernel_rfl) ?_
        repeat (first | go_big_quiet_step (with_reducible exact cmpVq _ _ _ _ _ _ _ _ _ _ rfl _ _) | quiet_step (with_reducible exact cmpVq _ _ _ _ _ _ _ _ _ _ rfl _ _))
        refine wpQuiet_nil ?_
        intro _ hw'
        obtain ⟨⟨dq, osq⟩, hw''⟩ := hw'
        subst hw''
        go_wp2
        go_roundw
        case rel => exact ⟨k + 1, by go_num, Or.inl (by omega), fun i h1 h2 => by
          by_cases e : i = k + 1
          · subst e; rw [Nat.add_sub_cancel]; exact hlb
          · exact hall.out i h1 (by omega), hbel.out.trans ((below_regrown _ dq osq).mono hs)⟩
        case measure => simp [intOf]; omega
    · go_wp2
      go_ret
      exact ⟨true, rfl, ⟨fun _ i h1 h2 => hall.out i h1 (by omega), fun _ => rfl⟩, hbel.out⟩

end Go.Proofs.Ytciembgenlcogac
