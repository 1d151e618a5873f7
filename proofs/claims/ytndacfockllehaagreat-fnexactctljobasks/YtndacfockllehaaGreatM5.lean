/-
  Several texts in one.
-/
import Derived.Test.YtndacfockllehaaGreatZb
import Derived.StillTail
import Derived.Deep.Quiet
import Derived.Lib.QuietBelow
import Derived.Test.YtndacfockllehaaGreatM3
/-
  Contracts of the program's test whether a list ascends, at each kind of list.
-/
namespace Go.Proofs.YtndacfockllehaaGreat
open Go.RowKit

open Go.Sort in
theorem cmpSq (a b : ByteArray) (wr : World) (r : Int) (hr : cmpB a b = r) (d : Nat) (os : Array Obj) : Calls Tryz.prog 100 #[.string a, .string b] (grow (redrawn wr d) os) fun e w'' => e = .returned (.int .i64 r) ∧ ∃ p : Regrown, w'' = grow (redrawn wr p.d) p.os :=
  Calls.regrown_of (by subst hr; exact (cmpS_any a b _).mono fun _ _ ⟨he, hw⟩ => ⟨he, by subst hw; exact Below.refl _ _⟩)

set_option maxRecDepth 100000 in
set_option maxHeartbeats 1000000 in
theorem ascS_any (B : Nat) (v : Value) (n : Nat) (f : Nat → ByteArray) (w : World) (h : Lst B w v n 1 (cS f)) (hB : B ≤ w.heap.size) :
    Calls Tryz.prog 111 #[v, .func (.func 100) #[] #[]] w fun e w' => ∃ b, e = .returned (.bool b) ∧ (b = true ↔ ∀ i, 0 < i → i < n → ltB (f (i - 1)) (f i) = true) ∧ Below w.heap.size w w' := by
  obtain ⟨oa, cap, rfl, hn, hc⟩ := h
  unfold maxLen at hn
  have HC : Hid _ := hc
  clear hc
  go_enter Tryz.func111, Tryz.ntmps111
  go_wp2
  go_loopw [5] (fun i wr => ∃ k : Nat, i = .int .i64 ((k : Int) + 1) ∧ (k + 1 ≤ n ∨ k = 0) ∧ Hid (∀ i, 0 < i → i < k + 1 → ltB (f (i - 1)) (f i) = true) ∧ Hid (Below w.heap.size w wr)) (fun i _ => n - (intOf i).toNat)
  case atStart => exact ⟨0, rfl, Or.inr rfl, fun _ h1 h2 => by omega, Below.refl _ _⟩
  case round =>
    obtain ⟨k, rfl, hk, hall, hbel⟩ := hrel
    have hs := hbel.out.size
    by_cases hlt : k + 1 < n
    · clear hk
      obtain ⟨b, off, rfl, hbB, hcell⟩ := HC.out (k + 1) hlt
      obtain ⟨b', off', e', hbB', hcellm⟩ := HC.out k (by omega)
      cases e'
      have a0 : wr.cell? ⟨b, off + k, none⟩ = some (.string (f k)) := (hbel.out.cell (p := ⟨b, off + k, none⟩) (by show b < _; omega)).trans (by simpa [cS] using hcellm 0 (by omega))
      have qa0 := fun d os => cell_regrown a0 d os
      have c0 : wr.cell? ⟨b, off + (k + 1), none⟩ = some (.string (f (k + 1))) := (hbel.out.cell (p := ⟨b, off + (k + 1), none⟩) (by show b < _; omega)).trans (by simpa [cS] using hcell 0 (by omega))
      have qc0 := fun d os => cell_regrown c0 d os
      have hge : decide (0 ≤ cmpB (f k) (f (k + 1))) = !ltB (f k) (f (k + 1)) := cmpB_ge _ _
      cases hlb : ltB (f k) (f (k + 1))
      · rw [hlb, Bool.not_false] at hge
        go_wp2
        refine wp_region_quiet_below (by kernel_rfl) (by kernel_rfl) ?_
        repeat (first | go_big_quiet_step (with_reducible exact cmpSq _ _ _ _ rfl _ _) | quiet_step (with_reducible exact cmpSq _ _ _ _ rfl _ _))
        refine wpQuiet_nil ?_
        intro _ hw'
        obtain ⟨⟨dq, osq⟩, hw''⟩ := hw'
        subst hw''
        go_wp2
        go_ret
        exact ⟨false, rfl, ⟨(fun h => by cases h), fun h => by have := h (k + 1) (by omega) hlt; rw [Nat.add_sub_cancel, hlb] at this; cases this⟩, hbel.out.trans ((below_regrown _ dq osq).mono hs)⟩
      · rw [hlb, Bool.not_true] at hge
        go_wp2
        refine wp_region_quiet_below (by kernel_rfl) (by kernel_rfl) ?_
        repeat (first | go_big_quiet_step (with_reducible exact cmpSq _ _ _ _ rfl _ _) | quiet_step (with_reducible exact cmpSq _ _ _ _ rfl _ _))
        refine wpQuiet_nil ?_
        intro _ hw'
        obtain ⟨⟨dq, osq⟩, hw''⟩ := hw'
        subst hw''
        go_wp2
        go_roundw
        case rel => exact ⟨k + 1, by go_num, Or.inl (by omega), fun i h1 h2 => by
          by_cases e : i = k + 1
          · subst e; rw [Nat.add_sub_cancel]; exact hlb
          · exact hall.out i h1 (by omega), hbel.out.trans ((below_regrown _ dq osq).mono hs)⟩
        case measure => simp [intOf]; omega
    · go_wp2
      go_ret
      exact ⟨true, rfl, ⟨fun _ i h1 h2 => hall.out i h1 (by omega), fun _ => rfl⟩, hbel.out⟩

open Go.Sort in
theorem cmpPq (a s b u : ByteArray) (c e : Int) (wr : World) (r : Int) (hr : cmpB a b = r) (d : Nat) (os : Array Obj) : Calls Tryz.prog 115 #[.agg #[.string a, .int .i64 c, .string s], .agg #[.string b, .int .i64 e, .string u]] (grow (redrawn wr d) os) fun e w'' => e = .returned (.int .i64 r) ∧ ∃ p : Regrown, w'' = grow (redrawn wr p.d) p.os :=
  Calls.regrown_of (by subst hr; exact cmpP_any a s b u c e _)

set_option maxRecDepth 100000 in
set_option maxHeartbeats 1000000 in
theorem ascP_any (B : Nat) (v : Value) (n : Nat) (f : Nat → ByteArray × Int × ByteArray) (w : World) (h : Lst B w v n 3 (cP f)) (hB : B ≤ w.heap.size) :
    Calls Tryz.prog 114 #[v, .func (.func 115) #[] #[]] w fun e w' => ∃ b, e = .returned (.bool b) ∧ (b = true ↔ ∀ i, 0 < i → i < n → ltB (f (i - 1)).1 (f i).1 = true) ∧ Below w.heap.size w w' := by
  obtain ⟨oa, cap, rfl, hn, hc⟩ := h
  unfold maxLen at hn
  have HC : Hid _ := hc
  clear hc
  go_enter Tryz.func114, Tryz.ntmps114
  go_wp2
  go_loopw [5] (fun i wr => ∃ k : Nat, i = .int .i64 ((k : Int) + 1) ∧ (k + 1 ≤ n ∨ k = 0) ∧ Hid (∀ i, 0 < i → i < k + 1 → ltB (f (i - 1)).1 (f i).1 = true) ∧ Hid (Below w.heap.size w wr)) (fun i _ => n - (intOf i).toNat)
  case atStart => exact ⟨0, rfl, Or.inr rfl, fun _ h1 h2 => by omega, Below.refl _ _⟩
  case round =>
    obtain ⟨k, rfl, hk, hall, hbel⟩ := hrel
    have hs := hbel.out.size
    by_cases hlt : k + 1 < n
    · clear hk
      obtain ⟨b, off, rfl, hbB, hcell⟩ := HC.out (k + 1) hlt
      obtain ⟨b', off', e', hbB', hcellm⟩ := HC.out k (by omega)
      cases e'
      have a0 : wr.cell? ⟨b, off + k * 3, none⟩ = some (.string (f k).1) := (hbel.out.cell (p := ⟨b, off + k * 3, none⟩) (by show b < _; omega)).trans (by simpa [cP] using hcellm 0 (by omega))
      have qa0 := fun d os => cell_regrown a0 d os
      have a1 : wr.cell? ⟨b, off + k * 3 + 1, none⟩ = some (.int .i64 (f k).2.1) := (hbel.out.cell (p := ⟨b, off + k * 3 + 1, none⟩) (by show b < _; omega)).trans (by simpa [cP] using hcellm 1 (by omega))
      have qa1 := fun d os => cell_regrown a1 d os
      have a2 : wr.cell? ⟨b, off + k * 3 + 2, none⟩ = some (.string (f k).2.2) := (hbel.out.cell (p := ⟨b, off + k * 3 + 2, none⟩) (by show b < _; omega)).trans (by simpa [cP] using hcellm 2 (by omega))
      have qa2 := fun d os => cell_regrown a2 d os
      have c0 : wr.cell? ⟨b, off + (k + 1) * 3, none⟩ = some (.string (f (k + 1)).1) := (hbel.out.cell (p := ⟨b, off + (k + 1) * 3, none⟩) (by show b < _; omega)).trans (by simpa [cP] using hcell 0 (by omega))
      have qc0 := fun d os => cell_regrown c0 d os
      have c1 : wr.cell? ⟨b, off + (k + 1) * 3 + 1, none⟩ = some (.int .i64 (f (k + 1)).2.1) := (hbel.out.cell (p := ⟨b, off + (k + 1) * 3 + 1, none⟩) (by show b < _; omega)).trans (by simpa [cP] using hcell 1 (by omega))
      have qc1 := fun d os => cell_regrown c1 d os
      have c2 : wr.cell? ⟨b, off + (k + 1) * 3 + 2, none⟩ = some (.string (f (k + 1)).2.2) := (hbel.out.cell (p := ⟨b, off + (k + 1) * 3 + 2, none⟩) (by show b < _; omega)).trans (by simpa [cP] using hcell 2 (by omega))
      have qc2 := fun d os => cell_regrown c2 d os
      have hge : decide (0 ≤ cmpB (f (k)).1 (f (k + 1)).1) = !ltB (f (k)).1 (f (k + 1)).1 := cmpB_ge _ _
      cases hlb : ltB (f (k)).1 (f (k + 1)).1
      · rw [hlb, Bool.not_false] at hge
        go_wp2
        refine wp_region_quiet_below (by kernel_rfl) (by kernel_rfl) ?_
        repeat (first | go_big_quiet_step (with_reducible exact cmpPq _ _ _ _ _ _ _ _ rfl _ _) | quiet_step (with_reducible exact cmpPq _ _ _ _ _ _ _ _ rfl _ _))
        refine wpQuiet_nil ?_
        intro _ hw'
        obtain ⟨⟨dq, osq⟩, hw''⟩ := hw'
        subst hw''
        go_wp2
        go_ret
        exact ⟨false, rfl, ⟨(fun h => by cases h), fun h => by have := h (k + 1) (by omega) hlt; rw [Nat.add_sub_cancel, hlb] at this; cases this⟩, hbel.out.trans ((below_regrown _ dq osq).mono hs)⟩
      · rw [hlb, Bool.not_true] at hge
        go_wp2
        refine wp_region_quiet_below (by kernel_rfl) (by kernel_rfl) ?_
        repeat (first | go_big_quiet_step (with_reducible exact cmpPq _ _ _ _ _ _ _ _ rfl _ _) | quiet_step (with_reducible exact cmpPq _ _ _ _ _ _ _ _ rfl _ _))
        refine wpQuiet_nil ?_
        intro _ hw'
        obtain ⟨⟨dq, osq⟩, hw''⟩ := hw'
        subst hw''
        go_wp2
        go_roundw
        case rel => exact ⟨k + 1, by go_num, Or.inl (by omega), fun i h1 h2 => by
          by_cases e : i = k + 1
          · subst e; rw [Nat.add_sub_cancel]; exact hlb
          · exact hall.out i h1 (by omega), hbel.out.trans ((below_regrown _ dq osq).mono hs)⟩
        case measure => simp [intOf]; omega
    · go_wp2
      go_ret
      exact ⟨true, rfl, ⟨fun _ i h1 h2 => hall.out i h1 (by omega), fun _ => rfl⟩, hbel.out⟩

open Go.Sort in
theorem cmpVq (a a1 a2 a3 b b1 b2 b3 : ByteArray) (wr : World) (r : Int) (hr : cmpB a b = r) (d : Nat) (os : Array Obj) : Calls Tryz.prog 117 #[.agg #[.string a, .string a1, .string a2, .string a3], .agg #[.string b, .string b1, .string b2, .string b3]] (grow (redrawn wr d) os) fun e w'' => e = .returned (.int .i64 r) ∧ ∃ p : Regrown, w'' = grow (redrawn wr p.d) p.os :=
  Calls.regrown_of (by subst hr; exact cmpV_any a a1 a2 a3 b b1 b2 b3 _)

set_option maxRecDepth 100000 in
set_option maxHeartbeats 1000000 in
theorem ascV_any (B : Nat) (v : Value) (n : Nat) (f : Nat → ByteArray × ByteArray × ByteArray × ByteArray) (w : World) (h : Lst B w v n 4 (cV f)) (hB : B ≤ w.heap.size) :
    Calls Tryz.prog 116 #[v, .func (.func 117) #[] #[]] w fun e w' => ∃ b, e = .returned (.bool b) ∧ (b = true ↔ ∀ i, 0 < i → i < n → ltB (f (i - 1)).1 (f i).1 = true) ∧ Below w.heap.size w w' := by
  obtain ⟨oa, cap, rfl, hn, hc⟩ := h
  unfold maxLen at hn
  have HC : Hid _ := hc
  clear hc
  go_enter Tryz.func116, Tryz.ntmps116
  go_wp2
  go_loopw [5] (fun i wr => ∃ k : Nat, i = .int .i64 ((k : Int) + 1) ∧ (k + 1 ≤ n ∨ k = 0) ∧ Hid (∀ i, 0 < i → i < k + 1 → ltB (f (i - 1)).1 (f i).1 = true) ∧ Hid (Below w.heap.size w wr)) (fun i _ => n - (intOf i).toNat)
  case atStart => exact ⟨0, rfl, Or.inr rfl, fun _ h1 h2 => by omega, Below.refl _ _⟩
  case round =>
    obtain ⟨k, rfl, hk, hall, hbel⟩ := hrel
    have hs := hbel.out.size
    by_cases hlt : k + 1 < n
    · clear hk
      obtain ⟨b, off, rfl, hbB, hcell⟩ := HC.out (k + 1) hlt
      obtain ⟨b', off', e', hbB', hcellm⟩ := HC.out k (by omega)
      cases e'
      have a0 : wr.cell? ⟨b, off + k * 4, none⟩ = some (.string (f k).1) := (hbel.out.cell (p := ⟨b, off + k * 4, none⟩) (by show b < _; omega)).trans (by simpa [cV] using hcellm 0 (by omega))
      have qa0 := fun d os => cell_regrown a0 d os
      have a1 : wr.cell? ⟨b, off + k * 4 + 1, none⟩ = some (.string (f k).2.1) := (hbel.out.cell (p := ⟨b, off + k * 4 + 1, none⟩) (by show b < _; omega)).trans (by simpa [cV] using hcellm 1 (by omega))
      have qa1 := fun d os => cell_regrown a1 d os
      have a2 : wr.cell? ⟨b, off + k * 4 + 2, none⟩ = some (.string (f k).2.2.1) := (hbel.out.cell (p := ⟨b, off + k * 4 + 2, none⟩) (by show b < _; omega)).trans (by simpa [cV] using hcellm 2 (by omega))
      have qa2 := fun d os => cell_regrown a2 d os
      have a3 : wr.cell? ⟨b, off + k * 4 + 3, none⟩ = some (.string (f k).2.2.2) := (hbel.out.cell (p := ⟨b, off + k * 4 + 3, none⟩) (by show b < _; omega)).trans (by simpa [cV] using hcellm 3 (by omega))
      have qa3 := fun d os => cell_regrown a3 d os
      have c0 : wr.cell? ⟨b, off + (k + 1) * 4, none⟩ = some (.string (f (k + 1)).1) := (hbel.out.cell (p := ⟨b, off + (k + 1) * 4, none⟩) (by show b < _; omega)).trans (by simpa [cV] using hcell 0 (by omega))
      have qc0 := fun d os => cell_regrown c0 d os
      have c1 : wr.cell? ⟨b, off + (k + 1) * 4 + 1, none⟩ = some (.string (f (k + 1)).2.1) := (hbel.out.cell (p := ⟨b, off + (k + 1) * 4 + 1, none⟩) (by show b < _; omega)).trans (by simpa [cV] using hcell 1 (by omega))
      have qc1 := fun d os => cell_regrown c1 d os
      have c2 : wr.cell? ⟨b, off + (k + 1) * 4 + 2, none⟩ = some (.string (f (k + 1)).2.2.1) := (hbel.out.cell (p := ⟨b, off + (k + 1) * 4 + 2, none⟩) (by show b < _; omega)).trans (by simpa [cV] using hcell 2 (by omega))
      have qc2 := fun d os => cell_regrown c2 d os
      have c3 : wr.cell? ⟨b, off + (k + 1) * 4 + 3, none⟩ = some (.string (f (k + 1)).2.2.2) := (hbel.out.cell (p := ⟨b, off + (k + 1) * 4 + 3, none⟩) (by show b < _; omega)).trans (by simpa [cV] using hcell 3 (by omega))
      have qc3 := fun d os => cell_regrown c3 d os
      have hge : decide (0 ≤ cmpB (f (k)).1 (f (k + 1)).1) = !ltB (f (k)).1 (f (k + 1)).1 := cmpB_ge _ _
      cases hlb : ltB (f (k)).1 (f (k + 1)).1
      · rw [hlb, Bool.not_false] at hge
        go_wp2
        refine wp_region_quiet_below (by kernel_rfl) (by kernel_rfl) ?_
        repeat (first | go_big_quiet_step (with_reducible exact cmpVq _ _ _ _ _ _ _ _ _ _ rfl _ _) | quiet_step (with_reducible exact cmpVq _ _ _ _ _ _ _ _ _ _ rfl _ _))
        refine wpQuiet_nil ?_
        intro _ hw'
        obtain ⟨⟨dq, osq⟩, hw''⟩ := hw'
        subst hw''
        go_wp2
        go_ret
        exact ⟨false, rfl, ⟨(fun h => by cases h), fun h => by have := h (k + 1) (by omega) hlt; rw [Nat.add_sub_cancel, hlb] at this; cases this⟩, hbel.out.trans ((below_regrown _ dq osq).mono hs)⟩
      · rw [hlb, Bool.not_true] at hge
        go_wp2
        refine wp_region_quiet_below (by kernel_rfl) (by kernel_rfl) ?_
        repeat (first | go_big_quiet_step (with_reducible exact cmpVq _ _ _ _ _ _ _ _ _ _ rfl _ _) | quiet_step (with_reducible exact cmpVq _ _ _ _ _ _ _ _ _ _ rfl _ _))
        refine wpQuiet_nil ?_
        intro _ hw'
        obtain ⟨⟨dq, osq⟩, hw''⟩ := hw'
        subst hw''
        go_wp2
        go_roundw
        case rel => exact ⟨k + 1, by go_num, Or.inl (by omega), fun i h1 h2 => by
          by_cases e : i = k + 1
          · subst e; rw [Nat.add_sub_cancel]; exact hlb
          · exact hall.out i h1 (by omega), hbel.out.trans ((below_regrown _ dq osq).mono hs)⟩
        case measure => simp [intOf]; omega
    · go_wp2
      go_ret
      exact ⟨true, rfl, ⟨fun _ i h1 h2 => hall.out i h1 (by omega), fun _ => rfl⟩, hbel.out⟩

end Go.Proofs.YtndacfockllehaaGreat

/-
  Contracts of the program's tests of stuffs, foes, places and valves.
-/
namespace Go.Proofs.YtndacfockllehaaGreat
open Go.RowKit

def stuffQ (f : Nat → ByteArray) (i : Nat) : Prop := nameB (f i) = true
def foeQ (n : Nat) (f : Nat → ByteArray) (g : Nat → ByteArray × ByteArray) (i : Nat) : Prop := ltB (g i).1 (g i).2 = true ∧ hasB n f (g i).1 = true ∧ hasB n f (g i).2 = true
def placeQ (f : Nat → ByteArray × Int × ByteArray) (i : Nat) : Prop := nameB (f i).1 = true ∧ decide ((f i).2.1 < 0) = false ∧ decide (1000 < (f i).2.1) = false ∧ nameB (f i).2.2 = true
def valveQ (n : Nat) (g : Nat → ByteArray × Int × ByteArray) (f : Nat → ByteArray × ByteArray × ByteArray × ByteArray) (i : Nat) : Prop :=
  nameB (f i).1 = true ∧ ltB (f i).2.1 (f i).2.2.1 = true ∧ decide (0 ≤ placeI n g (f i).2.1) = true ∧ decide (0 ≤ placeI n g (f i).2.2.1) = true ∧ nameB (f i).2.2.2 = true

theorem hasI_b (B : Nat) (v : Value) (n : Nat) (f : Nat → ByteArray) (x : ByteArray) (w : World) (h : Lst B w v n 1 (cS f)) : Calls Tryz.prog 83 #[v, .string x] w fun e w' => e = .returned (.bool (hasB n f x)) ∧ Below w.heap.size w w' :=
  (hasI_any B v n f x w h).mono fun _ _ ⟨he, hw⟩ => ⟨he, by subst hw; exact Below.refl _ _⟩

set_option maxRecDepth 100000 in
set_option maxHeartbeats 4000000 in
theorem stuffsI_any (B : Nat) (v0 v1 v2 v3 : Value) (nf : Nat) (ff : Nat → ByteArray) (w : World) (h1 : Lst B w v0 nf 1 (cS ff)) (hB : B ≤ w.heap.size) (hz : ∀ i, i < nf → (ff i).size ≤ maxLen ∧ True) :
    Calls Tryz.prog 79 #[.agg #[v0, v1, v2, v3]] w fun e w' => ∃ b, e = .returned (.bool b) ∧ (b = true ↔ nf ≤ 8 ∧ (∀ i, i < nf → stuffQ ff i) ∧ ∀ i, 0 < i → i < nf → ltB (ff (i - 1)) (ff i) = true) ∧ Below w.heap.size w w' := by
  have H1 : Hid (Lst B w v0 nf 1 (cS ff)) := h1
  obtain ⟨o1, cap1, rfl, hn1, hc1⟩ := h1
  unfold maxLen at hn1
  have HC1 : Hid _ := hc1
  have HZ : Hid _ := hz
  clear hc1 hz
  by_cases hl : nf ≤ 8
  · have d0 : decide ((8 : Int) < (nf : Int)) = false := by simp; omega
    go_enter Tryz.func79, Tryz.ntmps79
    go_wp2
    go_loopw [12] (fun i wr => ∃ q : Nat, q ≤ nf ∧ i = .int .i64 q ∧ Hid (∀ j, j < q → stuffQ ff j) ∧ Hid (Below (w.heap.size + 1) (w.alloc (.cells #[.slice o1 nf cap1, v1, v2, v3] 40)) wr)) (fun i _ => nf - (intOf i).toNat)
    case atStart => exact ⟨0, Nat.zero_le _, rfl, fun _ h => by omega, Below.refl _ _⟩
    case round =>
      obtain ⟨q, hq, rfl, hallf, hbel⟩ := hrel
      have b0 := box_in hbel.out 0 _ rfl
      have b1 := box_in hbel.out 1 _ rfl
      have b2 := box_in hbel.out 2 _ rfl
      have b3 := box_in hbel.out 3 _ rfl
      simp only [List.getElem_toArray, List.getElem_cons_zero, List.getElem_cons_succ] at b0 b1 b2 b3
      have hsz : w.heap.size + 1 ≤ wr.heap.size := by have := hbel.out.size; simpa using this
      by_cases hlq : q < nf
      · obtain ⟨b, off, rfl, hbB, hcell⟩ := HC1.out q hlq
        obtain ⟨hz1, _⟩ := HZ.out q hlq
        have e0 : wr.cell? ⟨b, off + q, none⟩ = some (.string (ff q)) := old_in hbel.out (by omega) (by simpa [cS] using hcell 0 (by omega))
        have hW := hbel
        have hsw : wr.heap.size ≤ wr.heap.size := Nat.le_refl _
        cases hnm : nameB (ff q)
        · go_wp2_with fail
          refine (nameI_any _ _ hz1).mono ?_; rintro e u' ⟨rfl, hb'⟩
          rw [hnm]
          have hW' : Hid (Below (w.heap.size + 1) _ u') := below_of hW.out hb'
          go_wp2_with fail
          go_ret
          exact ⟨false, rfl, ⟨(fun h => by cases h), fun h => absurd (h.2.1 q hlq) (by intro h; have h' : nameB (ff q) = true := h; rw [hnm] at h'; cases h')⟩, below_end hW'.out⟩
        · go_wp2_with fail
          refine (nameI_any _ _ hz1).mono ?_; rintro e u' ⟨rfl, hb'⟩
          rw [hnm]
          have hW' : Hid (Below (w.heap.size + 1) _ u') := below_of hW.out hb'
          have hsw' : wr.heap.size ≤ u'.heap.size := Nat.le_trans hsw hb'.size
          go_wp2_with fail
          go_roundw
          case rel => exact ⟨q + 1, by omega, by go_num, fun j hj => by
            by_cases e : j = q
            · subst e; exact hnm
            · exact hallf.out j (by omega), hW'⟩
          case measure => simp [intOf]; omega
      · have hqn : q = nf := by omega
        subst hqn
        have HL := H1.out.kept (below_end hbel.out) hB
        go_wp2_with fail
        refine (ascS_any B _ q ff _ HL (by omega)).mono ?_; rintro e u ⟨bb, rfl, hiff, hbu⟩
        go_wp2_with fail
        go_ret
        refine ⟨bb, rfl, ⟨fun h => ⟨hl, hallf.out, hiff.1 h⟩, fun h => hiff.2 h.2.2⟩, below_end (below_of hbel.out hbu)⟩
  · have d0 : decide ((8 : Int) < (nf : Int)) = true := by simp; omega
    go_enter Tryz.func79, Tryz.ntmps79
    go_wp2
    go_ret
    exact ⟨false, rfl, ⟨(fun h => by cases h), fun h => absurd h.1 hl⟩, (Below.refl _ _).alloc (Nat.le_refl _) _⟩

end Go.Proofs.YtndacfockllehaaGreat

/-
  A law on a region that draws its order: a head of operations that each yield one value in whatever world of a class (calls among them), in any order, and behind it a tail that waits for all of them: one walk serves every order. No program is named here.
-/
namespace Go.Proofs.YtndacfockllehaaGreat
open Go.Sort

section
variable {P : Program} {md : Region.Mode} {C : World → Prop}

/-- Of each operation ahead of n: it bears no guard, and waits only for earlier ones. -/
def downB (l : List Oper) (n : Nat) : Bool := (List.range n).all fun j => match l[j]? with
  | some o => o.guard.isNone && o.after.all fun e => decide (e.on < j)
  | none => false

theorem down_at {l : List Oper} {n j : Nat} (h : downB l n = true) (hj : j < n) : ∃ o, l[j]? = some o ∧ o.guard = none ∧ ∀ e ∈ o.after, e.on < j := by
  have h1 := List.all_eq_true.1 h j (List.mem_range.2 hj)
  cases ho : l[j]? with
  | none => rw [ho] at h1; cases h1
  | some o =>
    rw [ho] at h1
    simp only [Bool.and_eq_true, Option.isNone_iff_eq_none, Array.all_eq_true'] at h1
    exact ⟨o, rfl, h1.1, fun e he => by simpa using h1.2 e he⟩

theorem wanted_none {o : Oper} (h : o.guard = none) (ys : Nat → Option Bool) : Region.wanted o ys = true := by
  simp [Region.wanted, h]

/-- What is listed of the head, and nothing of the tail. -/
def padB (lh : Array Bool) (t : Nat) : Array Bool := lh ++ Array.replicate t false

theorem pad_lt {lh : Array Bool} {t i : Nat} (d : Bool) (h : i < lh.size) : (padB lh t).getD i d = lh.getD i d := by
  simp [padB, Array.getElem?_append_left h]
theorem pad_set {lh : Array Bool} {t i : Nat} (h : i < lh.size) : (padB lh t).setIfInBounds i true = padB (lh.setIfInBounds i true) t := by
  apply Array.ext'
  simp only [padB, Array.toList_setIfInBounds, Array.toList_append]
  exact List.set_append_left _ _ (by rw [Array.length_toList]; exact h)

theorem ready_head {l : List Oper} {n i : Nat} {lh : Array Bool} (hd : downB l n = true) (hs : lh.size = n) (hi : i < n) :
    i ∈ Region.ready md l.toArray (padB lh (l.length - n)) ↔ i ∈ Region.ready md (l.take n).toArray lh := by
  obtain ⟨o, ho, _, hdn⟩ := down_at hd hi
  rw [mem_ready, mem_ready, pad_lt true (by omega)]
  have e1 : l.toArray[i]? = some o := by simpa using ho
  have e2 : (l.take n).toArray[i]? = some o := by simp [hi, ho]
  refine and_congr Iff.rfl ⟨fun ⟨o', h1, h2⟩ => ?_, fun ⟨o', h1, h2⟩ => ?_⟩
  · obtain rfl := Option.some.inj (e1.symm.trans h1)
    exact ⟨o, e2, fun e he hb => by rw [← pad_lt (t := l.length - n) false (by have := hdn e he; omega)]; exact h2 e he hb⟩
  · obtain rfl := Option.some.inj (e2.symm.trans h1)
    exact ⟨o, e1, fun e he hb => by rw [pad_lt false (by have := hdn e he; omega)]; exact h2 e he hb⟩

/-- Where one of the head has not come up yet, one of the head may come up. -/
theorem ready_some {l : List Oper} {n : Nat} {lh : Array Bool} (hd : downB l n = true) (hs : lh.size = n) : ∀ (i : Nat), i < n → lh.getD i true = false → ∃ j, j < n ∧ j ∈ Region.ready md (l.take n).toArray lh := by
  intro i
  induction i using Nat.strongRecOn with
  | _ i ih =>
    intro hi hun
    obtain ⟨o, ho, _, hdn⟩ := down_at hd hi
    by_cases hr : i ∈ Region.ready md (l.take n).toArray lh
    · exact ⟨i, hi, hr⟩
    · have : ∃ e ∈ o.after, Region.binds md e = true ∧ lh.getD e.on false = false := by
        refine Classical.byContradiction fun hno => hr (mem_ready.2 ⟨hun, o, by simp [hi, ho], fun e he hb => ?_⟩)
        cases hx : lh.getD e.on false with
        | true => rfl
        | false => exact absurd ⟨e, he, hb, hx⟩ hno
      obtain ⟨e, he, _, hx⟩ := this
      have hlt := hdn e he
      exact ih e.on hlt (by omega) (getD_in (by omega) hx)

/-- How many of the head have not come up. -/
def leftN (lh : Array Bool) : Nat := (lh.toList.filter fun b => !b).length
theorem left_some {lh : Array Bool} (h : 0 < leftN lh) : ∃ i, i < lh.size ∧ lh.getD i true = false := by
  obtain ⟨b, hb⟩ := List.exists_mem_of_length_pos h
  obtain ⟨h1, h2⟩ := List.mem_filter.1 hb
  obtain ⟨i, hi, he⟩ := List.getElem_of_mem h1
  refine ⟨i, by simpa using hi, ?_⟩
  have : lh[i]? = some b := by rw [← Array.getElem?_toList, List.getElem?_eq_getElem hi, he]
  simp [Array.getD_eq_getD_getElem?, this]
  simpa using h2
theorem left_none {lh : Array Bool} (h : leftN lh = 0) : lh = Array.replicate lh.size true := by
  apply Array.ext'
  rw [Array.toList_replicate]
  refine List.eq_replicate_iff.2 ⟨by simp, fun b hb => ?_⟩
  cases b with
  | true => rfl
  | false =>
    have : false ∈ lh.toList.filter fun b => !b := List.mem_filter.2 ⟨hb, rfl⟩
    rw [List.eq_nil_of_length_eq_zero h] at this
    cases this
theorem left_list : ∀ (l : List Bool) (i : Nat), l[i]? = some false → ((l.set i true).filter fun b => !b).length + 1 = (l.filter fun b => !b).length
  | [], i, h => by simp at h
  | b :: l, 0, h => by
    simp at h; subst h; simp
  | b :: l, i + 1, h => by
    have := left_list l i (by simpa using h)
    cases b <;> simp_all
theorem left_set {lh : Array Bool} {i : Nat} (h : lh.getD i true = false) (hi : i < lh.size) : leftN (lh.setIfInBounds i true) + 1 = leftN lh := by
  unfold leftN
  rw [Array.toList_setIfInBounds]
  refine left_list lh.toList i ?_
  have : lh[i]? = some false := by
    rw [Array.getElem?_eq_getElem hi]
    have h2 := h
    rw [Array.getD_eq_getD_getElem?, Array.getElem?_eq_getElem hi] at h2
    simpa using h2
  simpa using this

theorem head_sim {l : List Oper} {n : Nat} {Q : Exit → Act → World → Prop} {Qh : Act → Prop} (hd : downB l n = true) (hn : n < l.length) (hs : Region.sinkB md l.toArray n = true) (hc : Region.chainB md l.toArray n = true)
    (hQ : ∀ a w, C w → Qh a → wpAny P md l.toArray Q (l.length - n) (padB (Array.replicate n true) (l.length - n)) a w) :
    ∀ (f : Nat) (lh : Array Bool) (a : Act) (w : World), lh.size = n → leftN lh = f → HeadInv md l.toArray n (padB lh (l.length - n)) → C w →
      wpAnyQ P md (l.take n).toArray C Qh f lh a → wpAny P md l.toArray Q (f + (l.length - n)) (padB lh (l.length - n)) a w := by
  intro f
  induction f with
  | zero =>
    intro lh a w hsz hl _ hw h
    rw [Nat.zero_add, left_none hl, hsz]
    exact hQ a w hw h.2
  | succ f ih =>
    intro lh a w hsz hl inv hw h
    obtain ⟨i0, hi0, hun0⟩ := left_some (lh := lh) (by omega)
    rw [show f + 1 + (l.length - n) = (f + (l.length - n)) + 1 by omega]
    refine ⟨fun h0 => ?_, fun i hi => ?_⟩
    · obtain ⟨j, hj, hr⟩ := ready_some (md := md) hd hsz i0 (by omega) hun0
      have := (ready_head hd hsz hj).2 hr
      rw [h0] at this
      cases this
    · have hin : i < n := by
        refine Nat.lt_of_not_le fun hle => ?_
        exact tail_waits hs hc (by simpa using hn) inv _ i0 rfl (by omega) (by rw [pad_lt true (by omega)]; exact hun0) i hle hi
      have hrh := (ready_head hd hsz hin).1 hi
      have hq := h.2 i hrh
      obtain ⟨o, ho, hg, _⟩ := down_at hd hin
      have e1 : l.toArray[i]? = some o := by simpa using ho
      have e2 : (l.take n).toArray[i]? = some o := by simp [hin, ho]
      have hun : lh.getD i true = false := (mem_ready.1 hrh).1
      unfold qOp at hq
      simp only [e2, wanted_none hg, if_true] at hq
      unfold wpOp
      simp only [e1, wanted_none hg, if_true]
      refine .inl (Oper.wp_of_quiet hw (fun a' w' hw' hk => ?_) hq)
      rw [pad_set (by omega)]
      refine ih (lh.setIfInBounds i true) a' w' (by simpa using hsz) (by have := left_set hun (by omega); omega) ?_ hw' hk
      rw [← pad_set (by omega)]
      exact inv.set hi hin

/-- All that is asked of the region's text. -/
def headTailB (l : List Oper) (n : Nat) : Bool :=
  downB l n && decide (n < l.length) && Region.sinkB .any l.toArray n && Region.chainB .any l.toArray n && Region.lexB .any (l.take n).toArray && Region.seqB .any l.toArray (l.length - n) n (padB (Array.replicate n true) (l.length - n))

theorem wp_region_head_tail {id : Nat} {Q : Exit → Act → World → Prop} {a : Act} {w : World} {l : List Oper} (n : Nat) (hm : P.follows .mixedOrders = true) (hB : headTailB l n = true)
    (h : wpQuiet P (l.take n).toArray (fun w' => ∃ p : Regrown, w' = grow (redrawn w p.d) p.os) (fun a' => ∀ w', (∃ p : Regrown, w' = grow (redrawn w p.d) p.os) → wpList P l.toArray Q (l.drop n) a' w') (l.take n) a) :
    (Code.region id l.toArray true).wp P Q a w := by
  simp only [headTailB, Bool.and_eq_true, decide_eq_true_eq] at hB
  obtain ⟨⟨⟨⟨⟨hd, hn⟩, hs⟩, hc⟩, hlex⟩, hseq⟩ := hB
  simp only [Region.lexB, Bool.and_eq_true] at hlex
  have htl : (l.take n).length = n := by simp; omega
  have hdl : (l.drop n).length = l.length - n := by simp
  refine wp_region_any hm ?_
  have H := wpAnyQ_lex (P := P) (C := fun w' => ∃ p : Regrown, w' = grow (redrawn w p.d) p.os) (md := .any) hlex.1 (l.take n) 0 (Array.replicate (l.take n).toArray.size false) a (by simp) (by simpa using hlex.2) h
  have inv0 : HeadInv .any l.toArray n (padB (Array.replicate n false) (l.length - n)) := by
    have e : padB (Array.replicate n false) (l.length - n) = Array.replicate l.toArray.size false := by
      apply Array.ext'
      simp only [padB, Array.toList_append, Array.toList_replicate, List.replicate_append_replicate, List.size_toArray]
      congr 1; omega
    rw [e]
    exact ⟨by simp, fun j oj _ hl => (by rw [getD_replicate_false] at hl; cases hl), fun t _ ht => getD_in (by simpa using ht) (getD_replicate_false _ _)⟩
  have hsz : (l.take n).toArray.size = n := by simp; omega
  rw [hsz, htl] at H
  have hl0 : leftN (Array.replicate n false) = n := by simp [leftN]
  have S := head_sim (P := P) (md := .any) (C := fun w' => ∃ p : Regrown, w' = grow (redrawn w p.d) p.os) (Q := Q) (Qh := fun a' => ∀ w', (∃ p : Regrown, w' = grow (redrawn w p.d) p.os) → wpList P l.toArray Q (l.drop n) a' w') hd hn hs hc
    (fun a' w' hw' hq => by
      have := wpAny_of_seq (P := P) (md := .any) (ops := l.toArray) (Q' := Q) (l.drop n) n (padB (Array.replicate n true) (l.length - n)) a' w' (fun j => by simp [List.getElem?_drop]) (by rw [hdl]; exact hseq) (hq w' hw')
      rwa [hdl] at this)
    n (Array.replicate n false) a { w with drawn := w.drawn + 1 } (by simp) hl0 inv0 ⟨⟨w.drawn + 1, #[]⟩, by rw [grow_empty]; rfl⟩ H
  have e0 : padB (Array.replicate n false) (l.length - n) = Array.replicate l.toArray.size false := by
    apply Array.ext'
    simp only [padB, Array.toList_append, Array.toList_replicate, List.replicate_append_replicate, List.size_toArray]
    congr 1; omega
  rw [e0, show n + (l.length - n) = l.toArray.size by simp; omega] at S
  exact S

end
end Go.Proofs.YtndacfockllehaaGreat

/-
  A contract of how the program compares two pairs of foes.
-/
namespace Go.Proofs.YtndacfockllehaaGreat
open Go.RowKit

open Go.Sort in
theorem cmpSr (a b : ByteArray) (wr : World) (r : Int) (hr : cmpB a b = r) (d : Nat) (os : Array Obj) : Calls Tryz.prog 100 #[.string a, .string b] (grow (redrawn wr d) os) fun e w'' => e = .returned (.int .i64 r) ∧ ∃ p : Regrown, w'' = grow (redrawn wr p.d) p.os :=
  Calls.regrown_of (by subst hr; exact (cmpS_any a b _).mono fun _ _ ⟨he, hw⟩ => ⟨he, by subst hw; exact Below.refl _ _⟩)

theorem or_new (u : World) (a1 a2 b1 b2 : ByteArray) :
    Calls Tryz.prog 135 #[.slice (some ⟨u.heap.size, 0, none⟩) 2 2] (u.alloc (.cells #[.int .i64 (cmpB a1 b1), .int .i64 (cmpB a2 b2)] 3)) fun e w' => e = .returned (.int .i64 (cmpF (a1, a2) (b1, b2))) ∧ w' = u.alloc (.cells #[.int .i64 (cmpB a1 b1), .int .i64 (cmpB a2 b2)] 3) :=
  or_any (cmpB a1 b1) (cmpB a2 b2) _ _ (new_cell u _ _ 0 _ rfl) (new_cell u _ _ 1 _ rfl)

open Go.Sort in
set_option maxRecDepth 100000 in
set_option maxHeartbeats 1000000 in
theorem cmpF_any (a1 a2 b1 b2 : ByteArray) (w : World) :
    Calls Tryz.prog 113 #[.agg #[.string a1, .string a2], .agg #[.string b1, .string b2]] w fun e w' => e = .returned (.int .i64 (cmpF (a1, a2) (b1, b2))) ∧ Below w.heap.size w w' := by
  obtain ⟨W, hW⟩ : ∃ W, W = (w.alloc (.cells #[.string a1, .string a2] 101)).alloc (.cells #[.string b1, .string b2] 101) := ⟨_, rfl⟩
  have hb : Hid (Below w.heap.size w W) := by rw [hW]; exact ((Below.refl _ _).alloc (Nat.le_refl _) _).alloc (by simp) _
  have hs : w.heap.size ≤ W.heap.size := hb.out.size
  have f0 : W.cell? ⟨w.heap.size, 0, none⟩ = some (.string a1) := by rw [hW]; simp
  have f1 : W.cell? ⟨w.heap.size, 1, none⟩ = some (.string a2) := by rw [hW]; simp
  have f2 : W.cell? ⟨w.heap.size + 1, 0, none⟩ = some (.string b1) := by rw [hW]; simp
  have f3 : W.cell? ⟨w.heap.size + 1, 1, none⟩ = some (.string b2) := by rw [hW]; simp
  have q0 := fun d os => cell_regrown f0 d os
  have q1 := fun d os => cell_regrown f1 d os
  have q2 := fun d os => cell_regrown f2 d os
  have q3 := fun d os => cell_regrown f3 d os
  go_enter Tryz.func113, Tryz.ntmps113
  go_wp2
  rw [← hW]
  clear hW
  refine wp_region_head_tail 10 (by kernel_rfl) (by kernel_rfl) ?_
  simp only [List.take_succ_cons, List.take_zero, List.drop_succ_cons, List.drop_zero]
  repeat (first | go_big_quiet_step (with_reducible exact cmpSr _ _ _ _ rfl _ _) | quiet_step (with_reducible exact cmpSr _ _ _ _ rfl _ _))
  refine wpQuiet_nil ?_
  intro _ hw'
  obtain ⟨⟨dq, osq⟩, hw''⟩ := hw'
  subst hw''
  have hb2 : Hid (Below w.heap.size w (grow (redrawn W dq) osq)) := hb.out.trans ((below_regrown _ dq osq).mono hs)
  have hs2 := hb2.out.size
  generalize grow (redrawn W dq) osq = u at hb2 hs2 ⊢
  go_wp2_with (go_at_call 135; refine (or_new _ a1 a2 b1 b2).mono ?_; rintro e w1 ⟨rfl, rfl⟩)
  go_ret
  exact ⟨rfl, hb2.out.alloc hs2 _⟩

end Go.Proofs.YtndacfockllehaaGreat

/-
  Contracts of the program's test whether a list ascends, at foes.
-/
namespace Go.Proofs.YtndacfockllehaaGreat
open Go.RowKit

open Go.Sort in
theorem cmpFq (a1 a2 b1 b2 : ByteArray) (wr : World) (r : Int) (hr : cmpF (a1, a2) (b1, b2) = r) (d : Nat) (os : Array Obj) : Calls Tryz.prog 113 #[.agg #[.string a1, .string a2], .agg #[.string b1, .string b2]] (grow (redrawn wr d) os) fun e w'' => e = .returned (.int .i64 r) ∧ ∃ p : Regrown, w'' = grow (redrawn wr p.d) p.os :=
  Calls.regrown_of (by subst hr; exact cmpF_any a1 a2 b1 b2 _)

set_option maxRecDepth 100000 in
set_option maxHeartbeats 1000000 in
theorem ascF_any (B : Nat) (v : Value) (n : Nat) (f : Nat → ByteArray × ByteArray) (w : World) (h : Lst B w v n 2 (cF f)) (hB : B ≤ w.heap.size) :
    Calls Tryz.prog 112 #[v, .func (.func 113) #[] #[]] w fun e w' => ∃ b, e = .returned (.bool b) ∧ (b = true ↔ ∀ i, 0 < i → i < n → befB ((f (i - 1)).1, (f (i - 1)).2) ((f i).1, (f i).2) = true) ∧ Below w.heap.size w w' := by
  obtain ⟨oa, cap, rfl, hn, hc⟩ := h
  unfold maxLen at hn
  have HC : Hid _ := hc
  clear hc
  go_enter Tryz.func112, Tryz.ntmps112
  go_wp2
  go_loopw [5] (fun i wr => ∃ k : Nat, i = .int .i64 ((k : Int) + 1) ∧ (k + 1 ≤ n ∨ k = 0) ∧ Hid (∀ i, 0 < i → i < k + 1 → befB ((f (i - 1)).1, (f (i - 1)).2) ((f i).1, (f i).2) = true) ∧ Hid (Below w.heap.size w wr)) (fun i _ => n - (intOf i).toNat)
  case atStart => exact ⟨0, rfl, Or.inr rfl, fun _ h1 h2 => by omega, Below.refl _ _⟩
  case round =>
    obtain ⟨k, rfl, hk, hall, hbel⟩ := hrel
    have hs := hbel.out.size
    by_cases hlt : k + 1 < n
    · clear hk
      obtain ⟨b, off, rfl, hbB, hcell⟩ := HC.out (k + 1) hlt
      obtain ⟨b', off', e', hbB', hcellm⟩ := HC.out k (by omega)
      cases e'
      have a0 : wr.cell? ⟨b, off + k * 2, none⟩ = some (.string (f k).1) := (hbel.out.cell (p := ⟨b, off + k * 2, none⟩) (by show b < _; omega)).trans (by simpa [cF] using hcellm 0 (by omega))
      have qa0 := fun d os => cell_regrown a0 d os
      have a1 : wr.cell? ⟨b, off + k * 2 + 1, none⟩ = some (.string (f k).2) := (hbel.out.cell (p := ⟨b, off + k * 2 + 1, none⟩) (by show b < _; omega)).trans (by simpa [cF] using hcellm 1 (by omega))
      have qa1 := fun d os => cell_regrown a1 d os
      have c0 : wr.cell? ⟨b, off + (k + 1) * 2, none⟩ = some (.string (f (k + 1)).1) := (hbel.out.cell (p := ⟨b, off + (k + 1) * 2, none⟩) (by show b < _; omega)).trans (by simpa [cF] using hcell 0 (by omega))
      have qc0 := fun d os => cell_regrown c0 d os
      have c1 : wr.cell? ⟨b, off + (k + 1) * 2 + 1, none⟩ = some (.string (f (k + 1)).2) := (hbel.out.cell (p := ⟨b, off + (k + 1) * 2 + 1, none⟩) (by show b < _; omega)).trans (by simpa [cF] using hcell 1 (by omega))
      have qc1 := fun d os => cell_regrown c1 d os
      have hge : decide (0 ≤ cmpF ((f (k)).1, (f (k)).2) ((f (k + 1)).1, (f (k + 1)).2)) = !befB ((f (k)).1, (f (k)).2) ((f (k + 1)).1, (f (k + 1)).2) := cmpF_ge _ _
      cases hlb : befB ((f (k)).1, (f (k)).2) ((f (k + 1)).1, (f (k + 1)).2)
      · rw [hlb, Bool.not_false] at hge
        go_wp2
        refine wp_region_quiet_below (by kernel_rfl) (by kernel_rfl) ?_
        repeat (first | go_big_quiet_step (with_reducible exact cmpFq _ _ _ _ _ _ rfl _ _) | quiet_step (with_reducible exact cmpFq _ _ _ _ _ _ rfl _ _))
        refine wpQuiet_nil ?_
        intro _ hw'
        obtain ⟨⟨dq, osq⟩, hw''⟩ := hw'
        subst hw''
        go_wp2
        go_ret
        exact ⟨false, rfl, ⟨(fun h => by cases h), fun h => by have := h (k + 1) (by omega) hlt; rw [Nat.add_sub_cancel, hlb] at this; cases this⟩, hbel.out.trans ((below_regrown _ dq osq).mono hs)⟩
      · rw [hlb, Bool.not_true] at hge
        go_wp2
        refine wp_region_quiet_below (by kernel_rfl) (by kernel_rfl) ?_
        repeat (first | go_big_quiet_step (with_reducible exact cmpFq _ _ _ _ _ _ rfl _ _) | quiet_step (with_reducible exact cmpFq _ _ _ _ _ _ rfl _ _))
        refine wpQuiet_nil ?_
        intro _ hw'
        obtain ⟨⟨dq, osq⟩, hw''⟩ := hw'
        subst hw''
        go_wp2
        go_roundw
        case rel => exact ⟨k + 1, by go_num, Or.inl (by omega), fun i h1 h2 => by
          by_cases e : i = k + 1
          · subst e; rw [Nat.add_sub_cancel]; exact hlb
          · exact hall.out i h1 (by omega), hbel.out.trans ((below_regrown _ dq osq).mono hs)⟩
        case measure => simp [intOf]; omega
    · go_wp2
      go_ret
      exact ⟨true, rfl, ⟨fun _ i h1 h2 => hall.out i h1 (by omega), fun _ => rfl⟩, hbel.out⟩

end Go.Proofs.YtndacfockllehaaGreat
