/-
  Several texts in one.
-/
import Derived.Test.YtgjcppdeljoimaaZb
import Derived.Test.YtgjcppdeljoimaaM27
import Derived.Test.YtgjcppdeljoimaaM1
namespace Go.Proofs.Ytgjcppdeljoimaa
open Go.RowKit
open Go.Sort in
theorem cmpSq (a b : ByteArray) (wr : World) (r : Int) (hr : cmpB a b = r) (d : Nat) (os : Array Obj) : Calls Try.prog 54 #[.string a, .string b] (grow (redrawn wr d) os) fun e w'' => e = .returned (.int .i64 r) ∧ ∃ p : Regrown, w'' = grow (redrawn wr p.d) p.os :=
  Calls.regrown_of (by subst hr; exact (cmpS_any a b _).mono fun _ _ ⟨he, hw⟩ => ⟨he, by subst hw; exact Below.refl _ _⟩)
set_option maxRecDepth 100000 in
set_option maxHeartbeats 1000000 in
theorem ascS_any (B : Nat) (v : Value) (n : Nat) (f : Nat → ByteArray) (w : World) (h : Lst B w v n 1 (cS f)) (hB : B ≤ w.heap.size) :
    Calls Try.prog 53 #[v, .func (.func 54) #[] #[]] w fun e w' => ∃ b, e = .returned (.bool b) ∧ (b = true ↔ ∀ i, 0 < i → i < n → ltB (f (i - 1)) (f i) = true) ∧ Below w.heap.size w w' := by
  obtain ⟨oa, cap, rfl, hn, hc⟩ := h
  unfold maxLen at hn
  have HC : Hid _ := hc
  clear hc
  go_enter Try.func53, Try.ntmps53
  go_wp2
  go_loopw [5] (fun i wr => ∃ k : Nat, i = .int .i64 ((k : Int) + 1) ∧ (k + 1 ≤ n ∨ k = 0) ∧ Hid (∀ i, 0 < i → i < k + 1 → ltB (f (i - 1)) (f i) = true) ∧ Hid (Below w.heap.size w wr)) (fun i _ => n - (intOf i).toNat)
  case atStart => exact ⟨0, rfl, Or.inr rfl, fun _ h1 h2 => by omega, Below.refl _ _⟩
  case round =>
    obtain ⟨k, rfl, hk, hall, hbel⟩ := hrel
    have hs := hbel.out.size
    by_cases hlt : k + 1 < n
    · clear hk
      obtain ⟨b, off, rfl, hbB, hcell⟩ := HC.out (k + 1) hlt
      obtain ⟨b', off', e', hbB', hcellm⟩ := HC.out k (by omega)
      cases e'
      have a0 : wr.cell? ⟨b, off + k, none⟩ = some (.string (f k)) := (hbel.out.cell (p := ⟨b, off + k, none⟩) (by show b < _; omega)).trans (by simpa [cS] using hcellm 0 (by omega))
      have qa0 := fun d os => cell_regrown a0 d os
      have c0 : wr.cell? ⟨b, off + (k + 1), none⟩ = some (.string (f (k + 1))) := (hbel.out.cell (p := ⟨b, off + (k + 1), none⟩) (by show b < _; omega)).trans (by simpa [cS] using hcell 0 (by omega))
      have qc0 := fun d os => cell_regrown c0 d os
      have hge : decide (0 ≤ cmpB (f k) (f (k + 1))) = !ltB (f k) (f (k + 1)) := cmpB_ge _ _
      cases hlb : ltB (f k) (f (k + 1))
      · rw [hlb, Bool.not_false] at hge
        go_wp2
        refine wp_region_quiet_below (by kernel_rfl) (by kernel_rfl) ?_
        repeat (first | go_big_quiet_step (with_reducible exact cmpSq _ _ _ _ rfl _ _) | quiet_step (with_reducible exact cmpSq _ _ _ _ rfl _ _))
        refine wpQuiet_nil ?_
        intro _ hw'
        obtain ⟨⟨dq, osq⟩, hw''⟩ := hw'
        subst hw''
        go_wp2
        go_ret
        exact ⟨false, rfl, ⟨(fun h => by cases h), fun h => by have := h (k + 1) (by omega) hlt; rw [Nat.add_sub_cancel, hlb] at this; cases this⟩, hbel.out.trans ((below_regrown _ dq osq).mono hs)⟩
      · rw [hlb, Bool.not_true] at hge
        go_wp2
        refine wp_region_quiet_below (by kernel_rfl) (by kernel_rfl) ?_
        repeat (first | go_big_quiet_step (with_reducible exact cmpSq _ _ _ _ rfl _ _) | quiet_step (with_reducible exact cmpSq _ _ _ _ rfl _ _))
        refine wpQuiet_nil ?_
        intro _ hw'
        obtain ⟨⟨dq, osq⟩, hw''⟩ := hw'
        subst hw''
        go_wp2
        go_roundw
        case rel => exact ⟨k + 1, by go_num, Or.inl (by omega), fun i h1 h2 => by
          by_cases e : i = k + 1
          · subst e; rw [Nat.add_sub_cancel]; exact hlb
          · exact hall.out i h1 (by omega), hbel.out.trans ((below_regrown _ dq osq).mono hs)⟩
        case measure => simp [intOf]; omega
    · go_wp2
      go_ret
      exact ⟨true, rfl, ⟨fun _ i h1 h2 => hall.out i h1 (by omega), fun _ => rfl⟩, hbel.out⟩
open Go.Sort in
theorem cmpPq (a s b u : ByteArray) (c e : Int) (wr : World) (r : Int) (hr : cmpB a b = r) (d : Nat) (os : Array Obj) : Calls Try.prog 59 #[.agg #[.string a, .int .i64 c, .string s], .agg #[.string b, .int .i64 e, .string u]] (grow (redrawn wr d) os) fun e w'' => e = .returned (.int .i64 r) ∧ ∃ p : Regrown, w'' = grow (redrawn wr p.d) p.os :=
  Calls.regrown_of (by subst hr; exact cmpP_any a s b u c e _)
set_option maxRecDepth 100000 in
set_option maxHeartbeats 1000000 in
theorem ascP_any (B : Nat) (v : Value) (n : Nat) (f : Nat → ByteArray × Int × ByteArray) (w : World) (h : Lst B w v n 3 (cP f)) (hB : B ≤ w.heap.size) :
    Calls Try.prog 58 #[v, .func (.func 59) #[] #[]] w fun e w' => ∃ b, e = .returned (.bool b) ∧ (b = true ↔ ∀ i, 0 < i → i < n → ltB (f (i - 1)).1 (f i).1 = true) ∧ Below w.heap.size w w' := by
  obtain ⟨oa, cap, rfl, hn, hc⟩ := h
  unfold maxLen at hn
  have HC : Hid _ := hc
  clear hc
  go_enter Try.func58, Try.ntmps58
  go_wp2
  go_loopw [5] (fun i wr => ∃ k : Nat, i = .int .i64 ((k : Int) + 1) ∧ (k + 1 ≤ n ∨ k = 0) ∧ Hid (∀ i, 0 < i → i < k + 1 → ltB (f (i - 1)).1 (f i).1 = true) ∧ Hid (Below w.heap.size w wr)) (fun i _ => n - (intOf i).toNat)
  case atStart => exact ⟨0, rfl, Or.inr rfl, fun _ h1 h2 => by omega, Below.refl _ _⟩
  case round =>
    obtain ⟨k, rfl, hk, hall, hbel⟩ := hrel
    have hs := hbel.out.size
    by_cases hlt : k + 1 < n
    · clear hk
      obtain ⟨b, off, rfl, hbB, hcell⟩ := HC.out (k + 1) hlt
      obtain ⟨b', off', e', hbB', hcellm⟩ := HC.out k (by omega)
      cases e'
      have a0 : wr.cell? ⟨b, off + k * 3, none⟩ = some (.string (f k).1) := (hbel.out.cell (p := ⟨b, off + k * 3, none⟩) (by show b < _; omega)).trans (by simpa [cP] using hcellm 0 (by omega))
      have qa0 := fun d os => cell_regrown a0 d os
      have a1 : wr.cell? ⟨b, off + k * 3 + 1, none⟩ = some (.int .i64 (f k).2.1) := (hbel.out.cell (p := ⟨b, off + k * 3 + 1, none⟩) (by show b < _; omega)).trans (by simpa [cP] using hcellm 1 (by omega))
      have qa1 := fun d os => cell_regrown a1 d os
      have a2 : wr.cell? ⟨b, off + k * 3 + 2, none⟩ = some (.string (f k).2.2) := (hbel.out.cell (p := ⟨b, off + k * 3 + 2, none⟩) (by show b < _; omega)).trans (by simpa [cP] using hcellm 2 (by omega))
      have qa2 := fun d os => cell_regrown a2 d os
      have c0 : wr.cell? ⟨b, off + (k + 1) * 3, none⟩ = some (.string (f (k + 1)).1) := (hbel.out.cell (p := ⟨b, off + (k + 1) * 3, none⟩) (by show b < _; omega)).trans (by simpa [cP] using hcell 0 (by omega))
      have qc0 := fun d os => cell_regrown c0 d os
      have c1 : wr.cell? ⟨b, off + (k + 1) * 3 + 1, none⟩ = some (.int .i64 (f (k + 1)).2.1) := (hbel.out.cell (p := ⟨b, off + (k + 1) * 3 + 1, none⟩) (by show b < _; omega)).trans (by simpa [cP] using hcell 1 (by omega))
      have qc1 := fun d os => cell_regrown c1 d os
      have c2 : wr.cell? ⟨b, off + (k + 1) * 3 + 2, none⟩ = some (.string (f (k + 1)).2.2) := (hbel.out.cell (p := ⟨b, off + (k + 1) * 3 + 2, none⟩) (by show b < _; omega)).trans (by simpa [cP] using hcell 2 (by omega))
      have qc2 := fun d os => cell_regrown c2 d os
      have hge : decide (0 ≤ cmpB (f (k)).1 (f (k + 1)).1) = !ltB (f (k)).1 (f (k + 1)).1 := cmpB_ge _ _
      cases hlb : ltB (f (k)).1 (f (k + 1)).1
      · rw [hlb, Bool.not_false] at hge
        go_wp2
        refine wp_region_quiet_below (by kernel_rfl) (by kernel_rfl) ?_
        repeat (first | go_big_quiet_step (with_reducible exact cmpPq _ _ _ _ _ _ _ _ rfl _ _) | quiet_step (with_reducible exact cmpPq _ _ _ _ _ _ _ _ rfl _ _))
        refine wpQuiet_nil ?_
        intro _ hw'
        obtain ⟨⟨dq, osq⟩, hw''⟩ := hw'
        subst hw''
        go_wp2
        go_ret
        exact ⟨false, rfl, ⟨(fun h => by cases h), fun h => by have := h (k + 1) (by omega) hlt; rw [Nat.add_sub_cancel, hlb] at this; cases this⟩, hbel.out.trans ((below_regrown _ dq osq).mono hs)⟩
      · rw [hlb, Bool.not_true] at hge
        go_wp2
        refine wp_region_quiet_below (by kernel_rfl) (by kernel_rfl) ?_
        repeat (first | go_big_quiet_step (with_reducible exact cmpPq _ _ _ _ _ _ _ _ rfl _ _) | quiet_step (with_reducible exact cmpPq _ _ _ _ _ _ _ _ rfl _ _))
        refine wpQuiet_nil ?_
        intro _ hw'
        obtain ⟨⟨dq, osq⟩, hw''⟩ := hw'
        subst hw''
        go_wp2
        go_roundw
        case rel => exact ⟨k + 1, by go_num, Or.inl (by omega), fun i h1 h2 => by
          by_cases e : i = k + 1
          · subst e; rw [Nat.add_sub_cancel]; exact hlb
          · exact hall.out i h1 (by omega), hbel.out.trans ((below_regrown _ dq osq).mono hs)⟩
        case measure => simp [intOf]; omega
    · go_wp2
      go_ret
      exact ⟨true, rfl, ⟨fun _ i h1 h2 => hall.out i h1 (by omega), fun _ => rfl⟩, hbel.out⟩
open Go.Sort in
theorem cmpVq (a a1 a2 a3 b b1 b2 b3 : ByteArray) (wr : World) (r : Int) (hr : cmpB a b = r) (d : Nat) (os : Array Obj) : Calls Try.prog 62 #[.agg #[.string a, .string a1, .string a2, .string a3], .agg #[.string b, .string b1, .string b2, .string b3]] (grow (redrawn wr d) os) fun e w'' => e = .returned (.int .i64 r) ∧ ∃ p : Regrown, w'' = grow (redrawn wr p.d) p.os :=
  Calls.regrown_of (by subst hr; exact cmpV_any a a1 a2 a3 b b1 b2 b3 _)
set_option maxRecDepth 100000 in
set_option maxHeartbeats 1000000 in
theorem ascV_any (B : Nat) (v : Value) (n : Nat) (f : Nat → ByteArray × ByteArray × ByteArray × ByteArray) (w : World) (h : Lst B w v n 4 (cV f)) (hB : B ≤ w.heap.size) :
    Calls Try.prog 61 #[v, .func (.func 62) #[] #[]] w fun e w' => ∃ b, e = .returned (.bool b) ∧ (b = true ↔ ∀ i, 0 < i → i < n → ltB (f (i - 1)).1 (f i).1 = true) ∧ Below w.heap.size w w' := by
  obtain ⟨oa, cap, rfl, hn, hc⟩ := h
  unfold maxLen at hn
  have HC : Hid _ := hc
  clear hc
  go_enter Try.func61, Try.ntmps61
  go_wp2
  go_loopw [5] (fun i wr => ∃ k : Nat, i = .int .i64 ((k : Int) + 1) ∧ (k + 1 ≤ n ∨ k = 0) ∧ Hid (∀ i, 0 < i → i < k + 1 → ltB (f (i - 1)).1 (f i).1 = true) ∧ Hid (Below w.heap.size w wr)) (fun i _ => n - (intOf i).toNat)
  case atStart => exact ⟨0, rfl, Or.inr rfl, fun _ h1 h2 => by omega, Below.refl _ _⟩
  case round =>
    obtain ⟨k, rfl, hk, hall, hbel⟩ := hrel
    have hs := hbel.out.size
    by_cases hlt : k + 1 < n
    · clear hk
      obtain ⟨b, off, rfl, hbB, hcell⟩ := HC.out (k + 1) hlt
      obtain ⟨b', off', e', hbB', hcellm⟩ := HC.out k (by omega)
      cases e'
      have a0 : wr.cell? ⟨b, off + k * 4, none⟩ = some (.string (f k).1) := (hbel.out.cell (p := ⟨b, off + k * 4, none⟩) (by show b < _; omega)).trans (by simpa [cV] using hcellm 0 (by omega))
      have qa0 := fun d os => cell_regrown a0 d os
      have a1 : wr.cell? ⟨b, off + k * 4 + 1, none⟩ = some (.string (f k).2.1) := (hbel.out.cell (p := ⟨b, off + k * 4 + 1, none⟩) (by show b < _; omega)).trans (by simpa [cV] using hcellm 1 (by omega))
      have qa1 := fun d os => cell_regrown a1 d os
      have a2 : wr.cell? ⟨b, off + k * 4 + 2, none⟩ = some (.string (f k).2.2.1) := (hbel.out.cell (p := ⟨b, off + k * 4 + 2, none⟩) (by show b < _; omega)).trans (by simpa [cV] using hcellm 2 (by omega))
      have qa2 := fun d os => cell_regrown a2 d os
      have a3 : wr.cell? ⟨b, off + k * 4 + 3, none⟩ = some (.string (f k).2.2.2) := (hbel.out.cell (p := ⟨b, off + k * 4 + 3, none⟩) (by show b < _; omega)).trans (by simpa [cV] using hcellm 3 (by omega))
      have qa3 := fun d os => cell_regrown a3 d os
      have c0 : wr.cell? ⟨b, off + (k + 1) * 4, none⟩ = some (.string (f (k + 1)).1) := (hbel.out.cell (p := ⟨b, off + (k + 1) * 4, none⟩) (by show b < _; omega)).trans (by simpa [cV] using hcell 0 (by omega))
      have qc0 := fun d os => cell_regrown c0 d os
      have c1 : wr.cell? ⟨b, off + (k + 1) * 4 + 1, none⟩ = some (.string (f (k + 1)).2.1) := (hbel.out.cell (p := ⟨b, off + (k + 1) * 4 + 1, none⟩) (by show b < _; omega)).trans (by simpa [cV] using hcell 1 (by omega))
      have qc1 := fun d os => cell_regrown c1 d os
      have c2 : wr.cell? ⟨b, off + (k + 1) * 4 + 2, none⟩ = some (.string (f (k + 1)).2.2.1) := (hbel.out.cell (p := ⟨b, off + (k + 1) * 4 + 2, none⟩) (by show b < _; omega)).trans (by simpa [cV] using hcell 2 (by omega))
      have qc2 := fun d os => cell_regrown c2 d os
      have c3 : wr.cell? ⟨b, off + (k + 1) * 4 + 3, none⟩ = some (.string (f (k + 1)).2.2.2) := (hbel.out.cell (p := ⟨b, off + (k + 1) * 4 + 3, none⟩) (by show b < _; omega)).trans (by simpa [cV] using hcell 3 (by omega))
      have qc3 := fun d os => cell_regrown c3 d os
      have hge : decide (0 ≤ cmpB (f (k)).1 (f (k + 1)).1) = !ltB (f (k)).1 (f (k + 1)).1 := cmpB_ge _ _
      cases hlb : ltB (f (k)).1 (f (k + 1)).1
      · rw [hlb, Bool.not_false] at hge
        go_wp2
        refine wp_region_quiet_below (by kernel_rfl) (by kernel_rfl) ?_
        repeat (first | go_big_quiet_step (with_reducible exact cmpVq _ _ _ _ _ _ _ _ _ _ rfl _ _) | quiet_step (with_reducible exact cmpVq _ _ _ _ _ _ _ _ _ _ rfl _ _))
        refine wpQuiet_nil ?_
        intro _ hw'
        obtain ⟨⟨dq, osq⟩, hw''⟩ := hw'
        subst hw''
        go_wp2
        go_ret
        exact ⟨false, rfl, ⟨(fun h => by cases h), fun h => by have := h (k + 1) (by omega) hlt; rw [Nat.add_sub_cancel, hlb] at this; cases this⟩, hbel.out.trans ((below_regrown _ dq osq).mono hs)⟩
      · rw [hlb, Bool.not_true] at hge
        go_wp2
        refine wp_region_quiet_below (by kernel_rfl) (by kernel_rfl) ?_
        repeat (first | go_big_quiet_step (with_reducible exact cmpVq _ _ _ _ _ _ _ _ _ _ rfl _ _) | quiet_step (with_reducible exact cmpVq _ _ _ _ _ _ _ _ _ _ rfl _ _))
        refine wpQuiet_nil ?_
        intro _ hw'
        obtain ⟨⟨dq, osq⟩, hw''⟩ := hw'
        subst hw''
        go_wp2
        go_roundw
        case rel => exact ⟨k + 1, by go_num, Or.inl (by omega), fun i h1 h2 => by
          by_cases e : i = k + 1
          · subst e; rw [Nat.add_sub_cancel]; exact hlb
          · exact hall.out i h1 (by omega), hbel.out.trans ((below_regrown _ dq osq).mono hs)⟩
        case measure => simp [intOf]; omega
    · go_wp2
      go_ret
      exact ⟨true, rfl, ⟨fun _ i h1 h2 => hall.out i h1 (by omega), fun _ => rfl⟩, hbel.out⟩
end Go.Proofs.Ytgjcppdeljoimaa

namespace Go.Proofs.Ytgjcppdeljoimaa
open Go.RowKit
def stuffQ (f : Nat → ByteArray) (i : Nat) : Prop := nameB (f i) = true
def foeQ (n : Nat) (f : Nat → ByteArray) (g : Nat → ByteArray × ByteArray) (i : Nat) : Prop := ltB (g i).1 (g i).2 = true ∧ hasB n f (g i).1 = true ∧ hasB n f (g i).2 = true
def placeQ (f : Nat → ByteArray × Int × ByteArray) (i : Nat) : Prop := nameB (f i).1 = true ∧ decide ((f i).2.1 < 0) = false ∧ decide (1000 < (f i).2.1) = false ∧ nameB (f i).2.2 = true
def valveQ (n : Nat) (g : Nat → ByteArray × Int × ByteArray) (f : Nat → ByteArray × ByteArray × ByteArray × ByteArray) (i : Nat) : Prop :=
  nameB (f i).1 = true ∧ ltB (f i).2.1 (f i).2.2.1 = true ∧ decide (0 ≤ placeI n g (f i).2.1) = true ∧ decide (0 ≤ placeI n g (f i).2.2.1) = true ∧ nameB (f i).2.2.2 = true
theorem hasI_b (B : Nat) (v : Value) (n : Nat) (f : Nat → ByteArray) (x : ByteArray) (w : World) (h : Lst B w v n 1 (cS f)) : Calls Try.prog 55 #[v, .string x] w fun e w' => e = .returned (.bool (hasB n f x)) ∧ Below w.heap.size w w' :=
  (hasI_any B v n f x w h).mono fun _ _ ⟨he, hw⟩ => ⟨he, by subst hw; exact Below.refl _ _⟩
set_option maxRecDepth 100000 in
set_option maxHeartbeats 4000000 in
theorem stuffsI_any (B : Nat) (v0 v1 v2 v3 : Value) (nf : Nat) (ff : Nat → ByteArray) (w : World) (h1 : Lst B w v0 nf 1 (cS ff)) (hB : B ≤ w.heap.size) (hz : ∀ i, i < nf → (ff i).size ≤ maxLen ∧ True) :
    Calls Try.prog 30 #[.agg #[v0, v1, v2, v3]] w fun e w' => ∃ b, e = .returned (.bool b) ∧ (b = true ↔ nf ≤ 8 ∧ (∀ i, i < nf → stuffQ ff i) ∧ ∀ i, 0 < i → i < nf → ltB (ff (i - 1)) (ff i) = true) ∧ Below w.heap.size w w' := by
  have H1 : Hid (Lst B w v0 nf 1 (cS ff)) := h1
  obtain ⟨o1, cap1, rfl, hn1, hc1⟩ := h1
  unfold maxLen at hn1
  have HC1 : Hid _ := hc1
  have HZ : Hid _ := hz
  clear hc1 hz
  by_cases hl : nf ≤ 8
  · have d0 : decide ((8 : Int) < (nf : Int)) = false := by simp; omega
    go_enter Try.func30, Try.ntmps30
    go_wp2
    go_loopw [12] (fun i wr => ∃ q : Nat, q ≤ nf ∧ i = .int .i64 q ∧ Hid (∀ j, j < q → stuffQ ff j) ∧ Hid (Below (w.heap.size + 1) (w.alloc (.cells #[.slice o1 nf cap1, v1, v2, v3] 28)) wr)) (fun i _ => nf - (intOf i).toNat)
    case atStart => exact ⟨0, Nat.zero_le _, rfl, fun _ h => by omega, Below.refl _ _⟩
    case round =>
      obtain ⟨q, hq, rfl, hallf, hbel⟩ := hrel
      have b0 := box_in hbel.out 0 _ rfl
      have b1 := box_in hbel.out 1 _ rfl
      have b2 := box_in hbel.out 2 _ rfl
      have b3 := box_in hbel.out 3 _ rfl
      simp only [List.getElem_toArray, List.getElem_cons_zero, List.getElem_cons_succ] at b0 b1 b2 b3
      have hsz : w.heap.size + 1 ≤ wr.heap.size := by have := hbel.out.size; simpa using this
      by_cases hlq : q < nf
      · obtain ⟨b, off, rfl, hbB, hcell⟩ := HC1.out q hlq
        obtain ⟨hz1, _⟩ := HZ.out q hlq
        have e0 : wr.cell? ⟨b, off + q, none⟩ = some (.string (ff q)) := old_in hbel.out (by omega) (by simpa [cS] using hcell 0 (by omega))
        have hW := hbel
        have hsw : wr.heap.size ≤ wr.heap.size := Nat.le_refl _
        cases hnm : nameB (ff q)
        · go_wp2_with fail
          refine (nameI_any _ _ hz1).mono ?_; rintro e u' ⟨rfl, hb'⟩
          rw [hnm]
          have hW' : Hid (Below (w.heap.size + 1) _ u') := below_of hW.out hb'
          go_wp2_with fail
          go_ret
          exact ⟨false, rfl, ⟨(fun h => by cases h), fun h => absurd (h.2.1 q hlq) (by intro h; have h' : nameB (ff q) = true := h; rw [hnm] at h'; cases h')⟩, below_end hW'.out⟩
        · go_wp2_with fail
          refine (nameI_any _ _ hz1).mono ?_; rintro e u' ⟨rfl, hb'⟩
          rw [hnm]
          have hW' : Hid (Below (w.heap.size + 1) _ u') := below_of hW.out hb'
          have hsw' : wr.heap.size ≤ u'.heap.size := Nat.le_trans hsw hb'.size
          go_wp2_with fail
          go_roundw
          case rel => exact ⟨q + 1, by omega, by go_num, fun j hj => by
            by_cases e : j = q
            · subst e; exact hnm
            · exact hallf.out j (by omega), hW'⟩
          case measure => simp [intOf]; omega
      · have hqn : q = nf := by omega
        subst hqn
        have HL := H1.out.kept (below_end hbel.out) hB
        go_wp2_with fail
        refine (ascS_any B _ q ff _ HL (by omega)).mono ?_; rintro e u ⟨bb, rfl, hiff, hbu⟩
        go_wp2_with fail
        go_ret
        refine ⟨bb, rfl, ⟨fun h => ⟨hl, hallf.out, hiff.1 h⟩, fun h => hiff.2 h.2.2⟩, below_end (below_of hbel.out hbu)⟩
  · have d0 : decide ((8 : Int) < (nf : Int)) = true := by simp; omega
    go_enter Try.func30, Try.ntmps30
    go_wp2
    go_ret
    exact ⟨false, rfl, ⟨(fun h => by cases h), fun h => absurd h.1 hl⟩, (Below.refl _ _).alloc (Nat.le_refl _) _⟩
end Go.Proofs.Ytgjcppdeljoimaa

namespace Go.Proofs.Ytgjcppdeljoimaa
open Go.RowKit
open Go.Sort in
theorem cmpSr (a b : ByteArray) (wr : World) (r : Int) (hr : cmpB a b = r) (d : Nat) (os : Array Obj) : Calls Try.prog 54 #[.string a, .string b] (grow (redrawn wr d) os) fun e w'' => e = .returned (.int .i64 r) ∧ ∃ p : Regrown, w'' = grow (redrawn wr p.d) p.os :=
  Calls.regrown_of (by subst hr; exact (cmpS_any a b _).mono fun _ _ ⟨he, hw⟩ => ⟨he, by subst hw; exact Below.refl _ _⟩)
theorem or_new (u : World) (a1 a2 b1 b2 : ByteArray) :
    Calls Try.prog 74 #[.slice (some ⟨u.heap.size, 0, none⟩) 2 2] (u.alloc (.cells #[.int .i64 (cmpB a1 b1), .int .i64 (cmpB a2 b2)] 3)) fun e w' => e = .returned (.int .i64 (cmpF (a1, a2) (b1, b2))) ∧ w' = u.alloc (.cells #[.int .i64 (cmpB a1 b1), .int .i64 (cmpB a2 b2)] 3) :=
  or_any (cmpB a1 b1) (cmpB a2 b2) _ _ (new_cell u _ _ 0 _ rfl) (new_cell u _ _ 1 _ rfl)
open Go.Sort in
set_option maxRecDepth 100000 in
set_option maxHeartbeats 1000000 in
theorem cmpF_any (a1 a2 b1 b2 : ByteArray) (w : World) :
    Calls Try.prog 57 #[.agg #[.string a1, .string a2], .agg #[.string b1, .string b2]] w fun e w' => e = .returned (.int .i64 (cmpF (a1, a2) (b1, b2))) ∧ Below w.heap.size w w' := by
  obtain ⟨W, hW⟩ : ∃ W, W = (w.alloc (.cells #[.string a1, .string a2] 81)).alloc (.cells #[.string b1, .string b2] 81) := ⟨_, rfl⟩
  have hb : Hid (Below w.heap.size w W) := by rw [hW]; exact ((Below.refl _ _).alloc (Nat.le_refl _) _).alloc (by simp) _
  have hs : w.heap.size ≤ W.heap.size := hb.out.size
  have f0 : W.cell? ⟨w.heap.size, 0, none⟩ = some (.string a1) := by rw [hW]; simp
  have f1 : W.cell? ⟨w.heap.size, 1, none⟩ = some (.string a2) := by rw [hW]; simp
  have f2 : W.cell? ⟨w.heap.size + 1, 0, none⟩ = some (.string b1) := by rw [hW]; simp
  have f3 : W.cell? ⟨w.heap.size + 1, 1, none⟩ = some (.string b2) := by rw [hW]; simp
  have q0 := fun d os => cell_regrown f0 d os
  have q1 := fun d os => cell_regrown f1 d os
  have q2 := fun d os => cell_regrown f2 d os
  have q3 := fun d os => cell_regrown f3 d os
  go_enter Try.func57, Try.ntmps57
  go_wp2
  rw [← hW]
  clear hW
  refine wp_region_head_tail 10 (by kernel_rfl) (by kernel_rfl) ?_
  simp only [List.take_succ_cons, List.take_zero, List.drop_succ_cons, List.drop_zero]
  repeat (first | go_big_quiet_step (with_reducible exact cmpSr _ _ _ _ rfl _ _) | quiet_step (with_reducible exact cmpSr _ _ _ _ rfl _ _))
  refine wpQuiet_nil ?_
  intro _ hw'
  obtain ⟨⟨dq, osq⟩, hw''⟩ := hw'
  subst hw''
  have hb2 : Hid (Below w.heap.size w (grow (redrawn W dq) osq)) := hb.out.trans ((below_regrown _ dq osq).mono hs)
  have hs2 := hb2.out.size
  generalize grow (redrawn W dq) osq = u at hb2 hs2 ⊢
  go_wp2_with (go_at_call 74; refine (or_new _ a1 a2 b1 b2).mono ?_; rintro e w1 ⟨rfl, rfl⟩)
  go_ret
  exact ⟨rfl, hb2.out.alloc hs2 _⟩
end Go.Proofs.Ytgjcppdeljoimaa

namespace Go.Proofs.Ytgjcppdeljoimaa
open Go.RowKit
open Go.Sort in
theorem cmpFq (a1 a2 b1 b2 : ByteArray) (wr : World) (r : Int) (hr : cmpF (a1, a2) (b1, b2) = r) (d : Nat) (os : Array Obj) : Calls Try.prog 57 #[.agg #[.string a1, .string a2], .agg #[.string b1, .string b2]] (grow (redrawn wr d) os) fun e w'' => e = .returned (.int .i64 r) ∧ ∃ p : Regrown, w'' = grow (redrawn wr p.d) p.os :=
  Calls.regrown_of (by subst hr; exact cmpF_any a1 a2 b1 b2 _)
set_option maxRecDepth 100000 in
set_option maxHeartbeats 1000000 in
theorem ascF_any (B : Nat) (v : Value) (n : Nat) (f : Nat → ByteArray × ByteArray) (w : World) (h : Lst B w v n 2 (cF f)) (hB : B ≤ w.heap.size) :
    Calls Try.prog 56 #[v, .func (.func 57) #[] #[]] w fun e w' => ∃ b, e = .returned (.bool b) ∧ (b = true ↔ ∀ i, 0 < i → i < n → befB ((f (i - 1)).1, (f (i - 1)).2) ((f i).1, (f i).2) = true) ∧ Below w.heap.size w w' := by
  obtain ⟨oa, cap, rfl, hn, hc⟩ := h
  unfold maxLen at hn
  have HC : Hid _ := hc
  clear hc
  go_enter Try.func56, Try.ntmps56
  go_wp2
  go_loopw [5] (fun i wr => ∃ k : Nat, i = .int .i64 ((k : Int) + 1) ∧ (k + 1 ≤ n ∨ k = 0) ∧ Hid (∀ i, 0 < i → i < k + 1 → befB ((f (i - 1)).1, (f (i - 1)).2) ((f i).1, (f i).2) = true) ∧ Hid (Below w.heap.size w wr)) (fun i _ => n - (intOf i).toNat)
  case atStart => exact ⟨0, rfl, Or.inr rfl, fun _ h1 h2 => by omega, Below.refl _ _⟩
  case round =>
    obtain ⟨k, rfl, hk, hall, hbel⟩ := hrel
    have hs := hbel.out.size
    by_cases hlt : k + 1 < n
    · clear hk
      obtain ⟨b, off, rfl, hbB, hcell⟩ := HC.out (k + 1) hlt
      obtain ⟨b', off', e', hbB', hcellm⟩ := HC.out k (by omega)
      cases e'
      have a0 : wr.cell? ⟨b, off + k * 2, none⟩ = some (.string (f k).1) := (hbel.out.cell (p := ⟨b, off + k * 2, none⟩) (by show b < _; omega)).trans (by simpa [cF] using hcellm 0 (by omega))
      have qa0 := fun d os => cell_regrown a0 d os
      have a1 : wr.cell? ⟨b, off + k * 2 + 1, none⟩ = some (.string (f k).2) := (hbel.out.cell (p := ⟨b, off + k * 2 + 1, none⟩) (by show b < _; omega)).trans (by simpa [cF] using hcellm 1 (by omega))
      have qa1 := fun d os => cell_regrown a1 d os
      have c0 : wr.cell? ⟨b, off + (k + 1) * 2, none⟩ = some (.string (f (k + 1)).1) := (hbel.out.cell (p := ⟨b, off + (k + 1) * 2, none⟩) (by show b < _; omega)).trans (by simpa [cF] using hcell 0 (by omega))
      have qc0 := fun d os => cell_regrown c0 d os
      have c1 : wr.cell? ⟨b, off + (k + 1) * 2 + 1, none⟩ = some (.string (f (k + 1)).2) := (hbel.out.cell (p := ⟨b, off + (k + 1) * 2 + 1, none⟩) (by show b < _; omega)).trans (by simpa [cF] using hcell 1 (by omega))
      have qc1 := fun d os => cell_regrown c1 d os
      have hge : decide (0 ≤ cmpF ((f (k)).1, (f (k)).2) ((f (k + 1)).1, (f (k + 1)).2)) = !befB ((f (k)).1, (f (k)).2) ((f (k + 1)).1, (f (k + 1)).2) := cmpF_ge _ _
      cases hlb : befB ((f (k)).1, (f (k)).2) ((f (k + 1)).1, (f (k + 1)).2)
      · rw [hlb, Bool.not_false] at hge
        go_wp2
        refine wp_region_quiet_below (by kernel_rfl) (by kernel_rfl) ?_
        repeat (first | go_big_quiet_step (with_reducible exact cmpFq _ _ _ _ _ _ rfl _ _) | quiet_step (with_reducible exact cmpFq _ _ _ _ _ _ rfl _ _))
        refine wpQuiet_nil ?_
        intro _ hw'
        obtain ⟨⟨dq, osq⟩, hw''⟩ := hw'
        subst hw''
        go_wp2
        go_ret
        exact ⟨false, rfl, ⟨(fun h => by cases h), fun h => by have := h (k + 1) (by omega) hlt; rw [Nat.add_sub_cancel, hlb] at this; cases this⟩, hbel.out.trans ((below_regrown _ dq osq).mono hs)⟩
      · rw [hlb, Bool.not_true] at hge
        go_wp2
        refine wp_region_quiet_below (by kernel_rfl) (by kernel_rfl) ?_
        repeat (first | go_big_quiet_step (with_reducible exact cmpFq _ _ _ _ _ _ rfl _ _) | quiet_step (with_reducible exact cmpFq _ _ _ _ _ _ rfl _ _))
        refine wpQuiet_nil ?_
        intro _ hw'
        obtain ⟨⟨dq, osq⟩, hw''⟩ := hw'
        subst hw''
        go_wp2
        go_roundw
        case rel => exact ⟨k + 1, by go_num, Or.inl (by omega), fun i h1 h2 => by
          by_cases e : i = k + 1
          · subst e; rw [Nat.add_sub_cancel]; exact hlb
          · exact hall.out i h1 (by omega), hbel.out.trans ((below_regrown _ dq osq).mono hs)⟩
        case measure => simp [intOf]; omega
    · go_wp2
      go_ret
      exact ⟨true, rfl, ⟨fun _ i h1 h2 => hall.out i h1 (by omega), fun _ => rfl⟩, hbel.out⟩
end Go.Proofs.Ytgjcppdeljoimaa

namespace Go.Proofs.Ytgjcppdeljoimaa
open Go.RowKit
set_option maxRecDepth 100000 in
set_option maxHeartbeats 4000000 in
theorem foesI_any (B : Nat) (v0 v1 v2 v3 : Value) (nf : Nat) (ff : Nat → ByteArray × ByteArray) (ns : Nat) (fs : Nat → ByteArray) (w : World) (h1 : Lst B w v1 nf 2 (cF ff)) (hB : B ≤ w.heap.size) (h0 : Lst B w v0 ns 1 (cS fs)) (hz : ∀ i, i < nf → True ∧ True) :
    Calls Try.prog 31 #[.agg #[v0, v1, v2, v3]] w fun e w' => ∃ b, e = .returned (.bool b) ∧ (b = true ↔ nf ≤ 12 ∧ (∀ i, i < nf → foeQ ns fs ff i) ∧ ∀ i, 0 < i → i < nf → befB ((ff (i - 1)).1, (ff (i - 1)).2) ((ff i).1, (ff i).2) = true) ∧ Below w.heap.size w w' := by
  have H1 : Hid (Lst B w v1 nf 2 (cF ff)) := h1
  have H0 : Hid (Lst B w v0 ns 1 (cS fs)) := h0
  clear h0
  obtain ⟨o1, cap1, rfl, hn1, hc1⟩ := h1
  unfold maxLen at hn1
  have HC1 : Hid _ := hc1
  have HZ : Hid _ := hz
  clear hc1 hz
  by_cases hl : nf ≤ 12
  · have d0 : decide ((12 : Int) < (nf : Int)) = false := by simp; omega
    go_enter Try.func31, Try.ntmps31
    go_wp2
    go_loopw [12] (fun i wr => ∃ q : Nat, q ≤ nf ∧ i = .int .i64 q ∧ Hid (∀ j, j < q → foeQ ns fs ff j) ∧ Hid (Below (w.heap.size + 1) (w.alloc (.cells #[v0, .slice o1 nf cap1, v2, v3] 28)) wr)) (fun i _ => nf - (intOf i).toNat)
    case atStart => exact ⟨0, Nat.zero_le _, rfl, fun _ h => by omega, Below.refl _ _⟩
    case round =>
      obtain ⟨q, hq, rfl, hallf, hbel⟩ := hrel
      have b0 := box_in hbel.out 0 _ rfl
      have b1 := box_in hbel.out 1 _ rfl
      have b2 := box_in hbel.out 2 _ rfl
      have b3 := box_in hbel.out 3 _ rfl
      simp only [List.getElem_toArray, List.getElem_cons_zero, List.getElem_cons_succ] at b0 b1 b2 b3
      have hsz : w.heap.size + 1 ≤ wr.heap.size := by have := hbel.out.size; simpa using this
      by_cases hlq : q < nf
      · obtain ⟨b, off, rfl, hbB, hcell⟩ := HC1.out q hlq
        obtain ⟨_, _⟩ := HZ.out q hlq
        have e0 : wr.cell? ⟨b, off + q * 2, none⟩ = some (.string (ff q).1) := old_in hbel.out (by omega) (by simpa [cF] using hcell 0 (by omega))
        have e1 : wr.cell? ⟨b, off + q * 2 + 1, none⟩ = some (.string (ff q).2) := old_in hbel.out (by omega) (by simpa [cF] using hcell 1 (by omega))
        have hW : Hid (Below (w.heap.size + 1) (w.alloc (.cells #[v0, .slice (some ⟨b, off, none⟩) nf cap1, v2, v3] 28)) (wr.alloc (.cells #[.string (ff q).1, .string (ff q).2] 81))) := hbel.out.alloc (by omega) _
        have x0 := cell_past b0 (by omega) (.cells #[.string (ff q).1, .string (ff q).2] 81)
        have x1 := cell_past b1 (by omega) (.cells #[.string (ff q).1, .string (ff q).2] 81)
        have x2 := cell_past b2 (by omega) (.cells #[.string (ff q).1, .string (ff q).2] 81)
        have x3 := cell_past b3 (by omega) (.cells #[.string (ff q).1, .string (ff q).2] 81)
        have c0 := new_cell wr #[.string (ff q).1, .string (ff q).2] 81 0 _ rfl
        have c1 := new_cell wr #[.string (ff q).1, .string (ff q).2] 81 1 _ rfl
        simp only [List.getElem_toArray, List.getElem_cons_zero, List.getElem_cons_succ] at c0 c1
        have hsw : wr.heap.size + 1 ≤ (wr.alloc (.cells #[.string (ff q).1, .string (ff q).2] 81)).heap.size := by simp
        cases hab : Op.bytesLess (ff q).1.toList (ff q).2.toList
        · go_wp2_with fail
          go_ret
          exact ⟨false, rfl, ⟨(fun h => by cases h), fun h => absurd (h.2.1 q hlq) (by intro h; have := h.1; rw [ltB, hab] at this; cases this)⟩, below_end hW.out⟩
        · cases hA : hasB ns fs (ff q).1
          · go_wp2_with fail
            refine (hasI_b B v0 ns fs _ _ (H0.out.kept (below_end hW.out) hB)).mono ?_; rintro e u' ⟨rfl, hb'⟩
            rw [hA]
            have hW' : Hid (Below (w.heap.size + 1) _ u') := below_of hW.out hb'
            go_wp2_with fail
            go_ret
            exact ⟨false, rfl, ⟨(fun h => by cases h), fun h => absurd (h.2.1 q hlq) (by intro h; have := h.2.1; rw [hA] at this; cases this)⟩, below_end hW'.out⟩
          · go_wp2_with fail
            refine (hasI_b B v0 ns fs _ _ (H0.out.kept (below_end hW.out) hB)).mono ?_; rintro e u' ⟨rfl, hb'⟩
            rw [hA]
            have hW' : Hid (Below (w.heap.size + 1) _ u') := below_of hW.out hb'
            have hsw' : wr.heap.size + 1 ≤ u'.heap.size := Nat.le_trans hsw hb'.size
            have x0' := (hb'.cell (p := ⟨w.heap.size, 0, none⟩) (by show w.heap.size < _; omega)).trans x0
            have x1' := (hb'.cell (p := ⟨w.heap.size, 1, none⟩) (by show w.heap.size < _; omega)).trans x1
            have x2' := (hb'.cell (p := ⟨w.heap.size, 2, none⟩) (by show w.heap.size < _; omega)).trans x2
            have x3' := (hb'.cell (p := ⟨w.heap.size, 3, none⟩) (by show w.heap.size < _; omega)).trans x3
            have c0' := (hb'.cell (p := ⟨wr.heap.size, 0, none⟩) (by show wr.heap.size < _; omega)).trans c0
            have c1' := (hb'.cell (p := ⟨wr.heap.size, 1, none⟩) (by show wr.heap.size < _; omega)).trans c1
            cases hA2 : hasB ns fs (ff q).2
            · go_wp2_with fail
              refine (hasI_b B v0 ns fs _ _ (H0.out.kept (below_end hW'.out) hB)).mono ?_; rintro e u'' ⟨rfl, hb''⟩
              rw [hA2]
              have hW'' : Hid (Below (w.heap.size + 1) _ u'') := below_of hW'.out hb''
              go_wp2_with fail
              go_ret
              exact ⟨false, rfl, ⟨(fun h => by cases h), fun h => absurd (h.2.1 q hlq) (by intro h; have := h.2.2; rw [hA2] at this; cases this)⟩, below_end hW''.out⟩
            · go_wp2_with fail
              refine (hasI_b B v0 ns fs _ _ (H0.out.kept (below_end hW'.out) hB)).mono ?_; rintro e u'' ⟨rfl, hb''⟩
              rw [hA2]
              have hW'' : Hid (Below (w.heap.size + 1) _ u'') := below_of hW'.out hb''
              have hsw'' : wr.heap.size + 1 ≤ u''.heap.size := Nat.le_trans hsw' hb''.size
              have x0'' := (hb''.cell (p := ⟨w.heap.size, 0, none⟩) (by show w.heap.size < _; omega)).trans x0'
              have x1'' := (hb''.cell (p := ⟨w.heap.size, 1, none⟩) (by show w.heap.size < _; omega)).trans x1'
              have x2'' := (hb''.cell (p := ⟨w.heap.size, 2, none⟩) (by show w.heap.size < _; omega)).trans x2'
              have x3'' := (hb''.cell (p := ⟨w.heap.size, 3, none⟩) (by show w.heap.size < _; omega)).trans x3'
              have c0'' := (hb''.cell (p := ⟨wr.heap.size, 0, none⟩) (by show wr.heap.size < _; omega)).trans c0'
              have c1'' := (hb''.cell (p := ⟨wr.heap.size, 1, none⟩) (by show wr.heap.size < _; omega)).trans c1'
              go_wp2_with fail
              go_roundw
              case rel => exact ⟨q + 1, by omega, by go_num, fun j hj => by
                by_cases e : j = q
                · subst e; exact ⟨hab, hA, hA2⟩
                · exact hallf.out j (by omega), hW''⟩
              case measure => simp [intOf]; omega
      · have hqn : q = nf := by omega
        subst hqn
        have HL := H1.out.kept (below_end hbel.out) hB
        go_wp2_with fail
        refine (ascF_any B _ q ff _ HL (by omega)).mono ?_; rintro e u ⟨bb, rfl, hiff, hbu⟩
        go_wp2_with fail
        go_ret
        refine ⟨bb, rfl, ⟨fun h => ⟨hl, hallf.out, hiff.1 h⟩, fun h => hiff.2 h.2.2⟩, below_end (below_of hbel.out hbu)⟩
  · have d0 : decide ((12 : Int) < (nf : Int)) = true := by simp; omega
    go_enter Try.func31, Try.ntmps31
    go_wp2
    go_ret
    exact ⟨false, rfl, ⟨(fun h => by cases h), fun h => absurd h.1 hl⟩, (Below.refl _ _).alloc (Nat.le_refl _) _⟩
end Go.Proofs.Ytgjcppdeljoimaa
