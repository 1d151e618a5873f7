/-
  Contracts of how the program compares foes, spots and parts of a book of claims, and whether lists of them ascend.
-/
import Derived.Test.YticojnepejboaacGreatCn
import Derived.Test.YticojnepejboaacGreatCba
import Derived.Laws.EntriesVeiled
namespace Go.Proofs.YticojnepejboaacGreat
open Go.RowKit

set_option maxRecDepth 100000 in
set_option maxHeartbeats 1000000 in
theorem or_any (x y : Int) (g : Nat) (w : World) (h0 : w.cell? ⟨g, 0, none⟩ = some (.int .i64 x)) (h1 : w.cell? ⟨g, 1, none⟩ = some (.int .i64 y)) :
    Calls Tryz.prog 116 #[.slice (some ⟨g, 0, none⟩) 2 2] w fun e w' => e = .returned (.int .i64 (if x = 0 then y else x)) ∧ w' = w := by
  obtain ⟨r, hr⟩ : ∃ r : Int, r = if x = 0 then y else x := ⟨_, rfl⟩
  rw [← hr]
  have HR : Hid (r = if x = 0 then y else x) := hr
  clear hr
  go_enter Tryz.func116, Tryz.ntmps116
  go_wp2
  go_loop [8] (fun i => i = .int .i64 0 ∨ (i = .int .i64 1 ∧ Hid (x = 0)) ∨ (i = .int .i64 2 ∧ Hid (x = 0) ∧ Hid (y = 0))) (fun i => 2 - (intOf i).toNat)
  case atStart => exact Or.inl rfl
  case round =>
    rcases hrel with rfl | ⟨rfl, hx⟩ | ⟨rfl, hx, hy⟩
    · by_cases hx : x = 0
      · have hx0 : (x == 0) = true := by simpa using hx
        go_wp2
        go_round
        case rel => exact Or.inr (Or.inl ⟨by go_num, hx⟩)
        case measure => simp [intOf]
      · have hx' : (x == 0) = false := by simpa using hx
        go_wp2
        go_ret
        exact ⟨by rw [HR.out, if_neg hx]; rfl, rfl⟩
    · by_cases hy : y = 0
      · have hy0 : (y == 0) = true := by simpa using hy
        go_wp2
        go_round
        case rel => exact Or.inr (Or.inr ⟨by go_num, hx.out, hy⟩)
        case measure => simp [intOf]
      · have hy' : (y == 0) = false := by simpa using hy
        go_wp2
        go_ret
        exact ⟨by rw [HR.out, if_pos hx.out]; rfl, rfl⟩
    · go_wp2
      go_ret
      exact ⟨by rw [HR.out, if_pos hx.out, hy.out]; rfl, rfl⟩

theorem or_new (u : World) (a1 a2 b1 b2 : ByteArray) :
    Calls Tryz.prog 116 #[.slice (some ⟨u.heap.size, 0, none⟩) 2 2] (u.alloc (.cells #[.int .i64 (cmpB a1 b1), .int .i64 (cmpB a2 b2)] 3)) fun e w' => e = .returned (.int .i64 (cmpF (a1, a2) (b1, b2))) ∧ w' = u.alloc (.cells #[.int .i64 (cmpB a1 b1), .int .i64 (cmpB a2 b2)] 3) :=
  or_any (cmpB a1 b1) (cmpB a2 b2) _ _ (new_cell u _ _ 0 _ rfl) (new_cell u _ _ 1 _ rfl)

open Go.Sort in
set_option maxRecDepth 100000 in
set_option maxHeartbeats 1000000 in
theorem cmpF_any (a1 a2 b1 b2 : ByteArray) (w : World) :
    Calls Tryz.prog 88 #[.agg #[.string a1, .string a2], .agg #[.string b1, .string b2]] w fun e w' => e = .returned (.int .i64 (cmpF (a1, a2) (b1, b2))) ∧ Below w.heap.size w w' := by
  obtain ⟨W, hW⟩ : ∃ W, W = (w.alloc (.cells #[.string a1, .string a2] 83)).alloc (.cells #[.string b1, .string b2] 83) := ⟨_, rfl⟩
  have hb : Hid (Below w.heap.size w W) := by rw [hW]; exact ((Below.refl _ _).alloc (Nat.le_refl _) _).alloc (by simp) _
  have hs : w.heap.size ≤ W.heap.size := hb.out.size
  have f0 : W.cell? ⟨w.heap.size, 0, none⟩ = some (.string a1) := by rw [hW]; simp
  have f1 : W.cell? ⟨w.heap.size, 1, none⟩ = some (.string a2) := by rw [hW]; simp
  have f2 : W.cell? ⟨w.heap.size + 1, 0, none⟩ = some (.string b1) := by rw [hW]; simp
  have f3 : W.cell? ⟨w.heap.size + 1, 1, none⟩ = some (.string b2) := by rw [hW]; simp
  have q0 := fun d os => cell_regrown f0 d os
  have q1 := fun d os => cell_regrown f1 d os
  have q2 := fun d os => cell_regrown f2 d os
  have q3 := fun d os => cell_regrown f3 d os
  go_enter Tryz.func88, Tryz.ntmps88
  go_wp2
  rw [← hW]
  clear hW
  refine wp_region_head_tail 10 (by kernel_rfl) (by kernel_rfl) ?_
  simp only [List.take_succ_cons, List.take_zero, List.drop_succ_cons, List.drop_zero]
  repeat (first | go_big_quiet_step (with_reducible exact cmpSr _ _ _ _ rfl _ _) | quiet_step (with_reducible exact cmpSr _ _ _ _ rfl _ _))
  refine wpQuiet_nil ?_
  intro _ hw'
  obtain ⟨⟨dq, osq⟩, hw''⟩ := hw'
  subst hw''
  have hb2 : Hid (Below w.heap.size w (grow (redrawn W dq) osq)) := hb.out.trans ((below_regrown _ dq osq).mono hs)
  have hs2 := hb2.out.size
  generalize grow (redrawn W dq) osq = u at hb2 hs2 ⊢
  go_wp2_with (go_at_call 116; refine (or_new _ a1 a2 b1 b2).mono ?_; rintro e w1 ⟨rfl, rfl⟩)
  go_ret
  exact ⟨rfl, hb2.out.alloc hs2 _⟩

set_option maxRecDepth 100000 in
set_option maxHeartbeats 4000000 in
theorem cmpSpots_any (a b : ByteArray) (a1 b1 a2 b2 a3 b3 a4 b4 : Value) (w : World) : Calls Tryz.prog 93 #[.agg #[.string a, a1, a2, a3, a4], .agg #[.string b, b1, b2, b3, b4]] w fun e w' => e = .returned (.int .i64 (cmpB a b)) ∧ Below w.heap.size w w' := by
  go_enter Tryz.func93, Tryz.ntmps93
  go_wp2_with (go_at_call 117; refine (cmpS_any _ _ _).mono ?_; rintro e w1 ⟨rfl, rfl⟩)
  go_ret
  exact ⟨rfl, ((Below.refl _ _).alloc (Nat.le_refl _) _).alloc (by simp) _⟩

/-- How two numbers are compared. -/
def cmpI (a b : Int) : Int := if a < b then -1 else if b < a then 1 else 0
theorem cmpI_ge (a b : Int) : decide (0 ≤ cmpI a b) = !decide (a < b) := by
  unfold cmpI
  by_cases h : a < b
  · rw [if_pos h]; simp [h]
  · rw [if_neg h]; split <;> simp [h]
theorem isNaN_any (a : Int) (w : World) : Calls Tryz.prog 141 #[.int .i64 a] w fun e w' => e = .returned (.bool false) ∧ w' = w := by
  have h0 : (a == a) = true := by simp
  go_enter Tryz.func141, Tryz.ntmps141
  go_wp2
  go_ret
  exact ⟨by simp, rfl⟩

set_option maxRecDepth 100000 in
set_option maxHeartbeats 4000000 in
theorem cmpN_any (a b : Int) (w : World) : Calls Tryz.prog 123 #[.int .i64 a, .int .i64 b] w fun e w' => e = .returned (.int .i64 (cmpI a b)) ∧ w' = w := by
  by_cases h1 : a < b
  · have d1 : decide (a < b) = true := by simpa using h1
    rw [show cmpI a b = -1 from if_pos h1]
    go_enter Tryz.func123, Tryz.ntmps123
    go_wp2_with (go_at_call 141; refine (isNaN_any _ _).mono ?_; rintro e w1 ⟨rfl, rfl⟩)
    go_ret
    exact ⟨rfl, rfl⟩
  · have d1 : decide (a < b) = false := by simpa using h1
    by_cases h2 : b < a
    · have d2 : decide (b < a) = true := by simpa using h2
      rw [show cmpI a b = 1 from by unfold cmpI; rw [if_neg h1, if_pos h2]]
      go_enter Tryz.func123, Tryz.ntmps123
      go_wp2_with (go_at_call 141; refine (isNaN_any _ _).mono ?_; rintro e w1 ⟨rfl, rfl⟩)
      go_ret
      exact ⟨rfl, rfl⟩
    · have d2 : decide (b < a) = false := by simpa using h2
      rw [show cmpI a b = 0 from by unfold cmpI; rw [if_neg h1, if_neg h2]]
      go_enter Tryz.func123, Tryz.ntmps123
      go_wp2_with (go_at_call 141; refine (isNaN_any _ _).mono ?_; rintro e w1 ⟨rfl, rfl⟩)
      go_ret
      exact ⟨rfl, rfl⟩

set_option maxRecDepth 100000 in
set_option maxHeartbeats 4000000 in
theorem cmpNumbers_any (a b : Int) (a1 b1 a2 b2 a3 b3 a4 b4 a5 b5 a6 b6 : Value) (w : World) : Calls Tryz.prog 99 #[.agg #[.int .i64 a, a1, a2, a3, a4, a5, a6], .agg #[.int .i64 b, b1, b2, b3, b4, b5, b6]] w fun e w' => e = .returned (.int .i64 (cmpI a b)) ∧ Below w.heap.size w w' := by
  go_enter Tryz.func99, Tryz.ntmps99
  go_wp2_with (go_at_call 123; refine (cmpN_any _ _ _).mono ?_; rintro e w1 ⟨rfl, rfl⟩)
  go_ret
  exact ⟨rfl, ((Below.refl _ _).alloc (Nat.le_refl _) _).alloc (by simp) _⟩
open Go.Sort in
theorem cmpClaimFoe_q (a1 a2 b1 b2 : ByteArray) (wr : World) (r : Int) (hr : cmpF (a1, a2) (b1, b2) = r) (d : Nat) (os : Array Obj) : Calls Tryz.prog 88 #[.agg #[.string a1, .string a2], .agg #[.string b1, .string b2]] (grow (redrawn wr d) os) fun e w'' => e = .returned (.int .i64 r) ∧ ∃ p : Regrown, w'' = grow (redrawn wr p.d) p.os :=
  Calls.regrown_of (by subst hr; exact cmpF_any a1 a2 b1 b2 _)

set_option maxRecDepth 100000 in
set_option maxHeartbeats 4000000 in
theorem ascClaimFoe_any (S : Nat → Prop) (v : Value) (l : List DClaimFoe) (w : World) (h : AtL S w l v) (hS : ∀ b, S b → b < w.heap.size) :
    Calls Tryz.prog 115 #[v, .func (.func 88) #[] #[]] w fun e w' => e = .returned (.bool (ascB (fun p f : DClaimFoe => befB p f) l)) ∧ Below w.heap.size w w' := by
  obtain ⟨oa, cap, rfl, hn, hc⟩ := h
  obtain ⟨n, en⟩ : ∃ n, l.length = n := ⟨_, rfl⟩
  rw [en] at hn
  rw [en]
  unfold maxLen at hn
  have HC : Hid _ := hc
  clear hc
  go_enter Tryz.func115, Tryz.ntmps115
  go_wp2
  go_loopw [5] (fun i wr => ∃ k : Nat, i = .int .i64 ((k : Int) + 1) ∧ (k + 1 ≤ n ∨ k = 0) ∧ Hid (∀ j (hj : j < l.length), j < k + 1 → asO (fun p f : DClaimFoe => befB p f) (prevO l j) l[j] = true) ∧ Hid (Below w.heap.size w wr)) (fun i _ => n - (intOf i).toNat)
  case atStart => exact ⟨0, rfl, Or.inr rfl, fun j hj h => as_zero j hj (by omega), Below.refl _ _⟩
  case round =>
    obtain ⟨k, rfl, hk, hall, hbel⟩ := hrel
    have hs := hbel.out.size
    by_cases hlt : k + 1 < n
    · clear hk
      obtain ⟨b, off, rfl, hbS, ce, hcelle, hate⟩ := HC.out (k + 1) (by omega)
      obtain ⟨b', off', e', hbS', ca, hcella, hata⟩ := HC.out k (by omega)
      cases e'
      have hbb := hS b hbS
      have hbw := hbel.out
      rw [width_DClaimFoe] at hcella
      have a0 : wr.cell? ⟨b, off + k * 2, none⟩ = some (ca 0) := (hbw.cell (p := ⟨b, off + k * 2, none⟩) (by show b < _; omega)).trans (by simpa using hcella 0 (by omega))
      have a1 : wr.cell? ⟨b, off + k * 2 + 1, none⟩ = some (ca 1) := (hbw.cell (p := ⟨b, off + k * 2 + 1, none⟩) (by show b < _; omega)).trans (by simpa using hcella 1 (by omega))
      clear hcella
      have hata := Lay.same hata (Same.of_below hbw hS)
      rw [at_DClaimFoe] at hata
      obtain ⟨af, eaf⟩ : ∃ f, l[k]'(by omega) = f := ⟨_, rfl⟩
      rw [eaf] at hata
      obtain ⟨⟨ta0, za0⟩, ⟨ta1, za1⟩⟩ := hata
      rw [ta0] at a0
      rw [ta1] at a1
      clear ta0 ta1
      rw [width_DClaimFoe] at hcelle
      have e0 : wr.cell? ⟨b, off + (k + 1) * 2, none⟩ = some (ce 0) := (hbw.cell (p := ⟨b, off + (k + 1) * 2, none⟩) (by show b < _; omega)).trans (by simpa using hcelle 0 (by omega))
      have e1 : wr.cell? ⟨b, off + (k + 1) * 2 + 1, none⟩ = some (ce 1) := (hbw.cell (p := ⟨b, off + (k + 1) * 2 + 1, none⟩) (by show b < _; omega)).trans (by simpa using hcelle 1 (by omega))
      clear hcelle
      have hate := Lay.same hate (Same.of_below hbw hS)
      rw [at_DClaimFoe] at hate
      obtain ⟨ef, eef⟩ : ∃ f, l[k + 1]'(by omega) = f := ⟨_, rfl⟩
      rw [eef] at hate
      obtain ⟨⟨te0, ze0⟩, ⟨te1, ze1⟩⟩ := hate
      rw [te0] at e0
      rw [te1] at e1
      clear te0 te1
      clear hbw
      have qa0 := fun d os => cell_regrown a0 d os
      have qa1 := fun d os => cell_regrown a1 d os
      have qe0 := fun d os => cell_regrown e0 d os
      have qe1 := fun d os => cell_regrown e1 d os
      have hrl : asO (fun p f : DClaimFoe => befB p f) (prevO l (k + 1)) (l[k + 1]'(by omega)) = befB af ef := by
        rw [prev_succ l k (by omega), eaf, eef]; rfl
      have hge : decide (0 ≤ cmpF (af.1, af.2) (ef.1, ef.2)) = !befB af ef := cmpF_ge _ _
      cases hlb : befB af ef
      · rw [hlb] at hrl
        rw [hlb, Bool.not_false] at hge
        go_wp2
        refine wp_region_quiet_below (by kernel_rfl) (by kernel_rfl) ?_
        repeat (first | go_big_quiet_step (with_reducible exact cmpClaimFoe_q _ _ _ _ _ _ rfl _ _) | quiet_step (with_reducible exact cmpClaimFoe_q _ _ _ _ _ _ rfl _ _))
        refine wpQuiet_nil ?_
        intro _ hw'
        obtain ⟨⟨dq, osq⟩, hw''⟩ := hw'
        subst hw''
        go_wp2
        rw [show ascB (fun p f : DClaimFoe => befB p f) l = false from ok_no (k := k + 1) (by omega) hrl]
        go_ret
        exact ⟨rfl, hbel.out.trans ((below_regrown _ dq osq).mono hs)⟩
      · rw [hlb] at hrl
        rw [hlb, Bool.not_true] at hge
        go_wp2
        refine wp_region_quiet_below (by kernel_rfl) (by kernel_rfl) ?_
        repeat (first | go_big_quiet_step (with_reducible exact cmpClaimFoe_q _ _ _ _ _ _ rfl _ _) | quiet_step (with_reducible exact cmpClaimFoe_q _ _ _ _ _ _ rfl _ _))
        refine wpQuiet_nil ?_
        intro _ hw'
        obtain ⟨⟨dq, osq⟩, hw''⟩ := hw'
        subst hw''
        go_wp2
        go_roundw
        case rel => exact ⟨k + 1, by go_num, Or.inl (by omega), fun j hj hjk => by
          by_cases e : j = k + 1
          · subst e; exact hrl
          · exact hall.out j hj (by omega), hbel.out.trans ((below_regrown _ dq osq).mono hs)⟩
        case measure => simp [intOf]; omega
    · go_wp2
      rw [show ascB (fun p f : DClaimFoe => befB p f) l = true from ok_yes (Nat.le_refl _) (fun j hj => hall.out j hj (by omega))]
      go_ret
      exact ⟨rfl, hbel.out⟩

open Go.Sort in
theorem cmpClaimSpot_q (a b : ByteArray) (a1 b1 a2 b2 a3 b3 a4 b4 : Value) (wr : World) (r : Int) (hr : cmpB a b = r) (d : Nat) (os : Array Obj) : Calls Tryz.prog 93 #[.agg #[.string a, a1, a2, a3, a4], .agg #[.string b, b1, b2, b3, b4]] (grow (redrawn wr d) os) fun e w'' => e = .returned (.int .i64 r) ∧ ∃ p : Regrown, w'' = grow (redrawn wr p.d) p.os :=
  Calls.regrown_of (by subst hr; exact cmpSpots_any a b a1 b1 a2 b2 a3 b3 a4 b4 _)

set_option maxRecDepth 100000 in
set_option maxHeartbeats 4000000 in
theorem ascClaimSpot_any (S : Nat → Prop) (v : Value) (l : List DClaimSpot) (w : World) (h : AtL S w l v) (hS : ∀ b, S b → b < w.heap.size) :
    Calls Tryz.prog 120 #[v, .func (.func 93) #[] #[]] w fun e w' => e = .returned (.bool (ascB (fun p f : DClaimSpot => ltB p.1 f.1) l)) ∧ Below w.heap.size w w' := by
  obtain ⟨oa, cap, rfl, hn, hc⟩ := h
  obtain ⟨n, en⟩ : ∃ n, l.length = n := ⟨_, rfl⟩
  rw [en] at hn
  rw [en]
  unfold maxLen at hn
  have HC : Hid _ := hc
  clear hc
  go_enter Tryz.func120, Tryz.ntmps120
  go_wp2
  go_loopw [5] (fun i wr => ∃ k : Nat, i = .int .i64 ((k : Int) + 1) ∧ (k + 1 ≤ n ∨ k = 0) ∧ Hid (∀ j (hj : j < l.length), j < k + 1 → asO (fun p f : DClaimSpot => ltB p.1 f.1) (prevO l j) l[j] = true) ∧ Hid (Below w.heap.size w wr)) (fun i _ => n - (intOf i).toNat)
  case atStart => exact ⟨0, rfl, Or.inr rfl, fun j hj h => as_zero j hj (by omega), Below.refl _ _⟩
  case round =>
    obtain ⟨k, rfl, hk, hall, hbel⟩ := hrel
    have hs := hbel.out.size
    by_cases hlt : k + 1 < n
    · clear hk
      obtain ⟨b, off, rfl, hbS, ce, hcelle, hate⟩ := HC.out (k + 1) (by omega)
      obtain ⟨b', off', e', hbS', ca, hcella, hata⟩ := HC.out k (by omega)
      cases e'
      have hbb := hS b hbS
      have hbw := hbel.out
      rw [width_DClaimSpot] at hcella
      have a0 : wr.cell? ⟨b, off + k * 5, none⟩ = some (ca 0) := (hbw.cell (p := ⟨b, off + k * 5, none⟩) (by show b < _; omega)).trans (by simpa using hcella 0 (by omega))
      have a1 : wr.cell? ⟨b, off + k * 5 + 1, none⟩ = some (ca 1) := (hbw.cell (p := ⟨b, off + k * 5 + 1, none⟩) (by show b < _; omega)).trans (by simpa using hcella 1 (by omega))
      have a2 : wr.cell? ⟨b, off + k * 5 + 2, none⟩ = some (ca 2) := (hbw.cell (p := ⟨b, off + k * 5 + 2, none⟩) (by show b < _; omega)).trans (by simpa using hcella 2 (by omega))
      have a3 : wr.cell? ⟨b, off + k * 5 + 3, none⟩ = some (ca 3) := (hbw.cell (p := ⟨b, off + k * 5 + 3, none⟩) (by show b < _; omega)).trans (by simpa using hcella 3 (by omega))
      have a4 : wr.cell? ⟨b, off + k * 5 + 4, none⟩ = some (ca 4) := (hbw.cell (p := ⟨b, off + k * 5 + 4, none⟩) (by show b < _; omega)).trans (by simpa using hcella 4 (by omega))
      clear hcella
      have hata := Lay.same hata (Same.of_below hbw hS)
      rw [at_DClaimSpot] at hata
      obtain ⟨af, eaf⟩ : ∃ f, l[k]'(by omega) = f := ⟨_, rfl⟩
      rw [eaf] at hata
      obtain ⟨⟨ta0, za0⟩, ⟨ta1, zla1, zha1⟩, ⟨ta2, zla2, zha2⟩, ⟨ta3, zla3, zha3⟩, la4⟩ := hata
      obtain ⟨soa4, sca4, ta4, _⟩ := id la4
      rw [ta4] at la4
      have Ka4 : Hid _ := la4
      clear la4
      rw [ta0] at a0
      rw [ta1] at a1
      rw [ta2] at a2
      rw [ta3] at a3
      rw [ta4] at a4
      clear ta0 ta1 ta2 ta3 ta4
      rw [width_DClaimSpot] at hcelle
      have e0 : wr.cell? ⟨b, off + (k + 1) * 5, none⟩ = some (ce 0) := (hbw.cell (p := ⟨b, off + (k + 1) * 5, none⟩) (by show b < _; omega)).trans (by simpa using hcelle 0 (by omega))
      have e1 : wr.cell? ⟨b, off + (k + 1) * 5 + 1, none⟩ = some (ce 1) := (hbw.cell (p := ⟨b, off + (k + 1) * 5 + 1, none⟩) (by show b < _; omega)).trans (by simpa using hcelle 1 (by omega))
      have e2 : wr.cell? ⟨b, off + (k + 1) * 5 + 2, none⟩ = some (ce 2) := (hbw.cell (p := ⟨b, off + (k + 1) * 5 + 2, none⟩) (by show b < _; omega)).trans (by simpa using hcelle 2 (by omega))
      have e3 : wr.cell? ⟨b, off + (k + 1) * 5 + 3, none⟩ = some (ce 3) := (hbw.cell (p := ⟨b, off + (k + 1) * 5 + 3, none⟩) (by show b < _; omega)).trans (by simpa using hcelle 3 (by omega))
      have e4 : wr.cell? ⟨b, off + (k + 1) * 5 + 4, none⟩ = some (ce 4) := (hbw.cell (p := ⟨b, off + (k + 1) * 5 + 4, none⟩) (by show b < _; omega)).trans (by simpa using hcelle 4 (by omega))
      clear hcelle
      have hate := Lay.same hate (Same.of_below hbw hS)
      rw [at_DClaimSpot] at hate
      obtain ⟨ef, eef⟩ : ∃ f, l[k + 1]'(by omega) = f := ⟨_, rfl⟩
      rw [eef] at hate
      obtain ⟨⟨te0, ze0⟩, ⟨te1, zle1, zhe1⟩, ⟨te2, zle2, zhe2⟩, ⟨te3, zle3, zhe3⟩, le4⟩ := hate
      obtain ⟨soe4, sce4, te4, _⟩ := id le4
      rw [te4] at le4
      have Ke4 : Hid _ := le4
      clear le4
      rw [te0] at e0
      rw [te1] at e1
      rw [te2] at e2
      rw [te3] at e3
      rw [te4] at e4
      clear te0 te1 te2 te3 te4
      clear hbw
      have qa0 := fun d os => cell_regrown a0 d os
      have qa1 := fun d os => cell_regrown a1 d os
      have qa2 := fun d os => cell_regrown a2 d os
      have qa3 := fun d os => cell_regrown a3 d os
      have qa4 := fun d os => cell_regrown a4 d os
      have qe0 := fun d os => cell_regrown e0 d os
      have qe1 := fun d os => cell_regrown e1 d os
      have qe2 := fun d os => cell_regrown e2 d os
      have qe3 := fun d os => cell_regrown e3 d os
      have qe4 := fun d os => cell_regrown e4 d os
      have hrl : asO (fun p f : DClaimSpot => ltB p.1 f.1) (prevO l (k + 1)) (l[k + 1]'(by omega)) = ltB af.1 ef.1 := by
        rw [prev_succ l k (by omega), eaf, eef]; rfl
      have hge : decide (0 ≤ cmpB af.1 ef.1) = !ltB af.1 ef.1 := cmpB_ge _ _
      cases hlb : ltB af.1 ef.1
      · rw [hlb] at hrl
        rw [hlb, Bool.not_false] at hge
        go_wp2
        refine wp_region_quiet_below (by kernel_rfl) (by kernel_rfl) ?_
        repeat (first | go_big_quiet_step (with_reducible exact cmpClaimSpot_q _ _ _ _ _ _ _ _ _ _ _ _ rfl _ _) | quiet_step (with_reducible exact cmpClaimSpot_q _ _ _ _ _ _ _ _ _ _ _ _ rfl _ _))
        refine wpQuiet_nil ?_
        intro _ hw'
        obtain ⟨⟨dq, osq⟩, hw''⟩ := hw'
        subst hw''
        go_wp2
        rw [show ascB (fun p f : DClaimSpot => ltB p.1 f.1) l = false from ok_no (k := k + 1) (by omega) hrl]
        go_ret
        exact ⟨rfl, hbel.out.trans ((below_regrown _ dq osq).mono hs)⟩
      · rw [hlb] at hrl
        rw [hlb, Bool.not_true] at hge
        go_wp2
        refine wp_region_quiet_below (by kernel_rfl) (by kernel_rfl) ?_
        repeat (first | go_big_quiet_step (with_reducible exact cmpClaimSpot_q _ _ _ _ _ _ _ _ _ _ _ _ rfl _ _) | quiet_step (with_reducible exact cmpClaimSpot_q _ _ _ _ _ _ _ _ _ _ _ _ rfl _ _))
        refine wpQuiet_nil ?_
        intro _ hw'
        obtain ⟨⟨dq, osq⟩, hw''⟩ := hw'
        subst hw''
        go_wp2
        go_roundw
        case rel => exact ⟨k + 1, by go_num, Or.inl (by omega), fun j hj hjk => by
          by_cases e : j = k + 1
          · subst e; exact hrl
          · exact hall.out j hj (by omega), hbel.out.trans ((below_regrown _ dq osq).mono hs)⟩
        case measure => simp [intOf]; omega
    · go_wp2
      rw [show ascB (fun p f : DClaimSpot => ltB p.1 f.1) l = true from ok_yes (Nat.le_refl _) (fun j hj => hall.out j hj (by omega))]
      go_ret
      exact ⟨rfl, hbel.out⟩

open Go.Sort in
theorem cmpClaimPart_q (a b : Int) (a1 b1 a2 b2 a3 b3 a4 b4 a5 b5 a6 b6 : Value) (wr : World) (r : Int) (hr : cmpI a b = r) (d : Nat) (os : Array Obj) : Calls Tryz.prog 99 #[.agg #[.int .i64 a, a1, a2, a3, a4, a5, a6], .agg #[.int .i64 b, b1, b2, b3, b4, b5, b6]] (grow (redrawn wr d) os) fun e w'' => e = .returned (.int .i64 r) ∧ ∃ p : Regrown, w'' = grow (redrawn wr p.d) p.os :=
  Calls.regrown_of (by subst hr; exact cmpNumbers_any a b a1 b1 a2 b2 a3 b3 a4 b4 a5 b5 a6 b6 _)

set_option maxRecDepth 100000 in
set_option maxHeartbeats 4000000 in
theorem ascClaimPart_any (S : Nat → Prop) (v : Value) (l : List DClaimPart) (w : World) (h : AtL S w l v) (hS : ∀ b, S b → b < w.heap.size) :
    Calls Tryz.prog 122 #[v, .func (.func 99) #[] #[]] w fun e w' => e = .returned (.bool (ascB (fun p f : DClaimPart => decide (p.1 < f.1)) l)) ∧ Below w.heap.size w w' := by
  obtain ⟨oa, cap, rfl, hn, hc⟩ := h
  obtain ⟨n, en⟩ : ∃ n, l.length = n := ⟨_, rfl⟩
  rw [en] at hn
  rw [en]
  unfold maxLen at hn
  have HC : Hid _ := hc
  clear hc
  go_enter Tryz.func122, Tryz.ntmps122
  go_wp2
  go_loopw [5] (fun i wr => ∃ k : Nat, i = .int .i64 ((k : Int) + 1) ∧ (k + 1 ≤ n ∨ k = 0) ∧ Hid (∀ j (hj : j < l.length), j < k + 1 → asO (fun p f : DClaimPart => decide (p.1 < f.1)) (prevO l j) l[j] = true) ∧ Hid (Below w.heap.size w wr)) (fun i _ => n - (intOf i).toNat)
  case atStart => exact ⟨0, rfl, Or.inr rfl, fun j hj h => as_zero j hj (by omega), Below.refl _ _⟩
  case round =>
    obtain ⟨k, rfl, hk, hall, hbel⟩ := hrel
    have hs := hbel.out.size
    by_cases hlt : k + 1 < n
    · clear hk
      obtain ⟨b, off, rfl, hbS, ce, hcelle, hate⟩ := HC.out (k + 1) (by omega)
      obtain ⟨b', off', e', hbS', ca, hcella, hata⟩ := HC.out k (by omega)
      cases e'
      have hbb := hS b hbS
      have hbw := hbel.out
      rw [width_DClaimPart] at hcella
      have a0 : wr.cell? ⟨b, off + k * 7, none⟩ = some (ca 0) := (hbw.cell (p := ⟨b, off + k * 7, none⟩) (by show b < _; omega)).trans (by simpa using hcella 0 (by omega))
      have a1 : wr.cell? ⟨b, off + k * 7 + 1, none⟩ = some (ca 1) := (hbw.cell (p := ⟨b, off + k * 7 + 1, none⟩) (by show b < _; omega)).trans (by simpa using hcella 1 (by omega))
      have a2 : wr.cell? ⟨b, off + k * 7 + 2, none⟩ = some (ca 2) := (hbw.cell (p := ⟨b, off + k * 7 + 2, none⟩) (by show b < _; omega)).trans (by simpa using hcella 2 (by omega))
      have a3 : wr.cell? ⟨b, off + k * 7 + 3, none⟩ = some (ca 3) := (hbw.cell (p := ⟨b, off + k * 7 + 3, none⟩) (by show b < _; omega)).trans (by simpa using hcella 3 (by omega))
      have a4 : wr.cell? ⟨b, off + k * 7 + 4, none⟩ = some (ca 4) := (hbw.cell (p := ⟨b, off + k * 7 + 4, none⟩) (by show b < _; omega)).trans (by simpa using hcella 4 (by omega))
      have a5 : wr.cell? ⟨b, off + k * 7 + 5, none⟩ = some (ca 5) := (hbw.cell (p := ⟨b, off + k * 7 + 5, none⟩) (by show b < _; omega)).trans (by simpa using hcella 5 (by omega))
      have a6 : wr.cell? ⟨b, off + k * 7 + 6, none⟩ = some (ca 6) := (hbw.cell (p := ⟨b, off + k * 7 + 6, none⟩) (by show b < _; omega)).trans (by simpa using hcella 6 (by omega))
      clear hcella
      have hata := Lay.same hata (Same.of_below hbw hS)
      rw [at_DClaimPart] at hata
      obtain ⟨af, eaf⟩ : ∃ f, l[k]'(by omega) = f := ⟨_, rfl⟩
      rw [eaf] at hata
      obtain ⟨⟨ta0, zla0, zha0⟩, ⟨ta1, zla1, zha1⟩, la2, la3, la4, la5, ta6⟩ := hata
      obtain ⟨soa2, sca2, ta2, _⟩ := id la2
      rw [ta2] at la2
      have Ka2 : Hid _ := la2
      clear la2
      obtain ⟨soa3, sca3, ta3, _⟩ := id la3
      rw [ta3] at la3
      have Ka3 : Hid _ := la3
      clear la3
      obtain ⟨soa4, sca4, ta4, _⟩ := id la4
      rw [ta4] at la4
      have Ka4 : Hid _ := la4
      clear la4
      obtain ⟨soa5, sca5, ta5, _⟩ := id la5
      rw [ta5] at la5
      have Ka5 : Hid _ := la5
      clear la5
      rw [ta0] at a0
      rw [ta1] at a1
      rw [ta2] at a2
      rw [ta3] at a3
      rw [ta4] at a4
      rw [ta5] at a5
      rw [ta6] at a6
      clear ta0 ta1 ta2 ta3 ta4 ta5 ta6
      rw [width_DClaimPart] at hcelle
      have e0 : wr.cell? ⟨b, off + (k + 1) * 7, none⟩ = some (ce 0) := (hbw.cell (p := ⟨b, off + (k + 1) * 7, none⟩) (by show b < _; omega)).trans (by simpa using hcelle 0 (by omega))
      have e1 : wr.cell? ⟨b, off + (k + 1) * 7 + 1, none⟩ = some (ce 1) := (hbw.cell (p := ⟨b, off + (k + 1) * 7 + 1, none⟩) (by show b < _; omega)).trans (by simpa using hcelle 1 (by omega))
      have e2 : wr.cell? ⟨b, off + (k + 1) * 7 + 2, none⟩ = some (ce 2) := (hbw.cell (p := ⟨b, off + (k + 1) * 7 + 2, none⟩) (by show b < _; omega)).trans (by simpa using hcelle 2 (by omega))
      have e3 : wr.cell? ⟨b, off + (k + 1) * 7 + 3, none⟩ = some (ce 3) := (hbw.cell (p := ⟨b, off + (k + 1) * 7 + 3, none⟩) (by show b < _; omega)).trans (by simpa using hcelle 3 (by omega))
      have e4 : wr.cell? ⟨b, off + (k + 1) * 7 + 4, none⟩ = some (ce 4) := (hbw.cell (p := ⟨b, off + (k + 1) * 7 + 4, none⟩) (by show b < _; omega)).trans (by simpa using hcelle 4 (by omega))
      have e5 : wr.cell? ⟨b, off + (k + 1) * 7 + 5, none⟩ = some (ce 5) := (hbw.cell (p := ⟨b, off + (k + 1) * 7 + 5, none⟩) (by show b < _; omega)).trans (by simpa using hcelle 5 (by omega))
      have e6 : wr.cell? ⟨b, off + (k + 1) * 7 + 6, none⟩ = some (ce 6) := (hbw.cell (p := ⟨b, off + (k + 1) * 7 + 6, none⟩) (by show b < _; omega)).trans (by simpa using hcelle 6 (by omega))
      clear hcelle
      have hate := Lay.same hate (Same.of_below hbw hS)
      rw [at_DClaimPart] at hate
      obtain ⟨ef, eef⟩ : ∃ f, l[k + 1]'(by omega) = f := ⟨_, rfl⟩
      rw [eef] at hate
      obtain ⟨⟨te0, zle0, zhe0⟩, ⟨te1, zle1, zhe1⟩, le2, le3, le4, le5, te6⟩ := hate
      obtain ⟨soe2, sce2, te2, _⟩ := id le2
      rw [te2] at le2
      have Ke2 : Hid _ := le2
      clear le2
      obtain ⟨soe3, sce3, te3, _⟩ := id le3
      rw [te3] at le3
      have Ke3 : Hid _ := le3
      clear le3
      obtain ⟨soe4, sce4, te4, _⟩ := id le4
      rw [te4] at le4
      have Ke4 : Hid _ := le4
      clear le4
      obtain ⟨soe5, sce5, te5, _⟩ := id le5
      rw [te5] at le5
      have Ke5 : Hid _ := le5
      clear le5
      rw [te0] at e0
      rw [te1] at e1
      rw [te2] at e2
      rw [te3] at e3
      rw [te4] at e4
      rw [te5] at e5
      rw [te6] at e6
      clear te0 te1 te2 te3 te4 te5 te6
      clear hbw
      have qa0 := fun d os => cell_regrown a0 d os
      have qa1 := fun d os => cell_regrown a1 d os
      have qa2 := fun d os => cell_regrown a2 d os
      have qa3 := fun d os => cell_regrown a3 d os
      have qa4 := fun d os => cell_regrown a4 d os
      have qa5 := fun d os => cell_regrown a5 d os
      have qa6 := fun d os => cell_regrown a6 d os
      have qe0 := fun d os => cell_regrown e0 d os
      have qe1 := fun d os => cell_regrown e1 d os
      have qe2 := fun d os => cell_regrown e2 d os
      have qe3 := fun d os => cell_regrown e3 d os
      have qe4 := fun d os => cell_regrown e4 d os
      have qe5 := fun d os => cell_regrown e5 d os
      have qe6 := fun d os => cell_regrown e6 d os
      have hrl : asO (fun p f : DClaimPart => decide (p.1 < f.1)) (prevO l (k + 1)) (l[k + 1]'(by omega)) = decide (af.1 < ef.1) := by
        rw [prev_succ l k (by omega), eaf, eef]; rfl
      have hge : decide (0 ≤ cmpI af.1 ef.1) = !decide (af.1 < ef.1) := cmpI_ge _ _
      cases hlb : decide (af.1 < ef.1)
      · rw [hlb] at hrl
        rw [hlb, Bool.not_false] at hge
        go_wp2
        refine wp_region_quiet_below (by kernel_rfl) (by kernel_rfl) ?_
        repeat (first | go_big_quiet_step (with_reducible exact cmpClaimPart_q _ _ _ _ _ _ _ _ _ _ _ _ _ _ _ _ rfl _ _) | quiet_step (with_reducible exact cmpClaimPart_q _ _ _ _ _ _ _ _ _ _ _ _ _ _ _ _ rfl _ _))
        refine wpQuiet_nil ?_
        intro _ hw'
        obtain ⟨⟨dq, osq⟩, hw''⟩ := hw'
        subst hw''
        go_wp2
        rw [show ascB (fun p f : DClaimPart => decide (p.1 < f.1)) l = false from ok_no (k := k + 1) (by omega) hrl]
        go_ret
        exact ⟨rfl, hbel.out.trans ((below_regrown _ dq osq).mono hs)⟩
      · rw [hlb] at hrl
        rw [hlb, Bool.not_true] at hge
        go_wp2
        refine wp_region_quiet_below (by kernel_rfl) (by kernel_rfl) ?_
        repeat (first | go_big_quiet_step (with_reducible exact cmpClaimPart_q _ _ _ _ _ _ _ _ _ _ _ _ _ _ _ _ rfl _ _) | quiet_step (with_reducible exact cmpClaimPart_q _ _ _ _ _ _ _ _ _ _ _ _ _ _ _ _ rfl _ _))
        refine wpQuiet_nil ?_
        intro _ hw'
        obtain ⟨⟨dq, osq⟩, hw''⟩ := hw'
        subst hw''
        go_wp2
        go_roundw
        case rel => exact ⟨k + 1, by go_num, Or.inl (by omega), fun j hj hjk => by
          by_cases e : j = k + 1
          · subst e; exact hrl
          · exact hall.out j hj (by omega), hbel.out.trans ((below_regrown _ dq osq).mono hs)⟩
        case measure => simp [intOf]; omega
    · go_wp2
      rw [show ascB (fun p f : DClaimPart => decide (p.1 < f.1)) l = true from ok_yes (Nat.le_refl _) (fun j hj => hall.out j hj (by omega))]
      go_ret
      exact ⟨rfl, hbel.out⟩


end Go.Proofs.YticojnepejboaacGreat
