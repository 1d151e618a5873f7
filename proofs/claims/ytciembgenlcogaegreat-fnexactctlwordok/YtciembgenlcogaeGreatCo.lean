/-
  Contracts of the program's tests of lists of names and of uses: ascending, each as it is to be.
-/
import Derived.Test.YtciembgenlcogaeGreatCn
import Derived.Test.YtciembgenlcogaeGreatCwa
import Derived.Laws.EntriesVeiled
namespace Go.Proofs.YtciembgenlcogaeGreat.C
open Go.RowKit


set_option maxRecDepth 100000 in
set_option maxHeartbeats 4000000 in
theorem cmpUses_any (a b : ByteArray) (a1 b1 a2 b2 : Value) (w : World) : Calls Tryz.prog 121 #[.agg #[.string a, a1, a2], .agg #[.string b, b1, b2]] w fun e w' => e = .returned (.int .i64 (cmpB a b)) ∧ Below w.heap.size w w' := by
  go_enter Tryz.func121, Tryz.ntmps121
  go_wp2_with (go_at_call 76; refine (cmpS_any _ _ _).mono ?_; rintro e w1 ⟨rfl, rfl⟩)
  go_ret
  exact ⟨rfl, ((Below.refl _ _).alloc (Nat.le_refl _) _).alloc (by simp) _⟩

set_option maxRecDepth 100000 in
set_option maxHeartbeats 4000000 in
theorem ascstring_any (S : Nat → Prop) (v : Value) (l : List ByteArray) (w : World) (h : AtL S w l v) (hS : ∀ b, S b → b < w.heap.size) :
    Calls Tryz.prog 75 #[v, .func (.func 76) #[] #[]] w fun e w' => e = .returned (.bool (ascB (fun p f : ByteArray => ltB p f) l)) ∧ Below w.heap.size w w' := by
  obtain ⟨oa, cap, rfl, hn, hc⟩ := h
  obtain ⟨n, en⟩ : ∃ n, l.length = n := ⟨_, rfl⟩
  rw [en] at hn
  rw [en]
  unfold maxLen at hn
  have HC : Hid _ := hc
  clear hc
  go_enter Tryz.func75, Tryz.ntmps75
  go_wp2
  go_loopw [5] (fun i wr => ∃ k : Nat, i = .int .i64 ((k : Int) + 1) ∧ (k + 1 ≤ n ∨ k = 0) ∧ Hid (∀ j (hj : j < l.length), j < k + 1 → asO (fun p f : ByteArray => ltB p f) (prevO l j) l[j] = true) ∧ Hid (Below w.heap.size w wr)) (fun i _ => n - (intOf i).toNat)
  case atStart => exact ⟨0, rfl, Or.inr rfl, fun j hj h => as_zero j hj (by omega), Below.refl _ _⟩
  case round =>
    obtain ⟨k, rfl, hk, hall, hbel⟩ := hrel
    have hs := hbel.out.size
    by_cases hlt : k + 1 < n
    · clear hk
      obtain ⟨b, off, rfl, hbS, ce, hcelle, hate⟩ := HC.out (k + 1) (by omega)
      obtain ⟨b', off', e', hbS', ca, hcella, hata⟩ := HC.out k (by omega)
      cases e'
      have hbb := hS b hbS
      have hbw := hbel.out
      rw [width_str] at hcella
      have a0 : wr.cell? ⟨b, off + k, none⟩ = some (ca 0) := (hbw.cell (p := ⟨b, off + k, none⟩) (by show b < _; omega)).trans (by simpa using hcella 0 (by omega))
      clear hcella
      have hata := Lay.same hata (Same.of_below hbw hS)
      rw [at_str] at hata
      obtain ⟨af, eaf⟩ : ∃ f, l[k]'(by omega) = f := ⟨_, rfl⟩
      rw [eaf] at hata
      obtain ⟨ta0, za0⟩ := hata
      rw [ta0] at a0
      clear ta0
      rw [width_str] at hcelle
      have e0 : wr.cell? ⟨b, off + (k + 1), none⟩ = some (ce 0) := (hbw.cell (p := ⟨b, off + (k + 1), none⟩) (by show b < _; omega)).trans (by simpa using hcelle 0 (by omega))
      clear hcelle
      have hate := Lay.same hate (Same.of_below hbw hS)
      rw [at_str] at hate
      obtain ⟨ef, eef⟩ : ∃ f, l[k + 1]'(by omega) = f := ⟨_, rfl⟩
      rw [eef] at hate
      obtain ⟨te0, ze0⟩ := hate
      rw [te0] at e0
      clear te0
      clear hbw
      have qa0 := fun d os => cell_regrown a0 d os
      have qe0 := fun d os => cell_regrown e0 d os
      have hrl : asO (fun p f : ByteArray => ltB p f) (prevO l (k + 1)) (l[k + 1]'(by omega)) = ltB af ef := by
        rw [prev_succ l k (by omega), eaf, eef]; rfl
      have hge : decide (0 ≤ cmpB af ef) = !ltB af ef := cmpB_ge _ _
      cases hlb : ltB af ef
      · rw [hlb] at hrl
        rw [hlb, Bool.not_false] at hge
        go_wp2
        refine wp_region_quiet_below (by kernel_rfl) (by kernel_rfl) ?_
        repeat (first | go_big_quiet_step (with_reducible exact cmpSr _ _ _ _ rfl _ _) | quiet_step (with_reducible exact cmpSr _ _ _ _ rfl _ _))
        refine wpQuiet_nil ?_
        intro _ hw'
        obtain ⟨⟨dq, osq⟩, hw''⟩ := hw'
        subst hw''
        go_wp2
        rw [show ascB (fun p f : ByteArray => ltB p f) l = false from ok_no (k := k + 1) (by omega) hrl]
        go_ret
        exact ⟨rfl, hbel.out.trans ((below_regrown _ dq osq).mono hs)⟩
      · rw [hlb] at hrl
        rw [hlb, Bool.not_true] at hge
        go_wp2
        refine wp_region_quiet_below (by kernel_rfl) (by kernel_rfl) ?_
        repeat (first | go_big_quiet_step (with_reducible exact cmpSr _ _ _ _ rfl _ _) | quiet_step (with_reducible exact cmpSr _ _ _ _ rfl _ _))
        refine wpQuiet_nil ?_
        intro _ hw'
        obtain ⟨⟨dq, osq⟩, hw''⟩ := hw'
        subst hw''
        go_wp2
        go_roundw
        case rel => exact ⟨k + 1, by go_num, Or.inl (by omega), fun j hj hjk => by
          by_cases e : j = k + 1
          · subst e; exact hrl
          · exact hall.out j hj (by omega), hbel.out.trans ((below_regrown _ dq osq).mono hs)⟩
        case measure => simp [intOf]; omega
    · go_wp2
      rw [show ascB (fun p f : ByteArray => ltB p f) l = true from ok_yes (Nat.le_refl _) (fun j hj => hall.out j hj (by omega))]
      go_ret
      exact ⟨rfl, hbel.out⟩

open Go.Sort in
theorem cmpClaimUse_q (a b : ByteArray) (a1 b1 a2 b2 : Value) (wr : World) (r : Int) (hr : cmpB a b = r) (d : Nat) (os : Array Obj) : Calls Tryz.prog 121 #[.agg #[.string a, a1, a2], .agg #[.string b, b1, b2]] (grow (redrawn wr d) os) fun e w'' => e = .returned (.int .i64 r) ∧ ∃ p : Regrown, w'' = grow (redrawn wr p.d) p.os :=
  Calls.regrown_of (by subst hr; exact cmpUses_any a b a1 b1 a2 b2 _)

set_option maxRecDepth 100000 in
set_option maxHeartbeats 4000000 in
theorem ascClaimUse_any (S : Nat → Prop) (v : Value) (l : List DClaimUse) (w : World) (h : AtL S w l v) (hS : ∀ b, S b → b < w.heap.size) :
    Calls Tryz.prog 130 #[v, .func (.func 121) #[] #[]] w fun e w' => e = .returned (.bool (ascB (fun p f : DClaimUse => ltB p.1 f.1) l)) ∧ Below w.heap.size w w' := by
  obtain ⟨oa, cap, rfl, hn, hc⟩ := h
  obtain ⟨n, en⟩ : ∃ n, l.length = n := ⟨_, rfl⟩
  rw [en] at hn
  rw [en]
  unfold maxLen at hn
  have HC : Hid _ := hc
  clear hc
  go_enter Tryz.func130, Tryz.ntmps130
  go_wp2
  go_loopw [5] (fun i wr => ∃ k : Nat, i = .int .i64 ((k : Int) + 1) ∧ (k + 1 ≤ n ∨ k = 0) ∧ Hid (∀ j (hj : j < l.length), j < k + 1 → asO (fun p f : DClaimUse => ltB p.1 f.1) (prevO l j) l[j] = true) ∧ Hid (Below w.heap.size w wr)) (fun i _ => n - (intOf i).toNat)
  case atStart => exact ⟨0, rfl, Or.inr rfl, fun j hj h => as_zero j hj (by omega), Below.refl _ _⟩
  case round =>
    obtain ⟨k, rfl, hk, hall, hbel⟩ := hrel
    have hs := hbel.out.size
    by_cases hlt : k + 1 < n
    · clear hk
      obtain ⟨b, off, rfl, hbS, ce, hcelle, hate⟩ := HC.out (k + 1) (by omega)
      obtain ⟨b', off', e', hbS', ca, hcella, hata⟩ := HC.out k (by omega)
      cases e'
      have hbb := hS b hbS
      have hbw := hbel.out
      rw [width_DClaimUse] at hcella
      have a0 : wr.cell? ⟨b, off + k * 3, none⟩ = some (ca 0) := (hbw.cell (p := ⟨b, off + k * 3, none⟩) (by show b < _; omega)).trans (by simpa using hcella 0 (by omega))
      have a1 : wr.cell? ⟨b, off + k * 3 + 1, none⟩ = some (ca 1) := (hbw.cell (p := ⟨b, off + k * 3 + 1, none⟩) (by show b < _; omega)).trans (by simpa using hcella 1 (by omega))
      have a2 : wr.cell? ⟨b, off + k * 3 + 2, none⟩ = some (ca 2) := (hbw.cell (p := ⟨b, off + k * 3 + 2, none⟩) (by show b < _; omega)).trans (by simpa using hcella 2 (by omega))
      clear hcella
      have hata := Lay.same hata (Same.of_below hbw hS)
      rw [at_DClaimUse] at hata
      obtain ⟨af, eaf⟩ : ∃ f, l[k]'(by omega) = f := ⟨_, rfl⟩
      rw [eaf] at hata
      obtain ⟨⟨ta0, za0⟩, ⟨ta1, zla1, zha1⟩, ⟨ta2, zla2, zha2⟩⟩ := hata
      rw [ta0] at a0
      rw [ta1] at a1
      rw [ta2] at a2
      clear ta0 ta1 ta2
      rw [width_DClaimUse] at hcelle
      have e0 : wr.cell? ⟨b, off + (k + 1) * 3, none⟩ = some (ce 0) := (hbw.cell (p := ⟨b, off + (k + 1) * 3, none⟩) (by show b < _; omega)).trans (by simpa using hcelle 0 (by omega))
      have e1 : wr.cell? ⟨b, off + (k + 1) * 3 + 1, none⟩ = some (ce 1) := (hbw.cell (p := ⟨b, off + (k + 1) * 3 + 1, none⟩) (by show b < _; omega)).trans (by simpa using hcelle 1 (by omega))
      have e2 : wr.cell? ⟨b, off + (k + 1) * 3 + 2, none⟩ = some (ce 2) := (hbw.cell (p := ⟨b, off + (k + 1) * 3 + 2, none⟩) (by show b < _; omega)).trans (by simpa using hcelle 2 (by omega))
      clear hcelle
      have hate := Lay.same hate (Same.of_below hbw hS)
      rw [at_DClaimUse] at hate
      obtain ⟨ef, eef⟩ : ∃ f, l[k + 1]'(by omega) = f := ⟨_, rfl⟩
      rw [eef] at hate
      obtain ⟨⟨te0, ze0⟩, ⟨te1, zle1, zhe1⟩, ⟨te2, zle2, zhe2⟩⟩ := hate
      rw [te0] at e0
      rw [te1] at e1
      rw [te2] at e2
      clear te0 te1 te2
      clear hbw
      have qa0 := fun d os => cell_regrown a0 d os
      have qa1 := fun d os => cell_regrown a1 d os
      have qa2 := fun d os => cell_regrown a2 d os
      have qe0 := fun d os => cell_regrown e0 d os
      have qe1 := fun d os => cell_regrown e1 d os
      have qe2 := fun d os => cell_regrown e2 d os
      have hrl : asO (fun p f : DClaimUse => ltB p.1 f.1) (prevO l (k + 1)) (l[k + 1]'(by omega)) = ltB af.1 ef.1 := by
        rw [prev_succ l k (by omega), eaf, eef]; rfl
      have hge : decide (0 ≤ cmpB af.1 ef.1) = !ltB af.1 ef.1 := cmpB_ge _ _
      cases hlb : ltB af.1 ef.1
      · rw [hlb] at hrl
        rw [hlb, Bool.not_false] at hge
        go_wp2
        refine wp_region_quiet_below (by kernel_rfl) (by kernel_rfl) ?_
        repeat (first | go_big_quiet_step (with_reducible exact cmpClaimUse_q _ _ _ _ _ _ _ _ rfl _ _) | quiet_step (with_reducible exact cmpClaimUse_q _ _ _ _ _ _ _ _ rfl _ _))
        refine wpQuiet_nil ?_
        intro _ hw'
        obtain ⟨⟨dq, osq⟩, hw''⟩ := hw'
        subst hw''
        go_wp2
        rw [show ascB (fun p f : DClaimUse => ltB p.1 f.1) l = false from ok_no (k := k + 1) (by omega) hrl]
        go_ret
        exact ⟨rfl, hbel.out.trans ((below_regrown _ dq osq).mono hs)⟩
      · rw [hlb] at hrl
        rw [hlb, Bool.not_true] at hge
        go_wp2
        refine wp_region_quiet_below (by kernel_rfl) (by kernel_rfl) ?_
        repeat (first | go_big_quiet_step (with_reducible exact cmpClaimUse_q _ _ _ _ _ _ _ _ rfl _ _) | quiet_step (with_reducible exact cmpClaimUse_q _ _ _ _ _ _ _ _ rfl _ _))
        refine wpQuiet_nil ?_
        intro _ hw'
        obtain ⟨⟨dq, osq⟩, hw''⟩ := hw'
        subst hw''
        go_wp2
        go_roundw
        case rel => exact ⟨k + 1, by go_num, Or.inl (by omega), fun j hj hjk => by
          by_cases e : j = k + 1
          · subst e; exact hrl
          · exact hall.out j hj (by omega), hbel.out.trans ((below_regrown _ dq osq).mono hs)⟩
        case measure => simp [intOf]; omega
    · go_wp2
      rw [show ascB (fun p f : DClaimUse => ltB p.1 f.1) l = true from ok_yes (Nat.le_refl _) (fun j hj => hall.out j hj (by omega))]
      go_ret
      exact ⟨rfl, hbel.out⟩


/-- Is nothing moved? -/
def nothB (r m : Int) : Bool := decide (r = 3 ∧ m = 0)
/-- May a want of a kind use a place so? -/
def mayP (kd r m : Int) : Bool := if kd = 1 ∧ (r = 1 ∨ r = 2) then inB m 1 1000 else nothB r m
/-- What the program makes of a want's kind. -/
def clV (kd : Int) (v : Value) : Value := if kd = 1 then .iface 173 (.agg #[v]) else if kd = 2 then .iface 174 (.agg #[]) else if kd = 3 then .iface 175 (.agg #[]) else .iface 188 (.agg #[])

set_option maxRecDepth 100000 in
set_option maxHeartbeats 4000000 in
theorem movesNo_any (a : Value) (r m : Int) (w : World) :
    Calls Tryz.prog 151 #[.agg #[a, .int .i64 r, .int .i64 m]] w fun e w' => e = .returned (.bool (nothB r m)) ∧ Below w.heap.size w w' := by
  by_cases h1 : r = 3
  · have g1 : (r == 3) = true := by simpa using h1
    by_cases h2 : m = 0
    · have g2 : (m == 0) = true := by simpa using h2
      rw [show nothB r m = true from decide_eq_true ⟨h1, h2⟩]
      clear h1 h2
      go_enter Tryz.func151, Tryz.ntmps151
      go_wp2
      go_ret
      exact ⟨rfl, (Below.refl _ _).alloc (Nat.le_refl _) _⟩
    · have g2 : (m == 0) = false := by simpa using h2
      rw [show nothB r m = false from decide_eq_false (fun h => h2 h.2)]
      clear h1 h2
      go_enter Tryz.func151, Tryz.ntmps151
      go_wp2
      go_ret
      exact ⟨rfl, (Below.refl _ _).alloc (Nat.le_refl _) _⟩
  · have g1 : (r == 3) = false := by simpa using h1
    rw [show nothB r m = false from decide_eq_false (fun h => h1 h.1)]
    clear h1
    go_enter Tryz.func151, Tryz.ntmps151
    go_wp2
    go_ret
    exact ⟨rfl, (Below.refl _ _).alloc (Nat.le_refl _) _⟩

set_option maxRecDepth 100000 in
set_option maxHeartbeats 4000000 in
theorem mayMove_any (v a : Value) (r m : Int) (w : World) :
    Calls Tryz.prog 156 #[.agg #[v], .agg #[a, .int .i64 r, .int .i64 m]] w fun e w' => e = .returned (.bool (mayP 1 r m)) ∧ Below w.heap.size w w' := by
  by_cases h12 : r = 1 ∨ r = 2
  · have hp : mayP 1 r m = inB m 1 1000 := by unfold mayP; rw [if_pos ⟨rfl, h12⟩]
    rw [hp]
    by_cases h1 : 1 ≤ m
    · have d1 : decide ((1 : Int) ≤ m) = true := by simpa using h1
      by_cases h2 : m ≤ 1000
      · have d2 : decide (m ≤ (1000 : Int)) = true := by simpa using h2
        have hin : inB m 1 1000 = true := by simp [inB, h1, h2]
        rw [hin]
        clear h1 h2
        rcases h12 with h | h
        · subst h
          go_enter Tryz.func156, Tryz.ntmps156
          go_wp2
          go_ret
          exact ⟨rfl, ((Below.refl _ _).alloc (Nat.le_refl _) _).alloc (by simp) _⟩
        · subst h
          go_enter Tryz.func156, Tryz.ntmps156
          go_wp2
          go_ret
          exact ⟨rfl, ((Below.refl _ _).alloc (Nat.le_refl _) _).alloc (by simp) _⟩
      · have d2 : decide (m ≤ (1000 : Int)) = false := by simpa using h2
        have hin : inB m 1 1000 = false := by simp [inB]; omega
        rw [hin]
        clear h1 h2
        rcases h12 with h | h
        · subst h
          go_enter Tryz.func156, Tryz.ntmps156
          go_wp2
          go_ret
          exact ⟨rfl, ((Below.refl _ _).alloc (Nat.le_refl _) _).alloc (by simp) _⟩
        · subst h
          go_enter Tryz.func156, Tryz.ntmps156
          go_wp2
          go_ret
          exact ⟨rfl, ((Below.refl _ _).alloc (Nat.le_refl _) _).alloc (by simp) _⟩
    · have d1 : decide ((1 : Int) ≤ m) = false := by simpa using h1
      have hin : inB m 1 1000 = false := by simp [inB]; omega
      rw [hin]
      clear h1
      rcases h12 with h | h
      · subst h
        go_enter Tryz.func156, Tryz.ntmps156
        go_wp2
        go_ret
        exact ⟨rfl, ((Below.refl _ _).alloc (Nat.le_refl _) _).alloc (by simp) _⟩
      · subst h
        go_enter Tryz.func156, Tryz.ntmps156
        go_wp2
        go_ret
        exact ⟨rfl, ((Below.refl _ _).alloc (Nat.le_refl _) _).alloc (by simp) _⟩
  · have hp : mayP 1 r m = nothB r m := by unfold mayP; rw [if_neg (fun h => h12 h.2)]
    rw [hp]
    have g1 : (r == 1) = false := by simp; omega
    have g2 : (r == 2) = false := by simp; omega
    clear h12
    go_enter Tryz.func156, Tryz.ntmps156
    go_wp2_with (go_at_call 151; refine (movesNo_any _ _ _ _).mono ?_; rintro e w1 ⟨rfl, hb1⟩)
    go_ret
    exact ⟨rfl, (((Below.refl _ _).alloc (Nat.le_refl _) _).alloc (by simp) _).trans (hb1.mono (by simp; omega))⟩

set_option maxRecDepth 100000 in
set_option maxHeartbeats 4000000 in
theorem mayClean_any (a : Value) (r m : Int) (w : World) :
    Calls Tryz.prog 157 #[.agg #[], .agg #[a, .int .i64 r, .int .i64 m]] w fun e w' => e = .returned (.bool (mayP 2 r m)) ∧ Below w.heap.size w w' := by
  have hp : mayP 2 r m = nothB r m := by unfold mayP; rw [if_neg (fun h => by omega)]
  rw [hp]
  go_enter Tryz.func157, Tryz.ntmps157
  go_wp2_with (go_at_call 151; refine (movesNo_any _ _ _ _).mono ?_; rintro e w1 ⟨rfl, hb1⟩)
  go_ret
  exact ⟨rfl, (((Below.refl _ _).alloc (Nat.le_refl _) _).alloc (by simp) _).trans (hb1.mono (by simp; omega))⟩

set_option maxRecDepth 100000 in
set_option maxHeartbeats 4000000 in
theorem mayPermit_any (a : Value) (r m : Int) (w : World) :
    Calls Tryz.prog 158 #[.agg #[], .agg #[a, .int .i64 r, .int .i64 m]] w fun e w' => e = .returned (.bool (mayP 3 r m)) ∧ Below w.heap.size w w' := by
  have hp : mayP 3 r m = nothB r m := by unfold mayP; rw [if_neg (fun h => by omega)]
  rw [hp]
  go_enter Tryz.func158, Tryz.ntmps158
  go_wp2_with (go_at_call 151; refine (movesNo_any _ _ _ _).mono ?_; rintro e w1 ⟨rfl, hb1⟩)
  go_ret
  exact ⟨rfl, (((Below.refl _ _).alloc (Nat.le_refl _) _).alloc (by simp) _).trans (hb1.mono (by simp; omega))⟩

set_option maxRecDepth 100000 in
set_option maxHeartbeats 4000000 in
theorem use1_any (a : ByteArray) (r m : Int) (v : Value) (nb : Nat) (w : World) (ha : a.size ≤ maxLen) (hx : w.cell? ⟨nb, 0, none⟩ = some (.iface 173 (.agg #[v]))) (hnb : nb < w.heap.size) :
    Calls Tryz.prog 122 #[.agg #[.string a, .int .i64 r, .int .i64 m], .pointer (some ⟨nb, 0, none⟩)] w fun e w' => e = .returned (.bool (nameB a && mayP 1 r m)) ∧ Below w.heap.size w w' := by
  have qx := fun o => cell_past hx hnb o
  cases h0 : nameB a
  · go_enter Tryz.func122, Tryz.ntmps122
    go_wp2_with fail
    refine (nameI_any _ _ ha).mono ?_
    rintro e w1 ⟨rfl, hb1⟩
    rw [h0]
    have hbel1 : Hid (Below (w.heap.size + 1) (w.alloc (.cells #[.string a, .int .i64 r, .int .i64 m] 108)) w1) := by simpa [Hid] using hb1
    have y10 := box_at _ _ hbel1.out 0 (.string a) rfl
    have y11 := box_at _ _ hbel1.out 1 (.int .i64 r) rfl
    have y12 := box_at _ _ hbel1.out 2 (.int .i64 m) rfl
    clear hb1
    have x1 := (below_end hbel1.out).cell (p := ⟨nb, 0, none⟩) hnb |>.trans hx
    go_wp2_with fail
    go_ret
    exact ⟨rfl, below_end hbel1.out⟩
  · go_enter Tryz.func122, Tryz.ntmps122
    go_wp2_with fail
    refine (nameI_any _ _ ha).mono ?_
    rintro e w1 ⟨rfl, hb1⟩
    rw [h0]
    have hbel1 : Hid (Below (w.heap.size + 1) (w.alloc (.cells #[.string a, .int .i64 r, .int .i64 m] 108)) w1) := by simpa [Hid] using hb1
    have y10 := box_at _ _ hbel1.out 0 (.string a) rfl
    have y11 := box_at _ _ hbel1.out 1 (.int .i64 r) rfl
    have y12 := box_at _ _ hbel1.out 2 (.int .i64 m) rfl
    clear hb1
    have x1 := (below_end hbel1.out).cell (p := ⟨nb, 0, none⟩) hnb |>.trans hx
    go_wp2_with fail
    refine (mayMove_any v _ _ _ _).mono ?_
    rintro e w2 ⟨rfl, hb2⟩
    have hbel2 : Hid (Below (w.heap.size + 1) (w.alloc (.cells #[.string a, .int .i64 r, .int .i64 m] 108)) w2) := below_of hbel1.out hb2
    have y20 := box_at _ _ hbel2.out 0 (.string a) rfl
    have y21 := box_at _ _ hbel2.out 1 (.int .i64 r) rfl
    have y22 := box_at _ _ hbel2.out 2 (.int .i64 m) rfl
    clear hb2
    go_wp2_with fail
    go_ret
    exact ⟨rfl, below_end hbel2.out⟩

set_option maxRecDepth 100000 in
set_option maxHeartbeats 4000000 in
theorem use2_any (a : ByteArray) (r m : Int) (nb : Nat) (w : World) (ha : a.size ≤ maxLen) (hx : w.cell? ⟨nb, 0, none⟩ = some (.iface 174 (.agg #[]))) (hnb : nb < w.heap.size) :
    Calls Tryz.prog 122 #[.agg #[.string a, .int .i64 r, .int .i64 m], .pointer (some ⟨nb, 0, none⟩)] w fun e w' => e = .returned (.bool (nameB a && mayP 2 r m)) ∧ Below w.heap.size w w' := by
  have qx := fun o => cell_past hx hnb o
  cases h0 : nameB a
  · go_enter Tryz.func122, Tryz.ntmps122
    go_wp2_with fail
    refine (nameI_any _ _ ha).mono ?_
    rintro e w1 ⟨rfl, hb1⟩
    rw [h0]
    have hbel1 : Hid (Below (w.heap.size + 1) (w.alloc (.cells #[.string a, .int .i64 r, .int .i64 m] 108)) w1) := by simpa [Hid] using hb1
    have y10 := box_at _ _ hbel1.out 0 (.string a) rfl
    have y11 := box_at _ _ hbel1.out 1 (.int .i64 r) rfl
    have y12 := box_at _ _ hbel1.out 2 (.int .i64 m) rfl
    clear hb1
    have x1 := (below_end hbel1.out).cell (p := ⟨nb, 0, none⟩) hnb |>.trans hx
    go_wp2_with fail
    go_ret
    exact ⟨rfl, below_end hbel1.out⟩
  · go_enter Tryz.func122, Tryz.ntmps122
    go_wp2_with fail
    refine (nameI_any _ _ ha).mono ?_
    rintro e w1 ⟨rfl, hb1⟩
    rw [h0]
    have hbel1 : Hid (Below (w.heap.size + 1) (w.alloc (.cells #[.string a, .int .i64 r, .int .i64 m] 108)) w1) := by simpa [Hid] using hb1
    have y10 := box_at _ _ hbel1.out 0 (.string a) rfl
    have y11 := box_at _ _ hbel1.out 1 (.int .i64 r) rfl
    have y12 := box_at _ _ hbel1.out 2 (.int .i64 m) rfl
    clear hb1
    have x1 := (below_end hbel1.out).cell (p := ⟨nb, 0, none⟩) hnb |>.trans hx
    go_wp2_with fail
    refine (mayClean_any _ _ _ _).mono ?_
    rintro e w2 ⟨rfl, hb2⟩
    have hbel2 : Hid (Below (w.heap.size + 1) (w.alloc (.cells #[.string a, .int .i64 r, .int .i64 m] 108)) w2) := below_of hbel1.out hb2
    have y20 := box_at _ _ hbel2.out 0 (.string a) rfl
    have y21 := box_at _ _ hbel2.out 1 (.int .i64 r) rfl
    have y22 := box_at _ _ hbel2.out 2 (.int .i64 m) rfl
    clear hb2
    go_wp2_with fail
    go_ret
    exact ⟨rfl, below_end hbel2.out⟩

set_option maxRecDepth 100000 in
set_option maxHeartbeats 4000000 in
theorem use3_any (a : ByteArray) (r m : Int) (nb : Nat) (w : World) (ha : a.size ≤ maxLen) (hx : w.cell? ⟨nb, 0, none⟩ = some (.iface 175 (.agg #[]))) (hnb : nb < w.heap.size) :
    Calls Tryz.prog 122 #[.agg #[.string a, .int .i64 r, .int .i64 m], .pointer (some ⟨nb, 0, none⟩)] w fun e w' => e = .returned (.bool (nameB a && mayP 3 r m)) ∧ Below w.heap.size w w' := by
  have qx := fun o => cell_past hx hnb o
  cases h0 : nameB a
  · go_enter Tryz.func122, Tryz.ntmps122
    go_wp2_with fail
    refine (nameI_any _ _ ha).mono ?_
    rintro e w1 ⟨rfl, hb1⟩
    rw [h0]
    have hbel1 : Hid (Below (w.heap.size + 1) (w.alloc (.cells #[.string a, .int .i64 r, .int .i64 m] 108)) w1) := by simpa [Hid] using hb1
    have y10 := box_at _ _ hbel1.out 0 (.string a) rfl
    have y11 := box_at _ _ hbel1.out 1 (.int .i64 r) rfl
    have y12 := box_at _ _ hbel1.out 2 (.int .i64 m) rfl
    clear hb1
    have x1 := (below_end hbel1.out).cell (p := ⟨nb, 0, none⟩) hnb |>.trans hx
    go_wp2_with fail
    go_ret
    exact ⟨rfl, below_end hbel1.out⟩
  · go_enter Tryz.func122, Tryz.ntmps122
    go_wp2_with fail
    refine (nameI_any _ _ ha).mono ?_
    rintro e w1 ⟨rfl, hb1⟩
    rw [h0]
    have hbel1 : Hid (Below (w.heap.size + 1) (w.alloc (.cells #[.string a, .int .i64 r, .int .i64 m] 108)) w1) := by simpa [Hid] using hb1
    have y10 := box_at _ _ hbel1.out 0 (.string a) rfl
    have y11 := box_at _ _ hbel1.out 1 (.int .i64 r) rfl
    have y12 := box_at _ _ hbel1.out 2 (.int .i64 m) rfl
    clear hb1
    have x1 := (below_end hbel1.out).cell (p := ⟨nb, 0, none⟩) hnb |>.trans hx
    go_wp2_with fail
    refine (mayPermit_any _ _ _ _).mono ?_
    rintro e w2 ⟨rfl, hb2⟩
    have hbel2 : Hid (Below (w.heap.size + 1) (w.alloc (.cells #[.string a, .int .i64 r, .int .i64 m] 108)) w2) := below_of hbel1.out hb2
    have y20 := box_at _ _ hbel2.out 0 (.string a) rfl
    have y21 := box_at _ _ hbel2.out 1 (.int .i64 r) rfl
    have y22 := box_at _ _ hbel2.out 2 (.int .i64 m) rfl
    clear hb2
    go_wp2_with fail
    go_ret
    exact ⟨rfl, below_end hbel2.out⟩

/-- A kind in a box that a test has caught. -/
structure CapK (w : World) (nb : Nat) (kd : Int) (v : Value) : Prop where
  lt : nb < w.heap.size
  c0 : w.cell? ⟨nb, 0, none⟩ = some (clV kd v)
  k : kd = 1 ∨ kd = 2 ∨ kd = 3
theorem CapK.below {w w' : World} {nb B : Nat} {kd : Int} {v : Value} (h : CapK w nb kd v) (hb : Below B w w') (hB : w.heap.size ≤ B) : CapK w' nb kd v := by
  have hn := h.lt
  have hb' := hb.mono hB
  exact ⟨Nat.lt_of_lt_of_le hn hb'.size, (hb'.cell (p := ⟨nb, 0, none⟩) hn).trans h.c0, h.k⟩
theorem use_any (a : ByteArray) (r m kd : Int) (v : Value) (nb : Nat) (w : World) (ha : a.size ≤ maxLen) (h : CapK w nb kd v) :
    Calls Tryz.prog 122 #[.agg #[.string a, .int .i64 r, .int .i64 m], .pointer (some ⟨nb, 0, none⟩)] w fun e w' => e = .returned (.bool (nameB a && mayP kd r m)) ∧ Below w.heap.size w w' := by
  have hc := h.c0
  rcases h.k with rfl | rfl | rfl
  · exact use1_any a r m v nb w ha hc h.lt
  · exact use2_any a r m nb w ha hc h.lt
  · exact use3_any a r m nb w ha hc h.lt

set_option maxRecDepth 100000 in
set_option maxHeartbeats 4000000 in
theorem liststring_any (S : Nat → Prop) (v : Value) (l : List ByteArray) (lim : Nat) (w : World) (h : AtL S w l v) (hS : ∀ b, S b → b < w.heap.size) :
    Calls Tryz.prog 119 #[v, .int .i64 lim, .func (.func 76) #[] #[], .func (.func 74) #[] #[]] w fun e w' => e = .returned (.bool (okB lim (tst (fun f : ByteArray => nameB f) (fun p f : ByteArray => ltB p f)) l)) ∧ Below w.heap.size w w' := by
  have H : Hid (AtL S w l v) := h
  obtain ⟨oa, cap, hv, hn, hc⟩ := h
  rw [hv] at H
  subst hv
  obtain ⟨n, en⟩ : ∃ n, l.length = n := ⟨_, rfl⟩
  rw [en] at hn H
  rw [en]
  unfold maxLen at hn
  have HC : Hid _ := hc
  clear hc
  by_cases hl : n ≤ lim
  · have dl : decide (lim < n) = false := by simp; omega
    go_enter Tryz.func119, Tryz.ntmps119
    go_wp2
    go_loopw [17] (fun i wr => ∃ k : Nat, k ≤ n ∧ i = .int .i64 k ∧ Hid (∀ j (hj : j < l.length), j < k → (fun f : ByteArray => nameB f) l[j] = true) ∧ Hid (Below w.heap.size w wr)) (fun i _ => n - (intOf i).toNat)
    case atStart => exact ⟨0, Nat.zero_le _, rfl, fun _ _ h => by omega, Below.refl _ _⟩
    case round =>
      obtain ⟨k, hk, rfl, hall, hbel⟩ := hrel
      have hs := hbel.out.size
      have hSr : ∀ b, S b → b < wr.heap.size := fun b hb => by have := hS b hb; omega
      by_cases hlt : k < n
      · obtain ⟨b, off, rfl, hbS, ce, hcelle, hate⟩ := HC.out k (by omega)
        have hbb := hS b hbS
        have hbw := hbel.out
        rw [width_str] at hcelle
        have e0 : wr.cell? ⟨b, off + k, none⟩ = some (ce 0) := (hbw.cell (p := ⟨b, off + k, none⟩) (by show b < _; omega)).trans (by simpa using hcelle 0 (by omega))
        clear hcelle
        have hate := Lay.same hate (Same.of_below hbw hS)
        rw [at_str] at hate
        obtain ⟨ef, eef⟩ : ∃ f, l[k]'(by omega) = f := ⟨_, rfl⟩
        rw [eef] at hate
        obtain ⟨te0, ze0⟩ := hate
        rw [te0] at e0
        clear te0
        clear hbw
        have hB1 : Hid (Below w.heap.size w wr) := hbel
        have hP : (fun f : ByteArray => nameB f) (l[k]'(by omega)) = (nameB ef) := by rw [eef]
        cases hy : (nameB ef)
        · rw [hy] at hP
          go_wp2_with (go_at_call 74; refine (nameI_any _ _ ze0).mono ?_; rintro e w1 ⟨rfl, hb1⟩; rw [hy])
          rw [tst_no (k := k) (by omega) hP]
          go_ret
          exact ⟨rfl, hB1.out.trans (hb1.mono hB1.out.size)⟩
        · rw [hy] at hP
          go_wp2_with (go_at_call 74; refine (nameI_any _ _ ze0).mono ?_; rintro e w1 ⟨rfl, hb1⟩; rw [hy])
          go_roundw
          case rel => exact ⟨k + 1, by omega, by go_num, fun j hj hjk => by
            by_cases e : j = k
            · subst e; exact hP
            · exact hall.out j hj (by omega), hB1.out.trans (hb1.mono hB1.out.size)⟩
          case measure => simp [intOf]; omega
      · go_wp2_with (go_at_call 75; refine (ascstring_any S _ l _ (H.out.same (Same.of_below hbel.out hS)) hSr).mono ?_; rintro e w1 ⟨rfl, hb1⟩)
        rw [tst_asc (by omega) (fun j hj => hall.out j hj (by omega))]
        go_ret
        exact ⟨rfl, hbel.out.trans (hb1.mono hs)⟩
  · have dl : decide (lim < n) = true := by simp; omega
    rw [ok_long (by omega)]
    go_enter Tryz.func119, Tryz.ntmps119
    go_wp2
    go_ret
    exact ⟨rfl, Below.refl _ _⟩


set_option maxRecDepth 100000 in
set_option maxHeartbeats 4000000 in
theorem listClaimUse_any (S : Nat → Prop) (nb : Nat) (kd : Int) (vk : Value) (v : Value) (l : List DClaimUse) (lim : Nat) (w : World) (h : AtL S w l v) (hS : ∀ b, S b → b < w.heap.size) (hK : CapK w nb kd vk) :
    Calls Tryz.prog 120 #[v, .int .i64 lim, .func (.func 121) #[] #[], .func (.func 122) #[] #[.pointer (some ⟨nb, 0, none⟩)]] w fun e w' => e = .returned (.bool (okB lim (tst (fun f : DClaimUse => nameB f.1 && mayP kd f.2.1 f.2.2) (fun p f : DClaimUse => ltB p.1 f.1)) l)) ∧ Below w.heap.size w w' := by
  have H : Hid (AtL S w l v) := h
  obtain ⟨oa, cap, hv, hn, hc⟩ := h
  rw [hv] at H
  subst hv
  obtain ⟨n, en⟩ : ∃ n, l.length = n := ⟨_, rfl⟩
  rw [en] at hn H
  rw [en]
  unfold maxLen at hn
  have HC : Hid _ := hc
  clear hc
  have HK : Hid (CapK w nb kd vk) := hK
  clear hK
  by_cases hl : n ≤ lim
  · have dl : decide (lim < n) = false := by simp; omega
    go_enter Tryz.func120, Tryz.ntmps120
    go_wp2
    go_loopw [17] (fun i wr => ∃ k : Nat, k ≤ n ∧ i = .int .i64 k ∧ Hid (∀ j (hj : j < l.length), j < k → (fun f : DClaimUse => nameB f.1 && mayP kd f.2.1 f.2.2) l[j] = true) ∧ Hid (Below w.heap.size w wr)) (fun i _ => n - (intOf i).toNat)
    case atStart => exact ⟨0, Nat.zero_le _, rfl, fun _ _ h => by omega, Below.refl _ _⟩
    case round =>
      obtain ⟨k, hk, rfl, hall, hbel⟩ := hrel
      have hs := hbel.out.size
      have hSr : ∀ b, S b → b < wr.heap.size := fun b hb => by have := hS b hb; omega
      by_cases hlt : k < n
      · obtain ⟨b, off, rfl, hbS, ce, hcelle, hate⟩ := HC.out k (by omega)
        have hbb := hS b hbS
        have hbw := hbel.out
        rw [width_DClaimUse] at hcelle
        have e0 : wr.cell? ⟨b, off + k * 3, none⟩ = some (ce 0) := (hbw.cell (p := ⟨b, off + k * 3, none⟩) (by show b < _; omega)).trans (by simpa using hcelle 0 (by omega))
        have e1 : wr.cell? ⟨b, off + k * 3 + 1, none⟩ = some (ce 1) := (hbw.cell (p := ⟨b, off + k * 3 + 1, none⟩) (by show b < _; omega)).trans (by simpa using hcelle 1 (by omega))
        have e2 : wr.cell? ⟨b, off + k * 3 + 2, none⟩ = some (ce 2) := (hbw.cell (p := ⟨b, off + k * 3 + 2, none⟩) (by show b < _; omega)).trans (by simpa using hcelle 2 (by omega))
        clear hcelle
        have hate := Lay.same hate (Same.of_below hbw hS)
        rw [at_DClaimUse] at hate
        obtain ⟨ef, eef⟩ : ∃ f, l[k]'(by omega) = f := ⟨_, rfl⟩
        rw [eef] at hate
        obtain ⟨⟨te0, ze0⟩, ⟨te1, zle1, zhe1⟩, ⟨te2, zle2, zhe2⟩⟩ := hate
        rw [te0] at e0
        rw [te1] at e1
        rw [te2] at e2
        clear te0 te1 te2
        clear hbw
        have hB1 : Hid (Below w.heap.size w (wr.alloc (.cells #[.string ef.1, .int .i64 ef.2.1, .int .i64 ef.2.2] 108))) := hbel.out.alloc hs _
        have KA : Hid (CapK (wr.alloc (.cells #[.string ef.1, .int .i64 ef.2.1, .int .i64 ef.2.2] 108)) nb kd vk) := HK.out.below hB1.out (Nat.le_refl _)
        have hP : (fun f : DClaimUse => nameB f.1 && mayP kd f.2.1 f.2.2) (l[k]'(by omega)) = (nameB ef.1 && mayP kd ef.2.1 ef.2.2) := by rw [eef]
        cases hy : (nameB ef.1 && mayP kd ef.2.1 ef.2.2)
        · rw [hy] at hP
          go_wp2_with (go_at_call 122; refine (use_any _ _ _ kd vk nb _ ze0 KA.out).mono ?_; rintro e w1 ⟨rfl, hb1⟩; rw [hy])
          rw [tst_no (k := k) (by omega) hP]
          go_ret
          exact ⟨rfl, hB1.out.trans (hb1.mono hB1.out.size)⟩
        · rw [hy] at hP
          go_wp2_with (go_at_call 122; refine (use_any _ _ _ kd vk nb _ ze0 KA.out).mono ?_; rintro e w1 ⟨rfl, hb1⟩; rw [hy])
          go_roundw
          case rel => exact ⟨k + 1, by omega, by go_num, fun j hj hjk => by
            by_cases e : j = k
            · subst e; exact hP
            · exact hall.out j hj (by omega), hB1.out.trans (hb1.mono hB1.out.size)⟩
          case measure => simp [intOf]; omega
      · go_wp2_with (go_at_call 130; refine (ascClaimUse_any S _ l _ (H.out.same (Same.of_below hbel.out hS)) hSr).mono ?_; rintro e w1 ⟨rfl, hb1⟩)
        rw [tst_asc (by omega) (fun j hj => hall.out j hj (by omega))]
        go_ret
        exact ⟨rfl, hbel.out.trans (hb1.mono hs)⟩
  · have dl : decide (lim < n) = true := by simp; omega
    rw [ok_long (by omega)]
    go_enter Tryz.func120, Tryz.ntmps120
    go_wp2
    go_ret
    exact ⟨rfl, Below.refl _ _⟩


end Go.Proofs.YtciembgenlcogaeGreat.C
