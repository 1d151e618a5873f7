/-
  The model's searches in a book of claims.
-/
import Derived.Test.YticojnepejboaacGreatCv
import Derived.Test.YticojnepejboaacGreatCba
namespace Go.Proofs.YticojnepejboaacGreat
open Go.RowKit

/-- Must two stuffs not meet? -/
def foeC (foes : List DClaimFoe) (x y : ByteArray) : Bool := foes.any fun f => eqB f.1 x && eqB f.2 y || eqB f.1 y && eqB f.2 x
/-- Must a stuff not meet one of some? -/
def clashC (foes : List DClaimFoe) (x : ByteArray) (may : List ByteArray) : Bool := may.any fun y => foeC foes x y
/-- Are all of some among others? -/
def allC' (a b : List ByteArray) : Bool := a.all fun x => hasB b x

set_option maxRecDepth 100000 in
set_option maxHeartbeats 4000000 in
theorem spotC_any (S : Nat → Prop) (v0 v1 v2 v3 v4 : Value) (l : List DClaimSpot) (x : ByteArray) (w : World) (h : AtL S w l v1) (hS : ∀ b, S b → b < w.heap.size) :
    Calls Tryz.prog 84 #[.agg #[v0, v1, v2, v3, v4], .string x] w fun e w' => e = .returned (.int .i64 (idxI l (fun p : DClaimSpot => eqB p.1 x))) ∧ Below w.heap.size w w' := by
  obtain ⟨oa, cap, rfl, hn, hc⟩ := h
  obtain ⟨n, en⟩ : ∃ n, l.length = n := ⟨_, rfl⟩
  rw [en] at hn
  rw [en]
  unfold maxLen at hn
  have HC : Hid _ := hc
  clear hc
  go_enter Tryz.func84, Tryz.ntmps84
  go_wp2
  go_loop [5] (fun i => ∃ k : Nat, k ≤ n ∧ i = .int .i64 k ∧ Hid (∀ j (hj : j < l.length), j < k → (fun p : DClaimSpot => eqB p.1 x) l[j] = false)) (fun i => n - (intOf i).toNat)
  case atStart => exact ⟨0, Nat.zero_le _, rfl, fun _ _ h => by omega⟩
  case round =>
    obtain ⟨k, hk, rfl, hno⟩ := hrel
    by_cases hlt : k < n
    · obtain ⟨b, off, rfl, hbS, cc, hcell, hat⟩ := HC.out k (by omega)
      have hb := hS b hbS
      rw [width_DClaimSpot] at hcell
      have e0 : (w.alloc (.cells #[v0, .slice (some ⟨b, off, none⟩) n cap, v2, v3, v4] 33)).cell? ⟨b, off + k * 5, none⟩ = some (cc 0) := cell_past (by simpa using hcell 0 (by omega)) hb _
      have e1 : (w.alloc (.cells #[v0, .slice (some ⟨b, off, none⟩) n cap, v2, v3, v4] 33)).cell? ⟨b, off + k * 5 + 1, none⟩ = some (cc 1) := cell_past (by simpa using hcell 1 (by omega)) hb _
      have e2 : (w.alloc (.cells #[v0, .slice (some ⟨b, off, none⟩) n cap, v2, v3, v4] 33)).cell? ⟨b, off + k * 5 + 2, none⟩ = some (cc 2) := cell_past (by simpa using hcell 2 (by omega)) hb _
      have e3 : (w.alloc (.cells #[v0, .slice (some ⟨b, off, none⟩) n cap, v2, v3, v4] 33)).cell? ⟨b, off + k * 5 + 3, none⟩ = some (cc 3) := cell_past (by simpa using hcell 3 (by omega)) hb _
      have e4 : (w.alloc (.cells #[v0, .slice (some ⟨b, off, none⟩) n cap, v2, v3, v4] 33)).cell? ⟨b, off + k * 5 + 4, none⟩ = some (cc 4) := cell_past (by simpa using hcell 4 (by omega)) hb _
      clear hcell
      rw [at_DClaimSpot] at hat
      rw [hat.1.1] at e0
      clear hat
      obtain ⟨f, ef⟩ : ∃ f, l[k]'(by omega) = f := ⟨_, rfl⟩
      rw [ef] at e0
      cases c0 : (f.1.toList == x.toList)
      · have hp : (fun p : DClaimSpot => eqB p.1 x) (l[k]'(by omega)) = false := by rw [ef]; simp [eqB, c0]
        go_wp2
        go_round
        case rel => exact ⟨k + 1, by omega, by go_num, fun j hj hjk => by
          by_cases e : j = k
          · subst e; exact hp
          · exact hno.out j hj (by omega)⟩
        case measure => simp [intOf]; omega
      · have hp : (fun p : DClaimSpot => eqB p.1 x) (l[k]'(by omega)) = true := by rw [ef]; simp [eqB, c0]
        go_wp2
        have hr : idxI l (fun p : DClaimSpot => eqB p.1 x) = k := idx_yes (p := fun p : DClaimSpot => eqB p.1 x) (by omega) hp hno.out
        rw [hr]
        go_ret
        exact ⟨rfl, ((Below.refl _ _).alloc (Nat.le_refl _) _)⟩
    · have hkn : k = n := by omega
      subst hkn
      go_wp2
      go_ret
      have hr : idxI l (fun p : DClaimSpot => eqB p.1 x) = -1 := idx_no (p := fun p : DClaimSpot => eqB p.1 x) (fun j hj => hno.out j hj (by omega))
      rw [hr]
      exact ⟨rfl, ((Below.refl _ _).alloc (Nat.le_refl _) _)⟩

set_option maxRecDepth 100000 in
set_option maxHeartbeats 4000000 in
theorem foesC_any (S : Nat → Prop) (v0 v1 v2 v3 v4 : Value) (l : List DClaimFoe) (x y : ByteArray) (w : World) (h : AtL S w l v0) (hS : ∀ b, S b → b < w.heap.size) :
    Calls Tryz.prog 80 #[.agg #[v0, v1, v2, v3, v4], .string x, .string y] w fun e w' => e = .returned (.bool (foeC l x y)) ∧ Below w.heap.size w w' := by
  obtain ⟨oa, cap, rfl, hn, hc⟩ := h
  obtain ⟨n, en⟩ : ∃ n, l.length = n := ⟨_, rfl⟩
  rw [en] at hn
  rw [en]
  unfold maxLen at hn
  have HC : Hid _ := hc
  clear hc
  go_enter Tryz.func80, Tryz.ntmps80
  go_wp2
  go_loop [7] (fun i => ∃ k : Nat, k ≤ n ∧ i = .int .i64 k ∧ Hid (∀ j (hj : j < l.length), j < k → (fun f : DClaimFoe => eqB f.1 x && eqB f.2 y || eqB f.1 y && eqB f.2 x) l[j] = false)) (fun i => n - (intOf i).toNat)
  case atStart => exact ⟨0, Nat.zero_le _, rfl, fun _ _ h => by omega⟩
  case round =>
    obtain ⟨k, hk, rfl, hno⟩ := hrel
    by_cases hlt : k < n
    · obtain ⟨b, off, rfl, hbS, cc, hcell, hat⟩ := HC.out k (by omega)
      have hb := hS b hbS
      rw [width_DClaimFoe] at hcell
      have e0 : (w.alloc (.cells #[.slice (some ⟨b, off, none⟩) n cap, v1, v2, v3, v4] 33)).cell? ⟨b, off + k * 2, none⟩ = some (cc 0) := cell_past (by simpa using hcell 0 (by omega)) hb _
      have e1 : (w.alloc (.cells #[.slice (some ⟨b, off, none⟩) n cap, v1, v2, v3, v4] 33)).cell? ⟨b, off + k * 2 + 1, none⟩ = some (cc 1) := cell_past (by simpa using hcell 1 (by omega)) hb _
      clear hcell
      rw [at_DClaimFoe] at hat
      rw [hat.1.1] at e0
      rw [hat.2.1] at e1
      clear hat
      obtain ⟨f, ef⟩ : ∃ f, l[k]'(by omega) = f := ⟨_, rfl⟩
      rw [ef] at e0 e1
      cases c0 : (f.1.toList == x.toList)
      · cases c1 : (f.1.toList == y.toList)
        · have hp : (fun f : DClaimFoe => eqB f.1 x && eqB f.2 y || eqB f.1 y && eqB f.2 x) (l[k]'(by omega)) = false := by rw [ef]; simp [eqB, c0, c1]
          go_wp2
          go_round
          case rel => exact ⟨k + 1, by omega, by go_num, fun j hj hjk => by
            by_cases e : j = k
            · subst e; exact hp
            · exact hno.out j hj (by omega)⟩
          case measure => simp [intOf]; omega
        · cases c2 : (f.2.toList == x.toList)
          · have hp : (fun f : DClaimFoe => eqB f.1 x && eqB f.2 y || eqB f.1 y && eqB f.2 x) (l[k]'(by omega)) = false := by rw [ef]; simp [eqB, c0, c1, c2]
            go_wp2
            go_round
            case rel => exact ⟨k + 1, by omega, by go_num, fun j hj hjk => by
              by_cases e : j = k
              · subst e; exact hp
              · exact hno.out j hj (by omega)⟩
            case measure => simp [intOf]; omega
          · have hp : (fun f : DClaimFoe => eqB f.1 x && eqB f.2 y || eqB f.1 y && eqB f.2 x) (l[k]'(by omega)) = true := by rw [ef]; simp [eqB, c0, c1, c2]
            go_wp2
            have hr : foeC l x y = true := any_yes (p := fun f : DClaimFoe => eqB f.1 x && eqB f.2 y || eqB f.1 y && eqB f.2 x) (by omega) hp
            rw [hr]
            go_ret
            exact ⟨rfl, ((Below.refl _ _).alloc (Nat.le_refl _) _)⟩
      · cases c1 : (f.2.toList == y.toList)
        · cases c2 : (f.1.toList == y.toList)
          · have hp : (fun f : DClaimFoe => eqB f.1 x && eqB f.2 y || eqB f.1 y && eqB f.2 x) (l[k]'(by omega)) = false := by rw [ef]; simp [eqB, c0, c1, c2]
            go_wp2
            go_round
            case rel => exact ⟨k + 1, by omega, by go_num, fun j hj hjk => by
              by_cases e : j = k
              · subst e; exact hp
              · exact hno.out j hj (by omega)⟩
            case measure => simp [intOf]; omega
          · cases c3 : (f.2.toList == x.toList)
            · have hp : (fun f : DClaimFoe => eqB f.1 x && eqB f.2 y || eqB f.1 y && eqB f.2 x) (l[k]'(by omega)) = false := by rw [ef]; simp [eqB, c0, c1, c2, c3]
              go_wp2
              go_round
              case rel => exact ⟨k + 1, by omega, by go_num, fun j hj hjk => by
                by_cases e : j = k
                · subst e; exact hp
                · exact hno.out j hj (by omega)⟩
              case measure => simp [intOf]; omega
            · have hp : (fun f : DClaimFoe => eqB f.1 x && eqB f.2 y || eqB f.1 y && eqB f.2 x) (l[k]'(by omega)) = true := by rw [ef]; simp [eqB, c0, c1, c2, c3]
              go_wp2
              have hr : foeC l x y = true := any_yes (p := fun f : DClaimFoe => eqB f.1 x && eqB f.2 y || eqB f.1 y && eqB f.2 x) (by omega) hp
              rw [hr]
              go_ret
              exact ⟨rfl, ((Below.refl _ _).alloc (Nat.le_refl _) _)⟩
        · have hp : (fun f : DClaimFoe => eqB f.1 x && eqB f.2 y || eqB f.1 y && eqB f.2 x) (l[k]'(by omega)) = true := by rw [ef]; simp [eqB, c0, c1]
          go_wp2
          have hr : foeC l x y = true := any_yes (p := fun f : DClaimFoe => eqB f.1 x && eqB f.2 y || eqB f.1 y && eqB f.2 x) (by omega) hp
          rw [hr]
          go_ret
          exact ⟨rfl, ((Below.refl _ _).alloc (Nat.le_refl _) _)⟩
    · have hkn : k = n := by omega
      subst hkn
      go_wp2
      go_ret
      have hr : foeC l x y = false := any_no (p := fun f : DClaimFoe => eqB f.1 x && eqB f.2 y || eqB f.1 y && eqB f.2 x) (fun j hj => hno.out j hj (by omega))
      rw [hr]
      exact ⟨rfl, ((Below.refl _ _).alloc (Nat.le_refl _) _)⟩

set_option maxRecDepth 100000 in
set_option maxHeartbeats 4000000 in
theorem allC_any (S : Nat → Prop) (va vb : Value) (a b : List ByteArray) (w : World) (ha : AtL S w a va) (hb : AtL S w b vb) (hS : ∀ b, S b → b < w.heap.size) :
    Calls Tryz.prog 113 #[va, vb] w fun e w' => e = .returned (.bool (allC' a b)) ∧ Below w.heap.size w w' := by
  obtain ⟨oa, cap, rfl, hn, hc⟩ := ha
  obtain ⟨n, en⟩ : ∃ n, a.length = n := ⟨_, rfl⟩
  rw [en] at hn
  rw [en]
  unfold maxLen at hn
  have HC : Hid _ := hc
  have HB : Hid (AtL S w b vb) := hb
  clear hc hb
  go_enter Tryz.func113, Tryz.ntmps113
  go_wp2
  go_loopw [5] (fun i wr => ∃ k : Nat, k ≤ n ∧ i = .int .i64 k ∧ Hid (∀ j (hj : j < a.length), j < k → hasB b a[j] = true) ∧ Hid (Below w.heap.size w wr)) (fun i _ => n - (intOf i).toNat)
  case atStart => exact ⟨0, Nat.zero_le _, rfl, fun _ _ h => by omega, Below.refl _ _⟩
  case round =>
    obtain ⟨k, hk, rfl, hno, hbel⟩ := hrel
    have hs := hbel.out.size
    by_cases hlt : k < n
    · obtain ⟨q, off, rfl, hqS, cc, hcell, hat⟩ := HC.out k (by omega)
      have hq := hS q hqS
      rw [width_str] at hcell
      have e0 : wr.cell? ⟨q, off + k, none⟩ = some (cc 0) := (hbel.out.cell (p := ⟨q, off + k, none⟩) hq).trans (by simpa using hcell 0 (by omega))
      rw [at_str] at hat
      rw [hat.1] at e0
      clear hcell hat
      obtain ⟨f, ef⟩ : ∃ f, a[k]'(by omega) = f := ⟨_, rfl⟩
      rw [ef] at e0
      cases hy : hasB b f
      all_goals
        go_wp2_with (go_at_call 85; refine (hasC_any S vb b f _ (HB.out.same (Same.of_below hbel.out hS))).mono ?_; rintro e w1 ⟨rfl, hb1⟩; rw [hy])
      · rw [show allC' a b = false from all_no (k := k) (by omega) (by rw [ef]; exact hy)]
        go_ret
        exact ⟨rfl, hbel.out.trans (hb1.mono hs)⟩
      · go_roundw
        case rel => exact ⟨k + 1, by omega, by go_num, fun j hj hjk => by
          by_cases e : j = k
          · subst e; rw [ef]; exact hy
          · exact hno.out j hj (by omega), hbel.out.trans (hb1.mono hs)⟩
        case measure => simp [intOf]; omega
    · go_wp2
      rw [show allC' a b = true from all_yes (fun j hj => hno.out j hj (by omega))]
      go_ret
      exact ⟨rfl, hbel.out⟩
open Go.Sort in
theorem foesC_q (S : Nat → Prop) (v0 v1 v2 v3 v4 : Value) (l : List DClaimFoe) (x y : ByteArray) (wr : World) (h : AtL S wr l v0) (hS : ∀ b, S b → b < wr.heap.size) (r : Bool) (hr : foeC l x y = r) (d : Nat) (os : Array Obj) : Calls Tryz.prog 80 #[.agg #[v0, v1, v2, v3, v4], .string x, .string y] (grow (redrawn wr d) os) fun e w'' => e = .returned (.bool r) ∧ ∃ p : Regrown, w'' = grow (redrawn wr p.d) p.os :=
  Calls.regrown_of (by subst hr; exact foesC_any S v0 v1 v2 v3 v4 l x y _ (h.same (Same.of_below (below_regrown wr d os) hS)) (fun b hb => Nat.lt_of_lt_of_le (hS b hb) (below_regrown wr d os).size))

set_option maxRecDepth 100000 in
set_option maxHeartbeats 4000000 in
theorem clashC_any (S : Nat → Prop) (v0 v1 v2 v3 v4 vm : Value) (l : List DClaimFoe) (x : ByteArray) (may : List ByteArray) (w : World) (h : AtL S w l v0) (hm : AtL S w may vm) (hS : ∀ b, S b → b < w.heap.size) :
    Calls Tryz.prog 63 #[.agg #[v0, v1, v2, v3, v4], .string x, vm] w fun e w' => e = .returned (.bool (clashC l x may)) ∧ Below w.heap.size w w' := by
  obtain ⟨oa, cap, rfl, hn, hc⟩ := hm
  obtain ⟨n, en⟩ : ∃ n, may.length = n := ⟨_, rfl⟩
  rw [en] at hn
  rw [en]
  unfold maxLen at hn
  have HC : Hid _ := hc
  have HL : Hid (AtL S w l v0) := h
  clear hc h
  go_enter Tryz.func63, Tryz.ntmps63
  go_wp2
  go_loopw [7] (fun i wr => ∃ k : Nat, k ≤ n ∧ i = .int .i64 k ∧ Hid (∀ j (hj : j < may.length), j < k → foeC l x may[j] = false) ∧ Hid (Below (w.heap.size + 1) (w.alloc (.cells #[v0, v1, v2, v3, v4] 33)) wr)) (fun i _ => n - (intOf i).toNat)
  case atStart => exact ⟨0, Nat.zero_le _, rfl, fun _ _ h => by omega, Below.refl _ _⟩
  case round =>
    obtain ⟨k, hk, rfl, hno, hbel⟩ := hrel
    have hbw := below_end hbel.out
    have hs := hbw.size
    have HR : Hid (AtL S wr l v0) := HL.out.same (Same.of_below hbw hS)
    have hSr : ∀ b, S b → b < wr.heap.size := fun b hb => by have := hS b hb; omega
    have q0 := fun d os => cell_regrown (box_at _ _ hbel.out 0 v0 rfl) d os
    have q1 := fun d os => cell_regrown (box_at _ _ hbel.out 1 v1 rfl) d os
    have q2 := fun d os => cell_regrown (box_at _ _ hbel.out 2 v2 rfl) d os
    have q3 := fun d os => cell_regrown (box_at _ _ hbel.out 3 v3 rfl) d os
    have q4 := fun d os => cell_regrown (box_at _ _ hbel.out 4 v4 rfl) d os
    by_cases hlt : k < n
    · obtain ⟨q, off, rfl, hqS, cc, hcell, hat⟩ := HC.out k (by omega)
      have hq := hS q hqS
      rw [width_str] at hcell
      have e0 : wr.cell? ⟨q, off + k, none⟩ = some (cc 0) := (hbw.cell (p := ⟨q, off + k, none⟩) hq).trans (by simpa using hcell 0 (by omega))
      rw [at_str] at hat
      rw [hat.1] at e0
      clear hcell hat
      obtain ⟨f, ef⟩ : ∃ f, may[k]'(by omega) = f := ⟨_, rfl⟩
      rw [ef] at e0
      have qe := fun d os => cell_regrown e0 d os
      cases hy : foeC l x f
      · have _u := trivial
        go_wp2
        refine wp_region_quiet_below (by kernel_rfl) (by kernel_rfl) ?_
        repeat (first | go_big_quiet_step (with_reducible exact foesC_q S _ _ _ _ _ l _ _ _ HR.out hSr _ hy _ _) | quiet_step (with_reducible exact foesC_q S _ _ _ _ _ l _ _ _ HR.out hSr _ hy _ _))
        refine wpQuiet_nil ?_
        intro _ hw'
        obtain ⟨⟨dq, osq⟩, hw''⟩ := hw'
        subst hw''
        go_wp2
        go_roundw
        case rel => exact ⟨k + 1, by omega, by go_num, fun j hj hjk => by
          by_cases e : j = k
          · subst e; rw [ef]; exact hy
          · exact hno.out j hj (by omega), below_of hbel.out (below_regrown _ dq osq)⟩
        case measure => simp [intOf]; omega
      · have _u := trivial
        go_wp2
        refine wp_region_quiet_below (by kernel_rfl) (by kernel_rfl) ?_
        repeat (first | go_big_quiet_step (with_reducible exact foesC_q S _ _ _ _ _ l _ _ _ HR.out hSr _ hy _ _) | quiet_step (with_reducible exact foesC_q S _ _ _ _ _ l _ _ _ HR.out hSr _ hy _ _))
        refine wpQuiet_nil ?_
        intro _ hw'
        obtain ⟨⟨dq, osq⟩, hw''⟩ := hw'
        subst hw''
        go_wp2
        rw [show clashC l x may = true from any_yes (k := k) (by omega) (by rw [ef]; exact hy)]
        go_ret
        exact ⟨rfl, below_end (below_of hbel.out (below_regrown _ dq osq))⟩
    · go_wp2
      rw [show clashC l x may = false from any_no (fun j hj => hno.out j hj (by omega))]
      go_ret
      exact ⟨rfl, hbw⟩

end Go.Proofs.YticojnepejboaacGreat
