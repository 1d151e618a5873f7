/-
  The model's test that a book knows a want's spots and valves.
-/
import Derived.Test.YticojnepejboaabGreatCf
namespace Go.Proofs.YticojnepejboaabGreat
open Go.RowKit

/-- Is a use's spot known? -/
def knowS (sp : List DClaimSpot) (u : DClaimUse) : Bool := !decide (idxI sp (fun p : DClaimSpot => eqB p.1 u.1) < 0)
/-- Are a want's spots and valves known? -/
def knowB (sp : List DClaimSpot) (va : List ByteArray) (us : List DClaimUse) (os cs : List ByteArray) : Bool := us.all (knowS sp) && (os.all (hasB va) && cs.all (hasB va))

open Go.Sort in
theorem spotC_q (S : Nat → Prop) (v0 v1 v2 v3 v4 : Value) (l : List DClaimSpot) (x : ByteArray) (wr : World) (h : AtL S wr l v1) (hS : ∀ b, S b → b < wr.heap.size) (r : Int) (hr : idxI l (fun p : DClaimSpot => eqB p.1 x) = r) (d : Nat) (os : Array Obj) : Calls Tryz.prog 93 #[.agg #[v0, v1, v2, v3, v4], .string x] (grow (redrawn wr d) os) fun e w'' => e = .returned (.int .i64 r) ∧ ∃ p : Regrown, w'' = grow (redrawn wr p.d) p.os :=
  Calls.regrown_of (by subst hr; exact spotC_any S v0 v1 v2 v3 v4 l x _ (h.same (Same.of_below (below_regrown wr d os) hS)) (fun b hb => Nat.lt_of_lt_of_le (hS b hb) (below_regrown wr d os).size))
open Go.Sort in
theorem hasC_q (S : Nat → Prop) (v : Value) (l : List ByteArray) (x : ByteArray) (wr : World) (h : AtL S wr l v) (hS : ∀ b, S b → b < wr.heap.size) (r : Bool) (hr : hasB l x = r) (d : Nat) (os : Array Obj) : Calls Tryz.prog 18 #[v, .string x] (grow (redrawn wr d) os) fun e w'' => e = .returned (.bool r) ∧ ∃ p : Regrown, w'' = grow (redrawn wr p.d) p.os :=
  Calls.regrown_of (by subst hr; exact hasC_any S v l x _ (h.same (Same.of_below (below_regrown wr d os) hS)))

set_option maxRecDepth 100000 in
set_option maxHeartbeats 8000000 in
theorem knowC_any (S : Nat → Prop) (v0 v1 v2 v3 v4 x0 x1 x2 x3 x4 x5 : Value) (sp : List DClaimSpot) (va : List ByteArray) (us : List DClaimUse) (os cs : List ByteArray) (w : World) (h1 : AtL S w sp v1) (h2 : AtL S w va v2) (h3 : AtL S w us x3) (h4 : AtL S w os x4) (h5 : AtL S w cs x5) (hS : ∀ b, S b → b < w.heap.size) :
    Calls Tryz.prog 91 #[.agg #[v0, v1, v2, v3, v4], .agg #[x0, x1, x2, x3, x4, x5]] w fun e w' => e = .returned (.bool (knowB sp va us os cs)) ∧ Below w.heap.size w w' := by
  have H1 : Hid (∀ w', Below w.heap.size w w' → AtL S w' sp v1) := fun w' h => h1.same (Same.of_below h hS)
  have H2 : Hid (∀ w', Below w.heap.size w w' → AtL S w' va v2) := fun w' h => h2.same (Same.of_below h hS)
  clear h1 h2
  obtain ⟨o3, k3, rfl, hn3, hc3⟩ := h3
  obtain ⟨n3, en3⟩ : ∃ n, us.length = n := ⟨_, rfl⟩
  rw [en3] at hn3
  rw [en3]
  have C3 : Hid _ := hc3
  clear hc3
  obtain ⟨o4, k4, rfl, hn4, hc4⟩ := h4
  obtain ⟨n4, en4⟩ : ∃ n, os.length = n := ⟨_, rfl⟩
  rw [en4] at hn4
  rw [en4]
  have C4 : Hid _ := hc4
  clear hc4
  obtain ⟨o5, k5, rfl, hn5, hc5⟩ := h5
  obtain ⟨n5, en5⟩ : ∃ n, cs.length = n := ⟨_, rfl⟩
  rw [en5] at hn5
  rw [en5]
  have C5 : Hid _ := hc5
  clear hc5
  unfold maxLen at hn3 hn4 hn5
  go_enter Tryz.func91, Tryz.ntmps91
  go_wp2
  go_loopw [5] (fun i wr => ∃ k : Nat, k ≤ n3 ∧ i = .int .i64 k ∧ Hid (∀ j (hj : j < us.length), j < k → (knowS sp) us[j] = true) ∧ Hid (Below (w.heap.size + 2) ((w.alloc (.cells #[v0, v1, v2, v3, v4] 35)).alloc (.cells #[x0, x1, x2, .slice o3 n3 k3, .slice o4 n4 k4, .slice o5 n5 k5] 50)) wr)) (fun i _ => n3 - (intOf i).toNat)
  case atStart => exact ⟨0, Nat.zero_le _, rfl, fun _ _ h => by omega, Below.refl _ _⟩
  case round =>
    obtain ⟨a3, hk3, rfl, hno3, E3⟩ := hrel
    have B3 := below_end (below2 E3.out)
    have hs3 := B3.size
    have hSr3 : ∀ b, S b → b < wr.heap.size := fun b hb => by have := hS b hb; omega
    have G3 := H1.out _ B3
    have q30 := fun d os => cell_regrown (box_at _ _ (below2 E3.out) 0 v0 rfl) d os
    have q31 := fun d os => cell_regrown (box_at _ _ (below2 E3.out) 1 v1 rfl) d os
    have q32 := fun d os => cell_regrown (box_at _ _ (below2 E3.out) 2 v2 rfl) d os
    have q33 := fun d os => cell_regrown (box_at _ _ (below2 E3.out) 3 v3 rfl) d os
    have q34 := fun d os => cell_regrown (box_at _ _ (below2 E3.out) 4 v4 rfl) d os
    have y33 := box2_at _ _ _ E3.out 3 (.slice o3 n3 k3) rfl
    have y34 := box2_at _ _ _ E3.out 4 (.slice o4 n4 k4) rfl
    have y35 := box2_at _ _ _ E3.out 5 (.slice o5 n5 k5) rfl
    have z33 := fun d os => cell_regrown y33 d os
    have z34 := fun d os => cell_regrown y34 d os
    have z35 := fun d os => cell_regrown y35 d os
    by_cases hlt3 : a3 < n3
    · obtain ⟨q, off, rfl, hqS, cc, hcell, hat⟩ := C3.out a3 (by omega)
      have hq := hS q hqS
      rw [width_DClaimUse] at hcell
      have e0 : wr.cell? ⟨q, off + a3 * 3, none⟩ = some (cc 0) := (B3.cell (p := ⟨q, off + a3 * 3, none⟩) hq).trans (by simpa using hcell 0 (by omega))
      rw [at_DClaimUse] at hat
      rw [hat.1.1] at e0
      clear hcell hat
      obtain ⟨f, ef⟩ : ∃ f, us[a3]'(by omega) = f := ⟨_, rfl⟩
      rw [ef] at e0
      have qe := fun d os => cell_regrown e0 d os
      obtain ⟨r, hr⟩ : ∃ r, idxI sp (fun p : DClaimSpot => eqB p.1 f.1) = r := ⟨_, rfl⟩
      cases hy : decide (r < 0)
      · have hp : (knowS sp) (us[a3]'(by omega)) = true := by rw [ef]; show (!decide (idxI sp (fun p : DClaimSpot => eqB p.1 f.1) < 0)) = _; rw [hr, hy]; rfl
        go_wp2
        refine wp_region_quiet_below (by kernel_rfl) (by kernel_rfl) ?_
        repeat (first | go_big_quiet_step (with_reducible exact spotC_q S _ _ _ _ _ sp _ _ G3 hSr3 _ hr _ _) | quiet_step (with_reducible exact spotC_q S _ _ _ _ _ sp _ _ G3 hSr3 _ hr _ _))
        refine wpQuiet_nil ?_
        intro _ hw'
        obtain ⟨⟨dq, osq⟩, hw''⟩ := hw'
        subst hw''
        go_wp2
        go_roundw
        case rel => exact ⟨a3 + 1, by omega, by go_num, fun j hj hjk => by
          by_cases e : j = a3
          · subst e; exact hp
          · exact hno3.out j hj (by omega), E3.out.trans ((below_regrown _ dq osq).mono (by have := E3.out.size; simp at this; exact this))⟩
        case measure => simp [intOf]; omega
      · have hp : (knowS sp) (us[a3]'(by omega)) = false := by rw [ef]; show (!decide (idxI sp (fun p : DClaimSpot => eqB p.1 f.1) < 0)) = _; rw [hr, hy]; rfl
        go_wp2
        refine wp_region_quiet_below (by kernel_rfl) (by kernel_rfl) ?_
        repeat (first | go_big_quiet_step (with_reducible exact spotC_q S _ _ _ _ _ sp _ _ G3 hSr3 _ hr _ _) | quiet_step (with_reducible exact spotC_q S _ _ _ _ _ sp _ _ G3 hSr3 _ hr _ _))
        refine wpQuiet_nil ?_
        intro _ hw'
        obtain ⟨⟨dq, osq⟩, hw''⟩ := hw'
        subst hw''
        go_wp2
        go_ret
        have hz : us.all (knowS sp) = false := all_no (k := a3) (by omega) hp
        exact ⟨by rw [show knowB sp va us os cs = false by unfold knowB; rw [hz]; rfl]; rfl, below_end (below2 (E3.out.trans ((below_regrown _ dq osq).mono (by have := E3.out.size; simp at this; exact this))))⟩
    · have A3 : us.all (knowS sp) = true := all_yes (fun j hj => hno3.out j hj (by omega))
      go_wp2
      go_loopw [6] (fun i wr => ∃ k : Nat, k ≤ n4 ∧ i = .int .i64 k ∧ Hid (∀ j (hj : j < os.length), j < k → (hasB va) os[j] = true) ∧ Hid (Below (w.heap.size + 2) ((w.alloc (.cells #[v0, v1, v2, v3, v4] 35)).alloc (.cells #[x0, x1, x2, .slice o3 n3 k3, .slice o4 n4 k4, .slice o5 n5 k5] 50)) wr)) (fun i _ => n4 - (intOf i).toNat)
      case atStart => exact ⟨0, Nat.zero_le _, rfl, fun _ _ h => by omega, E3.out⟩
      case round =>
        obtain ⟨a4, hk4, rfl, hno4, E4⟩ := hrel
        have B4 := below_end (below2 E4.out)
        have hs4 := B4.size
        have hSr4 : ∀ b, S b → b < wr.heap.size := fun b hb => by have := hS b hb; omega
        have G4 := H2.out _ B4
        have q40 := fun d os => cell_regrown (box_at _ _ (below2 E4.out) 0 v0 rfl) d os
        have q41 := fun d os => cell_regrown (box_at _ _ (below2 E4.out) 1 v1 rfl) d os
        have q42 := fun d os => cell_regrown (box_at _ _ (below2 E4.out) 2 v2 rfl) d os
        have q43 := fun d os => cell_regrown (box_at _ _ (below2 E4.out) 3 v3 rfl) d os
        have q44 := fun d os => cell_regrown (box_at _ _ (below2 E4.out) 4 v4 rfl) d os
        have y43 := box2_at _ _ _ E4.out 3 (.slice o3 n3 k3) rfl
        have y44 := box2_at _ _ _ E4.out 4 (.slice o4 n4 k4) rfl
        have y45 := box2_at _ _ _ E4.out 5 (.slice o5 n5 k5) rfl
        have z43 := fun d os => cell_regrown y43 d os
        have z44 := fun d os => cell_regrown y44 d os
        have z45 := fun d os => cell_regrown y45 d os
        by_cases hlt4 : a4 < n4
        · obtain ⟨q, off, rfl, hqS, cc, hcell, hat⟩ := C4.out a4 (by omega)
          have hq := hS q hqS
          rw [width_str] at hcell
          have e0 : wr.cell? ⟨q, off + a4, none⟩ = some (cc 0) := (B4.cell (p := ⟨q, off + a4, none⟩) hq).trans (by simpa using hcell 0 (by omega))
          rw [at_str] at hat
          rw [hat.1] at e0
          clear hcell hat
          obtain ⟨f, ef⟩ : ∃ f, os[a4]'(by omega) = f := ⟨_, rfl⟩
          rw [ef] at e0
          have qe := fun d os => cell_regrown e0 d os
          cases hy : hasB va f
          · have hp : (hasB va) (os[a4]'(by omega)) = false := by rw [ef]; exact hy
            go_wp2
            refine wp_region_quiet_below (by kernel_rfl) (by kernel_rfl) ?_
            repeat (first | go_big_quiet_step (with_reducible exact hasC_q S _ va _ _ G4 hSr4 _ hy _ _) | quiet_step (with_reducible exact hasC_q S _ va _ _ G4 hSr4 _ hy _ _))
            refine wpQuiet_nil ?_
            intro _ hw'
            obtain ⟨⟨dq, osq⟩, hw''⟩ := hw'
            subst hw''
            go_wp2
            go_ret
            have hz : os.all (hasB va) = false := all_no (k := a4) (by omega) hp
            exact ⟨by rw [show knowB sp va us os cs = false by unfold knowB; rw [A3, hz]; rfl]; rfl, below_end (below2 (E4.out.trans ((below_regrown _ dq osq).mono (by have := E4.out.size; simp at this; exact this))))⟩
          · have hp : (hasB va) (os[a4]'(by omega)) = true := by rw [ef]; exact hy
            go_wp2
            refine wp_region_quiet_below (by kernel_rfl) (by kernel_rfl) ?_
            repeat (first | go_big_quiet_step (with_reducible exact hasC_q S _ va _ _ G4 hSr4 _ hy _ _) | quiet_step (with_reducible exact hasC_q S _ va _ _ G4 hSr4 _ hy _ _))
            refine wpQuiet_nil ?_
            intro _ hw'
            obtain ⟨⟨dq, osq⟩, hw''⟩ := hw'
            subst hw''
            go_wp2
            go_roundw
            case rel => exact ⟨a4 + 1, by omega, by go_num, fun j hj hjk => by
              by_cases e : j = a4
              · subst e; exact hp
              · exact hno4.out j hj (by omega), E4.out.trans ((below_regrown _ dq osq).mono (by have := E4.out.size; simp at this; exact this))⟩
            case measure => simp [intOf]; omega
        · have A4 : os.all (hasB va) = true := all_yes (fun j hj => hno4.out j hj (by omega))
          go_wp2
          go_loopw [7] (fun i wr => ∃ k : Nat, k ≤ n5 ∧ i = .int .i64 k ∧ Hid (∀ j (hj : j < cs.length), j < k → (hasB va) cs[j] = true) ∧ Hid (Below (w.heap.size + 2) ((w.alloc (.cells #[v0, v1, v2, v3, v4] 35)).alloc (.cells #[x0, x1, x2, .slice o3 n3 k3, .slice o4 n4 k4, .slice o5 n5 k5] 50)) wr)) (fun i _ => n5 - (intOf i).toNat)
          case atStart => exact ⟨0, Nat.zero_le _, rfl, fun _ _ h => by omega, E4.out⟩
          case round =>
            obtain ⟨a5, hk5, rfl, hno5, E5⟩ := hrel
            have B5 := below_end (below2 E5.out)
            have hs5 := B5.size
            have hSr5 : ∀ b, S b → b < wr.heap.size := fun b hb => by have := hS b hb; omega
            have G5 := H2.out _ B5
            have q50 := fun d os => cell_regrown (box_at _ _ (below2 E5.out) 0 v0 rfl) d os
            have q51 := fun d os => cell_regrown (box_at _ _ (below2 E5.out) 1 v1 rfl) d os
            have q52 := fun d os => cell_regrown (box_at _ _ (below2 E5.out) 2 v2 rfl) d os
            have q53 := fun d os => cell_regrown (box_at _ _ (below2 E5.out) 3 v3 rfl) d os
            have q54 := fun d os => cell_regrown (box_at _ _ (below2 E5.out) 4 v4 rfl) d os
            have y53 := box2_at _ _ _ E5.out 3 (.slice o3 n3 k3) rfl
            have y54 := box2_at _ _ _ E5.out 4 (.slice o4 n4 k4) rfl
            have y55 := box2_at _ _ _ E5.out 5 (.slice o5 n5 k5) rfl
            have z53 := fun d os => cell_regrown y53 d os
            have z54 := fun d os => cell_regrown y54 d os
            have z55 := fun d os => cell_regrown y55 d os
            by_cases hlt5 : a5 < n5
            · obtain ⟨q, off, rfl, hqS, cc, hcell, hat⟩ := C5.out a5 (by omega)
              have hq := hS q hqS
              rw [width_str] at hcell
              have e0 : wr.cell? ⟨q, off + a5, none⟩ = some (cc 0) := (B5.cell (p := ⟨q, off + a5, none⟩) hq).trans (by simpa using hcell 0 (by omega))
              rw [at_str] at hat
              rw [hat.1] at e0
              clear hcell hat
              obtain ⟨f, ef⟩ : ∃ f, cs[a5]'(by omega) = f := ⟨_, rfl⟩
              rw [ef] at e0
              have qe := fun d os => cell_regrown e0 d os
              cases hy : hasB va f
              · have hp : (hasB va) (cs[a5]'(by omega)) = false := by rw [ef]; exact hy
                go_wp2
                refine wp_region_quiet_below (by kernel_rfl) (by kernel_rfl) ?_
                repeat (first | go_big_quiet_step (with_reducible exact hasC_q S _ va _ _ G5 hSr5 _ hy _ _) | quiet_step (with_reducible exact hasC_q S _ va _ _ G5 hSr5 _ hy _ _))
                refine wpQuiet_nil ?_
                intro _ hw'
                obtain ⟨⟨dq, osq⟩, hw''⟩ := hw'
                subst hw''
                go_wp2
                go_ret
                have hz : cs.all (hasB va) = false := all_no (k := a5) (by omega) hp
                exact ⟨by rw [show knowB sp va us os cs = false by unfold knowB; rw [A3, A4, hz]; rfl]; rfl, below_end (below2 (E5.out.trans ((below_regrown _ dq osq).mono (by have := E5.out.size; simp at this; exact this))))⟩
              · have hp : (hasB va) (cs[a5]'(by omega)) = true := by rw [ef]; exact hy
                go_wp2
                refine wp_region_quiet_below (by kernel_rfl) (by kernel_rfl) ?_
                repeat (first | go_big_quiet_step (with_reducible exact hasC_q S _ va _ _ G5 hSr5 _ hy _ _) | quiet_step (with_reducible exact hasC_q S _ va _ _ G5 hSr5 _ hy _ _))
                refine wpQuiet_nil ?_
                intro _ hw'
                obtain ⟨⟨dq, osq⟩, hw''⟩ := hw'
                subst hw''
                go_wp2
                go_roundw
                case rel => exact ⟨a5 + 1, by omega, by go_num, fun j hj hjk => by
                  by_cases e : j = a5
                  · subst e; exact hp
                  · exact hno5.out j hj (by omega), E5.out.trans ((below_regrown _ dq osq).mono (by have := E5.out.size; simp at this; exact this))⟩
                case measure => simp [intOf]; omega
            · have A5 : cs.all (hasB va) = true := all_yes (fun j hj => hno5.out j hj (by omega))
              go_wp2
              go_ret
              exact ⟨by rw [show knowB sp va us os cs = true by unfold knowB; rw [A3, A4, A5]; rfl]; rfl, B5⟩

end Go.Proofs.YticojnepejboaabGreat
