/-
  Contracts of the program's walk through all pairs of a list.
-/
import Derived.Test.YticojnepejboaacGreatCpe
namespace Go.Proofs.YticojnepejboaacGreat
open Go.RowKit

/-- Are any two of a list so? -/
noncomputable def pairB {α : Type} (R : α → α → Bool) (l : List α) : Bool := @decide (∃ i j, ∃ (_ : i < j) (hj : j < l.length), R (l[i]'(by omega)) l[j] = true) (Classical.propDecidable _)
theorem pair_yes {α : Type} {R : α → α → Bool} {l : List α} {i j : Nat} (hij : i < j) (hj : j < l.length) (h : R (l[i]'(by omega)) l[j] = true) : pairB R l = true :=
  @decide_eq_true _ (Classical.propDecidable _) ⟨i, j, hij, hj, h⟩
theorem pair_no {α : Type} {R : α → α → Bool} {l : List α} (h : ∀ i j, ∀ (_ : i < j) (hj : j < l.length), R (l[i]'(by omega)) l[j] = false) : pairB R l = false :=
  @decide_eq_false _ (Classical.propDecidable _) (fun ⟨i, j, hij, hj, h'⟩ => by rw [h i j hij hj] at h'; cases h')

set_option maxRecDepth 100000 in
set_option maxHeartbeats 8000000 in
theorem pairS_any (S : Nat → Prop) (v : Value) (l : List ByteArray) (m : Nat) (M : ByteArray → ByteArray → Int) (w : World) (h : AtL S w l v) (hm : Mp w m M) :
    Calls Tryz.prog 96 #[v, .func (.func 97) #[.map (some m)] #[]] w fun e w' => e = .returned (.bool (pairB (fun x y => decide (0 < M x y)) l)) ∧ w' = w := by
  obtain ⟨oa, cap, rfl, hn, hc⟩ := h
  obtain ⟨n, en⟩ : ∃ n, l.length = n := ⟨_, rfl⟩
  rw [en] at hn
  rw [en]
  unfold maxLen at hn
  have HC : Hid _ := hc
  have HM : Hid _ := hm
  clear hc hm
  have hcap := hn.2.1
  go_enter Tryz.func96, Tryz.ntmps96
  go_wp2
  go_loop [11] (fun i => ∃ k : Nat, k ≤ n ∧ i = .int .i64 k ∧ Hid (∀ i j, ∀ (_ : i < j) (hj : j < l.length), i < k → decide (0 < M (l[i]'(by omega)) l[j]) = false)) (fun i => n - (intOf i).toNat)
  case atStart => exact ⟨0, Nat.zero_le _, rfl, fun _ _ _ _ h => by omega⟩
  case round =>
    obtain ⟨k, hk, rfl, hall⟩ := hrel
    by_cases hlt : k < n
    · obtain ⟨b, off, rfl, hbS, cc, hcell, hat⟩ := HC.out k (by omega)
      rw [width_str] at hcell
      rw [at_str] at hat
      have e0 : w.cell? ⟨b, off + k, none⟩ = some (cc 0) := by simpa using hcell 0 (by omega)
      rw [hat.1] at e0
      have zf := hat.2
      obtain ⟨f, ef⟩ : ∃ f, l[k]'(by omega) = f := ⟨_, rfl⟩
      rw [ef] at e0 zf
      clear hcell hat
      by_cases hl : k + 1 < n
      · have d1 : k + 1 < cap := by omega
        go_wp2
        go_loop [21] (fun i => ∃ c : Nat, c ≤ n - (k + 1) ∧ i = .int .i64 c ∧ Hid (∀ j (hj : j < l.length), k < j → j < k + 1 + c → decide (0 < M f l[j]) = false)) (fun i => n - (k + 1) - (intOf i).toNat)
        case atStart => exact ⟨0, Nat.zero_le _, rfl, fun _ _ _ _ => by omega⟩
        case round =>
          obtain ⟨c, hc, rfl, hno⟩ := hrel
          by_cases hcl : c < n - (k + 1)
          · obtain ⟨b2, off2, e2, _, cg, hcell, hat⟩ := HC.out (k + 1 + c) (by omega)
            cases e2
            rw [width_str] at hcell
            rw [at_str] at hat
            have g0 : w.cell? ⟨b, off + (k + 1) + c, none⟩ = some (cg 0) := by have := hcell 0 (by omega); simpa [Nat.add_assoc] using this
            rw [hat.1] at g0
            have zg := hat.2
            obtain ⟨g, eg⟩ : ∃ f, l[k + 1 + c]'(by omega) = f := ⟨_, rfl⟩
            rw [eg] at g0 zg
            clear hcell hat
            have dl : decide ((c : Int) < ((n - (k + 1) : Nat) : Int)) = true := by simp; omega
            cases hy : decide (0 < M f g)
            · go_wp2_with (go_at_call 97; refine (hasP_any m M _ _ _ HM.out zf zg).mono ?_; rintro e w1 ⟨rfl, rfl⟩; rw [hy])
              go_round
              case rel => exact ⟨c + 1, by omega, by go_num, fun j hj hkj hjc => by
                by_cases e : j = k + 1 + c
                · subst e; rw [eg]; exact hy
                · exact hno.out j hj hkj (by omega)⟩
              case measure => simp [intOf]; omega
            · go_wp2_with (go_at_call 97; refine (hasP_any m M _ _ _ HM.out zf zg).mono ?_; rintro e w1 ⟨rfl, rfl⟩; rw [hy])
              go_ret
              exact ⟨by rw [pair_yes (i := k) (j := k + 1 + c) (by omega) (by omega) (by rw [ef, eg]; exact hy)]; rfl, rfl⟩
          · have dl : decide ((c : Int) < ((n - (k + 1) : Nat) : Int)) = false := by simp; omega
            go_wp2
            go_round
            case rel => exact ⟨k + 1, by omega, by go_num, fun i j hij hj hik => by
              by_cases e : i = k
              · subst e; rw [ef]; exact hno.out j hj hij (by omega)
              · exact hall.out i j hij hj (by omega)⟩
            case measure => simp [intOf]; omega
      · have dl : decide ((0 : Int) < ((n - (k + 1) : Nat) : Int)) = false := by simp; omega
        by_cases hce : cap = k + 1
        · subst hce
          go_wp2
          go_loop [21] (fun i => i = .int .i64 0) (fun _ => 0)
          case atStart => rfl
          case round =>
            subst hrel
            go_wp2
            go_round
            case rel =>
              have RR : ∃ k' : Nat, k' ≤ n ∧ Value.int .i64 ((k : Int) + 1) = .int .i64 (k' : Int) ∧ Hid (∀ i j, ∀ (_ : i < j) (hj : j < l.length), i < k' → decide (0 < M (l[i]'(by omega)) l[j]) = false) := ⟨k + 1, by omega, by go_num, fun i j hij hj hik => by
                by_cases e : i = k
                · subst e; omega
                · exact hall.out i j hij hj (by omega)⟩
              first
                | exact RR
                | ((repeat apply Exists.intro); refine ⟨RR, ?_⟩; repeat (first | rfl | refine ⟨rfl, ?_⟩))
            case measure => simp [intOf]; omega
        · go_wp2
          go_loop [21] (fun i => i = .int .i64 0) (fun _ => 0)
          case atStart => rfl
          case round =>
            subst hrel
            go_wp2
            go_round
            case rel =>
              have RR : ∃ k' : Nat, k' ≤ n ∧ Value.int .i64 ((k : Int) + 1) = .int .i64 (k' : Int) ∧ Hid (∀ i j, ∀ (_ : i < j) (hj : j < l.length), i < k' → decide (0 < M (l[i]'(by omega)) l[j]) = false) := ⟨k + 1, by omega, by go_num, fun i j hij hj hik => by
                by_cases e : i = k
                · subst e; omega
                · exact hall.out i j hij hj (by omega)⟩
              first
                | exact RR
                | ((repeat apply Exists.intro); refine ⟨RR, ?_⟩; repeat (first | rfl | refine ⟨rfl, ?_⟩))
            case measure => simp [intOf]; omega
    · go_wp2
      go_ret
      rw [pair_no (fun i j hij hj => hall.out i j hij hj (by omega))]
      exact ⟨rfl, rfl⟩

set_option maxRecDepth 100000 in
set_option maxHeartbeats 8000000 in
theorem pairP_any (S : Nat → Prop) (v : Value) (l : List DClaimPart) (w : World) (h : AtL S w l v) (hS : ∀ b, S b → b < w.heap.size) :
    Calls Tryz.prog 106 #[v, .func (.func 107) #[] #[]] w fun e w' => e = .returned (.bool (pairB (fun a b : DClaimPart => shutB a.2.2.2.2.1 a.2.2.2.2.2.1 b.2.2.2.2.1 b.2.2.2.2.2.1) l)) ∧ Below w.heap.size w w' := by
  obtain ⟨oa, cap, rfl, hn, hc⟩ := h
  obtain ⟨n, en⟩ : ∃ n, l.length = n := ⟨_, rfl⟩
  rw [en] at hn
  rw [en]
  unfold maxLen at hn
  have HC : Hid _ := hc
  clear hc
  have hcap := hn.2.1
  go_enter Tryz.func106, Tryz.ntmps106
  go_wp2
  go_loopw [11] (fun i wr => ∃ k : Nat, k ≤ n ∧ i = .int .i64 k ∧ Hid (∀ i j, ∀ (_ : i < j) (hj : j < l.length), i < k → shutB (l[i]'(by omega)).2.2.2.2.1 (l[i]'(by omega)).2.2.2.2.2.1 l[j].2.2.2.2.1 l[j].2.2.2.2.2.1 = false) ∧ Hid (Below w.heap.size w wr)) (fun i _ => n - (intOf i).toNat)
  case atStart => exact ⟨0, Nat.zero_le _, rfl, fun _ _ _ _ h => by omega, Below.refl _ _⟩
  case round =>
    obtain ⟨k, hk, rfl, hall, E⟩ := hrel
    have hs := E.out.size
    by_cases hlt : k < n
    · obtain ⟨b, off, rfl, hbS, cc, hcell, hat⟩ := HC.out k (by omega)
      have hb := hS b hbS
      rw [width_DClaimPart] at hcell
      rw [at_DClaimPart] at hat
      have e0 : wr.cell? ⟨b, off + k * 7, none⟩ = some (cc 0) := (E.out.cell (p := ⟨b, off + k * 7, none⟩) hb).trans (by have := hcell 0 (by omega); simpa [Nat.add_mul, Nat.add_assoc] using this)
      rw [hat.1.1] at e0
      have e1 : wr.cell? ⟨b, off + k * 7 + 1, none⟩ = some (cc 1) := (E.out.cell (p := ⟨b, off + k * 7 + 1, none⟩) hb).trans (by have := hcell 1 (by omega); simpa [Nat.add_mul, Nat.add_assoc] using this)
      rw [hat.2.1.1] at e1
      have e2 : wr.cell? ⟨b, off + k * 7 + 2, none⟩ = some (cc 2) := (E.out.cell (p := ⟨b, off + k * 7 + 2, none⟩) hb).trans (by have := hcell 2 (by omega); simpa [Nat.add_mul, Nat.add_assoc] using this)
      have e3 : wr.cell? ⟨b, off + k * 7 + 3, none⟩ = some (cc 3) := (E.out.cell (p := ⟨b, off + k * 7 + 3, none⟩) hb).trans (by have := hcell 3 (by omega); simpa [Nat.add_mul, Nat.add_assoc] using this)
      have e4 : wr.cell? ⟨b, off + k * 7 + 4, none⟩ = some (cc 4) := (E.out.cell (p := ⟨b, off + k * 7 + 4, none⟩) hb).trans (by have := hcell 4 (by omega); simpa [Nat.add_mul, Nat.add_assoc] using this)
      have e5 : wr.cell? ⟨b, off + k * 7 + 5, none⟩ = some (cc 5) := (E.out.cell (p := ⟨b, off + k * 7 + 5, none⟩) hb).trans (by have := hcell 5 (by omega); simpa [Nat.add_mul, Nat.add_assoc] using this)
      have e6 : wr.cell? ⟨b, off + k * 7 + 6, none⟩ = some (cc 6) := (E.out.cell (p := ⟨b, off + k * 7 + 6, none⟩) hb).trans (by have := hcell 6 (by omega); simpa [Nat.add_mul, Nat.add_assoc] using this)
      have eg2 := hat.2.2.1.same (Same.of_below E.out hS)
      have eg3 := hat.2.2.2.1.same (Same.of_below E.out hS)
      have eg4 := hat.2.2.2.2.1.same (Same.of_below E.out hS)
      have eg5 := hat.2.2.2.2.2.1.same (Same.of_below E.out hS)
      obtain ⟨f, ef⟩ : ∃ f, l[k]'(by omega) = f := ⟨_, rfl⟩
      rw [ef] at e0 e1 eg2 eg3 eg4 eg5
      obtain ⟨eo2, ek2, ex2, hx2, _⟩ := id eg2
      obtain ⟨en2, ez2⟩ : ∃ n, List.length f.2.2.1 = n := ⟨_, rfl⟩
      rw [ez2] at ex2 hx2
      rw [ex2] at e2 eg2
      clear ex2 hx2
      obtain ⟨eo3, ek3, ex3, hx3, _⟩ := id eg3
      obtain ⟨en3, ez3⟩ : ∃ n, List.length f.2.2.2.1 = n := ⟨_, rfl⟩
      rw [ez3] at ex3 hx3
      rw [ex3] at e3 eg3
      clear ex3 hx3
      obtain ⟨eo4, ek4, ex4, hx4, _⟩ := id eg4
      obtain ⟨en4, ez4⟩ : ∃ n, List.length f.2.2.2.2.1 = n := ⟨_, rfl⟩
      rw [ez4] at ex4 hx4
      rw [ex4] at e4 eg4
      clear ex4 hx4
      obtain ⟨eo5, ek5, ex5, hx5, _⟩ := id eg5
      obtain ⟨en5, ez5⟩ : ∃ n, List.length f.2.2.2.2.2.1 = n := ⟨_, rfl⟩
      rw [ez5] at ex5 hx5
      rw [ex5] at e5 eg5
      clear ex5 hx5
      rw [hat.2.2.2.2.2.2, ef] at e6
      clear hcell hat
      obtain ⟨w0, hw0⟩ : ∃ u, u = wr := ⟨_, rfl⟩
      subst hw0
      by_cases hl : k + 1 < n
      · have d1 : k + 1 < cap := by omega
        go_wp2
        go_loopw [21] (fun i wk => ∃ c : Nat, c ≤ n - (k + 1) ∧ i = .int .i64 c ∧ Hid (∀ j (hj : j < l.length), k < j → j < k + 1 + c → shutB f.2.2.2.2.1 f.2.2.2.2.2.1 l[j].2.2.2.2.1 l[j].2.2.2.2.2.1 = false) ∧ Hid (Below (w0.heap.size + 1) (w0.alloc (.cells #[.int .i64 f.1, .int .i64 f.2.1, .slice eo2 en2 ek2, .slice eo3 en3 ek3, .slice eo4 en4 ek4, .slice eo5 en5 ek5, .bool f.2.2.2.2.2.2] 50)) wk)) (fun i _ => n - (k + 1) - (intOf i).toNat)
        case atStart => exact ⟨0, Nat.zero_le _, rfl, fun _ _ _ _ => by omega, Below.refl _ _⟩
        case round =>
          obtain ⟨c, hc, rfl, hno, I⟩ := hrel
          have I0 : Hid (Below w.heap.size w wr) := E.out.trans ((below_end I.out).mono hs)
          have hsI : w0.heap.size + 1 ≤ wr.heap.size := by have := I.out.size; simpa using this
          by_cases hcl : c < n - (k + 1)
          · obtain ⟨db, doff, deq, _, cc, hcell, hat⟩ := HC.out (k + 1 + c) (by omega)
            cases deq
            rw [width_DClaimPart] at hcell
            rw [at_DClaimPart] at hat
            have d0 : wr.cell? ⟨b, off + (k + 1) * 7 + c * 7, none⟩ = some (cc 0) := (I0.out.cell (p := ⟨b, off + (k + 1) * 7 + c * 7, none⟩) hb).trans (by have := hcell 0 (by omega); simpa [Nat.add_mul, Nat.add_assoc] using this)
            rw [hat.1.1] at d0
            have d1 : wr.cell? ⟨b, off + (k + 1) * 7 + c * 7 + 1, none⟩ = some (cc 1) := (I0.out.cell (p := ⟨b, off + (k + 1) * 7 + c * 7 + 1, none⟩) hb).trans (by have := hcell 1 (by omega); simpa [Nat.add_mul, Nat.add_assoc] using this)
            rw [hat.2.1.1] at d1
            have d2 : wr.cell? ⟨b, off + (k + 1) * 7 + c * 7 + 2, none⟩ = some (cc 2) := (I0.out.cell (p := ⟨b, off + (k + 1) * 7 + c * 7 + 2, none⟩) hb).trans (by have := hcell 2 (by omega); simpa [Nat.add_mul, Nat.add_assoc] using this)
            have d3 : wr.cell? ⟨b, off + (k + 1) * 7 + c * 7 + 3, none⟩ = some (cc 3) := (I0.out.cell (p := ⟨b, off + (k + 1) * 7 + c * 7 + 3, none⟩) hb).trans (by have := hcell 3 (by omega); simpa [Nat.add_mul, Nat.add_assoc] using this)
            have d4 : wr.cell? ⟨b, off + (k + 1) * 7 + c * 7 + 4, none⟩ = some (cc 4) := (I0.out.cell (p := ⟨b, off + (k + 1) * 7 + c * 7 + 4, none⟩) hb).trans (by have := hcell 4 (by omega); simpa [Nat.add_mul, Nat.add_assoc] using this)
            have d5 : wr.cell? ⟨b, off + (k + 1) * 7 + c * 7 + 5, none⟩ = some (cc 5) := (I0.out.cell (p := ⟨b, off + (k + 1) * 7 + c * 7 + 5, none⟩) hb).trans (by have := hcell 5 (by omega); simpa [Nat.add_mul, Nat.add_assoc] using this)
            have d6 : wr.cell? ⟨b, off + (k + 1) * 7 + c * 7 + 6, none⟩ = some (cc 6) := (I0.out.cell (p := ⟨b, off + (k + 1) * 7 + c * 7 + 6, none⟩) hb).trans (by have := hcell 6 (by omega); simpa [Nat.add_mul, Nat.add_assoc] using this)
            have dg2 := hat.2.2.1.same (Same.of_below I0.out hS)
            have dg3 := hat.2.2.2.1.same (Same.of_below I0.out hS)
            have dg4 := hat.2.2.2.2.1.same (Same.of_below I0.out hS)
            have dg5 := hat.2.2.2.2.2.1.same (Same.of_below I0.out hS)
            obtain ⟨g, eg⟩ : ∃ f, l[k + 1 + c]'(by omega) = f := ⟨_, rfl⟩
            rw [eg] at d0 d1 dg2 dg3 dg4 dg5
            obtain ⟨do2, dk2, ex2, hx2, _⟩ := id dg2
            obtain ⟨dn2, dz2⟩ : ∃ n, List.length g.2.2.1 = n := ⟨_, rfl⟩
            rw [dz2] at ex2 hx2
            rw [ex2] at d2 dg2
            clear ex2 hx2
            obtain ⟨do3, dk3, ex3, hx3, _⟩ := id dg3
            obtain ⟨dn3, dz3⟩ : ∃ n, List.length g.2.2.2.1 = n := ⟨_, rfl⟩
            rw [dz3] at ex3 hx3
            rw [ex3] at d3 dg3
            clear ex3 hx3
            obtain ⟨do4, dk4, ex4, hx4, _⟩ := id dg4
            obtain ⟨dn4, dz4⟩ : ∃ n, List.length g.2.2.2.2.1 = n := ⟨_, rfl⟩
            rw [dz4] at ex4 hx4
            rw [ex4] at d4 dg4
            clear ex4 hx4
            obtain ⟨do5, dk5, ex5, hx5, _⟩ := id dg5
            obtain ⟨dn5, dz5⟩ : ∃ n, List.length g.2.2.2.2.2.1 = n := ⟨_, rfl⟩
            rw [dz5] at ex5 hx5
            rw [ex5] at d5 dg5
            clear ex5 hx5
            rw [hat.2.2.2.2.2.2, eg] at d6
            clear hcell hat
            have dl : decide ((c : Int) < ((n - (k + 1) : Nat) : Int)) = true := by simp; omega
            have q0 := fun o => cell_past (box_at _ _ I.out 0 (.int .i64 f.1) rfl) (by omega) o
            have q1 := fun o => cell_past (box_at _ _ I.out 1 (.int .i64 f.2.1) rfl) (by omega) o
            have q2 := fun o => cell_past (box_at _ _ I.out 2 (.slice eo2 en2 ek2) rfl) (by omega) o
            have q3 := fun o => cell_past (box_at _ _ I.out 3 (.slice eo3 en3 ek3) rfl) (by omega) o
            have q4 := fun o => cell_past (box_at _ _ I.out 4 (.slice eo4 en4 ek4) rfl) (by omega) o
            have q5 := fun o => cell_past (box_at _ _ I.out 5 (.slice eo5 en5 ek5) rfl) (by omega) o
            have q6 := fun o => cell_past (box_at _ _ I.out 6 (.bool f.2.2.2.2.2.2) rfl) (by omega) o
            have BA : Hid (Below w.heap.size w (wr.alloc (.cells #[.int .i64 g.1, .int .i64 g.2.1, .slice do2 dn2 dk2, .slice do3 dn3 dk3, .slice do4 dn4 dk4, .slice do5 dn5 dk5, .bool g.2.2.2.2.2.2] 50))) := I0.out.alloc I0.out.size _
            have IA : Hid (Below (w0.heap.size + 1) (w0.alloc (.cells #[.int .i64 f.1, .int .i64 f.2.1, .slice eo2 en2 ek2, .slice eo3 en3 ek3, .slice eo4 en4 ek4, .slice eo5 en5 ek5, .bool f.2.2.2.2.2.2] 50)) (wr.alloc (.cells #[.int .i64 g.1, .int .i64 g.2.1, .slice do2 dn2 dk2, .slice do3 dn3 dk3, .slice do4 dn4 dk4, .slice do5 dn5 dk5, .bool g.2.2.2.2.2.2] 50))) := I.out.alloc hsI _
            have FB : Hid (Below w0.heap.size w0 (wr.alloc (.cells #[.int .i64 g.1, .int .i64 g.2.1, .slice do2 dn2 dk2, .slice do3 dn3 dk3, .slice do4 dn4 dk4, .slice do5 dn5 dk5, .bool g.2.2.2.2.2.2] 50))) := below_end IA.out
            have S0 : ∀ b, S b → b < w0.heap.size := fun b hb => by have := hS b hb; omega
            have SI : ∀ b, S b → b < wr.heap.size := fun b hb => by have := hS b hb; omega
            have SA : ∀ b, S b → b < (wr.alloc (.cells #[.int .i64 g.1, .int .i64 g.2.1, .slice do2 dn2 dk2, .slice do3 dn3 dk3, .slice do4 dn4 dk4, .slice do5 dn5 dk5, .bool g.2.2.2.2.2.2] 50)).heap.size := fun b hb => by have := SI b hb; simp; omega
            have GA : Hid (Below wr.heap.size wr (wr.alloc (.cells #[.int .i64 g.1, .int .i64 g.2.1, .slice do2 dn2 dk2, .slice do3 dn3 dk3, .slice do4 dn4 dk4, .slice do5 dn5 dk5, .bool g.2.2.2.2.2.2] 50))) := (Below.refl _ _).alloc (Nat.le_refl _) _
            have CA : Hid _ := shutOut_any S (.int .i64 f.1) (.int .i64 f.2.1) (.slice eo2 en2 ek2) (.slice eo3 en3 ek3) (.slice eo4 en4 ek4) (.slice eo5 en5 ek5) (.bool f.2.2.2.2.2.2) (.int .i64 g.1) (.int .i64 g.2.1) (.slice do2 dn2 dk2) (.slice do3 dn3 dk3) (.slice do4 dn4 dk4) (.slice do5 dn5 dk5) (.bool g.2.2.2.2.2.2) _ _ _ _ (wr.alloc (.cells #[.int .i64 g.1, .int .i64 g.2.1, .slice do2 dn2 dk2, .slice do3 dn3 dk3, .slice do4 dn4 dk4, .slice do5 dn5 dk5, .bool g.2.2.2.2.2.2] 50)) (eg4.same (Same.of_below FB.out S0)) (eg5.same (Same.of_below FB.out S0)) (dg4.same (Same.of_below GA.out SI)) (dg5.same (Same.of_below GA.out SI)) SA
            cases hy : shutB f.2.2.2.2.1 f.2.2.2.2.2.1 g.2.2.2.2.1 g.2.2.2.2.2.1
            · go_wp2_with fail
              refine Calls.mono CA.out ?_
              rintro e w1 ⟨rfl, hb1⟩
              rw [hy]
              have I1 : Hid (Below (w0.heap.size + 1) (w0.alloc (.cells #[.int .i64 f.1, .int .i64 f.2.1, .slice eo2 en2 ek2, .slice eo3 en3 ek3, .slice eo4 en4 ek4, .slice eo5 en5 ek5, .bool f.2.2.2.2.2.2] 50)) w1) := IA.out.trans (hb1.mono (by simp; omega))
              clear hb1
              go_wp2_with fail
              go_roundw
              case rel => exact ⟨c + 1, by omega, by go_num, fun j hj hkj hjc => by
                by_cases e : j = k + 1 + c
                · subst e; rw [eg]; exact hy
                · exact hno.out j hj hkj (by omega), I1.out⟩
              case measure => simp [intOf]; omega
            · go_wp2_with fail
              refine Calls.mono CA.out ?_
              rintro e w1 ⟨rfl, hb1⟩
              rw [hy]
              have I1 : Hid (Below (w0.heap.size + 1) (w0.alloc (.cells #[.int .i64 f.1, .int .i64 f.2.1, .slice eo2 en2 ek2, .slice eo3 en3 ek3, .slice eo4 en4 ek4, .slice eo5 en5 ek5, .bool f.2.2.2.2.2.2] 50)) w1) := IA.out.trans (hb1.mono (by simp; omega))
              clear hb1
              go_wp2_with fail
              go_ret
              exact ⟨by rw [pair_yes (i := k) (j := k + 1 + c) (by omega) (by omega) (by rw [ef, eg]; exact hy)]; rfl, E.out.trans ((below_end I1.out).mono hs)⟩
          · have dl : decide ((c : Int) < ((n - (k + 1) : Nat) : Int)) = false := by simp; omega
            go_wp2
            go_roundw
            case rel => exact ⟨k + 1, by omega, by go_num, fun i j hij hj hik => by
              by_cases e : i = k
              · subst e; rw [ef]; exact hno.out j hj hij (by omega)
              · exact hall.out i j hij hj (by omega), I0.out⟩
            case measure => simp [intOf]; omega
      · have dl : decide ((0 : Int) < ((n - (k + 1) : Nat) : Int)) = false := by simp; omega
        by_cases hce : cap = k + 1
        · subst hce
          go_wp2
          go_loopw [21] (fun i wk => i = .int .i64 0 ∧ Hid (Below w.heap.size w wk)) (fun _ _ => 0)
          case atStart => exact ⟨rfl, E.out.alloc hs _⟩
          case round =>
            obtain ⟨rfl, I0⟩ := hrel
            go_wp2
            go_roundw
            case rel =>
              have RR : ∃ k' : Nat, k' ≤ n ∧ Value.int .i64 ((k : Int) + 1) = .int .i64 (k' : Int) ∧ Hid (∀ i j, ∀ (_ : i < j) (hj : j < l.length), i < k' → shutB (l[i]'(by omega)).2.2.2.2.1 (l[i]'(by omega)).2.2.2.2.2.1 l[j].2.2.2.2.1 l[j].2.2.2.2.2.1 = false) ∧ Hid (Below w.heap.size w wr) := ⟨k + 1, by omega, by go_num, fun i j hij hj hik => by
                by_cases e : i = k
                · subst e; omega
                · exact hall.out i j hij hj (by omega), I0.out⟩
              first
                | exact RR
                | ((repeat apply Exists.intro); refine ⟨RR, ?_⟩; repeat (first | rfl | refine ⟨rfl, ?_⟩))
            case measure => simp [intOf]; omega
        · go_wp2
          go_loopw [21] (fun i wk => i = .int .i64 0 ∧ Hid (Below w.heap.size w wk)) (fun _ _ => 0)
          case atStart => exact ⟨rfl, E.out.alloc hs _⟩
          case round =>
            obtain ⟨rfl, I0⟩ := hrel
            go_wp2
            go_roundw
            case rel =>
              have RR : ∃ k' : Nat, k' ≤ n ∧ Value.int .i64 ((k : Int) + 1) = .int .i64 (k' : Int) ∧ Hid (∀ i j, ∀ (_ : i < j) (hj : j < l.length), i < k' → shutB (l[i]'(by omega)).2.2.2.2.1 (l[i]'(by omega)).2.2.2.2.2.1 l[j].2.2.2.2.1 l[j].2.2.2.2.2.1 = false) ∧ Hid (Below w.heap.size w wr) := ⟨k + 1, by omega, by go_num, fun i j hij hj hik => by
                by_cases e : i = k
                · subst e; omega
                · exact hall.out i j hij hj (by omega), I0.out⟩
              first
                | exact RR
                | ((repeat apply Exists.intro); refine ⟨RR, ?_⟩; repeat (first | rfl | refine ⟨rfl, ?_⟩))
            case measure => simp [intOf]; omega
    · go_wp2
      go_ret
      rw [pair_no (fun i j hij hj => hall.out i j hij hj (by omega))]
      exact ⟨rfl, E.out⟩

end Go.Proofs.YticojnepejboaacGreat
