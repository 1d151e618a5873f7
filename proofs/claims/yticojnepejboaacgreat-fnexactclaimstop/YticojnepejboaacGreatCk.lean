/-
  The model's test of the parts of a book.
-/
import Derived.Test.YticojnepejboaacGreatCj
import Derived.Test.YticojnepejboaacGreatHhB
namespace Go.Proofs.YticojnepejboaacGreat
open Go.RowKit

/-- The want of a part. -/
def wantOf (p : DClaimPart) : DClaimWant := (p.1, p.2.1, p.2.2.1, p.2.2.2.1, p.2.2.2.2.1, p.2.2.2.2.2.1)
/-- Do two parts meet? -/
def meetB (a b : DClaimPart) : Bool := shareB (usN a.2.2.2.1) (usN b.2.2.2.1) || crossB a.2.2.2.2.1 a.2.2.2.2.2.1 b.2.2.2.2.1 b.2.2.2.2.2.1
/-- Is a part behind the one ahead of it? -/
def behindB : Option DClaimPart → DClaimPart → Bool
  | none, _ => true
  | some g, p => !decide (p.1 ≤ g.1)
/-- Is the part at a place as it is to be? -/
noncomputable def placeB (sp : List DClaimSpot) (va : List ByteArray) (seen : Int) (ps : List DClaimPart) (i : Nat) (h : i < ps.length) : Bool :=
  partB sp va seen (wantOf ps[i]) && (behindB (prevO ps i) ps[i] && (ps.take i).all (fun o => !meetB ps[i] o))
/-- Are the parts as they are to be? -/
noncomputable def partsB (sp : List DClaimSpot) (va : List ByteArray) (seen : Int) (ps : List DClaimPart) : Bool :=
  @decide (ps.length ≤ 6 ∧ ∀ i (h : i < ps.length), placeB sp va seen ps i h = true) (Classical.propDecidable _)


open Go.Sort in
theorem partC_q (S : Nat → Prop) (v0 v1 v2 v3 x2 x3 x4 x5 st : Value) (seen : Int) (sp : List DClaimSpot) (va : List ByteArray) (p : DClaimPart) (wr : World) (h1 : AtL S wr sp v1) (h2 : AtL S wr va v2) (g2 : AtL S wr p.2.2.1 x2) (g3 : AtL S wr p.2.2.2.1 x3) (g4 : AtL S wr p.2.2.2.2.1 x4) (g5 : AtL S wr p.2.2.2.2.2.1 x5) (hS : ∀ b, S b → b < wr.heap.size) (hsp : ∀ j (hj : j < sp.length), 0 ≤ sp[j].2.2.1 ∧ sp[j].2.2.1 ≤ 1000) (r : Bool) (hr : partB sp va seen (wantOf p) = r) (d : Nat) (os : Array Obj) : Calls Tryz.prog 64 #[.agg #[v0, v1, v2, v3, .int .i64 seen], .agg #[.int .i64 p.1, .int .i64 p.2.1, x2, x3, x4, x5, st]] (grow (redrawn wr d) os) fun e w'' => e = .returned (.bool r) ∧ ∃ p : Regrown, w'' = grow (redrawn wr p.d) p.os :=
  Calls.regrown_of (by
    subst hr
    have T : ∀ {α : Type} [Lay α] {l : List α} {v : Value}, AtL S wr l v → AtL S (grow (redrawn wr d) os) l v := fun h => h.same (Same.of_below (below_regrown wr d os) hS)
    exact partC_any S v0 v1 v2 v3 x2 x3 x4 x5 st seen p.1 p.2.1 sp va p.2.2.1 p.2.2.2.1 p.2.2.2.2.1 p.2.2.2.2.2.1 _ (T h1) (T h2) (T g2) (T g3) (T g4) (T g5) (fun b hb => Nat.lt_of_lt_of_le (hS b hb) (below_regrown wr d os).size) hsp)

theorem gen_world {P : Program} {c : Code} {Q : Exit → Act → World → Prop} {a : Act} {W : World} (F : World → Prop) (h0 : F W) (h : ∀ W', F W' → Code.wp P c Q a W') : Code.wp P c Q a W := h W h0
theorem part_len {sp : List DClaimSpot} {va : List ByteArray} {seen : Int} {a : DClaimWant} (h : partB sp va seen a = true) : a.2.2.2.1.length ≤ 8 := by
  simp only [partB, Bool.and_eq_true] at h
  have h0 := h.1
  simp only [wantB, Bool.and_eq_true] at h0
  exact (ok_iff.1 h0.1.1.1.1.1.1.1.2).1
theorem place_part {sp : List DClaimSpot} {va : List ByteArray} {seen : Int} {ps : List DClaimPart} {i : Nat} {hi : i < ps.length} (h : placeB sp va seen ps i hi = true) : partB sp va seen (wantOf ps[i]) = true := by
  simp only [placeB, Bool.and_eq_true] at h; exact h.1

set_option maxRecDepth 100000 in
set_option maxHeartbeats 8000000 in
theorem partsC_any (S : Nat → Prop) (v0 v1 v2 v3 : Value) (seen : Int) (sp : List DClaimSpot) (va : List ByteArray) (ps : List DClaimPart) (w : World) (h1 : AtL S w sp v1) (h2 : AtL S w va v2) (h3 : AtL S w ps v3) (hS : ∀ b, S b → b < w.heap.size) (hsp : ∀ j (hj : j < sp.length), 0 ≤ sp[j].2.2.1 ∧ sp[j].2.2.1 ≤ 1000) :
    Calls Tryz.prog 44 #[.agg #[v0, v1, v2, v3, .int .i64 seen]] w fun e w' => e = .returned (.bool (partsB sp va seen ps)) ∧ Below w.heap.size w w' := by
  have H1 : Hid (∀ w', Below w.heap.size w w' → AtL S w' sp v1) := fun w' h => h1.same (Same.of_below h hS)
  have H2 : Hid (∀ w', Below w.heap.size w w' → AtL S w' va v2) := fun w' h => h2.same (Same.of_below h hS)
  clear h1 h2
  obtain ⟨o3, k3, rfl, hn, hc⟩ := h3
  obtain ⟨n, en⟩ : ∃ n, ps.length = n := ⟨_, rfl⟩
  rw [en] at hn
  rw [en]
  unfold maxLen at hn
  have HC : Hid _ := hc
  clear hc
  by_cases hl : n ≤ 6
  · have d0 : decide ((6 : Int) < (n : Int)) = false := by simp; omega
    go_enter Tryz.func44, Tryz.ntmps44
    go_wp2
    go_loopw [3] (fun i wr => ∃ k : Nat, k ≤ n ∧ i = .int .i64 k ∧ Hid (∀ j (hj : j < ps.length), j < k → placeB sp va seen ps j hj = true) ∧ Hid (Below (w.heap.size + 1) (w.alloc (.cells #[v0, v1, v2, .slice o3 n k3, .int .i64 seen] 33)) wr)) (fun i _ => n - (intOf i).toNat)
    case atStart => exact ⟨0, Nat.zero_le _, rfl, fun _ _ h => by omega, Below.refl _ _⟩
    case round =>
      obtain ⟨k, hk, rfl, hall, E⟩ := hrel
      have B := below_end E.out
      have hs := B.size
      have hsE : w.heap.size + 1 ≤ wr.heap.size := by have := E.out.size; simpa using this
      obtain ⟨w0, hw0⟩ : ∃ u, u = wr := ⟨_, rfl⟩
      subst hw0
      have hS0 : ∀ b, S b → b < w0.heap.size := fun b hb => by have := hS b hb; omega
      have y3 := box_at _ _ E.out 3 (.slice o3 n k3) rfl
      by_cases hlt : k < n
      · rcases Nat.eq_zero_or_pos k with rfl | hpos
        · have _u := trivial
          obtain ⟨b, off, rfl, hbS, cc, hcell, hat⟩ := HC.out 0 (by omega)
          have hb := hS b hbS
          rw [width_DClaimPart] at hcell
          rw [at_DClaimPart] at hat
          have e0 : w0.cell? ⟨b, off, none⟩ = some (cc 0) := (B.cell (p := ⟨b, off, none⟩) hb).trans (by simpa using hcell 0 (by omega))
          rw [hat.1.1] at e0
          have e1 : w0.cell? ⟨b, off + 1, none⟩ = some (cc 1) := (B.cell (p := ⟨b, off + 1, none⟩) hb).trans (by simpa using hcell 1 (by omega))
          rw [hat.2.1.1] at e1
          have e2 : w0.cell? ⟨b, off + 2, none⟩ = some (cc 2) := (B.cell (p := ⟨b, off + 2, none⟩) hb).trans (by simpa using hcell 2 (by omega))
          have e3 : w0.cell? ⟨b, off + 3, none⟩ = some (cc 3) := (B.cell (p := ⟨b, off + 3, none⟩) hb).trans (by simpa using hcell 3 (by omega))
          have e4 : w0.cell? ⟨b, off + 4, none⟩ = some (cc 4) := (B.cell (p := ⟨b, off + 4, none⟩) hb).trans (by simpa using hcell 4 (by omega))
          have e5 : w0.cell? ⟨b, off + 5, none⟩ = some (cc 5) := (B.cell (p := ⟨b, off + 5, none⟩) hb).trans (by simpa using hcell 5 (by omega))
          have e6 : w0.cell? ⟨b, off + 6, none⟩ = some (cc 6) := (B.cell (p := ⟨b, off + 6, none⟩) hb).trans (by simpa using hcell 6 (by omega))
          have eg2 := hat.2.2.1.same (Same.of_below B hS)
          have eg3 := hat.2.2.2.1.same (Same.of_below B hS)
          have eg4 := hat.2.2.2.2.1.same (Same.of_below B hS)
          have eg5 := hat.2.2.2.2.2.1.same (Same.of_below B hS)
          obtain ⟨f, ef⟩ : ∃ f, ps[0]'(by omega) = f := ⟨_, rfl⟩
          rw [ef] at e0 e1 eg2 eg3 eg4 eg5
          obtain ⟨eo2, ek2, ex2, hx2, _⟩ := id eg2
          obtain ⟨en2, ez2⟩ : ∃ n, List.length f.2.2.1 = n := ⟨_, rfl⟩
          rw [ez2] at ex2 hx2
          rw [ex2] at e2 eg2
          have el2 := hx2.1
          unfold maxLen at el2
          clear ex2 hx2
          obtain ⟨eo3, ek3, ex3, hx3, _⟩ := id eg3
          obtain ⟨en3, ez3⟩ : ∃ n, List.length f.2.2.2.1 = n := ⟨_, rfl⟩
          rw [ez3] at ex3 hx3
          rw [ex3] at e3 eg3
          have el3 := hx3.1
          unfold maxLen at el3
          clear ex3 hx3
          obtain ⟨eo4, ek4, ex4, hx4, _⟩ := id eg4
          obtain ⟨en4, ez4⟩ : ∃ n, List.length f.2.2.2.2.1 = n := ⟨_, rfl⟩
          rw [ez4] at ex4 hx4
          rw [ex4] at e4 eg4
          have el4 := hx4.1
          unfold maxLen at el4
          clear ex4 hx4
          obtain ⟨eo5, ek5, ex5, hx5, _⟩ := id eg5
          obtain ⟨en5, ez5⟩ : ∃ n, List.length f.2.2.2.2.2.1 = n := ⟨_, rfl⟩
          rw [ez5] at ex5 hx5
          rw [ex5] at e5 eg5
          have el5 := hx5.1
          unfold maxLen at el5
          clear ex5 hx5
          obtain ⟨ev, ex6⟩ : ∃ v, cc 6 = v := ⟨_, rfl⟩
          rw [ex6] at e6
          clear hcell hat ex6
          go_wp2
          refine gen_world (fun W' => Below (w0.heap.size + 1) (w0.alloc (.cells #[.int .i64 f.1, .int .i64 f.2.1, .slice eo2 en2 ek2, .slice eo3 en3 ek3, .slice eo4 en4 ek4, .slice eo5 en5 ek5] 48)) W') (Below.refl _ _) ?_
          intro wb hF
          have HF : Hid (Below (w0.heap.size + 1) (w0.alloc (.cells #[.int .i64 f.1, .int .i64 f.2.1, .slice eo2 en2 ek2, .slice eo3 en3 ek3, .slice eo4 en4 ek4, .slice eo5 en5 ek5] 48)) wb) := hF
          clear hF
          have FB : Hid (Below w0.heap.size w0 wb) := below_end HF.out
          have E1 : Hid (Below (w.heap.size + 1) (w.alloc (.cells #[v0, v1, v2, .slice (some ⟨b, off, none⟩) n k3, .int .i64 seen] 33)) wb) := E.out.trans (FB.out.mono hsE)
          have B1 := below_end E1.out
          have G1 := H1.out _ B1
          have G2 := H2.out _ B1
          have hSb : ∀ b, S b → b < wb.heap.size := fun b hb => by have := hS b hb; have := B1.size; omega
          have z0 := fun d os => cell_regrown (box_at _ _ E1.out 0 (v0) rfl) d os
          have z1 := fun d os => cell_regrown (box_at _ _ E1.out 1 (v1) rfl) d os
          have z2 := fun d os => cell_regrown (box_at _ _ E1.out 2 (v2) rfl) d os
          have z3 := fun d os => cell_regrown (box_at _ _ E1.out 3 (.slice (some ⟨b, off, none⟩) n k3) rfl) d os
          have z4 := fun d os => cell_regrown (box_at _ _ E1.out 4 (.int .i64 seen) rfl) d os
          have fe0 := fun d os => cell_regrown ((FB.out.cell (p := ⟨b, off, none⟩) (by show b < _; omega)).trans e0) d os
          have fe1 := fun d os => cell_regrown ((FB.out.cell (p := ⟨b, off + 1, none⟩) (by show b < _; omega)).trans e1) d os
          have fe2 := fun d os => cell_regrown ((FB.out.cell (p := ⟨b, off + 2, none⟩) (by show b < _; omega)).trans e2) d os
          have fe3 := fun d os => cell_regrown ((FB.out.cell (p := ⟨b, off + 3, none⟩) (by show b < _; omega)).trans e3) d os
          have fe4 := fun d os => cell_regrown ((FB.out.cell (p := ⟨b, off + 4, none⟩) (by show b < _; omega)).trans e4) d os
          have fe5 := fun d os => cell_regrown ((FB.out.cell (p := ⟨b, off + 5, none⟩) (by show b < _; omega)).trans e5) d os
          have fe6 := fun d os => cell_regrown ((FB.out.cell (p := ⟨b, off + 6, none⟩) (by show b < _; omega)).trans e6) d os
          have xb := fun d os => cell_regrown (box_at _ _ HF.out 0 (.int .i64 f.1) rfl) d os
          have eh2 := eg2.same (Same.of_below FB.out hS0)
          have eh3 := eg3.same (Same.of_below FB.out hS0)
          have eh4 := eg4.same (Same.of_below FB.out hS0)
          have eh5 := eg5.same (Same.of_below FB.out hS0)
          cases hp : partB sp va seen (wantOf f)
          · refine wp_region_quiet_below (by kernel_rfl) (by kernel_rfl) ?_
            repeat (first | go_big_quiet_step (with_reducible exact partC_q S _ _ _ _ _ _ _ _ _ _ sp va f _ G1 G2 eh2 eh3 eh4 eh5 hSb hsp _ hp _ _) | quiet_step (with_reducible exact partC_q S _ _ _ _ _ _ _ _ _ _ sp va f _ G1 G2 eh2 eh3 eh4 eh5 hSb hsp _ hp _ _))
            refine wpQuiet_nil ?_
            intro _ hw'
            obtain ⟨⟨dq, osq⟩, hw''⟩ := hw'
            subst hw''
            go_wp2
            go_ret
            have hz : placeB sp va seen ps (0) (by omega) = false := by unfold placeB; rw [ef, hp]; rfl
            exact ⟨by rw [show partsB sp va seen ps = false from @decide_eq_false _ (Classical.propDecidable _) (fun h => by have h2 := h.2 (0) (by omega); rw [hz] at h2; cases h2)]; rfl, below_end (E1.out.trans ((below_regrown wb dq osq).mono (by have := E1.out.size; simp at this; omega)))⟩
          · have hbe : behindB (prevO ps 0) f = true := by rw [prev_zero ps]; rfl
            refine wp_region_quiet_below (by kernel_rfl) (by kernel_rfl) ?_
            repeat (first | go_big_quiet_step (with_reducible exact partC_q S _ _ _ _ _ _ _ _ _ _ sp va f _ G1 G2 eh2 eh3 eh4 eh5 hSb hsp _ hp _ _) | quiet_step (with_reducible exact partC_q S _ _ _ _ _ _ _ _ _ _ sp va f _ G1 G2 eh2 eh3 eh4 eh5 hSb hsp _ hp _ _))
            refine wpQuiet_nil ?_
            intro _ hw'
            obtain ⟨⟨dq, osq⟩, hw''⟩ := hw'
            subst hw''
            go_wp2
            go_loopw [5] (fun i wk => ∃ c : Nat, c ≤ 0 ∧ i = .int .i64 c ∧ Hid (∀ j (hj : j < ps.length), j < c → meetB f ps[j] = false) ∧ Hid (Below (w0.heap.size + 1) (w0.alloc (.cells #[.int .i64 f.1, .int .i64 f.2.1, .slice eo2 en2 ek2, .slice eo3 en3 ek3, .slice eo4 en4 ek4, .slice eo5 en5 ek5] 48)) wk)) (fun i _ => 0 - (intOf i).toNat)
            case atStart => exact ⟨0, Nat.zero_le _, rfl, fun _ _ h => by omega, (HF.out.trans ((below_regrown wb dq osq).mono (by have := HF.out.size; simp at this; omega)))⟩
            case round =>
              obtain ⟨c, hc, rfl, hno, I⟩ := hrel
              have FI := below_end I.out
              have hsI : w0.heap.size + 1 ≤ wr.heap.size := by have := I.out.size; simpa using this
              have E2 : Hid (Below (w.heap.size + 1) (w.alloc (.cells #[v0, v1, v2, .slice (some ⟨b, off, none⟩) n k3, .int .i64 seen] 33)) wr) := E.out.trans (FI.mono hsE)
              have B2 := below_end E2.out
              have yy3 := box_at _ _ E2.out 3 (.slice (some ⟨b, off, none⟩) n k3) rfl
              by_cases hcq : c < 0
              · exact absurd hcq (by omega)
              · have hA : (ps.take (0)).all (fun o => !meetB f o) = true := all_yes (fun j hj => by
                  rw [List.getElem_take, hno.out j (by rw [List.length_take] at hj; omega) (by rw [List.length_take] at hj; omega)]; rfl)
                have hz : placeB sp va seen ps (0) (by omega) = true := by unfold placeB; rw [ef, hp, hbe, hA]; rfl
                go_wp2
                go_roundw
                case rel => exact ⟨0 + 1, by omega, by go_num, fun j hj hjk => by
                  by_cases e : j = 0
                  · subst e; exact hz
                  · exact hall.out j hj (by omega), E2.out⟩
                case measure => simp [intOf]; omega
        · obtain ⟨m, rfl⟩ : ∃ m, k = m + 1 := ⟨k - 1, by omega⟩
          obtain ⟨b, off, rfl, hbS, cc, hcell, hat⟩ := HC.out (m + 1) (by omega)
          have hb := hS b hbS
          rw [width_DClaimPart] at hcell
          rw [at_DClaimPart] at hat
          have e0 : w0.cell? ⟨b, off + (m + 1) * 7, none⟩ = some (cc 0) := (B.cell (p := ⟨b, off + (m + 1) * 7, none⟩) hb).trans (by simpa using hcell 0 (by omega))
          rw [hat.1.1] at e0
          have e1 : w0.cell? ⟨b, off + (m + 1) * 7 + 1, none⟩ = some (cc 1) := (B.cell (p := ⟨b, off + (m + 1) * 7 + 1, none⟩) hb).trans (by simpa using hcell 1 (by omega))
          rw [hat.2.1.1] at e1
          have e2 : w0.cell? ⟨b, off + (m + 1) * 7 + 2, none⟩ = some (cc 2) := (B.cell (p := ⟨b, off + (m + 1) * 7 + 2, none⟩) hb).trans (by simpa using hcell 2 (by omega))
          have e3 : w0.cell? ⟨b, off + (m + 1) * 7 + 3, none⟩ = some (cc 3) := (B.cell (p := ⟨b, off + (m + 1) * 7 + 3, none⟩) hb).trans (by simpa using hcell 3 (by omega))
          have e4 : w0.cell? ⟨b, off + (m + 1) * 7 + 4, none⟩ = some (cc 4) := (B.cell (p := ⟨b, off + (m + 1) * 7 + 4, none⟩) hb).trans (by simpa using hcell 4 (by omega))
          have e5 : w0.cell? ⟨b, off + (m + 1) * 7 + 5, none⟩ = some (cc 5) := (B.cell (p := ⟨b, off + (m + 1) * 7 + 5, none⟩) hb).trans (by simpa using hcell 5 (by omega))
          have e6 : w0.cell? ⟨b, off + (m + 1) * 7 + 6, none⟩ = some (cc 6) := (B.cell (p := ⟨b, off + (m + 1) * 7 + 6, none⟩) hb).trans (by simpa using hcell 6 (by omega))
          have eg2 := hat.2.2.1.same (Same.of_below B hS)
          have eg3 := hat.2.2.2.1.same (Same.of_below B hS)
          have eg4 := hat.2.2.2.2.1.same (Same.of_below B hS)
          have eg5 := hat.2.2.2.2.2.1.same (Same.of_below B hS)
          obtain ⟨f, ef⟩ : ∃ f, ps[(m + 1)]'(by omega) = f := ⟨_, rfl⟩
          rw [ef] at e0 e1 eg2 eg3 eg4 eg5
          obtain ⟨eo2, ek2, ex2, hx2, _⟩ := id eg2
          obtain ⟨en2, ez2⟩ : ∃ n, List.length f.2.2.1 = n := ⟨_, rfl⟩
          rw [ez2] at ex2 hx2
          rw [ex2] at e2 eg2
          have el2 := hx2.1
          unfold maxLen at el2
          clear ex2 hx2
          obtain ⟨eo3, ek3, ex3, hx3, _⟩ := id eg3
          obtain ⟨en3, ez3⟩ : ∃ n, List.length f.2.2.2.1 = n := ⟨_, rfl⟩
          rw [ez3] at ex3 hx3
          rw [ex3] at e3 eg3
          have el3 := hx3.1
          unfold maxLen at el3
          clear ex3 hx3
          obtain ⟨eo4, ek4, ex4, hx4, _⟩ := id eg4
          obtain ⟨en4, ez4⟩ : ∃ n, List.length f.2.2.2.2.1 = n := ⟨_, rfl⟩
          rw [ez4] at ex4 hx4
          rw [ex4] at e4 eg4
          have el4 := hx4.1
          unfold maxLen at el4
          clear ex4 hx4
          obtain ⟨eo5, ek5, ex5, hx5, _⟩ := id eg5
          obtain ⟨en5, ez5⟩ : ∃ n, List.length f.2.2.2.2.2.1 = n := ⟨_, rfl⟩
          rw [ez5] at ex5 hx5
          rw [ex5] at e5 eg5
          have el5 := hx5.1
          unfold maxLen at el5
          clear ex5 hx5
          obtain ⟨ev, ex6⟩ : ∃ v, cc 6 = v := ⟨_, rfl⟩
          rw [ex6] at e6
          clear hcell hat ex6
          obtain ⟨pb, poff, peq, _, pc, hcell, hat⟩ := HC.out m (by omega)
          cases peq
          rw [width_DClaimPart] at hcell
          rw [at_DClaimPart] at hat
          have p0 : w0.cell? ⟨b, off + m * 7, none⟩ = some (pc 0) := (B.cell (p := ⟨b, off + m * 7, none⟩) hb).trans (by simpa using hcell 0 (by omega))
          rw [hat.1.1] at p0
          clear hcell hat
          obtain ⟨pr, epr⟩ : ∃ f, ps[m]'(by omega) = f := ⟨_, rfl⟩
          rw [epr] at p0
          have gt0 : decide ((0 : Int) < ((m : Int) + 1)) = true := by rw [decide_eq_true_eq]; omega
          go_wp2
          refine gen_world (fun W' => Below (w0.heap.size + 1) (w0.alloc (.cells #[.int .i64 f.1, .int .i64 f.2.1, .slice eo2 en2 ek2, .slice eo3 en3 ek3, .slice eo4 en4 ek4, .slice eo5 en5 ek5] 48)) W') (Below.refl _ _) ?_
          intro wb hF
          have HF : Hid (Below (w0.heap.size + 1) (w0.alloc (.cells #[.int .i64 f.1, .int .i64 f.2.1, .slice eo2 en2 ek2, .slice eo3 en3 ek3, .slice eo4 en4 ek4, .slice eo5 en5 ek5] 48)) wb) := hF
          clear hF
          have FB : Hid (Below w0.heap.size w0 wb) := below_end HF.out
          have E1 : Hid (Below (w.heap.size + 1) (w.alloc (.cells #[v0, v1, v2, .slice (some ⟨b, off, none⟩) n k3, .int .i64 seen] 33)) wb) := E.out.trans (FB.out.mono hsE)
          have B1 := below_end E1.out
          have G1 := H1.out _ B1
          have G2 := H2.out _ B1
          have hSb : ∀ b, S b → b < wb.heap.size := fun b hb => by have := hS b hb; have := B1.size; omega
          have z0 := fun d os => cell_regrown (box_at _ _ E1.out 0 (v0) rfl) d os
          have z1 := fun d os => cell_regrown (box_at _ _ E1.out 1 (v1) rfl) d os
          have z2 := fun d os => cell_regrown (box_at _ _ E1.out 2 (v2) rfl) d os
          have z3 := fun d os => cell_regrown (box_at _ _ E1.out 3 (.slice (some ⟨b, off, none⟩) n k3) rfl) d os
          have z4 := fun d os => cell_regrown (box_at _ _ E1.out 4 (.int .i64 seen) rfl) d os
          have fe0 := fun d os => cell_regrown ((FB.out.cell (p := ⟨b, off + (m + 1) * 7, none⟩) (by show b < _; omega)).trans e0) d os
          have fe1 := fun d os => cell_regrown ((FB.out.cell (p := ⟨b, off + (m + 1) * 7 + 1, none⟩) (by show b < _; omega)).trans e1) d os
          have fe2 := fun d os => cell_regrown ((FB.out.cell (p := ⟨b, off + (m + 1) * 7 + 2, none⟩) (by show b < _; omega)).trans e2) d os
          have fe3 := fun d os => cell_regrown ((FB.out.cell (p := ⟨b, off + (m + 1) * 7 + 3, none⟩) (by show b < _; omega)).trans e3) d os
          have fe4 := fun d os => cell_regrown ((FB.out.cell (p := ⟨b, off + (m + 1) * 7 + 4, none⟩) (by show b < _; omega)).trans e4) d os
          have fe5 := fun d os => cell_regrown ((FB.out.cell (p := ⟨b, off + (m + 1) * 7 + 5, none⟩) (by show b < _; omega)).trans e5) d os
          have fe6 := fun d os => cell_regrown ((FB.out.cell (p := ⟨b, off + (m + 1) * 7 + 6, none⟩) (by show b < _; omega)).trans e6) d os
          have fp0 := fun d os => cell_regrown ((FB.out.cell (p := ⟨b, off + m * 7, none⟩) (by show b < _; omega)).trans p0) d os
          have xb := fun d os => cell_regrown (box_at _ _ HF.out 0 (.int .i64 f.1) rfl) d os
          have eh2 := eg2.same (Same.of_below FB.out hS0)
          have eh3 := eg3.same (Same.of_below FB.out hS0)
          have eh4 := eg4.same (Same.of_below FB.out hS0)
          have eh5 := eg5.same (Same.of_below FB.out hS0)
          cases hp : partB sp va seen (wantOf f)
          · refine wp_region_quiet_below (by kernel_rfl) (by kernel_rfl) ?_
            repeat (first | go_big_quiet_step (with_reducible exact partC_q S _ _ _ _ _ _ _ _ _ _ sp va f _ G1 G2 eh2 eh3 eh4 eh5 hSb hsp _ hp _ _) | quiet_step (with_reducible exact partC_q S _ _ _ _ _ _ _ _ _ _ sp va f _ G1 G2 eh2 eh3 eh4 eh5 hSb hsp _ hp _ _))
            refine wpQuiet_nil ?_
            intro _ hw'
            obtain ⟨⟨dq, osq⟩, hw''⟩ := hw'
            subst hw''
            go_wp2
            go_ret
            have hz : placeB sp va seen ps ((m + 1)) (by omega) = false := by unfold placeB; rw [ef, hp]; rfl
            exact ⟨by rw [show partsB sp va seen ps = false from @decide_eq_false _ (Classical.propDecidable _) (fun h => by have h2 := h.2 ((m + 1)) (by omega); rw [hz] at h2; cases h2)]; rfl, below_end (E1.out.trans ((below_regrown wb dq osq).mono (by have := E1.out.size; simp at this; omega)))⟩
          · cases hbh : decide (f.1 ≤ pr.1)
            · have hbe : behindB (prevO ps (m + 1)) f = true := by rw [prev_succ ps m (by omega), epr]; show (!decide (f.1 ≤ pr.1)) = _; rw [hbh]; rfl
              refine wp_region_quiet_below (by kernel_rfl) (by kernel_rfl) ?_
              repeat (first | go_big_quiet_step (with_reducible exact partC_q S _ _ _ _ _ _ _ _ _ _ sp va f _ G1 G2 eh2 eh3 eh4 eh5 hSb hsp _ hp _ _) | quiet_step (with_reducible exact partC_q S _ _ _ _ _ _ _ _ _ _ sp va f _ G1 G2 eh2 eh3 eh4 eh5 hSb hsp _ hp _ _))
              refine wpQuiet_nil ?_
              intro _ hw'
              obtain ⟨⟨dq, osq⟩, hw''⟩ := hw'
              subst hw''
              go_wp2
              go_loopw [5] (fun i wk => ∃ c : Nat, c ≤ (m + 1) ∧ i = .int .i64 c ∧ Hid (∀ j (hj : j < ps.length), j < c → meetB f ps[j] = false) ∧ Hid (Below (w0.heap.size + 1) (w0.alloc (.cells #[.int .i64 f.1, .int .i64 f.2.1, .slice eo2 en2 ek2, .slice eo3 en3 ek3, .slice eo4 en4 ek4, .slice eo5 en5 ek5] 48)) wk)) (fun i _ => (m + 1) - (intOf i).toNat)
              case atStart => exact ⟨0, Nat.zero_le _, rfl, fun _ _ h => by omega, (HF.out.trans ((below_regrown wb dq osq).mono (by have := HF.out.size; simp at this; omega)))⟩
              case round =>
                obtain ⟨c, hc, rfl, hno, I⟩ := hrel
                have FI := below_end I.out
                have hsI : w0.heap.size + 1 ≤ wr.heap.size := by have := I.out.size; simpa using this
                have E2 : Hid (Below (w.heap.size + 1) (w.alloc (.cells #[v0, v1, v2, .slice (some ⟨b, off, none⟩) n k3, .int .i64 seen] 33)) wr) := E.out.trans (FI.mono hsE)
                have B2 := below_end E2.out
                have yy3 := box_at _ _ E2.out 3 (.slice (some ⟨b, off, none⟩) n k3) rfl
                by_cases hcq : c < (m + 1)
                · obtain ⟨db, doff, deq, _, dc, hcell, hat⟩ := HC.out c (by omega)
                  cases deq
                  rw [width_DClaimPart] at hcell
                  rw [at_DClaimPart] at hat
                  have d0 : wr.cell? ⟨b, off + c * 7, none⟩ = some (dc 0) := (B2.cell (p := ⟨b, off + c * 7, none⟩) hb).trans (by simpa using hcell 0 (by omega))
                  rw [hat.1.1] at d0
                  have d1 : wr.cell? ⟨b, off + c * 7 + 1, none⟩ = some (dc 1) := (B2.cell (p := ⟨b, off + c * 7 + 1, none⟩) hb).trans (by simpa using hcell 1 (by omega))
                  rw [hat.2.1.1] at d1
                  have d2 : wr.cell? ⟨b, off + c * 7 + 2, none⟩ = some (dc 2) := (B2.cell (p := ⟨b, off + c * 7 + 2, none⟩) hb).trans (by simpa using hcell 2 (by omega))
                  have d3 : wr.cell? ⟨b, off + c * 7 + 3, none⟩ = some (dc 3) := (B2.cell (p := ⟨b, off + c * 7 + 3, none⟩) hb).trans (by simpa using hcell 3 (by omega))
                  have d4 : wr.cell? ⟨b, off + c * 7 + 4, none⟩ = some (dc 4) := (B2.cell (p := ⟨b, off + c * 7 + 4, none⟩) hb).trans (by simpa using hcell 4 (by omega))
                  have d5 : wr.cell? ⟨b, off + c * 7 + 5, none⟩ = some (dc 5) := (B2.cell (p := ⟨b, off + c * 7 + 5, none⟩) hb).trans (by simpa using hcell 5 (by omega))
                  have d6 : wr.cell? ⟨b, off + c * 7 + 6, none⟩ = some (dc 6) := (B2.cell (p := ⟨b, off + c * 7 + 6, none⟩) hb).trans (by simpa using hcell 6 (by omega))
                  have dg2 := hat.2.2.1.same (Same.of_below B2 hS)
                  have dg3 := hat.2.2.2.1.same (Same.of_below B2 hS)
                  have dg4 := hat.2.2.2.2.1.same (Same.of_below B2 hS)
                  have dg5 := hat.2.2.2.2.2.1.same (Same.of_below B2 hS)
                  obtain ⟨g, eg⟩ : ∃ f, ps[c]'(by omega) = f := ⟨_, rfl⟩
                  rw [eg] at d0 d1 dg2 dg3 dg4 dg5
                  obtain ⟨do2, dk2, ex2, hx2, _⟩ := id dg2
                  obtain ⟨dn2, dz2⟩ : ∃ n, List.length g.2.2.1 = n := ⟨_, rfl⟩
                  rw [dz2] at ex2 hx2
                  rw [ex2] at d2 dg2
                  have dl2 := hx2.1
                  unfold maxLen at dl2
                  clear ex2 hx2
                  obtain ⟨do3, dk3, ex3, hx3, _⟩ := id dg3
                  obtain ⟨dn3, dz3⟩ : ∃ n, List.length g.2.2.2.1 = n := ⟨_, rfl⟩
                  rw [dz3] at ex3 hx3
                  rw [ex3] at d3 dg3
                  have dl3 := hx3.1
                  unfold maxLen at dl3
                  clear ex3 hx3
                  obtain ⟨do4, dk4, ex4, hx4, _⟩ := id dg4
                  obtain ⟨dn4, dz4⟩ : ∃ n, List.length g.2.2.2.2.1 = n := ⟨_, rfl⟩
                  rw [dz4] at ex4 hx4
                  rw [ex4] at d4 dg4
                  have dl4 := hx4.1
                  unfold maxLen at dl4
                  clear ex4 hx4
                  obtain ⟨do5, dk5, ex5, hx5, _⟩ := id dg5
                  obtain ⟨dn5, dz5⟩ : ∃ n, List.length g.2.2.2.2.2.1 = n := ⟨_, rfl⟩
                  rw [dz5] at ex5 hx5
                  rw [ex5] at d5 dg5
                  have dl5 := hx5.1
                  unfold maxLen at dl5
                  clear ex5 hx5
                  obtain ⟨dv, ex6⟩ : ∃ v, dc 6 = v := ⟨_, rfl⟩
                  rw [ex6] at d6
                  clear hcell hat ex6
                  go_wp2
                  refine gen_world (fun W' => Below (wr.heap.size + 1) (wr.alloc (.cells #[.int .i64 g.1, .int .i64 g.2.1, .slice do2 dn2 dk2, .slice do3 dn3 dk3, .slice do4 dn4 dk4, .slice do5 dn5 dk5] 48)) W') (Below.refl _ _) ?_
                  intro wc hG
                  have HG : Hid (Below (wr.heap.size + 1) (wr.alloc (.cells #[.int .i64 g.1, .int .i64 g.2.1, .slice do2 dn2 dk2, .slice do3 dn3 dk3, .slice do4 dn4 dk4, .slice do5 dn5 dk5] 48)) wc) := hG
                  clear hG
                  have GB : Hid (Below wr.heap.size wr wc) := below_end HG.out
                  have I2 : Hid (Below (w0.heap.size + 1) (w0.alloc (.cells #[.int .i64 f.1, .int .i64 f.2.1, .slice eo2 en2 ek2, .slice eo3 en3 ek3, .slice eo4 en4 ek4, .slice eo5 en5 ek5] 48)) wc) := I.out.trans (GB.out.mono hsI)
                  have u0 := box_at _ _ I2.out 0 (.int .i64 f.1) rfl
                  have u1 := box_at _ _ I2.out 1 (.int .i64 f.2.1) rfl
                  have u2 := box_at _ _ I2.out 2 (.slice eo2 en2 ek2) rfl
                  have u3 := box_at _ _ I2.out 3 (.slice eo3 en3 ek3) rfl
                  have u4 := box_at _ _ I2.out 4 (.slice eo4 en4 ek4) rfl
                  have u5 := box_at _ _ I2.out 5 (.slice eo5 en5 ek5) rfl
                  have v0' := box_at _ _ HG.out 0 (.int .i64 g.1) rfl
                  have v1' := box_at _ _ HG.out 1 (.int .i64 g.2.1) rfl
                  have v2' := box_at _ _ HG.out 2 (.slice do2 dn2 dk2) rfl
                  have v3' := box_at _ _ HG.out 3 (.slice do3 dn3 dk3) rfl
                  have v4' := box_at _ _ HG.out 4 (.slice do4 dn4 dk4) rfl
                  have v5' := box_at _ _ HG.out 5 (.slice do5 dn5 dk5) rfl
                  have hdr : Hid (Below wc.heap.size wc wc.drew) := (Below.refl _ _).drew
                  have hwc : wr.heap.size + 1 ≤ wc.heap.size := by have := HG.out.size; simpa using this
                  have FC : Hid (Below w0.heap.size w0 wc) := below_end I2.out
                  have lf : List.length f.2.2.2.1 ≤ 8 := part_len hp
                  have lg : List.length g.2.2.2.1 ≤ 8 := by have h := part_len (place_part (hall.out c (by omega) (by omega))); rw [eg] at h; exact h
                  have hSw : ∀ wx : World, Below wc.heap.size wc wx → ∀ b, S b → b < wx.heap.size := fun wx h b hb => by have := hS0 b hb; have := h.size; omega
                  have HFm : Hid (∀ wx : World, Below wc.heap.size wc wx → Below w0.heap.size w0 wx) := fun wx h => FC.out.trans (h.mono FC.out.size)
                  have HGm : Hid (∀ wx : World, Below wc.heap.size wc wx → Below wr.heap.size wr wx) := fun wx h => GB.out.trans (h.mono GB.out.size)
                  have hSI : ∀ b, S b → b < wr.heap.size := fun b hb => by have := hS0 b hb; omega
                  have UA : Hid (∀ wx : World, Below wc.heap.size wc wx → Calls Tryz.prog 66 #[.agg #[.int .i64 f.1, .int .i64 f.2.1, .slice eo2 en2 ek2, .slice eo3 en3 ek3, .slice eo4 en4 ek4, .slice eo5 en5 ek5]] wx fun e w' => ∃ v', e = .returned v' ∧ AtL (fun b => wx.heap.size ≤ b ∧ b < w'.heap.size) w' (usN f.2.2.2.1) v' ∧ Below wx.heap.size wx w') := fun wx h => usnC_any S _ _ _ _ _ _ f.2.2.2.1 wx (eg3.same (Same.of_below (HFm.out wx h) hS0)) (hSw wx h) (by omega)
                  have UG : Hid (∀ wx : World, Below wc.heap.size wc wx → Calls Tryz.prog 66 #[.agg #[.int .i64 g.1, .int .i64 g.2.1, .slice do2 dn2 dk2, .slice do3 dn3 dk3, .slice do4 dn4 dk4, .slice do5 dn5 dk5]] wx fun e w' => ∃ v', e = .returned v' ∧ AtL (fun b => wx.heap.size ≤ b ∧ b < w'.heap.size) w' (usN g.2.2.2.1) v' ∧ Below wx.heap.size wx w') := fun wx h => usnC_any S _ _ _ _ _ _ g.2.2.2.1 wx (dg3.same (Same.of_below (HGm.out wx h) hSI)) (hSw wx h) (by omega)
                  refine wp_region_movesC (fun v => Below wc.heap.size wc v) 9 [] (by kernel_rfl) (by kernel_rfl) hdr.out ?_
                  simp only [movD, List.filterMap_nil]
                  refine takeHQ (f := 8) (i := 0) (.agg #[.int .i64 f.1, .int .i64 f.2.1, .slice eo2 en2 ek2, .slice eo3 en3 ek3, .slice eo4 en4 ek4, .slice eo5 en5 ek5]) ⟨rfl, rfl⟩ (by kernel_rfl) rfl (hdr.out) ?r0 ?_
                  case r0 =>
                    intro v hv
                    have c0 := (hv.cell (p := ⟨w0.heap.size, 0, none⟩) (by show w0.heap.size < _; omega)).trans u0
                    have c1 := (hv.cell (p := ⟨w0.heap.size, 1, none⟩) (by show w0.heap.size < _; omega)).trans u1
                    have c2 := (hv.cell (p := ⟨w0.heap.size, 2, none⟩) (by show w0.heap.size < _; omega)).trans u2
                    have c3 := (hv.cell (p := ⟨w0.heap.size, 3, none⟩) (by show w0.heap.size < _; omega)).trans u3
                    have c4 := (hv.cell (p := ⟨w0.heap.size, 4, none⟩) (by show w0.heap.size < _; omega)).trans u4
                    have c5 := (hv.cell (p := ⟨w0.heap.size, 5, none⟩) (by show w0.heap.size < _; omega)).trans u5
                    go_simp
                  simp only [Act.put, List.setIfInBounds_toArray, List.set_cons_zero, List.set_cons_succ]
                  refine takeHQ (f := 7) (i := 2) (.agg #[.int .i64 g.1, .int .i64 g.2.1, .slice do2 dn2 dk2, .slice do3 dn3 dk3, .slice do4 dn4 dk4, .slice do5 dn5 dk5]) ⟨rfl, rfl⟩ (by kernel_rfl) rfl (hdr.out) ?r2 ?_
                  case r2 =>
                    intro v hv
                    have c0 := (hv.cell (p := ⟨wr.heap.size, 0, none⟩) (by show wr.heap.size < _; omega)).trans v0'
                    have c1 := (hv.cell (p := ⟨wr.heap.size, 1, none⟩) (by show wr.heap.size < _; omega)).trans v1'
                    have c2 := (hv.cell (p := ⟨wr.heap.size, 2, none⟩) (by show wr.heap.size < _; omega)).trans v2'
                    have c3 := (hv.cell (p := ⟨wr.heap.size, 3, none⟩) (by show wr.heap.size < _; omega)).trans v3'
                    have c4 := (hv.cell (p := ⟨wr.heap.size, 4, none⟩) (by show wr.heap.size < _; omega)).trans v4'
                    have c5 := (hv.cell (p := ⟨wr.heap.size, 5, none⟩) (by show wr.heap.size < _; omega)).trans v5'
                    go_simp
                  simp only [Act.put, List.setIfInBounds_toArray, List.set_cons_zero, List.set_cons_succ]
                  refine callHd (f := 6) (i := 1) (d := 61) (fn := 66) (args := #[.agg #[.int .i64 f.1, .int .i64 f.2.1, .slice eo2 en2 ek2, .slice eo3 en3 ek3, .slice eo4 en4 ek4, .slice eo5 en5 ek5]]) ⟨rfl, rfl⟩ (by decide) (by kernel_rfl) rfl ?run ((UA.out wc.drew hdr.out).mono ?_)
                  case run => go_simp
                  rintro e w3 ⟨u1', rfl, A1, hb3⟩
                  have HB3 : Hid (Below wc.heap.size wc w3) := hdr.out.trans hb3
                  have HA1 : Hid (AtL (fun b => wc.heap.size ≤ b ∧ b < w3.heap.size) w3 (usN f.2.2.2.1) u1') := A1
                  refine ⟨_, rfl, HB3.out, ?_⟩
                  clear A1 hb3
                  simp only [Act.put, List.setIfInBounds_toArray, List.set_cons_zero, List.set_cons_succ]
                  refine callHd (f := 5) (i := 3) (d := 63) (fn := 66) (args := #[.agg #[.int .i64 g.1, .int .i64 g.2.1, .slice do2 dn2 dk2, .slice do3 dn3 dk3, .slice do4 dn4 dk4, .slice do5 dn5 dk5]]) ⟨rfl, rfl⟩ (by decide) (by kernel_rfl) rfl ?run ((UG.out w3 HB3.out).mono ?_)
                  case run => go_simp
                  rintro e w4 ⟨u2', rfl, A2, hb4⟩
                  have HB4 : Hid (Below wc.heap.size wc w4) := HB3.out.trans (hb4.mono HB3.out.size)
                  have K1 : Hid (AtL (fun b => wc.heap.size ≤ b ∧ b < w4.heap.size) w4 (usN f.2.2.2.1) u1') := AtL.up (AtL.same HA1.out (Same.of_below hb4 (fun b hb => hb.2))) (fun b hb => ⟨hb.1, Nat.lt_of_lt_of_le hb.2 hb4.size⟩)
                  have K2 : Hid (AtL (fun b => wc.heap.size ≤ b ∧ b < w4.heap.size) w4 (usN g.2.2.2.1) u2') := AtL.up A2 (fun b hb => ⟨Nat.le_trans HB3.out.size hb.1, hb.2⟩)
                  refine ⟨_, rfl, HB4.out, ?_⟩
                  clear A2 hb4 HA1
                  simp only [Act.put, List.setIfInBounds_toArray, List.set_cons_zero, List.set_cons_succ]
                  cases hs1 : shareB (usN f.2.2.2.1) (usN g.2.2.2.1)
                  · refine callHd (f := 4) (i := 4) (d := 64) (fn := 65) (args := #[u1', u2']) ⟨rfl, rfl⟩ (by decide) (by kernel_rfl) rfl ?run ((shareC_any (fun b => wc.heap.size ≤ b ∧ b < w4.heap.size) _ _ _ _ _ K1.out K2.out (fun b hb => hb.2)).mono ?_)
                    case run => go_simp
                    rintro e w5 ⟨rfl, hb5⟩
                    rw [hs1]
                    have HB5 : Hid (Below wc.heap.size wc w5) := HB4.out.trans (hb5.mono HB4.out.size)
                    clear hb5
                    refine ⟨_, rfl, HB5.out, ?_⟩
                    simp only [Act.put, List.setIfInBounds_toArray, List.set_cons_zero, List.set_cons_succ]
                    refine takeHQ (f := 3) (i := 5) (.bool false) ⟨rfl, rfl⟩ (by kernel_rfl) rfl (HB5.out) ?r5 ?_
                    case r5 =>
                      intro v hv
                      go_simp
                    simp only [Act.put, List.setIfInBounds_toArray, List.set_cons_zero, List.set_cons_succ]
                    refine takeHQ (f := 2) (i := 6) (.agg #[.int .i64 f.1, .int .i64 f.2.1, .slice eo2 en2 ek2, .slice eo3 en3 ek3, .slice eo4 en4 ek4, .slice eo5 en5 ek5]) ⟨rfl, rfl⟩ (by kernel_rfl) rfl (HB5.out) ?r6 ?_
                    case r6 =>
                      intro v hv
                      have c0 := (hv.cell (p := ⟨w0.heap.size, 0, none⟩) (by show w0.heap.size < _; omega)).trans u0
                      have c1 := (hv.cell (p := ⟨w0.heap.size, 1, none⟩) (by show w0.heap.size < _; omega)).trans u1
                      have c2 := (hv.cell (p := ⟨w0.heap.size, 2, none⟩) (by show w0.heap.size < _; omega)).trans u2
                      have c3 := (hv.cell (p := ⟨w0.heap.size, 3, none⟩) (by show w0.heap.size < _; omega)).trans u3
                      have c4 := (hv.cell (p := ⟨w0.heap.size, 4, none⟩) (by show w0.heap.size < _; omega)).trans u4
                      have c5 := (hv.cell (p := ⟨w0.heap.size, 5, none⟩) (by show w0.heap.size < _; omega)).trans u5
                      go_simp
                    simp only [Act.put, List.setIfInBounds_toArray, List.set_cons_zero, List.set_cons_succ]
                    refine takeHQ (f := 1) (i := 7) (.agg #[.int .i64 g.1, .int .i64 g.2.1, .slice do2 dn2 dk2, .slice do3 dn3 dk3, .slice do4 dn4 dk4, .slice do5 dn5 dk5]) ⟨rfl, rfl⟩ (by kernel_rfl) rfl (HB5.out) ?r7 ?_
                    case r7 =>
                      intro v hv
                      have c0 := (hv.cell (p := ⟨wr.heap.size, 0, none⟩) (by show wr.heap.size < _; omega)).trans v0'
                      have c1 := (hv.cell (p := ⟨wr.heap.size, 1, none⟩) (by show wr.heap.size < _; omega)).trans v1'
                      have c2 := (hv.cell (p := ⟨wr.heap.size, 2, none⟩) (by show wr.heap.size < _; omega)).trans v2'
                      have c3 := (hv.cell (p := ⟨wr.heap.size, 3, none⟩) (by show wr.heap.size < _; omega)).trans v3'
                      have c4 := (hv.cell (p := ⟨wr.heap.size, 4, none⟩) (by show wr.heap.size < _; omega)).trans v4'
                      have c5 := (hv.cell (p := ⟨wr.heap.size, 5, none⟩) (by show wr.heap.size < _; omega)).trans v5'
                      go_simp
                    simp only [Act.put, List.setIfInBounds_toArray, List.set_cons_zero, List.set_cons_succ]
                    cases hs2 : crossB f.2.2.2.2.1 f.2.2.2.2.2.1 g.2.2.2.2.1 g.2.2.2.2.2.1
                    · refine callHd (f := 0) (i := 8) (d := 68) (fn := 67) (args := #[.agg #[.int .i64 f.1, .int .i64 f.2.1, .slice eo2 en2 ek2, .slice eo3 en3 ek3, .slice eo4 en4 ek4, .slice eo5 en5 ek5], .agg #[.int .i64 g.1, .int .i64 g.2.1, .slice do2 dn2 dk2, .slice do3 dn3 dk3, .slice do4 dn4 dk4, .slice do5 dn5 dk5]]) ⟨rfl, rfl⟩ (by decide) (by kernel_rfl) rfl ?run ((crossC_any S _ _ _ _ _ _ _ _ _ _ _ _ f.2.2.2.2.1 f.2.2.2.2.2.1 g.2.2.2.2.1 g.2.2.2.2.2.1 _ (eg4.same (Same.of_below (HFm.out _ HB5.out) hS0)) (eg5.same (Same.of_below (HFm.out _ HB5.out) hS0)) (dg4.same (Same.of_below (HGm.out _ HB5.out) hSI)) (dg5.same (Same.of_below (HGm.out _ HB5.out) hSI)) (hSw _ HB5.out)).mono ?_)
                      case run => go_simp
                      rintro e w6 ⟨rfl, hb6⟩
                      rw [hs2]
                      have HB6 : Hid (Below wc.heap.size wc w6) := HB5.out.trans (hb6.mono HB5.out.size)
                      clear hb6
                      refine ⟨_, rfl, HB6.out, ?_⟩
                      simp only [Act.put, List.setIfInBounds_toArray, List.set_cons_zero, List.set_cons_succ]
                      refine ⟨by kernel_rfl, ?_⟩
                      simp only [List.drop_succ_cons, List.drop_zero]
                      go_wp2_with fail
                      go_roundw
                      case rel =>
                        have RR : ∃ q' : Nat, q' ≤ (m + 1) ∧ Value.int .i64 ((c : Int) + 1) = .int .i64 (q' : Int) ∧ Hid (∀ j (hj : j < ps.length), j < q' → meetB f ps[j] = false) ∧ Hid (Below (w0.heap.size + 1) (w0.alloc (.cells #[.int .i64 f.1, .int .i64 f.2.1, .slice eo2 en2 ek2, .slice eo3 en3 ek3, .slice eo4 en4 ek4, .slice eo5 en5 ek5] 48)) w6) := ⟨c + 1, by omega, by go_num, fun j hj hjk => by
                          by_cases e : j = c
                          · subst e; rw [eg]; unfold meetB; rw [hs1, hs2]; rfl
                          · exact hno.out j hj (by omega), I2.out.trans (HB6.out.mono (by omega))⟩
                        first
                          | exact RR
                          | ((repeat apply Exists.intro); exact ⟨RR, rfl⟩)
                      case measure => simp [intOf]; omega
                    · refine callHd (f := 0) (i := 8) (d := 68) (fn := 67) (args := #[.agg #[.int .i64 f.1, .int .i64 f.2.1, .slice eo2 en2 ek2, .slice eo3 en3 ek3, .slice eo4 en4 ek4, .slice eo5 en5 ek5], .agg #[.int .i64 g.1, .int .i64 g.2.1, .slice do2 dn2 dk2, .slice do3 dn3 dk3, .slice do4 dn4 dk4, .slice do5 dn5 dk5]]) ⟨rfl, rfl⟩ (by decide) (by kernel_rfl) rfl ?run ((crossC_any S _ _ _ _ _ _ _ _ _ _ _ _ f.2.2.2.2.1 f.2.2.2.2.2.1 g.2.2.2.2.1 g.2.2.2.2.2.1 _ (eg4.same (Same.of_below (HFm.out _ HB5.out) hS0)) (eg5.same (Same.of_below (HFm.out _ HB5.out) hS0)) (dg4.same (Same.of_below (HGm.out _ HB5.out) hSI)) (dg5.same (Same.of_below (HGm.out _ HB5.out) hSI)) (hSw _ HB5.out)).mono ?_)
                      case run => go_simp
                      rintro e w6 ⟨rfl, hb6⟩
                      rw [hs2]
                      have HB6 : Hid (Below wc.heap.size wc w6) := HB5.out.trans (hb6.mono HB5.out.size)
                      clear hb6
                      refine ⟨_, rfl, HB6.out, ?_⟩
                      simp only [Act.put, List.setIfInBounds_toArray, List.set_cons_zero, List.set_cons_succ]
                      refine ⟨by kernel_rfl, ?_⟩
                      simp only [List.drop_succ_cons, List.drop_zero]
                      have hmt : meetB f g = true := by unfold meetB; rw [hs1, hs2]; rfl
                      have hA : (ps.take ((m + 1))).all (fun o => !meetB f o) = false := all_no (k := c) (by rw [List.length_take]; omega) (by rw [List.getElem_take, eg, hmt]; rfl)
                      go_wp2_with fail
                      go_ret
                      have hz : placeB sp va seen ps ((m + 1)) (by omega) = false := by unfold placeB; rw [ef, hp, hbe, hA]; rfl
                      exact ⟨by rw [show partsB sp va seen ps = false from @decide_eq_false _ (Classical.propDecidable _) (fun h => by have h2 := h.2 ((m + 1)) (by omega); rw [hz] at h2; cases h2)]; rfl, below_end (E.out.trans ((HFm.out _ HB6.out).mono hsE))⟩
                  · refine callHd (f := 4) (i := 4) (d := 64) (fn := 65) (args := #[u1', u2']) ⟨rfl, rfl⟩ (by decide) (by kernel_rfl) rfl ?run ((shareC_any (fun b => wc.heap.size ≤ b ∧ b < w4.heap.size) _ _ _ _ _ K1.out K2.out (fun b hb => hb.2)).mono ?_)
                    case run => go_simp
                    rintro e w5 ⟨rfl, hb5⟩
                    rw [hs1]
                    have HB5 : Hid (Below wc.heap.size wc w5) := HB4.out.trans (hb5.mono HB4.out.size)
                    clear hb5
                    refine ⟨_, rfl, HB5.out, ?_⟩
                    simp only [Act.put, List.setIfInBounds_toArray, List.set_cons_zero, List.set_cons_succ]
                    refine takeHQ (f := 3) (i := 5) (.bool true) ⟨rfl, rfl⟩ (by kernel_rfl) rfl (HB5.out) ?r5 ?_
                    case r5 =>
                      intro v hv
                      go_simp
                    simp only [Act.put, List.setIfInBounds_toArray, List.set_cons_zero, List.set_cons_succ]
                    refine takeHX (f := 2) (i := 6) ⟨rfl, rfl⟩ (by kernel_rfl) rfl HB5.out ?_
                    simp only [Act.put, List.setIfInBounds_toArray, List.set_cons_zero, List.set_cons_succ]
                    refine takeHX (f := 1) (i := 7) ⟨rfl, rfl⟩ (by kernel_rfl) rfl HB5.out ?_
                    simp only [Act.put, List.setIfInBounds_toArray, List.set_cons_zero, List.set_cons_succ]
                    refine takeHX (f := 0) (i := 8) ⟨rfl, rfl⟩ (by kernel_rfl) rfl HB5.out ?_
                    simp only [Act.put, List.setIfInBounds_toArray, List.set_cons_zero, List.set_cons_succ]
                    refine ⟨by kernel_rfl, ?_⟩
                    simp only [List.drop_succ_cons, List.drop_zero]
                    have hmt : meetB f g = true := by unfold meetB; rw [hs1]; rfl
                    have hA : (ps.take ((m + 1))).all (fun o => !meetB f o) = false := all_no (k := c) (by rw [List.length_take]; omega) (by rw [List.getElem_take, eg, hmt]; rfl)
                    go_wp2_with fail
                    go_ret
                    have hz : placeB sp va seen ps ((m + 1)) (by omega) = false := by unfold placeB; rw [ef, hp, hbe, hA]; rfl
                    exact ⟨by rw [show partsB sp va seen ps = false from @decide_eq_false _ (Classical.propDecidable _) (fun h => by have h2 := h.2 ((m + 1)) (by omega); rw [hz] at h2; cases h2)]; rfl, below_end (E.out.trans ((HFm.out _ HB5.out).mono hsE))⟩
                · have hA : (ps.take ((m + 1))).all (fun o => !meetB f o) = true := all_yes (fun j hj => by
                    rw [List.getElem_take, hno.out j (by rw [List.length_take] at hj; omega) (by rw [List.length_take] at hj; omega)]; rfl)
                  have hz : placeB sp va seen ps ((m + 1)) (by omega) = true := by unfold placeB; rw [ef, hp, hbe, hA]; rfl
                  go_wp2
                  go_roundw
                  case rel => exact ⟨(m + 1) + 1, by omega, by go_num, fun j hj hjk => by
                    by_cases e : j = (m + 1)
                    · subst e; exact hz
                    · exact hall.out j hj (by omega), E2.out⟩
                  case measure => simp [intOf]; omega
            · have hbe : behindB (prevO ps (m + 1)) f = false := by rw [prev_succ ps m (by omega), epr]; show (!decide (f.1 ≤ pr.1)) = _; rw [hbh]; rfl
              refine wp_region_quiet_below (by kernel_rfl) (by kernel_rfl) ?_
              repeat (first | go_big_quiet_step (with_reducible exact partC_q S _ _ _ _ _ _ _ _ _ _ sp va f _ G1 G2 eh2 eh3 eh4 eh5 hSb hsp _ hp _ _) | quiet_step (with_reducible exact partC_q S _ _ _ _ _ _ _ _ _ _ sp va f _ G1 G2 eh2 eh3 eh4 eh5 hSb hsp _ hp _ _))
              refine wpQuiet_nil ?_
              intro _ hw'
              obtain ⟨⟨dq, osq⟩, hw''⟩ := hw'
              subst hw''
              go_wp2
              go_ret
              have hz : placeB sp va seen ps ((m + 1)) (by omega) = false := by unfold placeB; rw [ef, hp, hbe]; rfl
              exact ⟨by rw [show partsB sp va seen ps = false from @decide_eq_false _ (Classical.propDecidable _) (fun h => by have h2 := h.2 ((m + 1)) (by omega); rw [hz] at h2; cases h2)]; rfl, below_end (E1.out.trans ((below_regrown wb dq osq).mono (by have := E1.out.size; simp at this; omega)))⟩
      · go_wp2
        go_ret
        exact ⟨by rw [show partsB sp va seen ps = true from @decide_eq_true _ (Classical.propDecidable _) ⟨by omega, fun i hi => hall.out i hi (by omega)⟩]; rfl, B⟩
  · have d0 : decide ((6 : Int) < (n : Int)) = true := by simp; omega
    go_enter Tryz.func44, Tryz.ntmps44
    go_wp2
    go_ret
    exact ⟨by rw [show partsB sp va seen ps = false from @decide_eq_false _ (Classical.propDecidable _) (fun h => by have := h.1; omega)]; rfl, (Below.refl _ _).alloc (Nat.le_refl _) _⟩

end Go.Proofs.YticojnepejboaacGreat
