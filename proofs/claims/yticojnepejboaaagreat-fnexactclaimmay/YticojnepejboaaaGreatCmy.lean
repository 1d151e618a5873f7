/-
  Under which number a valve may be open: contracts of ClaimMay, of the model and of the program.
-/
import Derived.Test.YticojnepejboaaaGreatCl
import Derived.Test.YticojnepejboaaaGreatCpn
namespace Go.Proofs.YticojnepejboaaaGreat
open Go.RowKit

/-- May a part have the valve open? -/
def openX (x : ByteArray) (p : DClaimPart) : Bool := !p.2.2.2.2.2.2 && hasB p.2.2.2.2.1 x
/-- The number under which a valve may be open. -/
noncomputable def openN (foes : List DClaimFoe) (sp : List DClaimSpot) (va : List ByteArray) (ps : List DClaimPart) (seen : Int) (x : ByteArray) : Int :=
  if bookS foes sp va ps seen then ((ps.find? (openX x)).map fun p => p.1).getD 0 else 0
theorem openN_bad {foes sp va ps seen} (x : ByteArray) (h : bookS foes sp va ps seen = false) : openN foes sp va ps seen x = 0 := by
  unfold openN; rw [h]; rfl
theorem openN_yes {foes sp va ps seen} {x : ByteArray} (h : bookS foes sp va ps seen = true) {k : Nat} (hk : k < ps.length) (hp : openX x ps[k] = true) (hno : ∀ j (hj : j < ps.length), j < k → openX x ps[j] = false) : openN foes sp va ps seen x = ps[k].1 := by
  have : ps.find? (openX x) = some ps[k] := List.find?_eq_some_iff_getElem.2 ⟨hp, k, hk, rfl, fun j hj => by rw [hno j (by omega) hj]; rfl⟩
  unfold openN; rw [h, this]; rfl
theorem openN_no {foes sp va ps seen} {x : ByteArray} (h : bookS foes sp va ps seen = true) (hno : ∀ j (hj : j < ps.length), openX x ps[j] = false) : openN foes sp va ps seen x = 0 := by
  have : ps.find? (openX x) = none := List.find?_eq_none.2 (fun p hp => by
    obtain ⟨j, hj, rfl⟩ := List.getElem_of_mem hp
    rw [hno j hj]; simp)
  unfold openN; rw [h, this]; rfl

set_option maxRecDepth 100000 in
set_option maxHeartbeats 8000000 in
theorem mayC_any (S : Nat → Prop) (v0 v1 v2 v3 : Value) (seen : Int) (foes : List DClaimFoe) (sp : List DClaimSpot) (va : List ByteArray) (ps : List DClaimPart) (x : ByteArray) (w : World) (h0 : AtL S w foes v0) (h1 : AtL S w sp v1) (h2 : AtL S w va v2) (h3 : AtL S w ps v3) (hS : ∀ b, S b → b < w.heap.size) :
    Calls Tryz.prog 5 #[.agg #[v0, v1, v2, v3, .int .i64 seen], .string x] w fun e w' => e = .returned (.int .i64 (openN foes sp va ps seen x)) ∧ Below w.heap.size w w' := by
  have sA : Same S w (w.alloc (.cells #[v0, v1, v2, v3, .int .i64 seen] 34)) := Same.of_alloc w _ hS
  have CB : Hid _ := bookC_any S v0 v1 v2 v3 seen foes sp va ps (w.alloc (.cells #[v0, v1, v2, v3, .int .i64 seen] 34)) (h0.same sA) (h1.same sA) (h2.same sA) (h3.same sA) (fun b hb => by have := hS b hb; simp; omega)
  clear h0 h1 h2 sA
  obtain ⟨o3, k3, rfl, hn, hc⟩ := h3
  obtain ⟨n, en⟩ : ∃ n, ps.length = n := ⟨_, rfl⟩
  rw [en] at hn CB
  rw [en]
  unfold maxLen at hn
  have HC : Hid _ := hc
  clear hc
  go_enter Tryz.func5, Tryz.ntmps5
  go_wp2_with fail
  refine Calls.mono CB.out ?_
  rintro e w1 ⟨rfl, hb1⟩
  have E1 : Hid (Below (w.heap.size + 1) (w.alloc (.cells #[v0, v1, v2, .slice o3 n k3, .int .i64 seen] 34)) w1) := by simpa [Hid] using hb1
  clear hb1 CB
  cases hbk : bookS foes sp va ps seen
  · go_wp2_with fail
    go_ret
    exact ⟨by rw [openN_bad x hbk]; rfl, below_end E1.out⟩
  · have y3 := box_at _ _ E1.out 3 (.slice o3 n k3) rfl
    go_wp2_with fail
    go_loopw [5] (fun i wr => ∃ k : Nat, k ≤ n ∧ i = .int .i64 k ∧ Hid (∀ j (hj : j < ps.length), j < k → openX x ps[j] = false) ∧ Hid (Below (w.heap.size + 1) (w.alloc (.cells #[v0, v1, v2, .slice o3 n k3, .int .i64 seen] 34)) wr)) (fun i _ => n - (intOf i).toNat)
    case atStart => exact ⟨0, Nat.zero_le _, rfl, fun _ _ h => by omega, E1.out⟩
    case round =>
      obtain ⟨k, hk, rfl, hall, E⟩ := hrel
      clear y3
      have B := below_end E.out
      have hs := B.size
      have hsE : w.heap.size + 1 ≤ wr.heap.size := by have := E.out.size; simpa using this
      have SR : ∀ b, S b → b < wr.heap.size := fun b hb => by have := hS b hb; omega
      have y3 := box_at _ _ E.out 3 (.slice o3 n k3) rfl
      by_cases hlt : k < n
      · obtain ⟨b, off, rfl, hbS, cc, hcell, hat⟩ := HC.out k (by omega)
        have hb := hS b hbS
        rw [width_DClaimPart] at hcell
        rw [at_DClaimPart] at hat
        have e0 : wr.cell? ⟨b, off + k * 7, none⟩ = some (cc 0) := (B.cell (p := ⟨b, off + k * 7, none⟩) hb).trans (by have := hcell 0 (by omega); simpa [Nat.add_mul, Nat.add_assoc] using this)
        rw [hat.1.1] at e0
        have e1 : wr.cell? ⟨b, off + k * 7 + 1, none⟩ = some (cc 1) := (B.cell (p := ⟨b, off + k * 7 + 1, none⟩) hb).trans (by have := hcell 1 (by omega); simpa [Nat.add_mul, Nat.add_assoc] using this)
        rw [hat.2.1.1] at e1
        have e2 : wr.cell? ⟨b, off + k * 7 + 2, none⟩ = some (cc 2) := (B.cell (p := ⟨b, off + k * 7 + 2, none⟩) hb).trans (by have := hcell 2 (by omega); simpa [Nat.add_mul, Nat.add_assoc] using this)
        have e3 : wr.cell? ⟨b, off + k * 7 + 3, none⟩ = some (cc 3) := (B.cell (p := ⟨b, off + k * 7 + 3, none⟩) hb).trans (by have := hcell 3 (by omega); simpa [Nat.add_mul, Nat.add_assoc] using this)
        have e4 : wr.cell? ⟨b, off + k * 7 + 4, none⟩ = some (cc 4) := (B.cell (p := ⟨b, off + k * 7 + 4, none⟩) hb).trans (by have := hcell 4 (by omega); simpa [Nat.add_mul, Nat.add_assoc] using this)
        have e5 : wr.cell? ⟨b, off + k * 7 + 5, none⟩ = some (cc 5) := (B.cell (p := ⟨b, off + k * 7 + 5, none⟩) hb).trans (by have := hcell 5 (by omega); simpa [Nat.add_mul, Nat.add_assoc] using this)
        have e6 : wr.cell? ⟨b, off + k * 7 + 6, none⟩ = some (cc 6) := (B.cell (p := ⟨b, off + k * 7 + 6, none⟩) hb).trans (by have := hcell 6 (by omega); simpa [Nat.add_mul, Nat.add_assoc] using this)
        have eg2 := hat.2.2.1.same (Same.of_below B hS)
        have eg3 := hat.2.2.2.1.same (Same.of_below B hS)
        have eg4 := hat.2.2.2.2.1.same (Same.of_below B hS)
        have eg5 := hat.2.2.2.2.2.1.same (Same.of_below B hS)
        obtain ⟨f, ef⟩ : ∃ f, ps[k]'(by omega) = f := ⟨_, rfl⟩
        rw [ef] at e0 e1 eg2 eg3 eg4 eg5
        obtain ⟨eo2, ek2, ex2, hx2, _⟩ := id eg2
        obtain ⟨en2, ez2⟩ : ∃ n, List.length f.2.2.1 = n := ⟨_, rfl⟩
        rw [ez2] at ex2 hx2
        rw [ex2] at e2 eg2
        clear ex2 hx2
        obtain ⟨eo3, ek3, ex3, hx3, _⟩ := id eg3
        obtain ⟨en3, ez3⟩ : ∃ n, List.length f.2.2.2.1 = n := ⟨_, rfl⟩
        rw [ez3] at ex3 hx3
        rw [ex3] at e3 eg3
        clear ex3 hx3
        obtain ⟨eo4, ek4, ex4, hx4, _⟩ := id eg4
        obtain ⟨en4, ez4⟩ : ∃ n, List.length f.2.2.2.2.1 = n := ⟨_, rfl⟩
        rw [ez4] at ex4 hx4
        rw [ex4] at e4 eg4
        clear ex4 hx4
        obtain ⟨eo5, ek5, ex5, hx5, _⟩ := id eg5
        obtain ⟨en5, ez5⟩ : ∃ n, List.length f.2.2.2.2.2.1 = n := ⟨_, rfl⟩
        rw [ez5] at ex5 hx5
        rw [ex5] at e5 eg5
        clear ex5 hx5
        rw [hat.2.2.2.2.2.2, ef] at e6
        clear hcell hat
        cases c6 : f.2.2.2.2.2.2
        · rw [c6] at e6
          have CA : Hid _ := hasC_any S (.slice eo4 en4 ek4) f.2.2.2.2.1 x wr eg4
          cases c4 : hasB f.2.2.2.2.1 x
          · go_wp2_with fail
            refine Calls.mono CA.out ?_
            rintro e w2 ⟨rfl, hb2⟩
            rw [c4]
            have E2 : Hid (Below (w.heap.size + 1) (w.alloc (.cells #[v0, v1, v2, .slice (some ⟨b, off, none⟩) n k3, .int .i64 seen] 34)) w2) := E.out.trans (hb2.mono hsE)
            have hz : openX x (ps[k]'(by omega)) = false := by rw [ef]; unfold openX; rw [c6, c4]; rfl
            go_wp2_with fail
            go_roundw
            case rel => exact ⟨k + 1, by omega, by go_num, fun j hj hjk => by
              by_cases e : j = k
              · subst e; exact hz
              · exact hall.out j hj (by omega), E2.out⟩
            case measure => simp [intOf]; omega
          · go_wp2_with fail
            refine Calls.mono CA.out ?_
            rintro e w2 ⟨rfl, hb2⟩
            rw [c4]
            have E2 : Hid (Below (w.heap.size + 1) (w.alloc (.cells #[v0, v1, v2, .slice (some ⟨b, off, none⟩) n k3, .int .i64 seen] 34)) w2) := E.out.trans (hb2.mono hsE)
            have hz : openX x (ps[k]'(by omega)) = true := by rw [ef]; unfold openX; rw [c6, c4]; rfl
            have z3 := box_at _ _ E2.out 3 (.slice (some ⟨b, off, none⟩) n k3) rfl
            have d0 := (hb2.cell (p := ⟨b, off + k * 7, none⟩) (SR b hbS)).trans e0
            go_wp2_with fail
            go_ret
            exact ⟨by rw [openN_yes hbk (by omega) hz hall.out, ef]; rfl, below_end E2.out⟩
        · rw [c6] at e6
          go_wp2_with fail
          have hz : openX x (ps[k]'(by omega)) = false := by rw [ef]; unfold openX; rw [c6]; rfl
          go_roundw
          case rel => exact ⟨k + 1, by omega, by go_num, fun j hj hjk => by
            by_cases e : j = k
            · subst e; exact hz
            · exact hall.out j hj (by omega), E.out⟩
          case measure => simp [intOf]; omega
      · go_wp2_with fail
        go_ret
        exact ⟨by rw [openN_no hbk (fun j hj => hall.out j hj (by omega))]; rfl, B⟩

set_option maxRecDepth 100000 in
set_option maxHeartbeats 8000000 in
theorem mayI_any (S : Nat → Prop) (v0 v1 v2 v3 : Value) (seen : Int) (foes : List DClaimFoe) (sp : List DClaimSpot) (va : List ByteArray) (ps : List DClaimPart) (x : ByteArray) (w : World) (h0 : AtL S w foes v0) (h1 : AtL S w sp v1) (h2 : AtL S w va v2) (h3 : AtL S w ps v3) (hS : ∀ b, S b → b < w.heap.size) :
    Calls Tryz.prog 7 #[.agg #[v0, v1, v2, v3, .int .i64 seen], .string x] w fun e w' => e = .returned (.int .i64 (openN foes sp va ps seen x)) ∧ Below w.heap.size w w' := by
  have sA : Same S w (w.alloc (.cells #[v0, v1, v2, v3, .int .i64 seen] 34)) := Same.of_alloc w _ hS
  have CB : Hid _ := bookIC_any S v0 v1 v2 v3 seen foes sp va ps (w.alloc (.cells #[v0, v1, v2, v3, .int .i64 seen] 34)) (h0.same sA) (h1.same sA) (h2.same sA) (h3.same sA) (fun b hb => by have := hS b hb; simp; omega)
  clear h0 h1 h2 sA
  obtain ⟨o3, k3, rfl, hn, hc⟩ := h3
  obtain ⟨n, en⟩ : ∃ n, ps.length = n := ⟨_, rfl⟩
  rw [en] at hn CB
  rw [en]
  unfold maxLen at hn
  have HC : Hid _ := hc
  clear hc
  go_enter Tryz.func7, Tryz.ntmps7
  go_wp2_with fail
  refine Calls.mono CB.out ?_
  rintro e w1 ⟨rfl, hb1⟩
  have E1 : Hid (Below (w.heap.size + 1) (w.alloc (.cells #[v0, v1, v2, .slice o3 n k3, .int .i64 seen] 34)) w1) := by simpa [Hid] using hb1
  clear hb1 CB
  cases hbk : bookS foes sp va ps seen
  · go_wp2_with fail
    go_ret
    exact ⟨by rw [openN_bad x hbk]; rfl, below_end E1.out⟩
  · have y3 := box_at _ _ E1.out 3 (.slice o3 n k3) rfl
    go_wp2_with fail
    go_loopw [13] (fun i wr => ∃ k : Nat, k ≤ n ∧ i = .int .i64 k ∧ Hid (∀ j (hj : j < ps.length), j < k → openX x ps[j] = false) ∧ Hid (Below (w.heap.size + 1) (w.alloc (.cells #[v0, v1, v2, .slice o3 n k3, .int .i64 seen] 34)) wr)) (fun i _ => n - (intOf i).toNat)
    case atStart => exact ⟨0, Nat.zero_le _, rfl, fun _ _ h => by omega, E1.out⟩
    case round =>
      obtain ⟨k, hk, rfl, hall, E⟩ := hrel
      clear y3
      have B := below_end E.out
      have hs := B.size
      have hsE : w.heap.size + 1 ≤ wr.heap.size := by have := E.out.size; simpa using this
      have SR : ∀ b, S b → b < wr.heap.size := fun b hb => by have := hS b hb; omega
      have y3 := box_at _ _ E.out 3 (.slice o3 n k3) rfl
      by_cases hlt : k < n
      · obtain ⟨b, off, rfl, hbS, cc, hcell, hat⟩ := HC.out k (by omega)
        have hb := hS b hbS
        rw [width_DClaimPart] at hcell
        rw [at_DClaimPart] at hat
        have e0 : wr.cell? ⟨b, off + k * 7, none⟩ = some (cc 0) := (B.cell (p := ⟨b, off + k * 7, none⟩) hb).trans (by have := hcell 0 (by omega); simpa [Nat.add_mul, Nat.add_assoc] using this)
        rw [hat.1.1] at e0
        have e1 : wr.cell? ⟨b, off + k * 7 + 1, none⟩ = some (cc 1) := (B.cell (p := ⟨b, off + k * 7 + 1, none⟩) hb).trans (by have := hcell 1 (by omega); simpa [Nat.add_mul, Nat.add_assoc] using this)
        rw [hat.2.1.1] at e1
        have e2 : wr.cell? ⟨b, off + k * 7 + 2, none⟩ = some (cc 2) := (B.cell (p := ⟨b, off + k * 7 + 2, none⟩) hb).trans (by have := hcell 2 (by omega); simpa [Nat.add_mul, Nat.add_assoc] using this)
        have e3 : wr.cell? ⟨b, off + k * 7 + 3, none⟩ = some (cc 3) := (B.cell (p := ⟨b, off + k * 7 + 3, none⟩) hb).trans (by have := hcell 3 (by omega); simpa [Nat.add_mul, Nat.add_assoc] using this)
        have e4 : wr.cell? ⟨b, off + k * 7 + 4, none⟩ = some (cc 4) := (B.cell (p := ⟨b, off + k * 7 + 4, none⟩) hb).trans (by have := hcell 4 (by omega); simpa [Nat.add_mul, Nat.add_assoc] using this)
        have e5 : wr.cell? ⟨b, off + k * 7 + 5, none⟩ = some (cc 5) := (B.cell (p := ⟨b, off + k * 7 + 5, none⟩) hb).trans (by have := hcell 5 (by omega); simpa [Nat.add_mul, Nat.add_assoc] using this)
        have e6 : wr.cell? ⟨b, off + k * 7 + 6, none⟩ = some (cc 6) := (B.cell (p := ⟨b, off + k * 7 + 6, none⟩) hb).trans (by have := hcell 6 (by omega); simpa [Nat.add_mul, Nat.add_assoc] using this)
        have eg2 := hat.2.2.1.same (Same.of_below B hS)
        have eg3 := hat.2.2.2.1.same (Same.of_below B hS)
        have eg4 := hat.2.2.2.2.1.same (Same.of_below B hS)
        have eg5 := hat.2.2.2.2.2.1.same (Same.of_below B hS)
        obtain ⟨f, ef⟩ : ∃ f, ps[k]'(by omega) = f := ⟨_, rfl⟩
        rw [ef] at e0 e1 eg2 eg3 eg4 eg5
        obtain ⟨eo2, ek2, ex2, hx2, _⟩ := id eg2
        obtain ⟨en2, ez2⟩ : ∃ n, List.length f.2.2.1 = n := ⟨_, rfl⟩
        rw [ez2] at ex2 hx2
        rw [ex2] at e2 eg2
        clear ex2 hx2
        obtain ⟨eo3, ek3, ex3, hx3, _⟩ := id eg3
        obtain ⟨en3, ez3⟩ : ∃ n, List.length f.2.2.2.1 = n := ⟨_, rfl⟩
        rw [ez3] at ex3 hx3
        rw [ex3] at e3 eg3
        clear ex3 hx3
        obtain ⟨eo4, ek4, ex4, hx4, _⟩ := id eg4
        obtain ⟨en4, ez4⟩ : ∃ n, List.length f.2.2.2.2.1 = n := ⟨_, rfl⟩
        rw [ez4] at ex4 hx4
        rw [ex4] at e4 eg4
        clear ex4 hx4
        obtain ⟨eo5, ek5, ex5, hx5, _⟩ := id eg5
        obtain ⟨en5, ez5⟩ : ∃ n, List.length f.2.2.2.2.2.1 = n := ⟨_, rfl⟩
        rw [ez5] at ex5 hx5
        rw [ex5] at e5 eg5
        clear ex5 hx5
        rw [hat.2.2.2.2.2.2, ef] at e6
        clear hcell hat
        cases c6 : f.2.2.2.2.2.2
        · rw [c6] at e6
          have EA : Hid (Below (w.heap.size + 1) (w.alloc (.cells #[v0, v1, v2, .slice (some ⟨b, off, none⟩) n k3, .int .i64 seen] 34)) (wr.alloc (.cells #[.int .i64 f.1, .int .i64 f.2.1, .slice eo2 en2 ek2, .slice eo3 en3 ek3, .slice eo4 en4 ek4, .slice eo5 en5 ek5, .bool false] 47))) := E.out.alloc hsE _
          have CA : Hid _ := hasI_any S (.slice eo4 en4 ek4) f.2.2.2.2.1 x (wr.alloc (.cells #[.int .i64 f.1, .int .i64 f.2.1, .slice eo2 en2 ek2, .slice eo3 en3 ek3, .slice eo4 en4 ek4, .slice eo5 en5 ek5, .bool false] 47)) (eg4.same (Same.of_alloc wr _ SR))
          cases c4 : hasB f.2.2.2.2.1 x
          · go_wp2_with fail
            refine Calls.mono CA.out ?_
            rintro e w2 ⟨rfl, rfl⟩
            rw [c4]
            have hz : openX x (ps[k]'(by omega)) = false := by rw [ef]; unfold openX; rw [c6, c4]; rfl
            go_wp2_with fail
            go_roundw
            case rel => exact ⟨k + 1, by omega, by go_num, fun j hj hjk => by
              by_cases e : j = k
              · subst e; exact hz
              · exact hall.out j hj (by omega), EA.out⟩
            case measure => simp [intOf]; omega
          · go_wp2_with fail
            refine Calls.mono CA.out ?_
            rintro e w2 ⟨rfl, rfl⟩
            rw [c4]
            have hz : openX x (ps[k]'(by omega)) = true := by rw [ef]; unfold openX; rw [c6, c4]; rfl
            go_wp2_with fail
            go_ret
            exact ⟨by rw [openN_yes hbk (by omega) hz hall.out, ef]; rfl, below_end EA.out⟩
        · rw [c6] at e6
          have EA : Hid (Below (w.heap.size + 1) (w.alloc (.cells #[v0, v1, v2, .slice (some ⟨b, off, none⟩) n k3, .int .i64 seen] 34)) (wr.alloc (.cells #[.int .i64 f.1, .int .i64 f.2.1, .slice eo2 en2 ek2, .slice eo3 en3 ek3, .slice eo4 en4 ek4, .slice eo5 en5 ek5, .bool true] 47))) := E.out.alloc hsE _
          go_wp2_with fail
          have hz : openX x (ps[k]'(by omega)) = false := by rw [ef]; unfold openX; rw [c6]; rfl
          go_roundw
          case rel => exact ⟨k + 1, by omega, by go_num, fun j hj hjk => by
            by_cases e : j = k
            · subst e; exact hz
            · exact hall.out j hj (by omega), EA.out⟩
          case measure => simp [intOf]; omega
      · go_wp2_with fail
        go_ret
        exact ⟨by rw [openN_no hbk (fun j hj => hall.out j hj (by omega))]; rfl, B⟩

end Go.Proofs.YticojnepejboaaaGreat
