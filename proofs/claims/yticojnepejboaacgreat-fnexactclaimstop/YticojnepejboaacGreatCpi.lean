/-
  A contract of the program's test that no two parts of a book have the same.
-/
import Derived.Test.YticojnepejboaacGreatCph
namespace Go.Proofs.YticojnepejboaacGreat
open Go.RowKit

/-- What some parts have claimed. -/
def cntW (ps : List DClaimPart) : ByteArray → ByteArray → Int := ps.foldl (fun M p => addV (addU M p.2.2.2.1) p.2.2.2.2.1) (fun _ _ => 0)
theorem cntW_take (ps : List DClaimPart) (k : Nat) (h : k < ps.length) : cntW (ps.take (k + 1)) = addV (addU (cntW (ps.take k)) ps[k].2.2.2.1) ps[k].2.2.2.2.1 := by
  unfold cntW
  rw [List.take_add_one, List.getElem?_eq_getElem h, List.foldl_append]
  rfl
theorem cntW_bound0 : ∀ (ps : List DClaimPart) (M : ByteArray → ByteArray → Int) (c : Nat), (∀ p ∈ ps, p.2.2.2.1.length ≤ 8 ∧ p.2.2.2.2.1.length ≤ 12) → (∀ p q, 0 ≤ M p q ∧ M p q ≤ c) → ∀ p q, 0 ≤ ps.foldl (fun M p => addV (addU M p.2.2.2.1) p.2.2.2.2.1) M p q ∧ ps.foldl (fun M p => addV (addU M p.2.2.2.1) p.2.2.2.2.1) M p q ≤ (c + 20 * ps.length : Nat)
  | [], M, c, _, h => h
  | a :: ps, M, c, hl, h => fun p q => by
    have h1 := addV_bound a.2.2.2.2.1 _ _ (addU_bound a.2.2.2.1 M c h)
    have ha := hl a List.mem_cons_self
    have h2 := cntW_bound0 ps _ (c + 20) (fun x hx => hl x (List.mem_cons_of_mem _ hx)) (fun p q => ⟨(h1 p q).1, Int.le_trans (h1 p q).2 (by omega)⟩) p q
    rw [List.length_cons, show c + 20 * (ps.length + 1) = c + 20 + 20 * ps.length by omega]
    exact h2
/-- Has nobody what a part claims? -/
def clearB (M : ByteArray → ByteArray → Int) (a : DClaimPart) : Bool := !((a.2.2.2.1.any fun p : DClaimUse => decide (0 < M p.1 noT)) || (a.2.2.2.2.1.any fun x => decide (0 < M noT x)))
noncomputable def apartI (ps : List DClaimPart) : Bool := @decide (∀ k (h : k < ps.length), clearB (cntW (ps.take k)) ps[k] = true) (Classical.propDecidable _) && !pairB (fun a b : DClaimPart => shutB a.2.2.2.2.1 a.2.2.2.2.2.1 b.2.2.2.2.1 b.2.2.2.2.2.1) ps

set_option maxRecDepth 100000 in
set_option maxHeartbeats 8000000 in
theorem apart_any (S : Nat → Prop) (v0 v1 v2 v3 : Value) (seen : Int) (ps : List DClaimPart) (w : World) (h3 : AtL S w ps v3) (hS : ∀ b, S b → b < w.heap.size) (hl6 : ps.length ≤ 6) (hl : ∀ p ∈ ps, p.2.2.2.1.length ≤ 8 ∧ p.2.2.2.2.1.length ≤ 12) :
    Calls Tryz.prog 73 #[.agg #[v0, v1, v2, v3, .int .i64 seen]] w fun e w' => e = .returned (.bool (apartI ps)) ∧ Below w.heap.size w w' := by
  have H3 : Hid (∀ w', Below w.heap.size w w' → AtL S w' ps v3) := fun w' h => h3.same (Same.of_below h hS)
  obtain ⟨o3, k3, rfl, hn, hc⟩ := h3
  obtain ⟨n, en⟩ : ∃ n, ps.length = n := ⟨_, rfl⟩
  rw [en] at hn hl6 H3
  rw [en]
  unfold maxLen at hn
  have HC : Hid _ := hc
  have HL : Hid _ := hl
  clear hc hl
  have hmm := @run_makeMap Tryz.prog
  go_enter Tryz.func73, Tryz.ntmps73
  go_wp2
  go_loopw [10] (fun i wr => ∃ k : Nat, k ≤ n ∧ i = .int .i64 k ∧ Hid (∀ j (hj : j < ps.length), j < k → clearB (cntW (ps.take j)) ps[j] = true) ∧ Hid (Mc wr (w.heap.size + 1) (cntW (ps.take k))) ∧ Hid (Below (w.heap.size + 1) (w.alloc (.cells #[v0, v1, v2, .slice o3 n k3, .int .i64 seen] 33)) wr)) (fun i _ => n - (intOf i).toNat)
  case atStart =>
    refine ⟨0, Nat.zero_le _, rfl, fun _ _ h => by omega, ?_, (Below.refl _ _).alloc (by simp) _⟩
    have hmade := Mc.made (w.alloc (.cells #[v0, v1, v2, .slice o3 n k3, .int .i64 seen] 33))
    have hsz : (w.alloc (.cells #[v0, v1, v2, .slice o3 n k3, .int .i64 seen] 33)).heap.size = w.heap.size + 1 := by simp
    rw [hsz] at hmade
    exact hmade
  case round =>
    obtain ⟨k, hk, rfl, hall, hmp, E⟩ := hrel
    have B := below_end E.out
    have hs := B.size
    have hml := hmp.out.lt
    by_cases hlt : k < n
    · obtain ⟨b, off, rfl, hbS, cc, hcell, hat⟩ := HC.out k (by omega)
      have hb := hS b hbS
      rw [width_DClaimPart] at hcell
      rw [at_DClaimPart] at hat
      have e0 : wr.cell? ⟨b, off + k * 7, none⟩ = some (cc 0) := (B.cell (p := ⟨b, off + k * 7, none⟩) hb).trans (by have := hcell 0 (by omega); simpa [Nat.add_mul, Nat.add_assoc] using this)
      rw [hat.1.1] at e0
      have e1 : wr.cell? ⟨b, off + k * 7 + 1, none⟩ = some (cc 1) := (B.cell (p := ⟨b, off + k * 7 + 1, none⟩) hb).trans (by have := hcell 1 (by omega); simpa [Nat.add_mul, Nat.add_assoc] using this)
      rw [hat.2.1.1] at e1
      have e2 : wr.cell? ⟨b, off + k * 7 + 2, none⟩ = some (cc 2) := (B.cell (p := ⟨b, off + k * 7 + 2, none⟩) hb).trans (by have := hcell 2 (by omega); simpa [Nat.add_mul, Nat.add_assoc] using this)
      have e3 : wr.cell? ⟨b, off + k * 7 + 3, none⟩ = some (cc 3) := (B.cell (p := ⟨b, off + k * 7 + 3, none⟩) hb).trans (by have := hcell 3 (by omega); simpa [Nat.add_mul, Nat.add_assoc] using this)
      have e4 : wr.cell? ⟨b, off + k * 7 + 4, none⟩ = some (cc 4) := (B.cell (p := ⟨b, off + k * 7 + 4, none⟩) hb).trans (by have := hcell 4 (by omega); simpa [Nat.add_mul, Nat.add_assoc] using this)
      have e5 : wr.cell? ⟨b, off + k * 7 + 5, none⟩ = some (cc 5) := (B.cell (p := ⟨b, off + k * 7 + 5, none⟩) hb).trans (by have := hcell 5 (by omega); simpa [Nat.add_mul, Nat.add_assoc] using this)
      have e6 : wr.cell? ⟨b, off + k * 7 + 6, none⟩ = some (cc 6) := (B.cell (p := ⟨b, off + k * 7 + 6, none⟩) hb).trans (by have := hcell 6 (by omega); simpa [Nat.add_mul, Nat.add_assoc] using this)
      have eg2 := hat.2.2.1.same (Same.of_below B hS)
      have eg3 := hat.2.2.2.1.same (Same.of_below B hS)
      have eg4 := hat.2.2.2.2.1.same (Same.of_below B hS)
      have eg5 := hat.2.2.2.2.2.1.same (Same.of_below B hS)
      obtain ⟨f, ef⟩ : ∃ f, ps[k]'(by omega) = f := ⟨_, rfl⟩
      rw [ef] at e0 e1 eg2 eg3 eg4 eg5
      obtain ⟨eo2, ek2, ex2, hx2, _⟩ := id eg2
      obtain ⟨en2, ez2⟩ : ∃ n, List.length f.2.2.1 = n := ⟨_, rfl⟩
      rw [ez2] at ex2 hx2
      rw [ex2] at e2 eg2
      clear ex2 hx2
      obtain ⟨eo3, ek3, ex3, hx3, _⟩ := id eg3
      obtain ⟨en3, ez3⟩ : ∃ n, List.length f.2.2.2.1 = n := ⟨_, rfl⟩
      rw [ez3] at ex3 hx3
      rw [ex3] at e3 eg3
      clear ex3 hx3
      obtain ⟨eo4, ek4, ex4, hx4, _⟩ := id eg4
      obtain ⟨en4, ez4⟩ : ∃ n, List.length f.2.2.2.2.1 = n := ⟨_, rfl⟩
      rw [ez4] at ex4 hx4
      rw [ex4] at e4 eg4
      clear ex4 hx4
      obtain ⟨eo5, ek5, ex5, hx5, _⟩ := id eg5
      obtain ⟨en5, ez5⟩ : ∃ n, List.length f.2.2.2.2.2.1 = n := ⟨_, rfl⟩
      rw [ez5] at ex5 hx5
      rw [ex5] at e5 eg5
      clear ex5 hx5
      rw [hat.2.2.2.2.2.2, ef] at e6
      clear hcell hat
      have hfl := HL.out (ps[k]'(by omega)) (List.getElem_mem _)
      rw [ef] at hfl
      have MA : Hid (Mc (wr.alloc (.cells #[.int .i64 f.1, .int .i64 f.2.1, .slice eo2 en2 ek2, .slice eo3 en3 ek3, .slice eo4 en4 ek4, .slice eo5 en5 ek5, .bool f.2.2.2.2.2.2] 50)) (w.heap.size + 1) (cntW (ps.take k))) := hmp.out.of_block (Below.heap_alloc wr _ _ hml)
      have BA : Hid (Below wr.heap.size wr (wr.alloc (.cells #[.int .i64 f.1, .int .i64 f.2.1, .slice eo2 en2 ek2, .slice eo3 en3 ek3, .slice eo4 en4 ek4, .slice eo5 en5 ek5, .bool f.2.2.2.2.2.2] 50))) := (Below.refl _ _).alloc (Nat.le_refl _) _
      have SR : ∀ b, S b → b < wr.heap.size := fun b hb => by have := hS b hb; omega
      have SA : ∀ b, S b → b < (wr.alloc (.cells #[.int .i64 f.1, .int .i64 f.2.1, .slice eo2 en2 ek2, .slice eo3 en3 ek3, .slice eo4 en4 ek4, .slice eo5 en5 ek5, .bool f.2.2.2.2.2.2] 50)).heap.size := fun b hb => by have := SR b hb; simp; omega
      have CA : Hid _ := usesPlace_any S (.int .i64 f.1) (.int .i64 f.2.1) (.slice eo2 en2 ek2) (.slice eo3 en3 ek3) (.slice eo4 en4 ek4) (.slice eo5 en5 ek5) f.2.2.2.1 (w.heap.size + 1) (cntW (ps.take k)) (wr.alloc (.cells #[.int .i64 f.1, .int .i64 f.2.1, .slice eo2 en2 ek2, .slice eo3 en3 ek3, .slice eo4 en4 ek4, .slice eo5 en5 ek5, .bool f.2.2.2.2.2.2] 50)) MA.out (eg3.same (Same.of_below BA.out SR)) SA
      cases c0 : (f.2.2.2.1.any fun p : DClaimUse => decide (0 < (cntW (ps.take k)) p.1 noT))
      · go_wp2_with fail
        refine Calls.mono CA.out ?_
        rintro e w1 ⟨rfl, hb1⟩
        rw [c0]
        have D1 : Hid (Below (wr.heap.size + 1) (wr.alloc (.cells #[.int .i64 f.1, .int .i64 f.2.1, .slice eo2 en2 ek2, .slice eo3 en3 ek3, .slice eo4 en4 ek4, .slice eo5 en5 ek5, .bool f.2.2.2.2.2.2] 50)) w1) := by simpa [Hid] using hb1
        have B1 : Hid (Below wr.heap.size wr w1) := below_end D1.out
        have E1 : Hid (Below (w.heap.size + 1) (w.alloc (.cells #[v0, v1, v2, .slice (some ⟨b, off, none⟩) n k3, .int .i64 seen] 33)) w1) := E.out.trans (B1.out.mono (by omega))
        have M1 : Hid (Mc w1 (w.heap.size + 1) (cntW (ps.take k))) := hmp.out.below B1.out hml
        have hs1 := B1.out.size
        have S1 : ∀ b, S b → b < w1.heap.size := fun b hb => by have := SR b hb; omega
        have y0 := box_at _ _ D1.out 0 (.int .i64 f.1) rfl
        have y1 := box_at _ _ D1.out 1 (.int .i64 f.2.1) rfl
        have y2 := box_at _ _ D1.out 2 (.slice eo2 en2 ek2) rfl
        have y3 := box_at _ _ D1.out 3 (.slice eo3 en3 ek3) rfl
        have y4 := box_at _ _ D1.out 4 (.slice eo4 en4 ek4) rfl
        have y5 := box_at _ _ D1.out 5 (.slice eo5 en5 ek5) rfl
        clear hb1
        have CB : Hid _ := opensValve_any S (.int .i64 f.1) (.int .i64 f.2.1) (.slice eo2 en2 ek2) (.slice eo3 en3 ek3) (.slice eo4 en4 ek4) (.slice eo5 en5 ek5) f.2.2.2.2.1 (w.heap.size + 1) (cntW (ps.take k)) w1 M1.out (eg4.same (Same.of_below B1.out SR)) S1
        cases c1 : (f.2.2.2.2.1.any fun x => decide (0 < (cntW (ps.take k)) noT x))
        · go_wp2_with fail
          refine Calls.mono CB.out ?_
          rintro e w2 ⟨rfl, hb2⟩
          rw [c1]
          have D2 : Hid (Below (wr.heap.size + 1) (wr.alloc (.cells #[.int .i64 f.1, .int .i64 f.2.1, .slice eo2 en2 ek2, .slice eo3 en3 ek3, .slice eo4 en4 ek4, .slice eo5 en5 ek5, .bool f.2.2.2.2.2.2] 50)) w2) := D1.out.trans (hb2.mono (by have := D1.out.size; simpa using this))
          have B2 : Hid (Below wr.heap.size wr w2) := below_end D2.out
          have E2 : Hid (Below (w.heap.size + 1) (w.alloc (.cells #[v0, v1, v2, .slice (some ⟨b, off, none⟩) n k3, .int .i64 seen] 33)) w2) := E.out.trans (B2.out.mono (by omega))
          have M2 : Hid (Mc w2 (w.heap.size + 1) (cntW (ps.take k))) := hmp.out.below B2.out hml
          have z0 := box_at _ _ D2.out 0 (.int .i64 f.1) rfl
          have z1 := box_at _ _ D2.out 1 (.int .i64 f.2.1) rfl
          have z2 := box_at _ _ D2.out 2 (.slice eo2 en2 ek2) rfl
          have z3 := box_at _ _ D2.out 3 (.slice eo3 en3 ek3) rfl
          have z4 := box_at _ _ D2.out 4 (.slice eo4 en4 ek4) rfl
          have z5 := box_at _ _ D2.out 5 (.slice eo5 en5 ek5) rfl
          clear hb2
          have hz : clearB (cntW (ps.take k)) (ps[k]'(by omega)) = true := by rw [ef]; unfold clearB; rw [c0, c1]; rfl
          have CC : Hid _ := addC_any S (w.heap.size + 1) (cntW (ps.take k)) (20 * k) (.int .i64 f.1) (.int .i64 f.2.1) (.slice eo2 en2 ek2) (.slice eo3 en3 ek3) (.slice eo4 en4 ek4) (.slice eo5 en5 ek5) f.2.2.2.1 f.2.2.2.2.1 w2 M2.out (eg3.same (Same.of_below B2.out SR)) (eg4.same (Same.of_below B2.out SR)) (fun b hb => by have := hS b hb; omega) (fun p q => by have := cntW_bound0 (ps.take k) (fun _ _ => 0) 0 (fun p hp => HL.out p (List.mem_of_mem_take hp)) (fun _ _ => by simp) p q; rw [List.length_take, Nat.min_eq_left (by omega), Nat.zero_add] at this; exact this) (by omega)
          go_wp2_with fail
          refine Calls.mono CC.out ?_
          rintro e w3 ⟨rfl, hm3, hb3⟩
          have M3 : Hid (Mc w3 (w.heap.size + 1) (cntW (ps.take (k + 1)))) := by rw [cntW_take ps k (by omega), ef]; exact hm3
          have E3 : Hid (Below (w.heap.size + 1) (w.alloc (.cells #[v0, v1, v2, .slice (some ⟨b, off, none⟩) n k3, .int .i64 seen] 33)) w3) := E2.out.trans hb3
          clear hm3 hb3
          go_wp2_with fail
          go_roundw
          case rel => exact ⟨k + 1, by omega, by go_num, fun j hj hjk => by
            by_cases e : j = k
            · subst e; exact hz
            · exact hall.out j hj (by omega), M3.out, E3.out⟩
          case measure => simp [intOf]; omega
        · go_wp2_with fail
          refine Calls.mono CB.out ?_
          rintro e w2 ⟨rfl, hb2⟩
          rw [c1]
          have D2 : Hid (Below (wr.heap.size + 1) (wr.alloc (.cells #[.int .i64 f.1, .int .i64 f.2.1, .slice eo2 en2 ek2, .slice eo3 en3 ek3, .slice eo4 en4 ek4, .slice eo5 en5 ek5, .bool f.2.2.2.2.2.2] 50)) w2) := D1.out.trans (hb2.mono (by have := D1.out.size; simpa using this))
          have B2 : Hid (Below wr.heap.size wr w2) := below_end D2.out
          have E2 : Hid (Below (w.heap.size + 1) (w.alloc (.cells #[v0, v1, v2, .slice (some ⟨b, off, none⟩) n k3, .int .i64 seen] 33)) w2) := E.out.trans (B2.out.mono (by omega))
          have M2 : Hid (Mc w2 (w.heap.size + 1) (cntW (ps.take k))) := hmp.out.below B2.out hml
          have z0 := box_at _ _ D2.out 0 (.int .i64 f.1) rfl
          have z1 := box_at _ _ D2.out 1 (.int .i64 f.2.1) rfl
          have z2 := box_at _ _ D2.out 2 (.slice eo2 en2 ek2) rfl
          have z3 := box_at _ _ D2.out 3 (.slice eo3 en3 ek3) rfl
          have z4 := box_at _ _ D2.out 4 (.slice eo4 en4 ek4) rfl
          have z5 := box_at _ _ D2.out 5 (.slice eo5 en5 ek5) rfl
          clear hb2
          have hz : clearB (cntW (ps.take k)) (ps[k]'(by omega)) = false := by rw [ef]; unfold clearB; rw [c0, c1]; rfl
          go_wp2_with fail
          go_ret
          exact ⟨by rw [show apartI ps = false from by unfold apartI; rw [@decide_eq_false _ (Classical.propDecidable _) (fun h => by have := h k (by omega); rw [hz] at this; cases this)]; rfl]; rfl, below_end E2.out⟩
      · go_wp2_with fail
        refine Calls.mono CA.out ?_
        rintro e w1 ⟨rfl, hb1⟩
        rw [c0]
        have D1 : Hid (Below (wr.heap.size + 1) (wr.alloc (.cells #[.int .i64 f.1, .int .i64 f.2.1, .slice eo2 en2 ek2, .slice eo3 en3 ek3, .slice eo4 en4 ek4, .slice eo5 en5 ek5, .bool f.2.2.2.2.2.2] 50)) w1) := by simpa [Hid] using hb1
        have B1 : Hid (Below wr.heap.size wr w1) := below_end D1.out
        have E1 : Hid (Below (w.heap.size + 1) (w.alloc (.cells #[v0, v1, v2, .slice (some ⟨b, off, none⟩) n k3, .int .i64 seen] 33)) w1) := E.out.trans (B1.out.mono (by omega))
        have M1 : Hid (Mc w1 (w.heap.size + 1) (cntW (ps.take k))) := hmp.out.below B1.out hml
        have hs1 := B1.out.size
        have S1 : ∀ b, S b → b < w1.heap.size := fun b hb => by have := SR b hb; omega
        have y0 := box_at _ _ D1.out 0 (.int .i64 f.1) rfl
        have y1 := box_at _ _ D1.out 1 (.int .i64 f.2.1) rfl
        have y2 := box_at _ _ D1.out 2 (.slice eo2 en2 ek2) rfl
        have y3 := box_at _ _ D1.out 3 (.slice eo3 en3 ek3) rfl
        have y4 := box_at _ _ D1.out 4 (.slice eo4 en4 ek4) rfl
        have y5 := box_at _ _ D1.out 5 (.slice eo5 en5 ek5) rfl
        clear hb1
        have hz : clearB (cntW (ps.take k)) (ps[k]'(by omega)) = false := by rw [ef]; unfold clearB; rw [c0]; rfl
        go_wp2_with fail
        go_ret
        exact ⟨by rw [show apartI ps = false from by unfold apartI; rw [@decide_eq_false _ (Classical.propDecidable _) (fun h => by have := h k (by omega); rw [hz] at this; cases this)]; rfl]; rfl, below_end E1.out⟩
    · have hq : apartI ps = !pairB (fun a b : DClaimPart => shutB a.2.2.2.2.1 a.2.2.2.2.2.1 b.2.2.2.2.1 b.2.2.2.2.2.1) ps := by unfold apartI; rw [@decide_eq_true _ (Classical.propDecidable _) (fun i hi => hall.out i hi (by omega))]; rfl
      have SR : ∀ b, S b → b < wr.heap.size := fun b hb => by have := hS b hb; omega
      have y3 := box_at _ _ E.out 3 (.slice o3 n k3) rfl
      have CD : Hid _ := pairP_any S (.slice o3 n k3) ps wr (H3.out _ B) SR
      go_wp2_with fail
      refine Calls.mono CD.out ?_
      rintro e w1 ⟨rfl, hb1⟩
      go_wp2_with fail
      go_ret
      exact ⟨by rw [hq]; rfl, B.trans (hb1.mono hs)⟩

end Go.Proofs.YticojnepejboaacGreat
