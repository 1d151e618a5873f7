/-
  The model's test of one part of a book.
-/
import Derived.Test.YticojnepejboaacGreatHhD
namespace Go.Proofs.YticojnepejboaacGreat
open Go.RowKit

/-- Does a use fit the spot that it names? -/
def fitU (sp : List DClaimSpot) (kind : Int) (ss : List ByteArray) (u : DClaimUse) : Bool :=
  match sp[(idxI sp (fun p : DClaimSpot => eqB p.1 u.1)).toNat]? with
  | some s => fitB s.2.2.1 s.2.2.2.1 s.2.2.2.2 kind ss u.2.1 u.2.2
  | none => false
/-- Is a part as it is to be? -/
noncomputable def partB (sp : List DClaimSpot) (va : List ByteArray) (seen : Int) (a : DClaimWant) : Bool :=
  wantB a && (!decide (seen < a.1) && (knowB sp va a.2.2.2.1 a.2.2.2.2.1 a.2.2.2.2.2 && a.2.2.2.1.all (fitU sp a.2.1 a.2.2.1)))

theorem want_amount {a : DClaimWant} (h : wantB a = true) (k : Nat) (hk : k < a.2.2.2.1.length) : 0 ≤ a.2.2.2.1[k].2.2 ∧ a.2.2.2.1[k].2.2 ≤ 1000 := by
  simp only [wantB, Bool.and_eq_true] at h
  have h1 := (ok_iff.1 h.1.1.1.1.1.1.1.2).2 k hk
  simp only [tst, Bool.and_eq_true, useP] at h1
  have h2 := h1.1.2
  split at h2
  · simp at h2; omega
  · simp [inB] at h2; omega
theorem idx_get {α : Type} {l : List α} {p : α → Bool} (h : ¬ idxI l p < 0) : ∃ m : Nat, m < l.length ∧ idxI l p = m := by
  unfold idxI at h ⊢
  cases e : l.findIdx? p with
  | none => rw [e] at h; exact absurd (show (-1 : Int) < 0 by decide) h
  | some m => exact ⟨m, (List.findIdx?_eq_some_iff_getElem.1 e).1, rfl⟩

open Go.Sort in
theorem fitC_q (S : Nat → Prop) (nm : ByteArray) (cap least most kind role amount : Int) (vm x0 x2 x3 x4 x5 y0 : Value) (may stuffs : List ByteArray) (wr : World) (ha : AtL S wr may vm) (hb : AtL S wr stuffs x2) (hS : ∀ b, S b → b < wr.heap.size) (hr : -9223372036854775808 ≤ least + amount ∧ least + amount ≤ 9223372036854775807) (r : Bool) (hy : fitB least most may kind stuffs role amount = r) (d : Nat) (os : Array Obj) : Calls Tryz.prog 83 #[.agg #[.string nm, .int .i64 cap, .int .i64 least, .int .i64 most, vm], .agg #[x0, .int .i64 kind, x2, x3, x4, x5], .agg #[y0, .int .i64 role, .int .i64 amount]] (grow (redrawn wr d) os) fun e w'' => e = .returned (.bool r) ∧ ∃ p : Regrown, w'' = grow (redrawn wr p.d) p.os :=
  Calls.regrown_of (by subst hy; exact fitC_any S nm cap least most kind role amount vm x0 x2 x3 x4 x5 y0 may stuffs _ (ha.same (Same.of_below (below_regrown wr d os) hS)) (hb.same (Same.of_below (below_regrown wr d os) hS)) (fun b hb => Nat.lt_of_lt_of_le (hS b hb) (below_regrown wr d os).size) hr)

set_option maxRecDepth 100000 in
set_option maxHeartbeats 8000000 in
theorem partC_any (S : Nat → Prop) (v0 v1 v2 v3 x2 x3 x4 x5 st : Value) (seen num kind : Int) (sp : List DClaimSpot) (va ss : List ByteArray) (us : List DClaimUse) (os cs : List ByteArray) (w : World) (h1 : AtL S w sp v1) (h2 : AtL S w va v2) (g2 : AtL S w ss x2) (g3 : AtL S w us x3) (g4 : AtL S w os x4) (g5 : AtL S w cs x5) (hS : ∀ b, S b → b < w.heap.size) (hsp : ∀ j (hj : j < sp.length), 0 ≤ sp[j].2.2.1 ∧ sp[j].2.2.1 ≤ 1000) :
    Calls Tryz.prog 64 #[.agg #[v0, v1, v2, v3, .int .i64 seen], .agg #[.int .i64 num, .int .i64 kind, x2, x3, x4, x5, st]] w fun e w' => e = .returned (.bool (partB sp va seen (num, kind, ss, us, os, cs))) ∧ Below w.heap.size w w' := by
  have H1 : Hid (∀ w', Below w.heap.size w w' → AtL S w' sp v1) := fun w' h => h1.same (Same.of_below h hS)
  have H2 : Hid (∀ w', Below w.heap.size w w' → AtL S w' va v2) := fun w' h => h2.same (Same.of_below h hS)
  have J2 : Hid (∀ w', Below w.heap.size w w' → AtL S w' ss x2) := fun w' h => g2.same (Same.of_below h hS)
  have J3 : Hid (∀ w', Below w.heap.size w w' → AtL S w' us x3) := fun w' h => g3.same (Same.of_below h hS)
  have J4 : Hid (∀ w', Below w.heap.size w w' → AtL S w' os x4) := fun w' h => g4.same (Same.of_below h hS)
  have J5 : Hid (∀ w', Below w.heap.size w w' → AtL S w' cs x5) := fun w' h => g5.same (Same.of_below h hS)
  clear h2 g2 g4 g5
  obtain ⟨o1, k1, rfl, hn1, hc1⟩ := h1
  obtain ⟨n1, en1⟩ : ∃ n, sp.length = n := ⟨_, rfl⟩
  rw [en1] at hn1 H1
  rw [en1]
  have C1 : Hid _ := hc1
  clear hc1
  obtain ⟨o3, k3, rfl, hn3, hc3⟩ := g3
  obtain ⟨n3, en3⟩ : ∃ n, us.length = n := ⟨_, rfl⟩
  rw [en3] at hn3 J3
  rw [en3]
  have C3 : Hid _ := hc3
  clear hc3
  unfold maxLen at hn1 hn3
  have D0 : Hid (Below (w.heap.size + 2) ((w.alloc (.cells #[v0, .slice o1 n1 k1, v2, v3, .int .i64 seen] 33)).alloc (.cells #[.int .i64 num, .int .i64 kind, x2, .slice o3 n3 k3, x4, x5, st] 50)) ((w.alloc (.cells #[v0, .slice o1 n1 k1, v2, v3, .int .i64 seen] 33)).alloc (.cells #[.int .i64 num, .int .i64 kind, x2, .slice o3 n3 k3, x4, x5, st] 50))) := Below.refl _ _
  have B0 : Hid (Below w.heap.size w ((w.alloc (.cells #[v0, .slice o1 n1 k1, v2, v3, .int .i64 seen] 33)).alloc (.cells #[.int .i64 num, .int .i64 kind, x2, .slice o3 n3 k3, x4, x5, st] 50))) := below_end (below2 D0.out)
  have S0 : ∀ b, S b → b < ((w.alloc (.cells #[v0, .slice o1 n1 k1, v2, v3, .int .i64 seen] 33)).alloc (.cells #[.int .i64 num, .int .i64 kind, x2, .slice o3 n3 k3, x4, x5, st] 50)).heap.size := fun b hb => by have := hS b hb; simp; omega
  go_enter Tryz.func64, Tryz.ntmps64
  cases c0 : wantB (num, kind, ss, us, os, cs)
  · go_wp2_with fail
    refine (wantS_any S (num, kind, ss, us, os, cs) _ _ _ _ _ (J2.out _ B0.out) (J3.out _ B0.out) (J4.out _ B0.out) (J5.out _ B0.out) S0).mono ?_
    rintro e w1 ⟨rfl, hb⟩
    rw [c0]
    have D1 : Hid (Below (w.heap.size + 2) ((w.alloc (.cells #[v0, .slice o1 n1 k1, v2, v3, .int .i64 seen] 33)).alloc (.cells #[.int .i64 num, .int .i64 kind, x2, .slice o3 n3 k3, x4, x5, st] 50)) w1) := D0.out.trans (hb.mono (by have := D0.out.size; simp at this ⊢; try omega))
    have B1 : Hid (Below w.heap.size w w1) := below_end (below2 D1.out)
    have S1 : ∀ b, S b → b < w1.heap.size := fun b hb => by have := hS b hb; have := B1.out.size; omega
    have p10 := box_at _ _ (below2 D1.out) 0 (v0) rfl
    have p11 := box_at _ _ (below2 D1.out) 1 (.slice o1 n1 k1) rfl
    have p12 := box_at _ _ (below2 D1.out) 2 (v2) rfl
    have p13 := box_at _ _ (below2 D1.out) 3 (v3) rfl
    have p14 := box_at _ _ (below2 D1.out) 4 (.int .i64 seen) rfl
    have y10 := box2_at _ _ _ D1.out 0 (.int .i64 num) rfl
    have y11 := box2_at _ _ _ D1.out 1 (.int .i64 kind) rfl
    have y12 := box2_at _ _ _ D1.out 2 (x2) rfl
    have y13 := box2_at _ _ _ D1.out 3 (.slice o3 n3 k3) rfl
    have y14 := box2_at _ _ _ D1.out 4 (x4) rfl
    have y15 := box2_at _ _ _ D1.out 5 (x5) rfl
    have y16 := box2_at _ _ _ D1.out 6 (st) rfl
    clear hb
    go_wp2_with fail
    go_ret
    exact ⟨by rw [show partB sp va seen (num, kind, ss, us, os, cs) = false by simp only [partB]; rw [c0]; rfl]; rfl, B1.out⟩
  · go_wp2_with fail
    refine (wantS_any S (num, kind, ss, us, os, cs) _ _ _ _ _ (J2.out _ B0.out) (J3.out _ B0.out) (J4.out _ B0.out) (J5.out _ B0.out) S0).mono ?_
    rintro e w1 ⟨rfl, hb⟩
    rw [c0]
    have D1 : Hid (Below (w.heap.size + 2) ((w.alloc (.cells #[v0, .slice o1 n1 k1, v2, v3, .int .i64 seen] 33)).alloc (.cells #[.int .i64 num, .int .i64 kind, x2, .slice o3 n3 k3, x4, x5, st] 50)) w1) := D0.out.trans (hb.mono (by have := D0.out.size; simp at this ⊢; try omega))
    have B1 : Hid (Below w.heap.size w w1) := below_end (below2 D1.out)
    have S1 : ∀ b, S b → b < w1.heap.size := fun b hb => by have := hS b hb; have := B1.out.size; omega
    have p10 := box_at _ _ (below2 D1.out) 0 (v0) rfl
    have p11 := box_at _ _ (below2 D1.out) 1 (.slice o1 n1 k1) rfl
    have p12 := box_at _ _ (below2 D1.out) 2 (v2) rfl
    have p13 := box_at _ _ (below2 D1.out) 3 (v3) rfl
    have p14 := box_at _ _ (below2 D1.out) 4 (.int .i64 seen) rfl
    have y10 := box2_at _ _ _ D1.out 0 (.int .i64 num) rfl
    have y11 := box2_at _ _ _ D1.out 1 (.int .i64 kind) rfl
    have y12 := box2_at _ _ _ D1.out 2 (x2) rfl
    have y13 := box2_at _ _ _ D1.out 3 (.slice o3 n3 k3) rfl
    have y14 := box2_at _ _ _ D1.out 4 (x4) rfl
    have y15 := box2_at _ _ _ D1.out 5 (x5) rfl
    have y16 := box2_at _ _ _ D1.out 6 (st) rfl
    clear hb
    cases c1 : decide (seen < num)
    · have _u := trivial
      cases c2 : knowB sp va us os cs
      · go_wp2_with fail
        refine (knowC_any S _ _ _ _ _ _ _ _ _ _ _ sp va us os cs _ (H1.out _ B1.out) (H2.out _ B1.out) (J3.out _ B1.out) (J4.out _ B1.out) (J5.out _ B1.out) S1).mono ?_
        rintro e w2 ⟨rfl, hb⟩
        rw [c2]
        have D2 : Hid (Below (w.heap.size + 2) ((w.alloc (.cells #[v0, .slice o1 n1 k1, v2, v3, .int .i64 seen] 33)).alloc (.cells #[.int .i64 num, .int .i64 kind, x2, .slice o3 n3 k3, x4, x5, st] 50)) w2) := D1.out.trans (hb.mono (by have := D1.out.size; simp at this ⊢; try omega))
        have B2 : Hid (Below w.heap.size w w2) := below_end (below2 D2.out)
        have S2 : ∀ b, S b → b < w2.heap.size := fun b hb => by have := hS b hb; have := B2.out.size; omega
        have p20 := box_at _ _ (below2 D2.out) 0 (v0) rfl
        have p21 := box_at _ _ (below2 D2.out) 1 (.slice o1 n1 k1) rfl
        have p22 := box_at _ _ (below2 D2.out) 2 (v2) rfl
        have p23 := box_at _ _ (below2 D2.out) 3 (v3) rfl
        have p24 := box_at _ _ (below2 D2.out) 4 (.int .i64 seen) rfl
        have y20 := box2_at _ _ _ D2.out 0 (.int .i64 num) rfl
        have y21 := box2_at _ _ _ D2.out 1 (.int .i64 kind) rfl
        have y22 := box2_at _ _ _ D2.out 2 (x2) rfl
        have y23 := box2_at _ _ _ D2.out 3 (.slice o3 n3 k3) rfl
        have y24 := box2_at _ _ _ D2.out 4 (x4) rfl
        have y25 := box2_at _ _ _ D2.out 5 (x5) rfl
        have y26 := box2_at _ _ _ D2.out 6 (st) rfl
        clear hb
        go_wp2_with fail
        go_ret
        exact ⟨by rw [show partB sp va seen (num, kind, ss, us, os, cs) = false by simp only [partB]; rw [c0, c1, c2]; rfl]; rfl, B2.out⟩
      · go_wp2_with fail
        refine (knowC_any S _ _ _ _ _ _ _ _ _ _ _ sp va us os cs _ (H1.out _ B1.out) (H2.out _ B1.out) (J3.out _ B1.out) (J4.out _ B1.out) (J5.out _ B1.out) S1).mono ?_
        rintro e w2 ⟨rfl, hb⟩
        rw [c2]
        have D2 : Hid (Below (w.heap.size + 2) ((w.alloc (.cells #[v0, .slice o1 n1 k1, v2, v3, .int .i64 seen] 33)).alloc (.cells #[.int .i64 num, .int .i64 kind, x2, .slice o3 n3 k3, x4, x5, st] 50)) w2) := D1.out.trans (hb.mono (by have := D1.out.size; simp at this ⊢; try omega))
        have B2 : Hid (Below w.heap.size w w2) := below_end (below2 D2.out)
        have S2 : ∀ b, S b → b < w2.heap.size := fun b hb => by have := hS b hb; have := B2.out.size; omega
        have p20 := box_at _ _ (below2 D2.out) 0 (v0) rfl
        have p21 := box_at _ _ (below2 D2.out) 1 (.slice o1 n1 k1) rfl
        have p22 := box_at _ _ (below2 D2.out) 2 (v2) rfl
        have p23 := box_at _ _ (below2 D2.out) 3 (v3) rfl
        have p24 := box_at _ _ (below2 D2.out) 4 (.int .i64 seen) rfl
        have y20 := box2_at _ _ _ D2.out 0 (.int .i64 num) rfl
        have y21 := box2_at _ _ _ D2.out 1 (.int .i64 kind) rfl
        have y22 := box2_at _ _ _ D2.out 2 (x2) rfl
        have y23 := box2_at _ _ _ D2.out 3 (.slice o3 n3 k3) rfl
        have y24 := box2_at _ _ _ D2.out 4 (x4) rfl
        have y25 := box2_at _ _ _ D2.out 5 (x5) rfl
        have y26 := box2_at _ _ _ D2.out 6 (st) rfl
        clear hb
        go_wp2_with fail
        go_loopw [5] (fun i wr => ∃ k : Nat, k ≤ n3 ∧ i = .int .i64 k ∧ Hid (∀ j (hj : j < us.length), j < k → (fitU sp kind ss) us[j] = true) ∧ Hid (Below (w.heap.size + 2) ((w.alloc (.cells #[v0, .slice o1 n1 k1, v2, v3, .int .i64 seen] 33)).alloc (.cells #[.int .i64 num, .int .i64 kind, x2, .slice o3 n3 k3, x4, x5, st] 50)) wr)) (fun i _ => n3 - (intOf i).toNat)
        case atStart => exact ⟨0, Nat.zero_le _, rfl, fun _ _ h => by omega, D2.out⟩
        case round =>
          obtain ⟨k, hk, rfl, hno, E⟩ := hrel
          have B := below_end (below2 E.out)
          have hs := B.size
          have hSr : ∀ b, S b → b < wr.heap.size := fun b hb => by have := hS b hb; omega
          have G1 := H1.out _ B
          have GS := J2.out _ B
          have q0 := fun d os => cell_regrown (box_at _ _ (below2 E.out) 0 (v0) rfl) d os
          have q1 := fun d os => cell_regrown (box_at _ _ (below2 E.out) 1 (.slice o1 n1 k1) rfl) d os
          have q2 := fun d os => cell_regrown (box_at _ _ (below2 E.out) 2 (v2) rfl) d os
          have q3 := fun d os => cell_regrown (box_at _ _ (below2 E.out) 3 (v3) rfl) d os
          have q4 := fun d os => cell_regrown (box_at _ _ (below2 E.out) 4 (.int .i64 seen) rfl) d os
          have y0 := box2_at _ _ _ E.out 0 (.int .i64 num) rfl
          have y1 := box2_at _ _ _ E.out 1 (.int .i64 kind) rfl
          have y2 := box2_at _ _ _ E.out 2 (x2) rfl
          have y3 := box2_at _ _ _ E.out 3 (.slice o3 n3 k3) rfl
          have y4 := box2_at _ _ _ E.out 4 (x4) rfl
          have y5 := box2_at _ _ _ E.out 5 (x5) rfl
          have y6 := box2_at _ _ _ E.out 6 (st) rfl
          have z0 := fun d os => cell_regrown y0 d os
          have z1 := fun d os => cell_regrown y1 d os
          have z2 := fun d os => cell_regrown y2 d os
          have z3 := fun d os => cell_regrown y3 d os
          have z4 := fun d os => cell_regrown y4 d os
          have z5 := fun d os => cell_regrown y5 d os
          have z6 := fun d os => cell_regrown y6 d os
          by_cases hlt : k < n3
          · obtain ⟨q, off, rfl, hqS, cc, hcell, hat⟩ := C3.out k (by omega)
            have hq := hS q hqS
            rw [width_DClaimUse] at hcell
            rw [at_DClaimUse] at hat
            have e0 : wr.cell? ⟨q, off + k * 3, none⟩ = some (cc 0) := (B.cell (p := ⟨q, off + k * 3, none⟩) hq).trans (by simpa using hcell 0 (by omega))
            rw [hat.1.1] at e0
            have e1 : wr.cell? ⟨q, off + k * 3 + 1, none⟩ = some (cc 1) := (B.cell (p := ⟨q, off + k * 3 + 1, none⟩) hq).trans (by simpa using hcell 1 (by omega))
            rw [hat.2.1.1] at e1
            have e2 : wr.cell? ⟨q, off + k * 3 + 2, none⟩ = some (cc 2) := (B.cell (p := ⟨q, off + k * 3 + 2, none⟩) hq).trans (by simpa using hcell 2 (by omega))
            rw [hat.2.2.1] at e2
            have ham := want_amount c0 k (show k < us.length by omega)
            have hkn : knowS sp (us[k]'(by omega)) = true := by
              have c2' := c2
              simp only [knowB, Bool.and_eq_true, List.all_eq_true] at c2'
              exact c2'.1 _ (List.getElem_mem _)
            simp only at ham
            obtain ⟨f, ef⟩ : ∃ f, us[k]'(by omega) = f := ⟨_, rfl⟩
            rw [ef] at e0 e1 e2 ham hkn
            clear hcell hat
            have f0 := fun d os => cell_regrown e0 d os
            have f1 := fun d os => cell_regrown e1 d os
            have f2 := fun d os => cell_regrown e2 d os
            obtain ⟨m, hm, hx⟩ := idx_get (l := sp) (p := fun p : DClaimSpot => eqB p.1 f.1) (by simpa [knowS] using hkn)
            obtain ⟨b, ofs, rfl, hbS, dd, hcell, hat⟩ := C1.out m hm
            have hb := hS b hbS
            rw [width_DClaimSpot] at hcell
            rw [at_DClaimSpot] at hat
            have hls := hsp m hm
            obtain ⟨s, es⟩ : ∃ s, sp[m] = s := ⟨_, rfl⟩
            rw [es] at hat hls
            rw [en1] at hm
            have s0 : wr.cell? ⟨b, ofs + m * 5, none⟩ = some (dd 0) := (B.cell (p := ⟨b, ofs + m * 5, none⟩) hb).trans (by simpa using hcell 0 (by omega))
            rw [hat.1.1] at s0
            have t0 := fun d os => cell_regrown s0 d os
            have s1 : wr.cell? ⟨b, ofs + m * 5 + 1, none⟩ = some (dd 1) := (B.cell (p := ⟨b, ofs + m * 5 + 1, none⟩) hb).trans (by simpa using hcell 1 (by omega))
            rw [hat.2.1.1] at s1
            have t1 := fun d os => cell_regrown s1 d os
            have s2 : wr.cell? ⟨b, ofs + m * 5 + 2, none⟩ = some (dd 2) := (B.cell (p := ⟨b, ofs + m * 5 + 2, none⟩) hb).trans (by simpa using hcell 2 (by omega))
            rw [hat.2.2.1.1] at s2
            have t2 := fun d os => cell_regrown s2 d os
            have s3 : wr.cell? ⟨b, ofs + m * 5 + 3, none⟩ = some (dd 3) := (B.cell (p := ⟨b, ofs + m * 5 + 3, none⟩) hb).trans (by simpa using hcell 3 (by omega))
            rw [hat.2.2.2.1.1] at s3
            have t3 := fun d os => cell_regrown s3 d os
            have s4 : wr.cell? ⟨b, ofs + m * 5 + 4, none⟩ = some (dd 4) := (B.cell (p := ⟨b, ofs + m * 5 + 4, none⟩) hb).trans (by simpa using hcell 4 (by omega))
            have t4 := fun d os => cell_regrown s4 d os
            have gm : AtL S wr s.2.2.2.2 (dd 4) := hat.2.2.2.2.same (Same.of_below B hS)
            obtain ⟨vm, evm⟩ : ∃ v, dd 4 = v := ⟨_, rfl⟩
            rw [evm] at t4 gm
            clear hcell hat s0 s1 s2 s3 s4
            have hrg : -9223372036854775808 ≤ s.2.2.1 + f.2.2 ∧ s.2.2.1 + f.2.2 ≤ 9223372036854775807 := by omega
            have hfu : fitU sp kind ss f = fitB s.2.2.1 s.2.2.2.1 s.2.2.2.2 kind ss f.2.1 f.2.2 := by
              unfold fitU
              rw [hx, Int.toNat_natCast, List.getElem?_eq_getElem (by omega), es]
            cases hy : fitB s.2.2.1 s.2.2.2.1 s.2.2.2.2 kind ss f.2.1 f.2.2
            · have hp : fitU sp kind ss (us[k]'(by omega)) = false := by rw [ef, hfu]; exact hy
              go_wp2
              refine wp_region_quiet_below (by kernel_rfl) (by kernel_rfl) ?_
              repeat (first | go_big_quiet_step (first | with_reducible exact spotC_q S _ _ _ _ _ sp _ _ G1 hSr _ hx _ _ | with_reducible exact fitC_q S _ _ _ _ _ _ _ _ _ _ _ _ _ _ _ _ _ gm GS hSr hrg _ hy _ _) | quiet_step (first | with_reducible exact spotC_q S _ _ _ _ _ sp _ _ G1 hSr _ hx _ _ | with_reducible exact fitC_q S _ _ _ _ _ _ _ _ _ _ _ _ _ _ _ _ _ gm GS hSr hrg _ hy _ _))
              refine wpQuiet_nil ?_
              intro _ hw'
              obtain ⟨⟨dq, osq⟩, hw''⟩ := hw'
              subst hw''
              go_wp2
              go_ret
              have hz : us.all (fitU sp kind ss) = false := all_no (k := k) (by omega) hp
              exact ⟨by rw [show partB sp va seen (num, kind, ss, us, os, cs) = false by simp only [partB]; rw [c0, c1, c2, hz]; rfl]; rfl, below_end (below2 (E.out.trans ((below_regrown _ dq osq).mono (by have := E.out.size; simp at this; exact this))))⟩
            · have hp : fitU sp kind ss (us[k]'(by omega)) = true := by rw [ef, hfu]; exact hy
              go_wp2
              refine wp_region_quiet_below (by kernel_rfl) (by kernel_rfl) ?_
              repeat (first | go_big_quiet_step (first | with_reducible exact spotC_q S _ _ _ _ _ sp _ _ G1 hSr _ hx _ _ | with_reducible exact fitC_q S _ _ _ _ _ _ _ _ _ _ _ _ _ _ _ _ _ gm GS hSr hrg _ hy _ _) | quiet_step (first | with_reducible exact spotC_q S _ _ _ _ _ sp _ _ G1 hSr _ hx _ _ | with_reducible exact fitC_q S _ _ _ _ _ _ _ _ _ _ _ _ _ _ _ _ _ gm GS hSr hrg _ hy _ _))
              refine wpQuiet_nil ?_
              intro _ hw'
              obtain ⟨⟨dq, osq⟩, hw''⟩ := hw'
              subst hw''
              go_wp2
              go_roundw
              case rel => exact ⟨k + 1, by omega, by go_num, fun j hj hjk => by
                by_cases e : j = k
                · subst e; exact hp
                · exact hno.out j hj (by omega), E.out.trans ((below_regrown _ dq osq).mono (by have := E.out.size; simp at this; exact this))⟩
              case measure => simp [intOf]; omega
          · have hz : us.all (fitU sp kind ss) = true := all_yes (fun j hj => hno.out j hj (by omega))
            go_wp2
            go_ret
            exact ⟨by rw [show partB sp va seen (num, kind, ss, us, os, cs) = true by simp only [partB]; rw [c0, c1, c2, hz]; rfl]; rfl, B⟩
    · have _u := trivial
      go_wp2_with fail
      go_ret
      exact ⟨by rw [show partB sp va seen (num, kind, ss, us, os, cs) = false by simp only [partB]; rw [c0, c1]; rfl]; rfl, B1.out⟩

end Go.Proofs.YticojnepejboaacGreat
