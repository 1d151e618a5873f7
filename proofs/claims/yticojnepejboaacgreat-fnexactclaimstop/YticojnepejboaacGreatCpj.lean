/-
  A contract of the program's test that each place of each part is as it is to be.
-/
import Derived.Test.YticojnepejboaacGreatCpi
import Derived.Test.YticojnepejboaacGreatCk
namespace Go.Proofs.YticojnepejboaacGreat
open Go.RowKit

/-- Does a use fit its spot, as the program asks? -/
def fitV (sp : List DClaimSpot) (kind : Int) (ss : List ByteArray) (u : DClaimUse) : Bool :=
  match sp[(idxI sp (fun p : DClaimSpot => eqB p.1 u.1)).toNat]? with
  | some s => fitI s.2.2.1 s.2.2.2.1 s.2.2.2.2 kind ss u.2.1 u.2.2
  | none => false
def placesI (sp : List DClaimSpot) (ps : List DClaimPart) : Bool := ps.all fun p => p.2.2.2.1.all (fitV sp p.2.1 p.2.2.1)

open Go.Sort in
theorem spotAtI_q (S : Nat → Prop) (v0 v1 v2 v3 v4 : Value) (l : List DClaimSpot) (x : ByteArray) (wr : World) (h : AtL S wr l v1) (hS : ∀ b, S b → b < wr.heap.size) (r : Int) (hr : idxI l (fun p : DClaimSpot => eqB p.1 x) = r) (d : Nat) (os : Array Obj) : Calls Tryz.prog 109 #[.agg #[v0, v1, v2, v3, v4], .string x] (grow (redrawn wr d) os) fun e w'' => e = .returned (.int .i64 r) ∧ ∃ p : Regrown, w'' = grow (redrawn wr p.d) p.os :=
  Calls.regrown_of (by subst hr; exact spotAtI_any S v0 v1 v2 v3 v4 l x _ (h.same (Same.of_below (below_regrown wr d os) hS)) (fun b hb => Nat.lt_of_lt_of_le (hS b hb) (below_regrown wr d os).size))
open Go.Sort in
theorem fitI_q (S : Nat → Prop) (num kind role amount cap least most : Int) (o2 : Option Addr) (n2 k2 : Nat) (x3 x4 x5 y0 z0 vm : Value) (may ss : List ByteArray) (wr : World) (hm : AtL S wr may vm) (hs : AtL S wr ss (.slice o2 n2 k2)) (hS : ∀ b, S b → b < wr.heap.size) (hr : -9223372036854775808 ≤ least + amount ∧ least + amount ≤ 9223372036854775807) (hk : kind = 1 ∨ kind = 2 ∨ kind = 3) (r : Bool) (hy : fitI least most may kind ss role amount = r) (d : Nat) (os : Array Obj) : Calls Tryz.prog 108 #[.agg #[.int .i64 num, .int .i64 kind, .slice o2 n2 k2, x3, x4, x5], .agg #[y0, .int .i64 role, .int .i64 amount], .agg #[z0, .int .i64 cap, .int .i64 least, .int .i64 most, vm]] (grow (redrawn wr d) os) fun e w'' => e = .returned (.bool r) ∧ ∃ p : Regrown, w'' = grow (redrawn wr p.d) p.os :=
  Calls.regrown_of (by subst hy; exact fitI_any S num kind role amount cap least most o2 n2 k2 x3 x4 x5 y0 z0 vm may ss _ (hm.same (Same.of_below (below_regrown wr d os) hS)) (hs.same (Same.of_below (below_regrown wr d os) hS)) (fun b hb => Nat.lt_of_lt_of_le (hS b hb) (below_regrown wr d os).size) hr hk)

set_option maxRecDepth 100000 in
set_option maxHeartbeats 8000000 in
theorem places_any (S : Nat → Prop) (v0 v1 v2 v3 : Value) (seen : Int) (sp : List DClaimSpot) (ps : List DClaimPart) (w : World) (h1 : AtL S w sp v1) (h3 : AtL S w ps v3) (hS : ∀ b, S b → b < w.heap.size) (hsp : ∀ j (hj : j < sp.length), 0 ≤ sp[j].2.2.1 ∧ sp[j].2.2.1 ≤ 1000) (hp : ∀ p ∈ ps, (p.2.1 = 1 ∨ p.2.1 = 2 ∨ p.2.1 = 3) ∧ ∀ u ∈ p.2.2.2.1, knowS sp u = true ∧ 0 ≤ u.2.2 ∧ u.2.2 ≤ 1000) :
    Calls Tryz.prog 74 #[.agg #[v0, v1, v2, v3, .int .i64 seen]] w fun e w' => e = .returned (.bool (placesI sp ps)) ∧ Below w.heap.size w w' := by
  have H1 : Hid (∀ w', Below w.heap.size w w' → AtL S w' sp v1) := fun w' h => h1.same (Same.of_below h hS)
  obtain ⟨o3, k3, rfl, hn, hc⟩ := h3
  obtain ⟨n, en⟩ : ∃ n, ps.length = n := ⟨_, rfl⟩
  rw [en] at hn
  rw [en]
  obtain ⟨o1, k1, rfl, hn1, hc1⟩ := h1
  obtain ⟨n1, en1⟩ : ∃ n, sp.length = n := ⟨_, rfl⟩
  rw [en1] at hn1 H1
  rw [en1]
  unfold maxLen at hn hn1
  have HC : Hid _ := hc
  have C1 : Hid _ := hc1
  have HP : Hid _ := hp
  clear hc hc1 hp
  go_enter Tryz.func74, Tryz.ntmps74
  go_wp2
  go_loopw [10] (fun i wr => ∃ k : Nat, k ≤ n ∧ i = .int .i64 k ∧ Hid (∀ j (hj : j < ps.length), j < k → (ps[j].2.2.2.1.all (fitV sp ps[j].2.1 ps[j].2.2.1)) = true) ∧ Hid (Below (w.heap.size + 1) (w.alloc (.cells #[v0, .slice o1 n1 k1, v2, .slice o3 n k3, .int .i64 seen] 33)) wr)) (fun i _ => n - (intOf i).toNat)
  case atStart => exact ⟨0, Nat.zero_le _, rfl, fun _ _ h => by omega, Below.refl _ _⟩
  case round =>
    obtain ⟨k, hk, rfl, hall, E⟩ := hrel
    have B := below_end E.out
    have hs := B.size
    have hsE : w.heap.size + 1 ≤ wr.heap.size := by have := E.out.size; simpa using this
    by_cases hlt : k < n
    · obtain ⟨w0, hw0⟩ : ∃ u, u = wr := ⟨_, rfl⟩
      subst hw0
      obtain ⟨b, off, rfl, hbS, cc, hcell, hat⟩ := HC.out k (by omega)
      have hb := hS b hbS
      rw [width_DClaimPart] at hcell
      rw [at_DClaimPart] at hat
      have e0 : w0.cell? ⟨b, off + k * 7, none⟩ = some (cc 0) := (B.cell (p := ⟨b, off + k * 7, none⟩) hb).trans (by have := hcell 0 (by omega); simpa [Nat.add_mul, Nat.add_assoc] using this)
      rw [hat.1.1] at e0
      have e1 : w0.cell? ⟨b, off + k * 7 + 1, none⟩ = some (cc 1) := (B.cell (p := ⟨b, off + k * 7 + 1, none⟩) hb).trans (by have := hcell 1 (by omega); simpa [Nat.add_mul, Nat.add_assoc] using this)
      rw [hat.2.1.1] at e1
      have e2 : w0.cell? ⟨b, off + k * 7 + 2, none⟩ = some (cc 2) := (B.cell (p := ⟨b, off + k * 7 + 2, none⟩) hb).trans (by have := hcell 2 (by omega); simpa [Nat.add_mul, Nat.add_assoc] using this)
      have e3 : w0.cell? ⟨b, off + k * 7 + 3, none⟩ = some (cc 3) := (B.cell (p := ⟨b, off + k * 7 + 3, none⟩) hb).trans (by have := hcell 3 (by omega); simpa [Nat.add_mul, Nat.add_assoc] using this)
      have e4 : w0.cell? ⟨b, off + k * 7 + 4, none⟩ = some (cc 4) := (B.cell (p := ⟨b, off + k * 7 + 4, none⟩) hb).trans (by have := hcell 4 (by omega); simpa [Nat.add_mul, Nat.add_assoc] using this)
      have e5 : w0.cell? ⟨b, off + k * 7 + 5, none⟩ = some (cc 5) := (B.cell (p := ⟨b, off + k * 7 + 5, none⟩) hb).trans (by have := hcell 5 (by omega); simpa [Nat.add_mul, Nat.add_assoc] using this)
      have e6 : w0.cell? ⟨b, off + k * 7 + 6, none⟩ = some (cc 6) := (B.cell (p := ⟨b, off + k * 7 + 6, none⟩) hb).trans (by have := hcell 6 (by omega); simpa [Nat.add_mul, Nat.add_assoc] using this)
      have eg2 := hat.2.2.1.same (Same.of_below B hS)
      have eg3 := hat.2.2.2.1.same (Same.of_below B hS)
      have eg4 := hat.2.2.2.2.1.same (Same.of_below B hS)
      have eg5 := hat.2.2.2.2.2.1.same (Same.of_below B hS)
      obtain ⟨f, ef⟩ : ∃ f, ps[k]'(by omega) = f := ⟨_, rfl⟩
      rw [ef] at e0 e1 eg2 eg3 eg4 eg5
      obtain ⟨eo2, ek2, ex2, hx2, _⟩ := id eg2
      obtain ⟨en2, ez2⟩ : ∃ n, List.length f.2.2.1 = n := ⟨_, rfl⟩
      rw [ez2] at ex2 hx2
      rw [ex2] at e2 eg2
      clear ex2 hx2
      obtain ⟨eo3, ek3, ex3, hx3, _⟩ := id eg3
      obtain ⟨en3, ez3⟩ : ∃ n, List.length f.2.2.2.1 = n := ⟨_, rfl⟩
      rw [ez3] at ex3 hx3
      rw [ex3] at e3 eg3
      clear ex3 hx3
      obtain ⟨eo4, ek4, ex4, hx4, _⟩ := id eg4
      obtain ⟨en4, ez4⟩ : ∃ n, List.length f.2.2.2.2.1 = n := ⟨_, rfl⟩
      rw [ez4] at ex4 hx4
      rw [ex4] at e4 eg4
      clear ex4 hx4
      obtain ⟨eo5, ek5, ex5, hx5, _⟩ := id eg5
      obtain ⟨en5, ez5⟩ : ∃ n, List.length f.2.2.2.2.2.1 = n := ⟨_, rfl⟩
      rw [ez5] at ex5 hx5
      rw [ex5] at e5 eg5
      clear ex5 hx5
      rw [hat.2.2.2.2.2.2, ef] at e6
      clear hcell hat
      have hpk := HP.out (ps[k]'(by omega)) (List.getElem_mem _)
      rw [ef] at hpk
      have HPK : Hid _ := hpk.2
      have hkd := hpk.1
      clear hpk
      obtain ⟨o9, c9, e9, hn9, hc9⟩ := id eg3
      simp only [Value.slice.injEq] at e9
      obtain ⟨e9a, e9b, e9c⟩ := e9
      clear e9b
      subst e9a e9c
      rw [ez3] at hn9
      unfold maxLen at hn9
      have HC3 : Hid _ := hc9
      clear hc9
      have S0 : ∀ b, S b → b < w0.heap.size := fun b hb => by have := hS b hb; omega
      go_wp2
      go_loopw [18] (fun i wk => ∃ c : Nat, c ≤ en3 ∧ i = .int .i64 c ∧ Hid (∀ j (hj : j < List.length f.2.2.2.1), j < c → fitV sp f.2.1 f.2.2.1 f.2.2.2.1[j] = true) ∧ Hid (Below (w0.heap.size + 1) (w0.alloc (.cells #[.int .i64 f.1, .int .i64 f.2.1, .slice eo2 en2 ek2, .slice eo3 en3 ek3, .slice eo4 en4 ek4, .slice eo5 en5 ek5, .bool f.2.2.2.2.2.2] 50)) wk)) (fun i _ => en3 - (intOf i).toNat)
      case atStart => exact ⟨0, Nat.zero_le _, rfl, fun _ _ h => by omega, Below.refl _ _⟩
      case round =>
        obtain ⟨c, hc, rfl, hno, I⟩ := hrel
        have FI := below_end I.out
        have hsI : w0.heap.size + 1 ≤ wr.heap.size := by have := I.out.size; simpa using this
        have E1 : Hid (Below (w.heap.size + 1) (w.alloc (.cells #[v0, .slice o1 n1 k1, v2, .slice (some ⟨b, off, none⟩) n k3, .int .i64 seen] 33)) wr) := E.out.trans (FI.mono hsE)
        by_cases hcl : c < en3
        · obtain ⟨q, uo, rfl, hqS, cc, hcell, hat⟩ := HC3.out c (by omega)
          have hq := S0 q hqS
          rw [width_DClaimUse] at hcell
          rw [at_DClaimUse] at hat
          have u0 : wr.cell? ⟨q, uo + c * 3, none⟩ = some (cc 0) := (FI.cell (p := ⟨q, uo + c * 3, none⟩) hq).trans (by simpa using hcell 0 (by omega))
          rw [hat.1.1] at u0
          have u1 : wr.cell? ⟨q, uo + c * 3 + 1, none⟩ = some (cc 1) := (FI.cell (p := ⟨q, uo + c * 3 + 1, none⟩) hq).trans (by simpa using hcell 1 (by omega))
          rw [hat.2.1.1] at u1
          have u2 : wr.cell? ⟨q, uo + c * 3 + 2, none⟩ = some (cc 2) := (FI.cell (p := ⟨q, uo + c * 3 + 2, none⟩) hq).trans (by simpa using hcell 2 (by omega))
          rw [hat.2.2.1] at u2
          have hu := HPK.out (f.2.2.2.1[c]'(by omega)) (List.getElem_mem _)
          obtain ⟨u, eu⟩ : ∃ u, f.2.2.2.1[c]'(by omega) = u := ⟨_, rfl⟩
          rw [eu] at u0 u1 u2 hu
          clear hcell hat
          obtain ⟨m, hm, hx⟩ := idx_get (l := sp) (p := fun p : DClaimSpot => eqB p.1 u.1) (by have := hu.1; simpa [knowS] using this)
          obtain ⟨sb, ofs, rfl, hbS2, dd, hcell, hat⟩ := C1.out m hm
          have hb2 := hS sb hbS2
          rw [width_DClaimSpot] at hcell
          rw [at_DClaimSpot] at hat
          have hls := hsp m hm
          obtain ⟨s, es⟩ : ∃ s, sp[m] = s := ⟨_, rfl⟩
          rw [es] at hat hls
          rw [en1] at hm
          go_wp2
          refine gen_world (fun W' => Below (wr.heap.size + 1) (wr.alloc (.cells #[.string u.1, .int .i64 u.2.1, .int .i64 u.2.2] 106)) W') (Below.refl _ _) ?_
          intro wb hF
          have HF : Hid (Below (wr.heap.size + 1) (wr.alloc (.cells #[.string u.1, .int .i64 u.2.1, .int .i64 u.2.2] 106)) wb) := hF
          clear hF
          have FB : Hid (Below wr.heap.size wr wb) := below_end HF.out
          have I1 : Hid (Below (w0.heap.size + 1) (w0.alloc (.cells #[.int .i64 f.1, .int .i64 f.2.1, .slice eo2 en2 ek2, .slice (some ⟨q, uo, none⟩) en3 ek3, .slice eo4 en4 ek4, .slice eo5 en5 ek5, .bool f.2.2.2.2.2.2] 50)) wb) := I.out.trans (FB.out.mono hsI)
          have hsW : w.heap.size + 1 ≤ wr.heap.size := by omega
          have E2 : Hid (Below (w.heap.size + 1) (w.alloc (.cells #[v0, .slice (some ⟨sb, ofs, none⟩) n1 k1, v2, .slice (some ⟨b, off, none⟩) n k3, .int .i64 seen] 33)) wb) := E1.out.trans (FB.out.mono hsW)
          have BW := below_end E2.out
          have BI := below_end I1.out
          have SB : ∀ b, S b → b < wb.heap.size := fun b hb => by have := hS b hb; have := BW.size; omega
          have G1 := H1.out _ BW
          have GS := eg2.same (Same.of_below BI S0)
          have s0 : wb.cell? ⟨sb, ofs + m * 5, none⟩ = some (dd 0) := (BW.cell (p := ⟨sb, ofs + m * 5, none⟩) hb2).trans (by simpa using hcell 0 (by omega))
          rw [hat.1.1] at s0
          have t0 := fun d os => cell_regrown s0 d os
          have s1 : wb.cell? ⟨sb, ofs + m * 5 + 1, none⟩ = some (dd 1) := (BW.cell (p := ⟨sb, ofs + m * 5 + 1, none⟩) hb2).trans (by simpa using hcell 1 (by omega))
          rw [hat.2.1.1] at s1
          have t1 := fun d os => cell_regrown s1 d os
          have s2 : wb.cell? ⟨sb, ofs + m * 5 + 2, none⟩ = some (dd 2) := (BW.cell (p := ⟨sb, ofs + m * 5 + 2, none⟩) hb2).trans (by simpa using hcell 2 (by omega))
          rw [hat.2.2.1.1] at s2
          have t2 := fun d os => cell_regrown s2 d os
          have s3 : wb.cell? ⟨sb, ofs + m * 5 + 3, none⟩ = some (dd 3) := (BW.cell (p := ⟨sb, ofs + m * 5 + 3, none⟩) hb2).trans (by simpa using hcell 3 (by omega))
          rw [hat.2.2.2.1.1] at s3
          have t3 := fun d os => cell_regrown s3 d os
          have s4 : wb.cell? ⟨sb, ofs + m * 5 + 4, none⟩ = some (dd 4) := (BW.cell (p := ⟨sb, ofs + m * 5 + 4, none⟩) hb2).trans (by simpa using hcell 4 (by omega))
          have t4 := fun d os => cell_regrown s4 d os
          have gm : AtL S wb s.2.2.2.2 (dd 4) := hat.2.2.2.2.same (Same.of_below BW hS)
          obtain ⟨vm, evm⟩ : ∃ v, dd 4 = v := ⟨_, rfl⟩
          rw [evm] at t4 gm
          clear hcell hat s0 s1 s2 s3 s4
          have z0 := fun d os => cell_regrown (box_at _ _ E2.out 0 (v0) rfl) d os
          have z1 := fun d os => cell_regrown (box_at _ _ E2.out 1 (.slice (some ⟨sb, ofs, none⟩) n1 k1) rfl) d os
          have z2 := fun d os => cell_regrown (box_at _ _ E2.out 2 (v2) rfl) d os
          have z3 := fun d os => cell_regrown (box_at _ _ E2.out 3 (.slice (some ⟨b, off, none⟩) n k3) rfl) d os
          have z4 := fun d os => cell_regrown (box_at _ _ E2.out 4 (.int .i64 seen) rfl) d os
          have p0 := fun d os => cell_regrown (box_at _ _ I1.out 0 (.int .i64 f.1) rfl) d os
          have p1 := fun d os => cell_regrown (box_at _ _ I1.out 1 (.int .i64 f.2.1) rfl) d os
          have p2 := fun d os => cell_regrown (box_at _ _ I1.out 2 (.slice eo2 en2 ek2) rfl) d os
          have p3 := fun d os => cell_regrown (box_at _ _ I1.out 3 (.slice (some ⟨q, uo, none⟩) en3 ek3) rfl) d os
          have p4 := fun d os => cell_regrown (box_at _ _ I1.out 4 (.slice eo4 en4 ek4) rfl) d os
          have p5 := fun d os => cell_regrown (box_at _ _ I1.out 5 (.slice eo5 en5 ek5) rfl) d os
          have q0 := fun d os => cell_regrown (box_at _ _ HF.out 0 (.string u.1) rfl) d os
          have q1 := fun d os => cell_regrown (box_at _ _ HF.out 1 (.int .i64 u.2.1) rfl) d os
          have q2 := fun d os => cell_regrown (box_at _ _ HF.out 2 (.int .i64 u.2.2) rfl) d os
          have hrg : -9223372036854775808 ≤ s.2.2.1 + u.2.2 ∧ s.2.2.1 + u.2.2 ≤ 9223372036854775807 := by omega
          have hfu : fitV sp f.2.1 f.2.2.1 u = fitI s.2.2.1 s.2.2.2.1 s.2.2.2.2 f.2.1 f.2.2.1 u.2.1 u.2.2 := by
            unfold fitV
            rw [hx, Int.toNat_natCast, List.getElem?_eq_getElem (by omega), es]
          cases hy : fitI s.2.2.1 s.2.2.2.1 s.2.2.2.2 f.2.1 f.2.2.1 u.2.1 u.2.2
          · refine wp_region_quiet_below (by kernel_rfl) (by kernel_rfl) ?_
            repeat (first | go_big_quiet_step (first | with_reducible exact spotAtI_q S _ _ _ _ _ sp _ _ G1 SB _ hx _ _ | with_reducible exact fitI_q S _ _ _ _ _ _ _ _ _ _ _ _ _ _ _ _ _ _ _ gm GS SB hrg hkd _ hy _ _) | quiet_step (first | with_reducible exact spotAtI_q S _ _ _ _ _ sp _ _ G1 SB _ hx _ _ | with_reducible exact fitI_q S _ _ _ _ _ _ _ _ _ _ _ _ _ _ _ _ _ _ _ gm GS SB hrg hkd _ hy _ _))
            refine wpQuiet_nil ?_
            intro _ hw'
            obtain ⟨⟨dq, osq⟩, hw''⟩ := hw'
            subst hw''
            go_wp2
            go_ret
            have hq1 : (f.2.2.2.1.all (fitV sp f.2.1 f.2.2.1)) = false := all_no (k := c) (by omega) (by rw [eu, hfu]; exact hy)
            have hz : placesI sp ps = false := all_no (k := k) (by omega) (by rw [ef]; exact hq1)
            exact ⟨by rw [hz]; rfl, below_end (E2.out.trans ((below_regrown wb dq osq).mono (by have := E2.out.size; simp at this; exact this)))⟩
          · refine wp_region_quiet_below (by kernel_rfl) (by kernel_rfl) ?_
            repeat (first | go_big_quiet_step (first | with_reducible exact spotAtI_q S _ _ _ _ _ sp _ _ G1 SB _ hx _ _ | with_reducible exact fitI_q S _ _ _ _ _ _ _ _ _ _ _ _ _ _ _ _ _ _ _ gm GS SB hrg hkd _ hy _ _) | quiet_step (first | with_reducible exact spotAtI_q S _ _ _ _ _ sp _ _ G1 SB _ hx _ _ | with_reducible exact fitI_q S _ _ _ _ _ _ _ _ _ _ _ _ _ _ _ _ _ _ _ gm GS SB hrg hkd _ hy _ _))
            refine wpQuiet_nil ?_
            intro _ hw'
            obtain ⟨⟨dq, osq⟩, hw''⟩ := hw'
            subst hw''
            go_wp2
            go_roundw
            case rel => exact ⟨c + 1, by omega, by go_num, fun j hj hjk => by
              by_cases e : j = c
              · subst e; rw [eu, hfu]; exact hy
              · exact hno.out j hj (by omega), I1.out.trans ((below_regrown wb dq osq).mono (by have := I1.out.size; simp at this; exact this))⟩
            case measure => simp [intOf]; omega
        · have hq1 : (f.2.2.2.1.all (fitV sp f.2.1 f.2.2.1)) = true := all_yes (fun j hj => hno.out j hj (by omega))
          go_wp2
          go_roundw
          case rel => exact ⟨k + 1, by omega, by go_num, fun j hj hjk => by
            by_cases e : j = k
            · subst e; rw [ef]; exact hq1
            · exact hall.out j hj (by omega), E1.out⟩
          case measure => simp [intOf]; omega
    · have hz : placesI sp ps = true := all_yes (fun j hj => hall.out j hj (by omega))
      go_wp2
      go_ret
      exact ⟨by rw [hz]; rfl, B⟩

end Go.Proofs.YticojnepejboaacGreat
