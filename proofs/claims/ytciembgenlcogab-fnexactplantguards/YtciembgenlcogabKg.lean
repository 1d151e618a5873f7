/-
  A contract of the program's test whether places and valves are a route.
-/
import Derived.Test.YtciembgenlcogabKc
import Derived.Test.YtciembgenlcogabKd
import Derived.Test.YtciembgenlcogabFr
namespace Go.Proofs.Ytciembgenlcogab
open Go.RowKit

open Go.Sort in
theorem lies_q (B : Nat) (v0 v1 v2 v3 : Value) (n : Nat) (f : Nat → ByteArray × ByteArray × ByteArray × ByteArray) (v a b : ByteArray) (wr : World) (h : Lst B wr v3 n 4 (cV f)) (hB : B ≤ wr.heap.size) (r : Bool) (hr : liesB n f v a b = r) (d : Nat) (os : Array Obj) : Calls Try.prog 59 #[.agg #[v0, v1, v2, v3], .string v, .string a, .string b] (grow (redrawn wr d) os) fun e w'' => e = .returned (.bool r) ∧ ∃ p : Regrown, w'' = grow (redrawn wr p.d) p.os :=
  Calls.regrown_of (by subst hr; exact liesBetween_any B v0 v1 v2 v3 n f v a b _ (h.kept (below_regrown wr d os) hB) (Nat.le_trans hB (below_regrown wr d os).size))

open Go.Sort in
set_option maxRecDepth 100000 in
set_option maxHeartbeats 16000000 in
theorem isRoute_any (B : Nat) (v0 v1 v2 v3 : Value) (D : PD) (op ov : Option Addr) (m k cm ck : Nat) (P Q : Nat → ByteArray) (w : World) (h : PAt B w v0 v1 v2 v3 D) (hP : Lst B w (.slice op m cm) m 1 (cS P)) (hQ : Lst B w (.slice ov k ck) k 1 (cS Q)) (hB : B ≤ w.heap.size) (hcm : m ≤ cm) :
    Calls Try.prog 31 #[.agg #[v0, v1, v2, v3], .agg #[.slice op m cm, .slice ov k ck]] w fun e w' => ∃ b, e = .returned (.bool b) ∧ (b = true ↔ RI D m P k Q) ∧ Below w.heap.size w w' := by
  have H : Hid (∀ w', Below w.heap.size w w' → PAt B w' v0 v1 v2 v3 D ∧ Lst B w' (.slice op m cm) m 1 (cS P) ∧ Lst B w' (.slice ov k ck) k 1 (cS Q)) := fun w' hb => ⟨h.kept hb hB, hP.kept hb hB, hQ.kept hb hB⟩
  have hm : m ≤ 9223372036854775807 := by obtain ⟨_, _, hv, hn, _⟩ := hP; cases hv; unfold maxLen at hn; omega
  have hkm : k ≤ 9223372036854775807 := by obtain ⟨_, _, hv, hn, _⟩ := hQ; cases hv; unfold maxLen at hn; omega
  clear h hP hQ
  obtain ⟨W, hW⟩ : ∃ W, W = (w.alloc (.cells #[v0, v1, v2, v3] 37)).alloc (.cells #[.slice op m cm, .slice ov k ck] 39) := ⟨_, rfl⟩
  have kW : Hid (Below (w.heap.size + 1 + 1) W W) := Below.refl _ _
  have sW : W.heap.size = w.heap.size + 1 + 1 := by rw [hW]; simp
  have eW : Hid (W = (w.alloc (.cells #[v0, v1, v2, v3] 37)).alloc (.cells #[.slice op m cm, .slice ov k ck] 39)) := hW
  have bx : Hid (∀ wr, Below (w.heap.size + 1 + 1) W wr → ((wr.cell? ⟨w.heap.size, 0, none⟩ = some v0 ∧ wr.cell? ⟨w.heap.size, 1, none⟩ = some v1 ∧ wr.cell? ⟨w.heap.size, 2, none⟩ = some v2 ∧ wr.cell? ⟨w.heap.size, 3, none⟩ = some v3) ∧ wr.cell? ⟨w.heap.size + 1, 0, none⟩ = some (.slice op m cm) ∧ wr.cell? ⟨w.heap.size + 1, 1, none⟩ = some (.slice ov k ck)) ∧ Below w.heap.size w wr) := fun wr hb => by
    rw [hW] at hb
    obtain ⟨h1, h2⟩ := two_box hb
    exact ⟨⟨⟨h1 0 _ rfl, h1 1 _ rfl, h1 2 _ rfl, h1 3 _ rfl⟩, h2 0 _ rfl, h2 1 _ rfl⟩, two_end hb⟩
  clear hW
  obtain ⟨⟨⟨x0, x1, x2, x3⟩, y0, y1⟩, hbw⟩ := bx.out W kW.out
  by_cases h2 : 2 ≤ m
  · by_cases hkk : k + 1 = m
    · subst hkk
      have d0 : decide ((k : Int) + 1 < 2) = false := by simp; omega
      have h2' : 1 ≤ k := by omega
      go_enter Try.func31, Try.ntmps31
      go_upto_region 1 with fail
      rw [← eW.out]
      go_wp2_with fail
      clear x0 x1 x2 x3 y0 y1 hbw
      go_loopw [27] (fun i wr => ∃ q : Nat, q ≤ k + 1 ∧ i = .int .i64 q ∧ Hid (∀ i, i < q → hasB i P (P i) = false ∧ ((0 < i ∧ i < k) → joiB D.np D.fp (P i) = true) ∧ (¬ (0 < i ∧ i < k) → vesB D.np D.fp (P i) = true)) ∧ Hid (Below (w.heap.size + 1 + 1) W wr)) (fun i _ => k + 1 - (intOf i).toNat)
      case atStart => exact ⟨0, Nat.zero_le _, rfl, fun _ h => by omega, kW⟩
      case round =>
        obtain ⟨q, hq, rfl, hall, hbel⟩ := hrel
        obtain ⟨⟨⟨x0, x1, x2, x3⟩, y0, y1⟩, hbw⟩ := bx.out wr hbel.out
        have hsr : w.heap.size + 1 + 1 ≤ wr.heap.size := by have := hbel.out.size; omega
        by_cases hlq : q < k + 1
        · obtain ⟨LP, LR, LQ⟩ := H.out wr hbw
          have HLS : Hid (Lst B wr (.slice op q cm) q 1 (cS P)) := Lst.first LR (by omega)
          obtain ⟨op', cm', hv, _, hcP⟩ := LR
          cases hv
          obtain ⟨b, off, rfl, hbB, hc0⟩ := hcP q hlq
          have zq := hc0 0 (by omega)
          simp only [Nat.mul_one, Nat.add_zero, cS] at zq
          clear hcP hc0 LQ
          have HLP : Hid (Lst B wr v2 D.np 3 (cP D.fp)) := LP.p
          have hBW : B ≤ wr.heap.size := Nat.le_trans hB hbw.size
          clear LP
          cases hh : hasB q P (P q)
          · by_cases hin : 0 < q ∧ q < k
            · have HI : Hid (0 < q ∧ q < k) := hin
              obtain ⟨i1, i2⟩ := hin
              have d1 : decide (0 < (q : Int)) = true := decide_eq_true (by omega)
              have d2 : decide ((q : Int) < (k : Int)) = true := decide_eq_true (by omega)
              cases hj : joiB D.np D.fp (P q)
              · go_wp2_with fail
                refine (hasI_any B _ q P (P q) _ HLS.out).mono ?_; rintro e w0 ⟨rfl, rfl⟩
                rw [hh]
                go_wp2_with fail
                refine (isJoint_any B v0 v1 v2 v3 D.np D.fp (P q) _ HLP.out hBW).mono ?_; rintro e w1 ⟨rfl, hb1⟩
                rw [hj]
                go_wp2_with fail
                go_ret
                exact ⟨false, rfl, ⟨(fun h => by cases h), fun h => absurd ((h.2.1 q hlq).2.1 (by rw [Nat.add_sub_cancel]; exact HI.out)) (by rw [hj]; simp)⟩, (bx.out _ (hbel.out.trans (hb1.mono hsr))).2⟩
              · go_wp2_with fail
                refine (hasI_any B _ q P (P q) _ HLS.out).mono ?_; rintro e w0 ⟨rfl, rfl⟩
                rw [hh]
                go_wp2_with fail
                refine (isJoint_any B v0 v1 v2 v3 D.np D.fp (P q) _ HLP.out hBW).mono ?_; rintro e w1 ⟨rfl, hb1⟩
                rw [hj]
                go_wp2_with fail
                go_roundw
                case rel => exact ⟨q + 1, by omega, by go_num, fun i hi => by
                  by_cases e : i = q
                  · subst e; exact ⟨hh, fun _ => hj, fun h => absurd HI.out h⟩
                  · exact hall.out i (by omega), hbel.out.trans (hb1.mono hsr)⟩
                case measure => simp [intOf]; omega
            · have HI : Hid (¬ (0 < q ∧ q < k)) := hin
              rcases (show q = 0 ∨ (0 < q ∧ ¬ q < k) by omega) with hq0 | ⟨hq1, hq2⟩
              · have HQ : Hid (q = 0) := hq0
                have d1 : decide (0 < (q : Int)) = false := decide_eq_false (by omega)
                have d1' : decide (0 < q) = false := decide_eq_false (by omega)
                clear hq0 hin
                cases hv : vesB D.np D.fp (P q)
                · go_wp2_with fail
                  refine (hasI_any B _ q P (P q) _ HLS.out).mono ?_; rintro e w0 ⟨rfl, rfl⟩
                  rw [hh]
                  go_wp2_with fail
                  refine (isVessel_any B v0 v1 v2 v3 D.np D.fp (P q) _ HLP.out hBW).mono ?_; rintro e w1 ⟨rfl, hb1⟩
                  rw [hv]
                  go_wp2_with fail
                  go_ret
                  exact ⟨false, rfl, ⟨(fun h => by cases h), fun h => absurd ((h.2.1 q hlq).2.2 (by rw [Nat.add_sub_cancel]; exact HI.out)) (by rw [hv]; simp)⟩, (bx.out _ (hbel.out.trans (hb1.mono hsr))).2⟩
                · go_wp2_with fail
                  refine (hasI_any B _ q P (P q) _ HLS.out).mono ?_; rintro e w0 ⟨rfl, rfl⟩
                  rw [hh]
                  go_wp2_with fail
                  refine (isVessel_any B v0 v1 v2 v3 D.np D.fp (P q) _ HLP.out hBW).mono ?_; rintro e w1 ⟨rfl, hb1⟩
                  rw [hv]
                  go_wp2_with fail
                  go_roundw
                  case rel => exact ⟨q + 1, by omega, by go_num, fun i hi => by
                    by_cases e : i = q
                    · subst e; exact ⟨hh, fun h => absurd h HI.out, fun _ => hv⟩
                    · exact hall.out i (by omega), hbel.out.trans (hb1.mono hsr)⟩
                  case measure => simp [intOf]; omega
              · have d1 : decide (0 < (q : Int)) = true := decide_eq_true (by omega)
                have d1' : decide (0 < q) = true := decide_eq_true (by omega)
                have d2 : decide ((q : Int) < (k : Int)) = false := decide_eq_false (by omega)
                have d2' : decide (q < k) = false := decide_eq_false (by omega)
                clear hin
                cases hv : vesB D.np D.fp (P q)
                · go_wp2_with fail
                  refine (hasI_any B _ q P (P q) _ HLS.out).mono ?_; rintro e w0 ⟨rfl, rfl⟩
                  rw [hh]
                  go_wp2_with fail
                  refine (isVessel_any B v0 v1 v2 v3 D.np D.fp (P q) _ HLP.out hBW).mono ?_; rintro e w1 ⟨rfl, hb1⟩
                  rw [hv]
                  go_wp2_with fail
                  go_ret
                  exact ⟨false, rfl, ⟨(fun h => by cases h), fun h => absurd ((h.2.1 q hlq).2.2 (by rw [Nat.add_sub_cancel]; exact HI.out)) (by rw [hv]; simp)⟩, (bx.out _ (hbel.out.trans (hb1.mono hsr))).2⟩
                · go_wp2_with fail
                  refine (hasI_any B _ q P (P q) _ HLS.out).mono ?_; rintro e w0 ⟨rfl, rfl⟩
                  rw [hh]
                  go_wp2_with fail
                  refine (isVessel_any B v0 v1 v2 v3 D.np D.fp (P q) _ HLP.out hBW).mono ?_; rintro e w1 ⟨rfl, hb1⟩
                  rw [hv]
                  go_wp2_with fail
                  go_roundw
                  case rel => exact ⟨q + 1, by omega, by go_num, fun i hi => by
                    by_cases e : i = q
                    · subst e; exact ⟨hh, fun h => absurd h HI.out, fun _ => hv⟩
                    · exact hall.out i (by omega), hbel.out.trans (hb1.mono hsr)⟩
                  case measure => simp [intOf]; omega
          · go_wp2_with fail
            all_goals
              refine (hasI_any B _ q P (P q) _ HLS.out).mono ?_; rintro e w0 ⟨rfl, rfl⟩
              rw [hh]
              go_wp2_with fail
              go_ret
              exact ⟨false, rfl, ⟨(fun h => by cases h), fun h => absurd (h.2.1 q hlq).1 (by rw [hh]; simp)⟩, hbw⟩
        · obtain rfl : q = k + 1 := by omega
          have HALL : Hid _ := hall.out
          clear hall
          go_wp2_with fail
          clear x0 x1 x2 x3 y0 y1 hbw
          go_loopw [71] (fun i wr => ∃ q : Nat, q ≤ k ∧ i = .int .i64 q ∧ Hid (∀ i, i < q → liesB D.nv D.fv (Q i) (P i) (P (i + 1)) = true) ∧ Hid (Below (w.heap.size + 1 + 1) W wr)) (fun i _ => k - (intOf i).toNat)
          case atStart => exact ⟨0, Nat.zero_le _, rfl, fun _ h => by omega, hbel⟩
          case round =>
            clear hbel hsr
            obtain ⟨q, hq, rfl, hall, hbel⟩ := hrel
            obtain ⟨⟨⟨x0, x1, x2, x3⟩, y0, y1⟩, hbw⟩ := bx.out wr hbel.out
            have hsr : w.heap.size + 1 + 1 ≤ wr.heap.size := by have := hbel.out.size; omega
            by_cases hlq : q < k
            · obtain ⟨LP, LR, LQ⟩ := H.out wr hbw
              obtain ⟨op', cm', hv, _, hcP⟩ := LR
              cases hv
              obtain ⟨b, off, rfl, hbB, hc0⟩ := hcP q (by omega)
              have zq := hc0 0 (by omega)
              obtain ⟨_, _, e', _, hc1⟩ := hcP (q + 1) (by omega)
              cases e'
              have zr := hc1 0 (by omega)
              obtain ⟨ov', ck', hv, _, hcQ⟩ := LQ
              cases hv
              obtain ⟨b2, off2, rfl, _, hc2⟩ := hcQ q hlq
              have zv := hc2 0 (by omega)
              simp only [Nat.mul_one, Nat.add_zero, cS] at zq zr zv
              have HLV : Hid (Lst B wr v3 D.nv 4 (cV D.fv)) := LP.v
              have hBW : B ≤ wr.heap.size := Nat.le_trans hB hbw.size
              clear hcP hc0 hc1 hcQ hc2 LP
              have qx0 := fun d os => cell_regrown x0 d os
              have qx1 := fun d os => cell_regrown x1 d os
              have qx2 := fun d os => cell_regrown x2 d os
              have qx3 := fun d os => cell_regrown x3 d os
              have qy0 := fun d os => cell_regrown y0 d os
              have qzq := fun d os => cell_regrown zq d os
              have qzr := fun d os => cell_regrown zr d os
              have qzr' := qzr
              rw [← Nat.add_assoc] at qzr'
              cases hj : liesB D.nv D.fv (Q q) (P q) (P (q + 1))
              · go_wp2_with fail
                refine wp_region_quiet_below (by kernel_rfl) (by kernel_rfl) ?_
                repeat (first | go_big_quiet_step (with_reducible exact lies_q B _ _ _ _ D.nv D.fv _ _ _ _ HLV.out hBW _ hj _ _) | quiet_step (with_reducible exact lies_q B _ _ _ _ D.nv D.fv _ _ _ _ HLV.out hBW _ hj _ _))
                refine wpQuiet_nil ?_
                intro _ hw'
                obtain ⟨⟨dq, osq⟩, hw''⟩ := hw'
                subst hw''
                go_wp2_with fail
                go_ret
                exact ⟨false, rfl, ⟨(fun h => by cases h), fun h => absurd (h.2.2 q hlq) (by rw [hj]; simp)⟩, (bx.out _ (hbel.out.trans ((below_regrown _ dq osq).mono hsr))).2⟩
              · go_wp2_with fail
                refine wp_region_quiet_below (by kernel_rfl) (by kernel_rfl) ?_
                repeat (first | go_big_quiet_step (with_reducible exact lies_q B _ _ _ _ D.nv D.fv _ _ _ _ HLV.out hBW _ hj _ _) | quiet_step (with_reducible exact lies_q B _ _ _ _ D.nv D.fv _ _ _ _ HLV.out hBW _ hj _ _))
                refine wpQuiet_nil ?_
                intro _ hw'
                obtain ⟨⟨dq, osq⟩, hw''⟩ := hw'
                subst hw''
                go_wp2_with fail
                go_roundw
                case rel => exact ⟨q + 1, by omega, by go_num, fun i hi => by
                  by_cases e : i = q
                  · subst e; exact hj
                  · exact hall.out i (by omega), hbel.out.trans ((below_regrown _ dq osq).mono hsr)⟩
                case measure => simp [intOf]; omega
            · obtain rfl : q = k := by omega
              go_wp2_with fail
              go_ret
              exact ⟨true, rfl, ⟨fun _ => ⟨⟨h2, rfl⟩, fun i hi => by rw [Nat.add_sub_cancel]; exact HALL.out i hi, hall.out⟩, fun _ => rfl⟩, hbw⟩
    · have d0 : decide ((m : Int) < 2) = false := by simp; omega
      have dk : ((k : Int) != (m : Int) - 1) = true := bne_iff_ne.2 (by omega)
      go_enter Try.func31, Try.ntmps31
      go_upto_region 1 with fail
      rw [← eW.out]
      go_wp2_with fail
      go_ret
      exact ⟨false, rfl, ⟨(fun h => by cases h), fun h => absurd h.1.2 hkk⟩, hbw⟩
  · have d0 : decide ((m : Int) < 2) = true := by simp; omega
    go_enter Try.func31, Try.ntmps31
    go_upto_region 1 with fail
    rw [← eW.out]
    go_wp2_with fail
    go_ret
    exact ⟨false, rfl, ⟨(fun h => by cases h), fun h => absurd h.1.1 h2⟩, hbw⟩

end Go.Proofs.Ytciembgenlcogab
