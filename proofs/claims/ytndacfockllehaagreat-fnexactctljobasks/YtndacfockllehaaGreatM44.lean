/-
  Several texts in one.
-/
import Derived.Test.YtndacfockllehaaGreatM34
import Derived.Test.YtndacfockllehaaGreatM43
import Derived.Test.YtndacfockllehaaGreatM29
import Derived.Test.YtndacfockllehaaGreatKf
import Derived.Test.YtndacfockllehaaGreatM6
/-
  A contract of the program's test whether places and valves are a route.
-/
namespace Go.Proofs.YtndacfockllehaaGreat
open Go.RowKit

open Go.Sort in
theorem lies_q (B : Nat) (v0 v1 v2 v3 : Value) (n : Nat) (f : Nat → ByteArray × ByteArray × ByteArray × ByteArray) (v a b : ByteArray) (wr : World) (h : Lst B wr v3 n 4 (cV f)) (hB : B ≤ wr.heap.size) (r : Bool) (hr : liesB n f v a b = r) (d : Nat) (os : Array Obj) : Calls Tryz.prog 86 #[.agg #[v0, v1, v2, v3], .string v, .string a, .string b] (grow (redrawn wr d) os) fun e w'' => e = .returned (.bool r) ∧ ∃ p : Regrown, w'' = grow (redrawn wr p.d) p.os :=
  Calls.regrown_of (by subst hr; exact liesBetween_any B v0 v1 v2 v3 n f v a b _ (h.kept (below_regrown wr d os) hB) (Nat.le_trans hB (below_regrown wr d os).size))

open Go.Sort in
set_option maxRecDepth 100000 in
set_option maxHeartbeats 16000000 in
theorem isRoute_any (B : Nat) (v0 v1 v2 v3 : Value) (D : PD) (op ov : Option Addr) (m k cm ck : Nat) (P Q : Nat → ByteArray) (w : World) (h : PAt B w v0 v1 v2 v3 D) (hP : Lst B w (.slice op m cm) m 1 (cS P)) (hQ : Lst B w (.slice ov k ck) k 1 (cS Q)) (hB : B ≤ w.heap.size) (hcm : m ≤ cm) :
    Calls Tryz.prog 61 #[.agg #[v0, v1, v2, v3], .agg #[.slice op m cm, .slice ov k ck]] w fun e w' => ∃ b, e = .returned (.bool b) ∧ (b = true ↔ RI D m P k Q) ∧ Below w.heap.size w w' := by
  have H : Hid (∀ w', Below w.heap.size w w' → PAt B w' v0 v1 v2 v3 D ∧ Lst B w' (.slice op m cm) m 1 (cS P) ∧ Lst B w' (.slice ov k ck) k 1 (cS Q)) := fun w' hb => ⟨h.kept hb hB, hP.kept hb hB, hQ.kept hb hB⟩
  have hm : m ≤ 9223372036854775807 := by obtain ⟨_, _, hv, hn, _⟩ := hP; cases hv; unfold maxLen at hn; omega
  have hkm : k ≤ 9223372036854775807 := by obtain ⟨_, _, hv, hn, _⟩ := hQ; cases hv; unfold maxLen at hn; omega
  clear h hP hQ
  obtain ⟨W, hW⟩ : ∃ W, W = (w.alloc (.cells #[v0, v1, v2, v3] 40)).alloc (.cells #[.slice op m cm, .slice ov k ck] 42) := ⟨_, rfl⟩
  have kW : Hid (Below (w.heap.size + 1 + 1) W W) := Below.refl _ _
  have sW : W.heap.size = w.heap.size + 1 + 1 := by rw [hW]; simp
  have eW : Hid (W = (w.alloc (.cells #[v0, v1, v2, v3] 40)).alloc (.cells #[.slice op m cm, .slice ov k ck] 42)) := hW
  have bx : Hid (∀ wr, Below (w.heap.size + 1 + 1) W wr → ((wr.cell? ⟨w.heap.size, 0, none⟩ = some v0 ∧ wr.cell? ⟨w.heap.size, 1, none⟩ = some v1 ∧ wr.cell? ⟨w.heap.size, 2, none⟩ = some v2 ∧ wr.cell? ⟨w.heap.size, 3, none⟩ = some v3) ∧ wr.cell? ⟨w.heap.size + 1, 0, none⟩ = some (.slice op m cm) ∧ wr.cell? ⟨w.heap.size + 1, 1, none⟩ = some (.slice ov k ck)) ∧ Below w.heap.size w wr) := fun wr hb => by
    rw [hW] at hb
    obtain ⟨h1, h2⟩ := two_box hb
    exact ⟨⟨⟨h1 0 _ rfl, h1 1 _ rfl, h1 2 _ rfl, h1 3 _ rfl⟩, h2 0 _ rfl, h2 1 _ rfl⟩, two_end hb⟩
  clear hW
  obtain ⟨⟨⟨x0, x1, x2, x3⟩, y0, y1⟩, hbw⟩ := bx.out W kW.out
  by_cases h2 : 2 ≤ m
  · by_cases hkk : k + 1 = m
    · subst hkk
      have d0 : decide ((k : Int) + 1 < 2) = false := by simp; omega
      have h2' : 1 ≤ k := by omega
      go_enter Tryz.func61, Tryz.ntmps61
      go_upto_region 1 with fail
      rw [← eW.out]
      go_wp2_with fail
      clear x0 x1 x2 x3 y0 y1 hbw
      go_loopw [27] (fun i wr => ∃ q : Nat, q ≤ k + 1 ∧ i = .int .i64 q ∧ Hid (∀ i, i < q → hasB i P (P i) = false ∧ ((0 < i ∧ i < k) → joiB D.np D.fp (P i) = true) ∧ (¬ (0 < i ∧ i < k) → vesB D.np D.fp (P i) = true)) ∧ Hid (Below (w.heap.size + 1 + 1) W wr)) (fun i _ => k + 1 - (intOf i).toNat)
      case atStart => exact ⟨0, Nat.zero_le _, rfl, fun _ h => by omega, kW⟩
      case round =>
        obtain ⟨q, hq, rfl, hall, hbel⟩ := hrel
        obtain ⟨⟨⟨x0, x1, x2, x3⟩, y0, y1⟩, hbw⟩ := bx.out wr hbel.out
        have hsr : w.heap.size + 1 + 1 ≤ wr.heap.size := by have := hbel.out.size; omega
        by_cases hlq : q < k + 1
        · obtain ⟨LP, LR, LQ⟩ := H.out wr hbw
          have HLS : Hid (Lst B wr (.slice op q cm) q 1 (cS P)) := Lst.first LR (by omega)
          obtain ⟨op', cm', hv, _, hcP⟩ := LR
          cases hv
          obtain ⟨b, off, rfl, hbB, hc0⟩ := hcP q hlq
          have zq := hc0 0 (by omega)
          simp only [Nat.mul_one, Nat.add_zero, cS] at zq
          clear hcP hc0 LQ
          have HLP : Hid (Lst B wr v2 D.np 3 (cP D.fp)) := LP.p
          have hBW : B ≤ wr.heap.size := Nat.le_trans hB hbw.size
          clear LP
          cases hh : hasB q P (P q)
          · by_cases hin : 0 < q ∧ q < k
            · have HI : Hid (0 < q ∧ q < k) := hin
              obtain ⟨i1, i2⟩ := hin
              have d1 : decide (0 < (q : Int)) = true := decide_eq_true (by omega)
              have d2 : decide ((q : Int) < (k : Int)) = true := decide_eq_true (by omega)
              cases hj : joiB D.np D.fp (P q)
              · go_wp2_with fail
                refine (hasI_any B _ q P (P q) _ HLS.out).mono ?_; rintro e w0 ⟨rfl, rfl⟩
                rw [hh]
                go_wp2_with fail
                refine (isJoint_any B v0 v1 v2 v3 D.np D.fp (P q) _ HLP.out hBW).mono ?_; rintro e w1 ⟨rfl, hb1⟩
                rw [hj]
                go_wp2_with fail
                go_ret
                exact ⟨false, rfl, ⟨(fun h => by cases h), fun h => absurd ((h.2.1 q hlq).2.1 (by rw [Nat.add_sub_cancel]; exact HI.out)) (by rw [hj]; simp)⟩, (bx.out _ (hbel.out.trans (hb1.mono hsr))).2⟩
              · go_wp2_with fail
                refine (hasI_any B _ q P (P q) _ HLS.out).mono ?_; rintro e w0 ⟨rfl, rfl⟩
                rw [hh]
                go_wp2_with fail
                refine (isJoint_any B v0 v1 v2 v3 D.np D.fp (P q) _ HLP.out hBW).mono ?_; rintro e w1 ⟨rfl, hb1⟩
                rw [hj]
                go_wp2_with fail
                go_roundw
                case rel => exact ⟨q + 1, by omega, by go_num, fun i hi => by
                  by_cases e : i = q
                  · subst e; exact ⟨hh, fun _ => hj, fun h => absurd HI.out h⟩
                  · exact hall.out i (by omega), hbel.out.trans (hb1.mono hsr)⟩
                case measure => simp [intOf]; omega
            · have HI : Hid (¬ (0 < q ∧ q < k)) := hin
              rcases (show q = 0 ∨ (0 < q ∧ ¬ q < k) by omega) with hq0 | ⟨hq1, hq2⟩
              · have HQ : Hid (q = 0) := hq0
                have d1 : decide (0 < (q : Int)) = false := decide_eq_false (by omega)
                have d1' : decide (0 < q) = false := decide_eq_false (by omega)
                clear hq0 hin
                cases hv : vesB D.np D.fp (P q)
                · go_wp2_with fail
                  refine (hasI_any B _ q P (P q) _ HLS.out).mono ?_; rintro e w0 ⟨rfl, rfl⟩
                  rw [hh]
                  go_wp2_with fail
                  refine (isVessel_any B v0 v1 v2 v3 D.np D.fp (P q) _ HLP.out hBW).mono ?_; rintro e w1 ⟨rfl, hb1⟩
                  rw [hv]
                  go_wp2_with fail
                  go_ret
                  exact ⟨false, rfl, ⟨(fun h => by cases h), fun h => absurd ((h.2.1 q hlq).2.2 (by rw [Nat.add_sub_cancel]; exact HI.out)) (by rw [hv]; simp)⟩, (bx.out _ (hbel.out.trans (hb1.mono hsr))).2⟩
                · go_wp2_with fail
                  refine (hasI_any B _ q P (P q) _ HLS.out).mono ?_; rintro e w0 ⟨rfl, rfl⟩
                  rw [hh]
                  go_wp2_with fail
                  refine (isVessel_any B v0 v1 v2 v3 D.np D.fp (P q) _ HLP.out hBW).mono ?_; rintro e w1 ⟨rfl, hb1⟩
                  rw [hv]
                  go_wp2_with fail
                  go_roundw
                  case rel => exact ⟨q + 1, by omega, by go_num, fun i hi => by
                    by_cases e : i = q
                    · subst e; exact ⟨hh, fun h => absurd h HI.out, fun _ => hv⟩
                    · exact hall.out i (by omega), hbel.out.trans (hb1.mono hsr)⟩
                  case measure => simp [intOf]; omega
              · have d1 : decide (0 < (q : Int)) = true := decide_eq_true (by omega)
                have d1' : decide (0 < q) = true := decide_eq_true (by omega)
                have d2 : decide ((q : Int) < (k : Int)) = false := decide_eq_false (by omega)
                have d2' : decide (q < k) = false := decide_eq_false (by omega)
                clear hin
                cases hv : vesB D.np D.fp (P q)
                · go_wp2_with fail
                  refine (hasI_any B _ q P (P q) _ HLS.out).mono ?_; rintro e w0 ⟨rfl, rfl⟩
                  rw [hh]
                  go_wp2_with fail
                  refine (isVessel_any B v0 v1 v2 v3 D.np D.fp (P q) _ HLP.out hBW).mono ?_; rintro e w1 ⟨rfl, hb1⟩
                  rw [hv]
                  go_wp2_with fail
                  go_ret
                  exact ⟨false, rfl, ⟨(fun h => by cases h), fun h => absurd ((h.2.1 q hlq).2.2 (by rw [Nat.add_sub_cancel]; exact HI.out)) (by rw [hv]; simp)⟩, (bx.out _ (hbel.out.trans (hb1.mono hsr))).2⟩
                · go_wp2_with fail
                  refine (hasI_any B _ q P (P q) _ HLS.out).mono ?_; rintro e w0 ⟨rfl, rfl⟩
                  rw [hh]
                  go_wp2_with fail
                  refine (isVessel_any B v0 v1 v2 v3 D.np D.fp (P q) _ HLP.out hBW).mono ?_; rintro e w1 ⟨rfl, hb1⟩
                  rw [hv]
                  go_wp2_with fail
                  go_roundw
                  case rel => exact ⟨q + 1, by omega, by go_num, fun i hi => by
                    by_cases e : i = q
                    · subst e; exact ⟨hh, fun h => absurd h HI.out, fun _ => hv⟩
                    · exact hall.out i (by omega), hbel.out.trans (hb1.mono hsr)⟩
                  case measure => simp [intOf]; omega
          · go_wp2_with fail
            all_goals
              refine (hasI_any B _ q P (P q) _ HLS.out).mono ?_; rintro e w0 ⟨rfl, rfl⟩
              rw [hh]
              go_wp2_with fail
              go_ret
              exact ⟨false, rfl, ⟨(fun h => by cases h), fun h => absurd (h.2.1 q hlq).1 (by rw [hh]; simp)⟩, hbw⟩
        · obtain rfl : q = k + 1 := by omega
          have HALL : Hid _ := hall.out
          clear hall
          go_wp2_with fail
          clear x0 x1 x2 x3 y0 y1 hbw
          go_loopw [71] (fun i wr => ∃ q : Nat, q ≤ k ∧ i = .int .i64 q ∧ Hid (∀ i, i < q → liesB D.nv D.fv (Q i) (P i) (P (i + 1)) = true) ∧ Hid (Below (w.heap.size + 1 + 1) W wr)) (fun i _ => k - (intOf i).toNat)
          case atStart => exact ⟨0, Nat.zero_le _, rfl, fun _ h => by omega, hbel⟩
          case round =>
            clear hbel hsr
            obtain ⟨q, hq, rfl, hall, hbel⟩ := hrel
            obtain ⟨⟨⟨x0, x1, x2, x3⟩, y0, y1⟩, hbw⟩ := bx.out wr hbel.out
            have hsr : w.heap.size + 1 + 1 ≤ wr.heap.size := by have := hbel.out.size; omega
            by_cases hlq : q < k
            · obtain ⟨LP, LR, LQ⟩ := H.out wr hbw
              obtain ⟨op', cm', hv, _, hcP⟩ := LR
              cases hv
              obtain ⟨b, off, rfl, hbB, hc0⟩ := hcP q (by omega)
              have zq := hc0 0 (by omega)
              obtain ⟨_, _, e', _, hc1⟩ := hcP (q + 1) (by omega)
              cases e'
              have zr := hc1 0 (by omega)
              obtain ⟨ov', ck', hv, _, hcQ⟩ := LQ
              cases hv
              obtain ⟨b2, off2, rfl, _, hc2⟩ := hcQ q hlq
              have zv := hc2 0 (by omega)
              simp only [Nat.mul_one, Nat.add_zero, cS] at zq zr zv
              have HLV : Hid (Lst B wr v3 D.nv 4 (cV D.fv)) := LP.v
              have hBW : B ≤ wr.heap.size := Nat.le_trans hB hbw.size
              clear hcP hc0 hc1 hcQ hc2 LP
              have qx0 := fun d os => cell_regrown x0 d os
              have qx1 := fun d os => cell_regrown x1 d os
              have qx2 := fun d os => cell_regrown x2 d os
              have qx3 := fun d os => cell_regrown x3 d os
              have qy0 := fun d os => cell_regrown y0 d os
              have qzq := fun d os => cell_regrown zq d os
              have qzr := fun d os => cell_regrown zr d os
              have qzr' := qzr
              rw [← Nat.add_assoc] at qzr'
              cases hj : liesB D.nv D.fv (Q q) (P q) (P (q + 1))
              · go_wp2_with fail
                refine wp_region_quiet_below (by kernel_rfl) (by kernel_rfl) ?_
                repeat (first | go_big_quiet_step (with_reducible exact lies_q B _ _ _ _ D.nv D.fv _ _ _ _ HLV.out hBW _ hj _ _) | quiet_step (with_reducible exact lies_q B _ _ _ _ D.nv D.fv _ _ _ _ HLV.out hBW _ hj _ _))
                refine wpQuiet_nil ?_
                intro _ hw'
                obtain ⟨⟨dq, osq⟩, hw''⟩ := hw'
                subst hw''
                go_wp2_with fail
                go_ret
                exact ⟨false, rfl, ⟨(fun h => by cases h), fun h => absurd (h.2.2 q hlq) (by rw [hj]; simp)⟩, (bx.out _ (hbel.out.trans ((below_regrown _ dq osq).mono hsr))).2⟩
              · go_wp2_with fail
                refine wp_region_quiet_below (by kernel_rfl) (by kernel_rfl) ?_
                repeat (first | go_big_quiet_step (with_reducible exact lies_q B _ _ _ _ D.nv D.fv _ _ _ _ HLV.out hBW _ hj _ _) | quiet_step (with_reducible exact lies_q B _ _ _ _ D.nv D.fv _ _ _ _ HLV.out hBW _ hj _ _))
                refine wpQuiet_nil ?_
                intro _ hw'
                obtain ⟨⟨dq, osq⟩, hw''⟩ := hw'
                subst hw''
                go_wp2_with fail
                go_roundw
                case rel => exact ⟨q + 1, by omega, by go_num, fun i hi => by
                  by_cases e : i = q
                  · subst e; exact hj
                  · exact hall.out i (by omega), hbel.out.trans ((below_regrown _ dq osq).mono hsr)⟩
                case measure => simp [intOf]; omega
            · obtain rfl : q = k := by omega
              go_wp2_with fail
              go_ret
              exact ⟨true, rfl, ⟨fun _ => ⟨⟨h2, rfl⟩, fun i hi => by rw [Nat.add_sub_cancel]; exact HALL.out i hi, hall.out⟩, fun _ => rfl⟩, hbw⟩
    · have d0 : decide ((m : Int) < 2) = false := by simp; omega
      have dk : ((k : Int) != (m : Int) - 1) = true := bne_iff_ne.2 (by omega)
      go_enter Tryz.func61, Tryz.ntmps61
      go_upto_region 1 with fail
      rw [← eW.out]
      go_wp2_with fail
      go_ret
      exact ⟨false, rfl, ⟨(fun h => by cases h), fun h => absurd h.1.2 hkk⟩, hbw⟩
  · have d0 : decide ((m : Int) < 2) = true := by simp; omega
    go_enter Tryz.func61, Tryz.ntmps61
    go_upto_region 1 with fail
    rw [← eW.out]
    go_wp2_with fail
    go_ret
    exact ⟨false, rfl, ⟨(fun h => by cases h), fun h => absurd h.1.1 h2⟩, hbw⟩

end Go.Proofs.YtndacfockllehaaGreat

/-
  A contract of the program's PlantGuards: it answers with the names of the valves at a route's places that are not its own, in memory of its own.
-/
namespace Go.Proofs.YtndacfockllehaaGreat
open Go.RowKit

theorem gdN_sizes {D : PD} (hV : D.V) (m : Nat) (P : Nat → ByteArray) (k : Nat) (Q : Nat → ByteArray) (i : Nat) (hi : i < (gdN D m P k Q D.nv).length) : (nthB (gdN D m P k Q D.nv) i).size ≤ 1048576 := by
  have h1 : nthB (gdN D m P k Q D.nv) i ∈ gdN D m P k Q D.nv := List.mem_of_getElem? (nth_at hi)
  obtain ⟨t, ht, e⟩ := List.mem_map.1 h1
  have := (V_sizes hV t (List.mem_range.1 (List.mem_filter.1 ht).1)).1
  rw [← e]; omega

set_option maxRecDepth 100000 in
set_option maxHeartbeats 2000000 in
theorem atAny_any (B : Nat) (v : Value) (m : Nat) (P : Nat → ByteArray) (x0 a b x3 : ByteArray) (w : World) (h : Lst B w v m 1 (cS P)) (hB : B ≤ w.heap.size) :
    Calls Tryz.prog 102 #[.agg #[.string x0, .string a, .string b, .string x3], v] w fun e w' => e = .returned (.bool (hasB m P a || hasB m P b)) ∧ Below w.heap.size w w' := by
  have HL : Hid (Lst B (w.alloc (.cells #[.string x0, .string a, .string b, .string x3] 105)) v m 1 (cS P)) := h.kept ((Below.refl _ _).alloc (Nat.le_refl _) _) hB
  clear h
  go_enter Tryz.func102, Tryz.ntmps102
  cases hA : hasB m P a
  · go_wp2_with fail
    refine (hasI_any B _ m P _ _ HL.out).mono ?_; rintro e w0 ⟨rfl, rfl⟩
    rw [hA]
    go_wp2_with fail
    refine (hasI_any B _ m P _ _ HL.out).mono ?_; rintro e w0 ⟨rfl, rfl⟩
    go_wp2_with fail
    go_ret
    exact ⟨rfl, (Below.refl _ _).alloc (Nat.le_refl _) _⟩
  · go_wp2_with fail
    refine (hasI_any B _ m P _ _ HL.out).mono ?_; rintro e w0 ⟨rfl, rfl⟩
    rw [hA]
    go_wp2_with fail
    go_ret
    exact ⟨rfl, (Below.refl _ _).alloc (Nat.le_refl _) _⟩

set_option maxRecDepth 100000 in
set_option maxHeartbeats 8000000 in
theorem guardsOf_any (B : Nat) (v0 v1 v2 v3 : Value) (D : PD) (op ov : Option Addr) (m k cm ck : Nat) (P Q : Nat → ByteArray) (w : World) (h : PAt B w v0 v1 v2 v3 D) (hP : Lst B w (.slice op m cm) m 1 (cS P)) (hQ : Lst B w (.slice ov k ck) k 1 (cS Q)) (hB : B ≤ w.heap.size) (hnv : D.nv ≤ 1048576) :
    Calls Tryz.prog 97 #[.agg #[v0, v1, v2, v3], .agg #[.slice op m cm, .slice ov k ck]] w fun e w' => ∃ v, e = .returned v ∧ w'.ownsRow w.heap.size 9 1 v (gdN D m P k Q D.nv).length ((gdN D m P k Q D.nv).map .string) ∧ Below w.heap.size w w' := by
  obtain ⟨i0, hi, hz0, hz1, hz2⟩ := info_parts info9b
  have H : Hid (∀ w', Below w.heap.size w w' → PAt B w' v0 v1 v2 v3 D ∧ Lst B w' (.slice op m cm) m 1 (cS P) ∧ Lst B w' (.slice ov k ck) k 1 (cS Q)) := fun w' hb => ⟨h.kept hb hB, hP.kept hb hB, hQ.kept hb hB⟩
  clear h hP hQ
  obtain ⟨W, hW⟩ : ∃ W, W = (w.alloc (.cells #[v0, v1, v2, v3] 40)).alloc (.cells #[.slice op m cm, .slice ov k ck] 42) := ⟨_, rfl⟩
  have kW : Hid (Below (w.heap.size + 1 + 1) W W) := Below.refl _ _
  have sW : W.heap.size = w.heap.size + 1 + 1 := by rw [hW]; simp
  have eW : Hid (W = (w.alloc (.cells #[v0, v1, v2, v3] 40)).alloc (.cells #[.slice op m cm, .slice ov k ck] 42)) := hW
  have bx : Hid (∀ wr, Below (w.heap.size + 1 + 1) W wr → ((wr.cell? ⟨w.heap.size, 0, none⟩ = some v0 ∧ wr.cell? ⟨w.heap.size, 1, none⟩ = some v1 ∧ wr.cell? ⟨w.heap.size, 2, none⟩ = some v2 ∧ wr.cell? ⟨w.heap.size, 3, none⟩ = some v3) ∧ wr.cell? ⟨w.heap.size + 1, 0, none⟩ = some (.slice op m cm) ∧ wr.cell? ⟨w.heap.size + 1, 1, none⟩ = some (.slice ov k ck)) ∧ Below w.heap.size w wr) := fun wr hb => by
    rw [hW] at hb
    obtain ⟨h1, h2⟩ := two_box hb
    exact ⟨⟨⟨h1 0 _ rfl, h1 1 _ rfl, h1 2 _ rfl, h1 3 _ rfl⟩, h2 0 _ rfl, h2 1 _ rfl⟩, two_end hb⟩
  clear hW
  go_enter Tryz.func97, Tryz.ntmps97
  go_upto_region 2 with fail
  rw [← eW.out]
  obtain ⟨⟨⟨x0, x1, x2, x3⟩, y0, y1⟩, hbw⟩ := bx.out W kW.out
  have LV := (H.out W hbw).1.v
  obtain ⟨oa, cap, rfl, _, hcV⟩ := LV
  clear hcV
  go_wp2_with fail
  clear x0 x1 x2 x3 y0 y1 hbw
  go_loopw [5, 11] (fun v i wr => ∃ q : Nat, q ≤ D.nv ∧ i = .int .i64 q ∧ Hid (wr.ownsRow (w.heap.size + 1 + 1) 9 1 v (gdN D m P k Q q).length ((gdN D m P k Q q).map .string)) ∧ Hid (Below (w.heap.size + 1 + 1) W wr)) (fun _ i _ => D.nv - (intOf i).toNat)
  case atStart => exact ⟨0, Nat.zero_le _, rfl, by simpa [Hid, gdN] using World.ownsRow_nil W (w.heap.size + 1 + 1) 9 1, kW⟩
  case round =>
    obtain ⟨q, hq, rfl, hown, hbel⟩ := hrel
    obtain ⟨⟨⟨x0, x1, x2, x3⟩, y0, y1⟩, hbw⟩ := bx.out wr hbel.out
    have hsr : w.heap.size + 1 + 1 ≤ wr.heap.size := by have := hbel.out.size; omega
    have hgl := gdN_len D m P k Q q
    by_cases hlq : q < D.nv
    · obtain ⟨LP, LR, LQ⟩ := H.out wr hbw
      obtain ⟨oa', cap', hv, _, hcv⟩ := LP.v
      cases hv
      obtain ⟨b, off, rfl, hbB, hcell⟩ := hcv q hlq
      have e0 : wr.cell? ⟨b, off + q * 4, none⟩ = some (.string (D.fv q).1) := hcell 0 (by omega)
      have e1 : wr.cell? ⟨b, off + q * 4 + 1, none⟩ = some (.string (D.fv q).2.1) := hcell 1 (by omega)
      have e2 : wr.cell? ⟨b, off + q * 4 + 2, none⟩ = some (.string (D.fv q).2.2.1) := hcell 2 (by omega)
      have e3 : wr.cell? ⟨b, off + q * 4 + 3, none⟩ = some (.string (D.fv q).2.2.2) := hcell 3 (by omega)
      obtain ⟨U, hU⟩ : ∃ U, U = wr.alloc (.cells #[.string (D.fv q).1, .string (D.fv q).2.1, .string (D.fv q).2.2.1, .string (D.fv q).2.2.2] 105) := ⟨_, rfl⟩
      have EU : Hid (U = wr.alloc (.cells #[.string (D.fv q).1, .string (D.fv q).2.1, .string (D.fv q).2.2.1, .string (D.fv q).2.2.2] 105)) := hU
      have kU : Hid (Below (w.heap.size + 1 + 1) W U) := by rw [hU]; exact hbel.out.alloc hsr _
      have sU : wr.heap.size + 1 ≤ U.heap.size := by rw [hU]; simp
      have sU' : U.heap.size ≤ wr.heap.size + 1 := by rw [hU]; simp
      have ownU' := hown.out.alloc (.cells #[.string (D.fv q).1, .string (D.fv q).2.1, .string (D.fv q).2.2.1, .string (D.fv q).2.2.2] 105)
      rw [← hU] at ownU'
      have ownU : Hid (U.ownsRow (w.heap.size + 1 + 1) 9 1 u5 (gdN D m P k Q q).length ((gdN D m P k Q q).map .string)) := ownU'
      clear ownU'
      have bv : Hid (∀ u, Below (wr.heap.size + 1) U u → u.cell? ⟨wr.heap.size, 0, none⟩ = some (.string (D.fv q).1) ∧ u.cell? ⟨wr.heap.size, 1, none⟩ = some (.string (D.fv q).2.1) ∧ u.cell? ⟨wr.heap.size, 2, none⟩ = some (.string (D.fv q).2.2.1) ∧ u.cell? ⟨wr.heap.size, 3, none⟩ = some (.string (D.fv q).2.2.2)) := fun u hb => by rw [hU] at hb; exact ⟨box_in hb 0 _ rfl, box_in hb 1 _ rfl, box_in hb 2 _ rfl, box_in hb 3 _ rfl⟩
      clear hcv hcell LP LR LQ hU
      go_upto_region 5 with fail
      rw [← EU.out]
      clear x0 x1 x2 x3 y0 y1 e0 e1 e2 e3
      obtain ⟨⟨_, y0, y1⟩, hUw⟩ := bx.out U kU.out
      obtain ⟨z0, z1, z2, z3⟩ := bv.out U (Below.refl _ _)
      go_wp2_with fail
      refine (atAny_any B _ m P _ _ _ _ U (H.out U hUw).2.1 (by have := hUw.size; omega)).mono ?_; rintro e w1 ⟨rfl, hb1⟩
      have kb1 : Hid (Below U.heap.size U w1) := hb1
      have k1 : Hid (Below (w.heap.size + 1 + 1) W w1) := kU.out.trans (hb1.mono (by omega))
      have own1' := own_belowR ownU.out hb1
      have own1 : Hid (w1.ownsRow (w.heap.size + 1 + 1) 9 1 u5 (gdN D m P k Q q).length ((gdN D m P k Q q).map .string)) := own1'
      clear own1'
      have s1 := hb1.size
      have s2 : w.heap.size + 1 + 1 ≤ w1.heap.size := by omega
      clear y0 y1 z0 z1 z2 z3 hUw hb1
      obtain ⟨⟨_, y0, y1⟩, hUw⟩ := bx.out w1 k1.out
      obtain ⟨z0, z1, z2, z3⟩ := bv.out w1 (kb1.out.mono (by omega))
      have LQ : Hid (Lst B w1 (.slice ov k ck) k 1 (cS Q)) := (H.out w1 hUw).2.2
      cases hA : (hasB m P (D.fv q).2.1 || hasB m P (D.fv q).2.2.1)
      · have hAA : (hasB m P (D.fv q).2.1 || hasB m P (D.fv q).2.2.1) = false := hA
        go_wp2_with fail
        go_roundw
        case rel => exact ⟨q + 1, by omega, by go_num, by show World.ownsRow _ _ _ _ _ _ _; rw [gdN_no (by unfold gdB; rw [hAA]; rfl)]; exact own1.out, k1.out⟩
        case measure => simp [intOf]; omega
      · cases hO : hasB k Q (D.fv q).1
        · go_wp2_with fail
          refine (hasI_any B _ k Q _ _ LQ.out).mono ?_; rintro e w0 ⟨rfl, rfl⟩
          rw [hO]
          go_wp2_with (first
            | (at_builtin; refine wpList_append_own _ rfl _ _ 22 rfl (w.heap.size + 1 + 1) 9 i0 (.string ByteArray.empty) 1 16 under24b hi hz0 hz1 hz2 rfl (by decide) _ _ _ rfl (own1.out.alloc _) ⟨w0.heap.size, 0, none⟩ 1 1 [.string (D.fv q).1] rfl rfl (cell_one_new _ _ _) (fun x hx => by simp at hx; subst hx; rfl) (by unfold maxLen; omega) (by omega) (by simp; omega) ?_; intro v' w3 hown' hgrow3 hnil3))
          go_roundw
          case rel =>
            have RR : ∃ q' : Nat, q' ≤ D.nv ∧ Value.int .i64 ((q : Int) + 1) = .int .i64 (q' : Int) ∧ Hid (w3.ownsRow (w.heap.size + 1 + 1) 9 1 v' (gdN D m P k Q q').length ((gdN D m P k Q q').map .string)) ∧ Hid (Below (w.heap.size + 1 + 1) W w3) :=
              ⟨q + 1, by omega, by go_num, by show World.ownsRow _ _ _ _ _ _ _; rw [gdN_yes (by unfold gdB; rw [hA, hO]; rfl)]; exact own_push hown', (k1.out.alloc (by omega) _).grown hgrow3 (by simp; omega) (fun p hp => (own1.out.lt p hp).1)⟩
            first
              | exact RR
              | ((repeat apply Exists.intro); exact ⟨RR, rfl⟩)
          case measure => simp [intOf]; omega
        · go_wp2_with fail
          refine (hasI_any B _ k Q _ _ LQ.out).mono ?_; rintro e w0 ⟨rfl, rfl⟩
          rw [hO]
          go_wp2_with fail
          go_roundw
          case rel => exact ⟨q + 1, by omega, by go_num, by show World.ownsRow _ _ _ _ _ _ _; rw [gdN_no (by unfold gdB; rw [hA, hO]; rfl)]; exact own1.out, k1.out⟩
          case measure => simp [intOf]; omega
    · obtain rfl : q = D.nv := by omega
      go_wp2_with fail
      go_ret
      exact ⟨_, rfl, own_leR hown.out (by omega), hbw⟩

end Go.Proofs.YtndacfockllehaaGreat
