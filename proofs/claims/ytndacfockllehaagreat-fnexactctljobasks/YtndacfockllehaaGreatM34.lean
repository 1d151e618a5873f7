/-
  Several texts in one.
-/
import Derived.Test.YtndacfockllehaaGreatKa
import Derived.Test.YtndacfockllehaaGreatM24
import Derived.Deep.Cut
import Derived.Test.YtndacfockllehaaGreatRz
/-
  Small laws on two boxes of a call, and on the first part of a list.
-/
namespace Go.Proofs.YtndacfockllehaaGreat
open Go.RowKit

/-- Two boxes, one behind the other. -/
theorem two_box {w wr : World} {c d : Array Value} {t u : TypeId} (hb : Below (w.heap.size + 1 + 1) ((w.alloc (.cells c t)).alloc (.cells d u)) wr) :
    (∀ (j : Nat) (v : Value), c[j]? = some v → wr.cell? ⟨w.heap.size, j, none⟩ = some v) ∧ ∀ (j : Nat) (v : Value), d[j]? = some v → wr.cell? ⟨w.heap.size + 1, j, none⟩ = some v := by
  have e : (w.alloc (.cells c t)).heap.size = w.heap.size + 1 := by simp
  constructor
  · intro j v h
    exact (hb.cell (p := ⟨w.heap.size, j, none⟩) (by show w.heap.size < _; omega)).trans (cell_past (new_cell w c t j v h) (by simp) _)
  · intro j v h
    have := new_cell (w.alloc (.cells c t)) d u j v h
    rw [e] at this
    exact (hb.cell (p := ⟨w.heap.size + 1, j, none⟩) (by show w.heap.size + 1 < _; omega)).trans this

theorem two_end {w wr : World} {o o' : Obj} (hb : Below (w.heap.size + 1 + 1) ((w.alloc o).alloc o') wr) : Below w.heap.size w wr :=
  (((Below.refl _ _).alloc (Nat.le_refl _) o).alloc (by simp) o').trans (hb.mono (by omega))

theorem two_of2 {w wr wr' : World} {o o' : Obj} (hb : Below (w.heap.size + 1 + 1) ((w.alloc o).alloc o') wr) (h : Below wr.heap.size wr wr') : Below (w.heap.size + 1 + 1) ((w.alloc o).alloc o') wr' :=
  hb.trans (h.mono (by have := hb.size; simp at this; exact this))

theorem Lst.first {B : Nat} {w : World} {oa : Option Addr} {n cap q k : Nat} {c : Nat → Nat → Value} (h : Lst B w (.slice oa n cap) n k c) (hq : q ≤ n) : Lst B w (.slice oa q cap) q k c := by
  obtain ⟨oa', cap', hv, hn, hc⟩ := h
  cases hv
  exact ⟨oa, cap, rfl, by omega, fun i hi => hc i (by omega)⟩

end Go.Proofs.YtndacfockllehaaGreat

/-
  A contract of the model's test whether places and valves are a route of a plant.
-/
namespace Go.Proofs.YtndacfockllehaaGreat
open Go.RowKit

open Go.Sort in
theorem cap_q (B : Nat) (v0 v1 v2 v3 : Value) (n : Nat) (f : Nat → ByteArray × Int × ByteArray) (x : ByteArray) (wr : World) (h : Lst B wr v2 n 3 (cP f)) (hB : B ≤ wr.heap.size) (d : Nat) (os : Array Obj) : Calls Tryz.prog 73 #[.agg #[v0, v1, v2, v3], .string x] (grow (redrawn wr d) os) fun e w'' => e = .returned (.int .i64 (capI n f x)) ∧ ∃ p : Regrown, w'' = grow (redrawn wr p.d) p.os :=
  Calls.regrown_of (capS_any B v0 v1 v2 v3 n f x _ (h.kept (below_regrown wr d os) hB) (Nat.le_trans hB (below_regrown wr d os).size))
open Go.Sort in
theorem join_q (B : Nat) (v0 v1 v2 v3 : Value) (n : Nat) (f : Nat → ByteArray × ByteArray × ByteArray × ByteArray) (v a b : ByteArray) (wr : World) (h : Lst B wr v3 n 4 (cV f)) (hB : B ≤ wr.heap.size) (r : Bool) (hr : joinB n f v a b = r) (d : Nat) (os : Array Obj) : Calls Tryz.prog 75 #[.agg #[v0, v1, v2, v3], .string v, .string a, .string b] (grow (redrawn wr d) os) fun e w'' => e = .returned (.bool r) ∧ ∃ p : Regrown, w'' = grow (redrawn wr p.d) p.os :=
  Calls.regrown_of (by subst hr; exact joinS_any B v0 v1 v2 v3 n f v a b _ (h.kept (below_regrown wr d os) hB) (Nat.le_trans hB (below_regrown wr d os).size))

open Go.Sort in
set_option maxRecDepth 100000 in
set_option maxHeartbeats 16000000 in
theorem routeS_any (B : Nat) (v0 v1 v2 v3 : Value) (D : PD) (op ov : Option Addr) (m k cm ck : Nat) (P Q : Nat → ByteArray) (w : World) (h : PAt B w v0 v1 v2 v3 D) (hP : Lst B w (.slice op m cm) m 1 (cS P)) (hQ : Lst B w (.slice ov k ck) k 1 (cS Q)) (hB : B ≤ w.heap.size) (hcm : m ≤ cm) :
    Calls Tryz.prog 50 #[.agg #[v0, v1, v2, v3], .agg #[.slice op m cm, .slice ov k ck]] w fun e w' => ∃ b, e = .returned (.bool b) ∧ (b = true ↔ RS D m P k Q) ∧ Below w.heap.size w w' := by
  have H : Hid (∀ w', Below w.heap.size w w' → PAt B w' v0 v1 v2 v3 D ∧ Lst B w' (.slice op m cm) m 1 (cS P) ∧ Lst B w' (.slice ov k ck) k 1 (cS Q)) := fun w' hb => ⟨h.kept hb hB, hP.kept hb hB, hQ.kept hb hB⟩
  have hm : m ≤ 9223372036854775807 := by obtain ⟨_, _, hv, hn, _⟩ := hP; cases hv; unfold maxLen at hn; omega
  have hkm : k ≤ 9223372036854775807 := by obtain ⟨_, _, hv, hn, _⟩ := hQ; cases hv; unfold maxLen at hn; omega
  clear h hP hQ
  obtain ⟨W, hW⟩ : ∃ W, W = (w.alloc (.cells #[v0, v1, v2, v3] 40)).alloc (.cells #[.slice op m cm, .slice ov k ck] 42) := ⟨_, rfl⟩
  have kW : Hid (Below (w.heap.size + 1 + 1) W W) := Below.refl _ _
  have sW : W.heap.size = w.heap.size + 1 + 1 := by rw [hW]; simp
  have eW : Hid (W = (w.alloc (.cells #[v0, v1, v2, v3] 40)).alloc (.cells #[.slice op m cm, .slice ov k ck] 42)) := hW
  have bx : Hid (∀ wr, Below (w.heap.size + 1 + 1) W wr → ((wr.cell? ⟨w.heap.size, 0, none⟩ = some v0 ∧ wr.cell? ⟨w.heap.size, 1, none⟩ = some v1 ∧ wr.cell? ⟨w.heap.size, 2, none⟩ = some v2 ∧ wr.cell? ⟨w.heap.size, 3, none⟩ = some v3) ∧ wr.cell? ⟨w.heap.size + 1, 0, none⟩ = some (.slice op m cm) ∧ wr.cell? ⟨w.heap.size + 1, 1, none⟩ = some (.slice ov k ck)) ∧ Below w.heap.size w wr) := fun wr hb => by
    rw [hW] at hb
    obtain ⟨h1, h2⟩ := two_box hb
    exact ⟨⟨⟨h1 0 _ rfl, h1 1 _ rfl, h1 2 _ rfl, h1 3 _ rfl⟩, h2 0 _ rfl, h2 1 _ rfl⟩, two_end hb⟩
  clear hW
  by_cases h2 : 2 ≤ m
  · have d0 : decide ((m : Int) < 2) = false := by simp; omega
    by_cases hkk : k + 1 = m
    · subst hkk
      replace d0 : decide ((k : Int) + 1 < 2) = false := by simp; omega
      obtain ⟨⟨⟨x0, x1, x2, x3⟩, y0, y1⟩, hbw⟩ := bx.out W kW.out
      replace x0 := fun d os => cell_regrown x0 d os
      replace x1 := fun d os => cell_regrown x1 d os
      replace x2 := fun d os => cell_regrown x2 d os
      replace x3 := fun d os => cell_regrown x3 d os
      replace y0 := fun d os => cell_regrown y0 d os
      replace y1 := fun d os => cell_regrown y1 d os
      obtain ⟨LP, LR, LQ⟩ := H.out W hbw
      have HLP : Hid (Lst B W v2 D.np 3 (cP D.fp)) := LP.p
      have HLV : Hid (Lst B W v3 D.nv 4 (cV D.fv)) := LP.v
      have hBW : B ≤ W.heap.size := Nat.le_trans hB hbw.size
      clear LP
      obtain ⟨op', cm', hv, _, hcP⟩ := LR
      cases hv
      obtain ⟨b, off, rfl, hbB, hc0⟩ := hcP 0 (by omega)
      have z0 := hc0 0 (by omega)
      obtain ⟨_, _, e', _, hc1⟩ := hcP k (by omega)
      cases e'
      have z1 := hc1 0 (by omega)
      simp only [Nat.mul_one, Nat.add_zero, cS] at z0 z1
      replace z0 := fun d os => cell_regrown z0 d os
      replace z1 := fun d os => cell_regrown z1 d os
      clear hcP hc0 hc1 LQ
      cases hc0 : decide (capI D.np D.fp (P 0) < 1)
      · cases hc1 : decide (capI D.np D.fp (P k) < 1)
        · go_enter Tryz.func50, Tryz.ntmps50
          go_upto_region 2 with fail
          rw [← eW.out]
          go_wp2
          refine wp_region_quiet_below (by kernel_rfl) (by kernel_rfl) ?_
          repeat (first | go_big_quiet_step (first | (with_reducible exact cap_q B _ _ _ _ D.np D.fp _ _ HLP.out hBW _ _) | (with_reducible exact has_q B _ q P _ _ HLS.out hBW _ hh _ _) | (with_reducible exact join_q B _ _ _ _ D.nv D.fv _ _ _ _ HLV.out hBW _ hj _ _)) | quiet_step (first | (with_reducible exact cap_q B _ _ _ _ D.np D.fp _ _ HLP.out hBW _ _) | (with_reducible exact has_q B _ q P _ _ HLS.out hBW _ hh _ _) | (with_reducible exact join_q B _ _ _ _ D.nv D.fv _ _ _ _ HLV.out hBW _ hj _ _)))
          refine wpQuiet_nil ?_
          intro _ hw'
          obtain ⟨⟨dq, osq⟩, hw''⟩ := hw'
          subst hw''
          have kq : Hid (Below (w.heap.size + 1 + 1) W (grow (redrawn W dq) osq)) := kW.out.trans ((below_regrown _ dq osq).mono (by omega))
          generalize grow (redrawn W dq) osq = W1 at kq ⊢
          clear x0 x1 x2 x3 y0 y1 z0 z1 HLP HLV hBW
          go_wp2
          go_loopw [6] (fun i wr => ∃ q : Nat, q ≤ k + 1 ∧ i = .int .i64 q ∧ Hid (∀ i, i < q → (0 ≤ capI D.np D.fp (P i) ∧ hasB i P (P i) = false ∧ ((0 < i ∧ i < k) → capI D.np D.fp (P i) ≤ 0)) ∧ (0 < i → joinB D.nv D.fv (Q (i - 1)) (P (i - 1)) (P i) = true)) ∧ Hid (Below (w.heap.size + 1 + 1) W wr)) (fun i _ => k + 1 - (intOf i).toNat)
          case atStart => exact ⟨0, Nat.zero_le _, rfl, fun _ h => by omega, kq⟩
          case round =>
            obtain ⟨q, hq, rfl, hallf, hbel⟩ := hrel
            obtain ⟨⟨⟨x0, x1, x2, x3⟩, y0, y1⟩, hbw⟩ := bx.out wr hbel.out
            replace x0 := fun d os => cell_regrown x0 d os
            replace x1 := fun d os => cell_regrown x1 d os
            replace x2 := fun d os => cell_regrown x2 d os
            replace x3 := fun d os => cell_regrown x3 d os
            replace y0 := fun d os => cell_regrown y0 d os
            replace y1 := fun d os => cell_regrown y1 d os
            obtain ⟨LP, LR, LQ⟩ := H.out wr hbw
            have HLP : Hid (Lst B wr v2 D.np 3 (cP D.fp)) := LP.p
            have HLV : Hid (Lst B wr v3 D.nv 4 (cV D.fv)) := LP.v
            have hBW : B ≤ wr.heap.size := Nat.le_trans hB hbw.size
            clear LP
            by_cases hlq : q < k + 1
            · obtain ⟨op', cm', hv, _, hcP⟩ := LR
              cases hv
              obtain ⟨_, _, e', hbB, hc0⟩ := hcP q hlq
              cases e'
              have zq := hc0 0 (by omega)
              simp only [Nat.mul_one, Nat.add_zero, cS] at zq
              replace zq := fun d os => cell_regrown zq d os
              have HLS : Hid (Lst B wr (.slice (some ⟨b, off, none⟩) q cm) q 1 (cS P)) := Lst.first (H.out wr hbw).2.1 (by omega)
              clear hc0
              by_cases hq0 : q = 0
              · have gt0 : decide (0 < q) = false := by simp; omega
                have HK : Hid (q = 0) := hq0
                clear hq0
                cases hcq : decide (capI D.np D.fp (P q) < 0)
                · cases hh : hasB q P (P q)
                  · go_wp2
                    refine wp_region_quiet_below (by kernel_rfl) (by kernel_rfl) ?_
                    repeat (first | go_big_quiet_step (first | (with_reducible exact cap_q B _ _ _ _ D.np D.fp _ _ HLP.out hBW _ _) | (with_reducible exact has_q B _ q P _ _ HLS.out hBW _ hh _ _) | (with_reducible exact join_q B _ _ _ _ D.nv D.fv _ _ _ _ HLV.out hBW _ hj _ _)) | quiet_step (first | (with_reducible exact cap_q B _ _ _ _ D.np D.fp _ _ HLP.out hBW _ _) | (with_reducible exact has_q B _ q P _ _ HLS.out hBW _ hh _ _) | (with_reducible exact join_q B _ _ _ _ D.nv D.fv _ _ _ _ HLV.out hBW _ hj _ _)))
                    refine wpQuiet_nil ?_
                    intro _ hw'
                    obtain ⟨⟨dq, osq⟩, hw''⟩ := hw'
                    subst hw''
                    have kq2 : Hid (Below (w.heap.size + 1 + 1) W (grow (redrawn wr dq) osq)) := hbel.out.trans ((below_regrown _ dq osq).mono (by have := hbel.out.size; omega))
                    generalize grow (redrawn wr dq) osq = wr2 at kq2 ⊢
                    go_wp2
                    refine wp_region_quiet_below (by kernel_rfl) (by kernel_rfl) ?_
                    repeat (first | go_big_quiet_step (first | (with_reducible exact cap_q B _ _ _ _ D.np D.fp _ _ HLP.out hBW _ _) | (with_reducible exact has_q B _ q P _ _ HLS.out hBW _ hh _ _) | (with_reducible exact join_q B _ _ _ _ D.nv D.fv _ _ _ _ HLV.out hBW _ hj _ _)) | quiet_step (first | (with_reducible exact cap_q B _ _ _ _ D.np D.fp _ _ HLP.out hBW _ _) | (with_reducible exact has_q B _ q P _ _ HLS.out hBW _ hh _ _) | (with_reducible exact join_q B _ _ _ _ D.nv D.fv _ _ _ _ HLV.out hBW _ hj _ _)))
                    refine wpQuiet_nil ?_
                    intro _ hw'
                    obtain ⟨⟨dq, osq⟩, hw''⟩ := hw'
                    subst hw''
                    go_wp2
                    go_roundw
                    case rel => exact ⟨q + 1, by omega, by go_num, fun j hj => by
                      by_cases e : j = q
                      · subst e; exact ⟨⟨by simpa using hcq, hh, fun h => by have := HK.out; omega⟩, fun h => by have := HK.out; omega⟩
                      · exact hallf.out j (by omega), kq2.out.trans ((below_regrown _ dq osq).mono (by have := kq2.out.size; omega))⟩
                    case measure => simp [intOf]; omega
                  · go_wp2
                    refine wp_region_quiet_below (by kernel_rfl) (by kernel_rfl) ?_
                    repeat (first | go_big_quiet_step (first | (with_reducible exact cap_q B _ _ _ _ D.np D.fp _ _ HLP.out hBW _ _) | (with_reducible exact has_q B _ q P _ _ HLS.out hBW _ hh _ _) | (with_reducible exact join_q B _ _ _ _ D.nv D.fv _ _ _ _ HLV.out hBW _ hj _ _)) | quiet_step (first | (with_reducible exact cap_q B _ _ _ _ D.np D.fp _ _ HLP.out hBW _ _) | (with_reducible exact has_q B _ q P _ _ HLS.out hBW _ hh _ _) | (with_reducible exact join_q B _ _ _ _ D.nv D.fv _ _ _ _ HLV.out hBW _ hj _ _)))
                    refine wpQuiet_nil ?_
                    intro _ hw'
                    obtain ⟨⟨dq, osq⟩, hw''⟩ := hw'
                    subst hw''
                    go_wp2
                    go_ret
                    exact ⟨false, rfl, ⟨(fun h => by cases h), fun h => absurd (h.2.2 q hlq) (by intro h; have := h.1.2.1; rw [hh] at this; cases this)⟩, (bx.out _ (hbel.out.trans ((below_regrown _ dq osq).mono (by have := hbel.out.size; omega)))).2⟩
                · go_wp2
                  refine wp_region_quiet_below (by kernel_rfl) (by kernel_rfl) ?_
                  repeat (first | go_big_quiet_step (first | (with_reducible exact cap_q B _ _ _ _ D.np D.fp _ _ HLP.out hBW _ _) | (with_reducible exact has_q B _ q P _ _ HLS.out hBW _ hh _ _) | (with_reducible exact join_q B _ _ _ _ D.nv D.fv _ _ _ _ HLV.out hBW _ hj _ _)) | quiet_step (first | (with_reducible exact cap_q B _ _ _ _ D.np D.fp _ _ HLP.out hBW _ _) | (with_reducible exact has_q B _ q P _ _ HLS.out hBW _ hh _ _) | (with_reducible exact join_q B _ _ _ _ D.nv D.fv _ _ _ _ HLV.out hBW _ hj _ _)))
                  refine wpQuiet_nil ?_
                  intro _ hw'
                  obtain ⟨⟨dq, osq⟩, hw''⟩ := hw'
                  subst hw''
                  go_wp2
                  go_ret
                  exact ⟨false, rfl, ⟨(fun h => by cases h), fun h => absurd (h.2.2 q hlq) (by intro h; have := h.1.1; simp at hcq; omega)⟩, (bx.out _ (hbel.out.trans ((below_regrown _ dq osq).mono (by have := hbel.out.size; omega)))).2⟩
              · obtain ⟨j, rfl⟩ : ∃ j, q = j + 1 := ⟨q - 1, by omega⟩
                clear hq0
                obtain ⟨_, _, e', _, hc1⟩ := hcP j (by omega)
                cases e'
                have zj := hc1 0 (by omega)
                obtain ⟨ov', ck', hv, _, hcQ⟩ := LQ
                cases hv
                obtain ⟨b2, off2, rfl, _, hc2⟩ := hcQ j (by omega)
                have zv := hc2 0 (by omega)
                simp only [Nat.mul_one, Nat.add_zero, cS] at zj zv
                replace zj := fun d os => cell_regrown zj d os
                replace zv := fun d os => cell_regrown zv d os
                clear hc1 hc2 hcQ hcP
                have gt0 : decide (0 < (j : Int) + 1) = true := decide_eq_true (by omega)
                cases hcq : decide (capI D.np D.fp (P (j + 1)) < 0)
                · cases hh : hasB (j + 1) P (P (j + 1))
                  · by_cases hin : j + 1 < k
                    · have din : decide ((j : Int) + 1 < (k : Int)) = true := by simp; omega
                      cases hcp : decide (0 < capI D.np D.fp (P (j + 1)))
                      · go_wp2
                        refine wp_region_quiet_below (by kernel_rfl) (by kernel_rfl) ?_
                        repeat (first | go_big_quiet_step (first | (with_reducible exact cap_q B _ _ _ _ D.np D.fp _ _ HLP.out hBW _ _) | (with_reducible exact has_q B _ (j + 1) P _ _ HLS.out hBW _ hh _ _) | (with_reducible exact join_q B _ _ _ _ D.nv D.fv _ _ _ _ HLV.out hBW _ hj _ _)) | quiet_step (first | (with_reducible exact cap_q B _ _ _ _ D.np D.fp _ _ HLP.out hBW _ _) | (with_reducible exact has_q B _ (j + 1) P _ _ HLS.out hBW _ hh _ _) | (with_reducible exact join_q B _ _ _ _ D.nv D.fv _ _ _ _ HLV.out hBW _ hj _ _)))
                        refine wpQuiet_nil ?_
                        intro _ hw'
                        obtain ⟨⟨dq, osq⟩, hw''⟩ := hw'
                        subst hw''
                        have kq2 : Hid (Below (w.heap.size + 1 + 1) W (grow (redrawn wr dq) osq)) := hbel.out.trans ((below_regrown _ dq osq).mono (by have := hbel.out.size; omega))
                        replace zq := zq dq osq
                        replace zj := zj dq osq
                        replace zv := zv dq osq
                        generalize grow (redrawn wr dq) osq = wr2 at kq2 zq zj zv ⊢
                        clear x0 x1 x2 x3 y0 y1 HLP HLV hBW hbw HLS
                        replace zq := fun d os => cell_regrown zq d os
                        replace zj := fun d os => cell_regrown zj d os
                        replace zv := fun d os => cell_regrown zv d os
                        obtain ⟨⟨⟨x0, x1, x2, x3⟩, y0, y1⟩, hbw⟩ := bx.out wr2 kq2.out
                        replace x0 := fun d os => cell_regrown x0 d os
                        replace x1 := fun d os => cell_regrown x1 d os
                        replace x2 := fun d os => cell_regrown x2 d os
                        replace x3 := fun d os => cell_regrown x3 d os
                        replace y0 := fun d os => cell_regrown y0 d os
                        replace y1 := fun d os => cell_regrown y1 d os
                        obtain ⟨LP, LR, LQ⟩ := H.out wr2 hbw
                        have HLP : Hid (Lst B wr2 v2 D.np 3 (cP D.fp)) := LP.p
                        have HLV : Hid (Lst B wr2 v3 D.nv 4 (cV D.fv)) := LP.v
                        have hBW : B ≤ wr2.heap.size := Nat.le_trans hB hbw.size
                        clear LP LQ
                        cases hj : joinB D.nv D.fv (Q j) (P j) (P (j + 1))
                        · go_wp2
                          refine wp_region_quiet_below (by kernel_rfl) (by kernel_rfl) ?_
                          repeat (first | go_big_quiet_step (first | (with_reducible exact cap_q B _ _ _ _ D.np D.fp _ _ HLP.out hBW _ _) | (with_reducible exact has_q B _ (j + 1) P _ _ HLS.out hBW _ hh _ _) | (with_reducible exact join_q B _ _ _ _ D.nv D.fv _ _ _ _ HLV.out hBW _ hj _ _)) | quiet_step (first | (with_reducible exact cap_q B _ _ _ _ D.np D.fp _ _ HLP.out hBW _ _) | (with_reducible exact has_q B _ (j + 1) P _ _ HLS.out hBW _ hh _ _) | (with_reducible exact join_q B _ _ _ _ D.nv D.fv _ _ _ _ HLV.out hBW _ hj _ _)))
                          refine wpQuiet_nil ?_
                          intro _ hw'
                          obtain ⟨⟨dq, osq⟩, hw''⟩ := hw'
                          subst hw''
                          go_wp2
                          go_ret
                          exact ⟨false, rfl, ⟨(fun h => by cases h), fun h => absurd (h.2.2 (j + 1) hlq) (by intro h; have := h.2 (by omega); rw [Nat.add_sub_cancel, hj] at this; cases this)⟩, (bx.out _ (kq2.out.trans ((below_regrown _ dq osq).mono (by have := kq2.out.size; omega)))).2⟩
                        · go_wp2
                          refine wp_region_quiet_below (by kernel_rfl) (by kernel_rfl) ?_
                          repeat (first | go_big_quiet_step (first | (with_reducible exact cap_q B _ _ _ _ D.np D.fp _ _ HLP.out hBW _ _) | (with_reducible exact has_q B _ (j + 1) P _ _ HLS.out hBW _ hh _ _) | (with_reducible exact join_q B _ _ _ _ D.nv D.fv _ _ _ _ HLV.out hBW _ hj _ _)) | quiet_step (first | (with_reducible exact cap_q B _ _ _ _ D.np D.fp _ _ HLP.out hBW _ _) | (with_reducible exact has_q B _ (j + 1) P _ _ HLS.out hBW _ hh _ _) | (with_reducible exact join_q B _ _ _ _ D.nv D.fv _ _ _ _ HLV.out hBW _ hj _ _)))
                          refine wpQuiet_nil ?_
                          intro _ hw'
                          obtain ⟨⟨dq, osq⟩, hw''⟩ := hw'
                          subst hw''
                          go_wp2
                          go_roundw
                          case rel => exact ⟨j + 1 + 1, by omega, by go_num, fun i hi => by
                            by_cases e : i = j + 1
                            · subst e; exact ⟨⟨by simpa using hcq, hh, fun h => by simpa using hcp⟩, fun _ => by rw [Nat.add_sub_cancel]; exact hj⟩
                            · exact hallf.out i (by omega), kq2.out.trans ((below_regrown _ dq osq).mono (by have := kq2.out.size; omega))⟩
                          case measure => simp [intOf]; omega
                      · go_wp2
                        refine wp_region_quiet_below (by kernel_rfl) (by kernel_rfl) ?_
                        repeat (first | go_big_quiet_step (first | (with_reducible exact cap_q B _ _ _ _ D.np D.fp _ _ HLP.out hBW _ _) | (with_reducible exact has_q B _ (j + 1) P _ _ HLS.out hBW _ hh _ _) | (with_reducible exact join_q B _ _ _ _ D.nv D.fv _ _ _ _ HLV.out hBW _ hj _ _)) | quiet_step (first | (with_reducible exact cap_q B _ _ _ _ D.np D.fp _ _ HLP.out hBW _ _) | (with_reducible exact has_q B _ (j + 1) P _ _ HLS.out hBW _ hh _ _) | (with_reducible exact join_q B _ _ _ _ D.nv D.fv _ _ _ _ HLV.out hBW _ hj _ _)))
                        refine wpQuiet_nil ?_
                        intro _ hw'
                        obtain ⟨⟨dq, osq⟩, hw''⟩ := hw'
                        subst hw''
                        go_wp2
                        go_ret
                        exact ⟨false, rfl, ⟨(fun h => by cases h), fun h => absurd (h.2.2 (j + 1) hlq) (by intro h; have := h.1.2.2 (by omega); simp at hcp; omega)⟩, (bx.out _ (hbel.out.trans ((below_regrown _ dq osq).mono (by have := hbel.out.size; omega)))).2⟩
                    · have din : decide ((j : Int) + 1 < (k : Int)) = false := by simp; omega
                      go_wp2
                      refine wp_region_quiet_below (by kernel_rfl) (by kernel_rfl) ?_
                      repeat (first | go_big_quiet_step (first | (with_reducible exact cap_q B _ _ _ _ D.np D.fp _ _ HLP.out hBW _ _) | (with_reducible exact has_q B _ (j + 1) P _ _ HLS.out hBW _ hh _ _) | (with_reducible exact join_q B _ _ _ _ D.nv D.fv _ _ _ _ HLV.out hBW _ hj _ _)) | quiet_step (first | (with_reducible exact cap_q B _ _ _ _ D.np D.fp _ _ HLP.out hBW _ _) | (with_reducible exact has_q B _ (j + 1) P _ _ HLS.out hBW _ hh _ _) | (with_reducible exact join_q B _ _ _ _ D.nv D.fv _ _ _ _ HLV.out hBW _ hj _ _)))
                      refine wpQuiet_nil ?_
                      intro _ hw'
                      obtain ⟨⟨dq, osq⟩, hw''⟩ := hw'
                      subst hw''
                      have kq2 : Hid (Below (w.heap.size + 1 + 1) W (grow (redrawn wr dq) osq)) := hbel.out.trans ((below_regrown _ dq osq).mono (by have := hbel.out.size; omega))
                      replace zq := zq dq osq
                      replace zj := zj dq osq
                      replace zv := zv dq osq
                      generalize grow (redrawn wr dq) osq = wr2 at kq2 zq zj zv ⊢
                      clear x0 x1 x2 x3 y0 y1 HLP HLV hBW hbw HLS
                      replace zq := fun d os => cell_regrown zq d os
                      replace zj := fun d os => cell_regrown zj d os
                      replace zv := fun d os => cell_regrown zv d os
                      obtain ⟨⟨⟨x0, x1, x2, x3⟩, y0, y1⟩, hbw⟩ := bx.out wr2 kq2.out
                      replace x0 := fun d os => cell_regrown x0 d os
                      replace x1 := fun d os => cell_regrown x1 d os
                      replace x2 := fun d os => cell_regrown x2 d os
                      replace x3 := fun d os => cell_regrown x3 d os
                      replace y0 := fun d os => cell_regrown y0 d os
                      replace y1 := fun d os => cell_regrown y1 d os
                      obtain ⟨LP, LR, LQ⟩ := H.out wr2 hbw
                      have HLP : Hid (Lst B wr2 v2 D.np 3 (cP D.fp)) := LP.p
                      have HLV : Hid (Lst B wr2 v3 D.nv 4 (cV D.fv)) := LP.v
                      have hBW : B ≤ wr2.heap.size := Nat.le_trans hB hbw.size
                      clear LP LQ
                      cases hj : joinB D.nv D.fv (Q j) (P j) (P (j + 1))
                      · go_wp2
                        refine wp_region_quiet_below (by kernel_rfl) (by kernel_rfl) ?_
                        repeat (first | go_big_quiet_step (first | (with_reducible exact cap_q B _ _ _ _ D.np D.fp _ _ HLP.out hBW _ _) | (with_reducible exact has_q B _ (j + 1) P _ _ HLS.out hBW _ hh _ _) | (with_reducible exact join_q B _ _ _ _ D.nv D.fv _ _ _ _ HLV.out hBW _ hj _ _)) | quiet_step (first | (with_reducible exact cap_q B _ _ _ _ D.np D.fp _ _ HLP.out hBW _ _) | (with_reducible exact has_q B _ (j + 1) P _ _ HLS.out hBW _ hh _ _) | (with_reducible exact join_q B _ _ _ _ D.nv D.fv _ _ _ _ HLV.out hBW _ hj _ _)))
                        refine wpQuiet_nil ?_
                        intro _ hw'
                        obtain ⟨⟨dq, osq⟩, hw''⟩ := hw'
                        subst hw''
                        go_wp2
                        go_ret
                        exact ⟨false, rfl, ⟨(fun h => by cases h), fun h => absurd (h.2.2 (j + 1) hlq) (by intro h; have := h.2 (by omega); rw [Nat.add_sub_cancel, hj] at this; cases this)⟩, (bx.out _ (kq2.out.trans ((below_regrown _ dq osq).mono (by have := kq2.out.size; omega)))).2⟩
                      · go_wp2
                        refine wp_region_quiet_below (by kernel_rfl) (by kernel_rfl) ?_
                        repeat (first | go_big_quiet_step (first | (with_reducible exact cap_q B _ _ _ _ D.np D.fp _ _ HLP.out hBW _ _) | (with_reducible exact has_q B _ (j + 1) P _ _ HLS.out hBW _ hh _ _) | (with_reducible exact join_q B _ _ _ _ D.nv D.fv _ _ _ _ HLV.out hBW _ hj _ _)) | quiet_step (first | (with_reducible exact cap_q B _ _ _ _ D.np D.fp _ _ HLP.out hBW _ _) | (with_reducible exact has_q B _ (j + 1) P _ _ HLS.out hBW _ hh _ _) | (with_reducible exact join_q B _ _ _ _ D.nv D.fv _ _ _ _ HLV.out hBW _ hj _ _)))
                        refine wpQuiet_nil ?_
                        intro _ hw'
                        obtain ⟨⟨dq, osq⟩, hw''⟩ := hw'
                        subst hw''
                        go_wp2
                        go_roundw
                        case rel => exact ⟨j + 1 + 1, by omega, by go_num, fun i hi => by
                          by_cases e : i = j + 1
                          · subst e; exact ⟨⟨by simpa using hcq, hh, fun h => by omega⟩, fun _ => by rw [Nat.add_sub_cancel]; exact hj⟩
                          · exact hallf.out i (by omega), kq2.out.trans ((below_regrown _ dq osq).mono (by have := kq2.out.size; omega))⟩
                        case measure => simp [intOf]; omega
                  · go_wp2
                    refine wp_region_quiet_below (by kernel_rfl) (by kernel_rfl) ?_
                    repeat (first | go_big_quiet_step (first | (with_reducible exact cap_q B _ _ _ _ D.np D.fp _ _ HLP.out hBW _ _) | (with_reducible exact has_q B _ (j + 1) P _ _ HLS.out hBW _ hh _ _) | (with_reducible exact join_q B _ _ _ _ D.nv D.fv _ _ _ _ HLV.out hBW _ hj _ _)) | quiet_step (first | (with_reducible exact cap_q B _ _ _ _ D.np D.fp _ _ HLP.out hBW _ _) | (with_reducible exact has_q B _ (j + 1) P _ _ HLS.out hBW _ hh _ _) | (with_reducible exact join_q B _ _ _ _ D.nv D.fv _ _ _ _ HLV.out hBW _ hj _ _)))
                    refine wpQuiet_nil ?_
                    intro _ hw'
                    obtain ⟨⟨dq, osq⟩, hw''⟩ := hw'
                    subst hw''
                    go_wp2
                    go_ret
                    exact ⟨false, rfl, ⟨(fun h => by cases h), fun h => absurd (h.2.2 (j + 1) hlq) (by intro h; have := h.1.2.1; rw [hh] at this; cases this)⟩, (bx.out _ (hbel.out.trans ((below_regrown _ dq osq).mono (by have := hbel.out.size; omega)))).2⟩
                · go_wp2
                  refine wp_region_quiet_below (by kernel_rfl) (by kernel_rfl) ?_
                  repeat (first | go_big_quiet_step (first | (with_reducible exact cap_q B _ _ _ _ D.np D.fp _ _ HLP.out hBW _ _) | (with_reducible exact has_q B _ (j + 1) P _ _ HLS.out hBW _ hh _ _) | (with_reducible exact join_q B _ _ _ _ D.nv D.fv _ _ _ _ HLV.out hBW _ hj _ _)) | quiet_step (first | (with_reducible exact cap_q B _ _ _ _ D.np D.fp _ _ HLP.out hBW _ _) | (with_reducible exact has_q B _ (j + 1) P _ _ HLS.out hBW _ hh _ _) | (with_reducible exact join_q B _ _ _ _ D.nv D.fv _ _ _ _ HLV.out hBW _ hj _ _)))
                  refine wpQuiet_nil ?_
                  intro _ hw'
                  obtain ⟨⟨dq, osq⟩, hw''⟩ := hw'
                  subst hw''
                  go_wp2
                  go_ret
                  exact ⟨false, rfl, ⟨(fun h => by cases h), fun h => absurd (h.2.2 (j + 1) hlq) (by intro h; have := h.1.1; simp at hcq; omega)⟩, (bx.out _ (hbel.out.trans ((below_regrown _ dq osq).mono (by have := hbel.out.size; omega)))).2⟩
            · obtain rfl : q = k + 1 := by omega
              go_wp2
              go_ret
              exact ⟨true, rfl, ⟨fun _ => ⟨⟨h2, rfl⟩, ⟨by simp at hc0; omega, by rw [Nat.add_sub_cancel]; simp at hc1; omega⟩, fun i hi => by rw [Nat.add_sub_cancel]; exact hallf.out i hi⟩, fun _ => rfl⟩, hbw⟩
        · go_enter Tryz.func50, Tryz.ntmps50
          go_upto_region 2 with fail
          rw [← eW.out]
          go_wp2
          refine wp_region_quiet_below (by kernel_rfl) (by kernel_rfl) ?_
          repeat (first | go_big_quiet_step (first | (with_reducible exact cap_q B _ _ _ _ D.np D.fp _ _ HLP.out hBW _ _) | (with_reducible exact has_q B _ q P _ _ HLS.out hBW _ hh _ _) | (with_reducible exact join_q B _ _ _ _ D.nv D.fv _ _ _ _ HLV.out hBW _ hj _ _)) | quiet_step (first | (with_reducible exact cap_q B _ _ _ _ D.np D.fp _ _ HLP.out hBW _ _) | (with_reducible exact has_q B _ q P _ _ HLS.out hBW _ hh _ _) | (with_reducible exact join_q B _ _ _ _ D.nv D.fv _ _ _ _ HLV.out hBW _ hj _ _)))
          refine wpQuiet_nil ?_
          intro _ hw'
          obtain ⟨⟨dq, osq⟩, hw''⟩ := hw'
          subst hw''
          go_wp2
          go_ret
          exact ⟨false, rfl, ⟨(fun h => by cases h), fun h => absurd h (by intro h; have := h.2.1.2; rw [Nat.add_sub_cancel] at this; simp at hc1; omega)⟩, (bx.out _ (kW.out.trans ((below_regrown _ dq osq).mono (by omega)))).2⟩
      · go_enter Tryz.func50, Tryz.ntmps50
        go_upto_region 2 with fail
        rw [← eW.out]
        go_wp2
        refine wp_region_quiet_below (by kernel_rfl) (by kernel_rfl) ?_
        repeat (first | go_big_quiet_step (first | (with_reducible exact cap_q B _ _ _ _ D.np D.fp _ _ HLP.out hBW _ _) | (with_reducible exact has_q B _ q P _ _ HLS.out hBW _ hh _ _) | (with_reducible exact join_q B _ _ _ _ D.nv D.fv _ _ _ _ HLV.out hBW _ hj _ _)) | quiet_step (first | (with_reducible exact cap_q B _ _ _ _ D.np D.fp _ _ HLP.out hBW _ _) | (with_reducible exact has_q B _ q P _ _ HLS.out hBW _ hh _ _) | (with_reducible exact join_q B _ _ _ _ D.nv D.fv _ _ _ _ HLV.out hBW _ hj _ _)))
        refine wpQuiet_nil ?_
        intro _ hw'
        obtain ⟨⟨dq, osq⟩, hw''⟩ := hw'
        subst hw''
        go_wp2
        go_ret
        exact ⟨false, rfl, ⟨(fun h => by cases h), fun h => absurd h (by intro h; have := h.2.1.1; simp at hc0; omega)⟩, (bx.out _ (kW.out.trans ((below_regrown _ dq osq).mono (by omega)))).2⟩
    · have dk : ((k : Int) != (m : Int) - 1) = true := bne_iff_ne.2 (by omega)
      obtain ⟨⟨⟨x0, x1, x2, x3⟩, y0, y1⟩, hbw⟩ := bx.out W kW.out
      replace x0 := fun d os => cell_regrown x0 d os
      replace x1 := fun d os => cell_regrown x1 d os
      replace x2 := fun d os => cell_regrown x2 d os
      replace x3 := fun d os => cell_regrown x3 d os
      replace y0 := fun d os => cell_regrown y0 d os
      replace y1 := fun d os => cell_regrown y1 d os
      obtain ⟨LP, LR, LQ⟩ := H.out W hbw
      have HLP : Hid (Lst B W v2 D.np 3 (cP D.fp)) := LP.p
      have HLV : Hid (Lst B W v3 D.nv 4 (cV D.fv)) := LP.v
      have hBW : B ≤ W.heap.size := Nat.le_trans hB hbw.size
      clear LP
      go_enter Tryz.func50, Tryz.ntmps50
      go_upto_region 2 with fail
      rw [← eW.out]
      go_wp2
      refine wp_region_quiet_below (by kernel_rfl) (by kernel_rfl) ?_
      repeat (first | go_big_quiet_step (first | (with_reducible exact cap_q B _ _ _ _ D.np D.fp _ _ HLP.out hBW _ _) | (with_reducible exact has_q B _ q P _ _ HLS.out hBW _ hh _ _) | (with_reducible exact join_q B _ _ _ _ D.nv D.fv _ _ _ _ HLV.out hBW _ hj _ _)) | quiet_step (first | (with_reducible exact cap_q B _ _ _ _ D.np D.fp _ _ HLP.out hBW _ _) | (with_reducible exact has_q B _ q P _ _ HLS.out hBW _ hh _ _) | (with_reducible exact join_q B _ _ _ _ D.nv D.fv _ _ _ _ HLV.out hBW _ hj _ _)))
      refine wpQuiet_nil ?_
      intro _ hw'
      obtain ⟨⟨dq, osq⟩, hw''⟩ := hw'
      subst hw''
      go_wp2
      go_ret
      exact ⟨false, rfl, ⟨(fun h => by cases h), fun h => absurd h (by intro h; exact hkk h.1.2)⟩, (bx.out _ (kW.out.trans ((below_regrown _ dq osq).mono (by omega)))).2⟩
  · have d0 : decide ((m : Int) < 2) = true := by simp; omega
    obtain ⟨⟨⟨x0, x1, x2, x3⟩, y0, y1⟩, hbw⟩ := bx.out W kW.out
    replace x0 := fun d os => cell_regrown x0 d os
    replace x1 := fun d os => cell_regrown x1 d os
    replace x2 := fun d os => cell_regrown x2 d os
    replace x3 := fun d os => cell_regrown x3 d os
    replace y0 := fun d os => cell_regrown y0 d os
    replace y1 := fun d os => cell_regrown y1 d os
    obtain ⟨LP, LR, LQ⟩ := H.out W hbw
    have HLP : Hid (Lst B W v2 D.np 3 (cP D.fp)) := LP.p
    have HLV : Hid (Lst B W v3 D.nv 4 (cV D.fv)) := LP.v
    have hBW : B ≤ W.heap.size := Nat.le_trans hB hbw.size
    clear LP
    go_enter Tryz.func50, Tryz.ntmps50
    go_upto_region 2 with fail
    rw [← eW.out]
    go_wp2
    refine wp_region_quiet_below (by kernel_rfl) (by kernel_rfl) ?_
    repeat (first | go_big_quiet_step (first | (with_reducible exact cap_q B _ _ _ _ D.np D.fp _ _ HLP.out hBW _ _) | (with_reducible exact has_q B _ q P _ _ HLS.out hBW _ hh _ _) | (with_reducible exact join_q B _ _ _ _ D.nv D.fv _ _ _ _ HLV.out hBW _ hj _ _)) | quiet_step (first | (with_reducible exact cap_q B _ _ _ _ D.np D.fp _ _ HLP.out hBW _ _) | (with_reducible exact has_q B _ q P _ _ HLS.out hBW _ hh _ _) | (with_reducible exact join_q B _ _ _ _ D.nv D.fv _ _ _ _ HLV.out hBW _ hj _ _)))
    refine wpQuiet_nil ?_
    intro _ hw'
    obtain ⟨⟨dq, osq⟩, hw''⟩ := hw'
    subst hw''
    go_wp2
    go_ret
    exact ⟨false, rfl, ⟨(fun h => by cases h), fun h => absurd h (by intro h; exact h2 h.1.1)⟩, (bx.out _ (kW.out.trans ((below_regrown _ dq osq).mono (by omega)))).2⟩

end Go.Proofs.YtndacfockllehaaGreat

/-
  A contract of the model's walk over the valves at a place.
-/
namespace Go.Proofs.YtndacfockllehaaGreat
open Go.RowKit

set_option maxRecDepth 100000 in
set_option maxHeartbeats 4000000 in
theorem l4Beside_any (B : Nat) (v0 v1 v2 v3 : Value) (nv : Nat) (f : Nat → ByteArray × ByteArray × ByteArray × ByteArray) (x : ByteArray) (w : World) (h : Lst B w v3 nv 4 (cV f)) (hB : B ≤ w.heap.size) (hm : nv ≤ 1048576) :
    Calls Tryz.prog 56 #[.agg #[v0, v1, v2, v3], .string x] w fun e w' => ∃ v, e = .returned v ∧ w'.ownsRow w.heap.size 9 1 v (besN f x nv).length ((besN f x nv).map .string) ∧ Below w.heap.size w w' := by
  obtain ⟨i0, hi, hz0, hz1, hz2⟩ := info_parts info9b
  obtain ⟨oa, cap, rfl, _, hc⟩ := h
  have HC : Hid _ := hc
  clear hc
  go_enter Tryz.func56, Tryz.ntmps56
  go_wp2
  go_loopw [5, 6] (fun v i wr => ∃ k : Nat, k ≤ nv ∧ i = .int .i64 k ∧ Hid (wr.ownsRow (w.heap.size + 1) 9 1 v (besN f x k).length ((besN f x k).map .string)) ∧ Hid (Below (w.heap.size + 1) (w.alloc (.cells #[v0, v1, v2, .slice oa nv cap] 40)) wr)) (fun _ i _ => nv - (intOf i).toNat)
  case atStart =>
    have h0 := World.ownsRow_made (base := w.heap.size + 1) (e := 9) (size := 1) (w.alloc (.cells #[v0, v1, v2, .slice oa nv cap] 40)) #[] 0 (by simp) (Nat.zero_le _) rfl
    exact ⟨0, Nat.zero_le _, rfl, by simpa [Hid, besN] using h0, (Below.refl _ _).alloc (by simp) _⟩
  case round =>
    obtain ⟨k, hk, rfl, hown, hbel⟩ := hrel
    have b3 := box_in hbel.out 3 _ rfl
    simp only [List.getElem_toArray, List.getElem_cons_zero, List.getElem_cons_succ] at b3
    have hsz : w.heap.size + 1 ≤ wr.heap.size := by have := hbel.out.size; simpa using this
    by_cases hlt : k < nv
    · obtain ⟨b, off, rfl, hbB, hcell⟩ := HC.out k hlt
      have e0 : wr.cell? ⟨b, off + k * 4, none⟩ = some (.string (f k).1) := old_in hbel.out (by omega) (by simpa [cV] using hcell 0 (by omega))
      have e1 : wr.cell? ⟨b, off + k * 4 + 1, none⟩ = some (.string (f k).2.1) := old_in hbel.out (by omega) (by simpa [cV] using hcell 1 (by omega))
      have e2 : wr.cell? ⟨b, off + k * 4 + 2, none⟩ = some (.string (f k).2.2.1) := old_in hbel.out (by omega) (by simpa [cV] using hcell 2 (by omega))
      clear hcell
      have hbl := besN_len f x k
      have R : Hid (∀ (v' : Value) (w3 : World), w3.ownsRow (w.heap.size + 1) 9 1 v' ((besN f x k).length + 1) ((besN f x k).map .string ++ [.string (f k).1]) → endB (f k) x = true → w3.ownsRow (w.heap.size + 1) 9 1 v' (besN f x (k + 1)).length ((besN f x (k + 1)).map .string)) := fun v' w3 h hE => by
        rw [besN_yes hE]; exact own_push h
      have Z : Hid (endB (f k) x = false → besN f x (k + 1) = besN f x k) := besN_no
      have ef := endB_flip (f k) x
      unfold eqB at ef
      cases h1 : ((f k).2.1.toList == x.toList) <;> cases h2 : ((f k).2.2.1.toList == x.toList) <;> rw [h1, h2] at ef
      · have EF : Hid (endB (f k) x = false) := ef
        clear ef
        go_wp2
        go_roundw
        case rel => exact ⟨k + 1, by omega, by go_num, by show World.ownsRow _ _ _ _ _ _ _; rw [Z.out EF.out]; exact hown.out, hbel.out⟩
        case measure => simp [intOf]; omega
      all_goals
        have EF : Hid (endB (f k) x = true) := ef
        clear ef
        go_wp2_with (first
          | (at_builtin; refine wpList_append_own _ rfl _ _ 22 rfl (w.heap.size + 1) 9 i0 (.string ByteArray.empty) 1 16 under24b hi hz0 hz1 hz2 rfl (by decide) _ _ _ rfl (hown.out.alloc _) ⟨wr.heap.size, 0, none⟩ 1 1 [.string (f k).1] rfl rfl (cell_one_new _ _ _) (fun x hx => by simp at hx; subst hx; rfl) (by unfold maxLen; omega) (by omega) (by simp; omega) ?_; intro v' w3 hown' hgrow3 hnil3))
        go_roundw
        case rel =>
          have RR : ∃ k' : Nat, k' ≤ nv ∧ Value.int .i64 ((k : Int) + 1) = .int .i64 (k' : Int) ∧ Hid (w3.ownsRow (w.heap.size + 1) 9 1 v' (besN f x k').length ((besN f x k').map .string)) ∧ Hid (Below (w.heap.size + 1) (w.alloc (.cells #[v0, v1, v2, .slice (some ⟨b, off, none⟩) nv cap] 40)) w3) :=
            ⟨k + 1, by omega, by go_num, R.out v' w3 hown' EF.out, (hbel.out.alloc hsz _).grown hgrow3 (by simp; omega) (fun q hq => (hown.out.lt q hq).1)⟩
          first
            | exact RR
            | ((repeat apply Exists.intro); exact ⟨RR, rfl⟩)
        case measure => simp [intOf]; omega
    · have hkn : k = nv := by omega
      subst hkn
      go_wp2
      go_ret
      exact ⟨_, rfl, ⟨by have := hown.out.1; exact this, by
        rcases hown.out.2 with hh | ⟨g, cap', cur, hv, hb, rest⟩
        · exact Or.inl hh
        · exact Or.inr ⟨g, cap', cur, hv, by omega, rest⟩⟩, below_end hbel.out⟩

end Go.Proofs.YtndacfockllehaaGreat
