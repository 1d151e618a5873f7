/-
  A contract of the model's PlantGuards: the valves at a route's places that are not its own.
-/
import Derived.Test.YtndacfockllehaaGreatM34
import Derived.Test.YtndacfockllehaaGreatM29
import Derived.Test.YtndacfockllehaaGreatM5
namespace Go.Proofs.YtndacfockllehaaGreat
open Go.RowKit

theorem take_nth {l : List ByteArray} {j : Nat} (h : j < l.length) : l.take (j + 1) = l.take j ++ [nthB l j] := by
  rw [List.take_add_one, nth_at h]; rfl
theorem mid_len {D : PD} (hV : D.V) (P : Nat → ByteArray) (k : Nat) (Q : Nat → ByteArray) (i j : Nat) : (accL k Q (gdS D P k Q i) ((besN D.fv (P i) D.nv).take j)).length ≤ D.nv := by
  rw [gdS_eq hV]
  unfold gdN besN
  rw [← List.map_take, acc_range (V_valves hV) k Q _ _ (fun t ht => List.mem_range.1 (List.mem_filter.1 (List.mem_of_mem_take ht)).1)]
  rw [List.length_map]
  refine Nat.le_trans (List.length_filter_le _ _) ?_
  simp
/-- The guards of a route of a valid plant, nothing else. -/
def gdL (b : Bool) (D : PD) (m : Nat) (P : Nat → ByteArray) (k : Nat) (Q : Nat → ByteArray) : List ByteArray := bif b then gdN D m P k Q D.nv else []

open Go.Sort in
set_option maxRecDepth 100000 in
set_option maxHeartbeats 16000000 in
theorem guardsS_any (B : Nat) (v0 v1 v2 v3 : Value) (D : PD) (op ov : Option Addr) (m k cm ck : Nat) (P Q : Nat → ByteArray) (w : World) (h : PAt B w v0 v1 v2 v3 D) (hP : Lst B w (.slice op m cm) m 1 (cS P)) (hQ : Lst B w (.slice ov k ck) k 1 (cS Q)) (hB : B ≤ w.heap.size) (hcm : m ≤ cm) (hz : D.Sz) (hnv : D.nv ≤ 1048576) :
    Calls Tryz.prog 51 #[.agg #[v0, v1, v2, v3], .agg #[.slice op m cm, .slice ov k ck]] w fun e w' => ∃ v b, e = .returned v ∧ (b = true ↔ D.V ∧ RS D m P k Q) ∧ w'.ownsRow w.heap.size 9 1 v (gdL b D m P k Q).length ((gdL b D m P k Q).map .string) ∧ Below w.heap.size w w' := by
  have H : Hid (∀ w', Below w.heap.size w w' → PAt B w' v0 v1 v2 v3 D ∧ Lst B w' (.slice op m cm) m 1 (cS P) ∧ Lst B w' (.slice ov k ck) k 1 (cS Q)) := fun w' hb => ⟨h.kept hb hB, hP.kept hb hB, hQ.kept hb hB⟩
  have hm : m ≤ 9223372036854775807 := by obtain ⟨_, _, hv, hn, _⟩ := hP; cases hv; unfold maxLen at hn; omega
  clear h hP hQ
  obtain ⟨W, hW⟩ : ∃ W, W = (w.alloc (.cells #[v0, v1, v2, v3] 40)).alloc (.cells #[.slice op m cm, .slice ov k ck] 42) := ⟨_, rfl⟩
  have sW : W.heap.size = w.heap.size + 1 + 1 := by rw [hW]; simp
  have bx : Hid (∀ wr, Below (w.heap.size + 1 + 1) W wr → ((wr.cell? ⟨w.heap.size, 0, none⟩ = some v0 ∧ wr.cell? ⟨w.heap.size, 1, none⟩ = some v1 ∧ wr.cell? ⟨w.heap.size, 2, none⟩ = some v2 ∧ wr.cell? ⟨w.heap.size, 3, none⟩ = some v3) ∧ wr.cell? ⟨w.heap.size + 1, 0, none⟩ = some (.slice op m cm) ∧ wr.cell? ⟨w.heap.size + 1, 1, none⟩ = some (.slice ov k ck)) ∧ Below w.heap.size w wr) := fun wr hb => by
    rw [hW] at hb
    obtain ⟨h1, h2⟩ := two_box hb
    exact ⟨⟨⟨h1 0 _ rfl, h1 1 _ rfl, h1 2 _ rfl, h1 3 _ rfl⟩, h2 0 _ rfl, h2 1 _ rfl⟩, two_end hb⟩
  obtain ⟨W1, hW1⟩ : ∃ W1, W1 = W.alloc (.cells #[] 9) := ⟨_, rfl⟩
  have k1 : Hid (Below (w.heap.size + 1 + 1) W W1) := by rw [hW1]; exact (Below.refl _ _).alloc (by omega) _
  have s1 : W1.heap.size = w.heap.size + 1 + 1 + 1 := by rw [hW1]; simp; omega
  have O1 : Hid (W1.ownsRow (w.heap.size + 1 + 1) 9 1 (.slice (some ⟨w.heap.size + 1 + 1, 0, none⟩) 0 0) 0 []) := by
    have := World.ownsRow_made (base := w.heap.size + 1 + 1) (e := 9) (size := 1) W #[] 0 (by omega) (Nat.zero_le _) rfl
    rw [sW, ← hW1] at this
    exact this
  have e1 : Hid (W1 = ((w.alloc (.cells #[v0, v1, v2, v3] 40)).alloc (.cells #[.slice op m cm, .slice ov k ck] 42)).alloc (.cells #[] 9)) := by rw [hW1, hW]; rfl
  clear hW1 hW
  go_enter Tryz.func51, Tryz.ntmps51
  go_upto_region 2 with fail
  rw [← e1.out]
  obtain ⟨⟨⟨x0, x1, x2, x3⟩, y0, y1⟩, hbw⟩ := bx.out W1 k1.out
  obtain ⟨LP, LR, LQ⟩ := H.out W1 hbw
  go_wp2_with fail
  refine (validS_any B v0 v1 v2 v3 D _ LP (Nat.le_trans hB hbw.size) hz).mono ?_; rintro e w1 ⟨b1, rfl, i1, hb1⟩
  have IS1 : Hid _ := i1
  have k2 : Hid (Below (w.heap.size + 1 + 1) W w1) := k1.out.trans (hb1.mono (by omega))
  have O2 : Hid (w1.ownsRow (w.heap.size + 1 + 1) 9 1 (.slice (some ⟨w.heap.size + 1 + 1, 0, none⟩) 0 0) 0 []) := own_belowR O1.out hb1
  clear i1 x0 x1 x2 x3 y0 y1 LP LR LQ hbw hb1
  cases b1
  · go_wp2_with fail
    go_ret
    exact ⟨_, false, rfl, ⟨(fun h => by cases h), fun h => IS1.out.2 h.1⟩, own_leR O2.out (by omega), (bx.out _ k2.out).2⟩
  · obtain ⟨⟨⟨x0, x1, x2, x3⟩, y0, y1⟩, hbw⟩ := bx.out w1 k2.out
    obtain ⟨LP, LR, LQ⟩ := H.out w1 hbw
    have hV : Hid D.V := by have := IS1.out; simpa [Hid] using this
    go_wp2_with fail
    refine (routeS_any B v0 v1 v2 v3 D op ov m k cm ck P Q _ LP LR LQ (Nat.le_trans hB hbw.size) hcm).mono ?_; rintro e w2 ⟨b2, rfl, i2, hb2⟩
    have IS2 : Hid _ := i2
    have k3 : Hid (Below (w.heap.size + 1 + 1) W w2) := k2.out.trans (hb2.mono (by have := k2.out.size; omega))
    have O3 : Hid (w2.ownsRow (w.heap.size + 1 + 1) 9 1 (.slice (some ⟨w.heap.size + 1 + 1, 0, none⟩) 0 0) 0 []) := own_belowR O2.out hb2
    clear i2 x0 x1 x2 x3 y0 y1 LP LR LQ hbw hb2
    cases b2
    · go_wp2_with fail
      go_ret
      exact ⟨_, false, rfl, ⟨(fun h => by cases h), fun h => IS2.out.2 h.2⟩, own_leR O3.out (by omega), (bx.out _ k3.out).2⟩
    · go_wp2_with fail
      go_loopw [5, 6] (fun v i wr => ∃ q g cap : Nat, q ≤ m ∧ i = .int .i64 q ∧ v = .slice (some ⟨g, 0, none⟩) (gdS D P k Q q).length cap ∧ Hid (wr.ownsRow (w.heap.size + 1 + 1) 9 1 (.slice (some ⟨g, 0, none⟩) (gdS D P k Q q).length cap) (gdS D P k Q q).length ((gdS D P k Q q).map .string)) ∧ Hid (Below (w.heap.size + 1 + 1) W wr)) (fun _ i _ => m - (intOf i).toNat)
      case atStart => exact ⟨0, _, _, Nat.zero_le _, rfl, rfl, O3, k3⟩
      case round =>
        obtain ⟨q, g, cap, hq, rfl, rfl, hown, hbel⟩ := hrel
        obtain ⟨⟨⟨x0, x1, x2, x3⟩, y0, y1⟩, hbw⟩ := bx.out wr hbel.out
        have hsr : w.heap.size + 1 + 1 ≤ wr.heap.size := by have := hbel.out.size; omega
        by_cases hlq : q < m
        · obtain ⟨LP, LR, LQ⟩ := H.out wr hbw
          obtain ⟨op', cm', hv, _, hcP⟩ := LR
          cases hv
          obtain ⟨b, off, rfl, hbB, hc0⟩ := hcP q hlq
          have zq := hc0 0 (by omega)
          simp only [Nat.mul_one, Nat.add_zero, cS] at zq
          clear hcP hc0 LQ LP
          have qx0 := fun d os => cell_regrown x0 d os
          have qx1 := fun d os => cell_regrown x1 d os
          have qx2 := fun d os => cell_regrown x2 d os
          have qx3 := fun d os => cell_regrown x3 d os
          have qy0 := fun d os => cell_regrown y0 d os
          have qzq := fun d os => cell_regrown zq d os
          go_wp2_with fail
          refine wp_region_head_tail 6 (by kernel_rfl) (by kernel_rfl) ?_
          simp only [List.take_succ_cons, List.take_zero, List.drop_succ_cons, List.drop_zero]
          repeat (first | go_big_quiet_step (fail) | quiet_step (fail))
          refine wpQuiet_nil ?_
          intro _ hw'
          obtain ⟨⟨dq, osq⟩, hw''⟩ := hw'
          subst hw''
          have hbu : Hid (Below wr.heap.size wr (grow (redrawn wr dq) osq)) := below_regrown _ dq osq
          generalize grow (redrawn wr dq) osq = u at hbu ⊢
          clear x0 x1 x2 x3 y0 y1 qx0 qx1 qx2 qx3 qy0 qzq zq hbw
          have ku : Hid (Below (w.heap.size + 1 + 1) W u) := hbel.out.trans (hbu.out.mono hsr)
          have ou : Hid (u.ownsRow (w.heap.size + 1 + 1) 9 1 (.slice (some ⟨g, 0, none⟩) (gdS D P k Q q).length cap) (gdS D P k Q q).length ((gdS D P k Q q).map .string)) := own_belowR hown.out hbu.out
          have hsu : w.heap.size + 1 + 1 ≤ u.heap.size := by have := ku.out.size; omega
          go_wp2_with fail
          refine (l4Beside_any B v0 v1 v2 v3 D.nv D.fv (P q) _ (H.out u (bx.out u ku.out).2).1.v (by omega) hnv).mono ?_; rintro e w4 ⟨vl, rfl, ol, hb4⟩
          have hLL := besN_len D.fv (P q) D.nv
          have GD : Hid (gdS D P k Q (q + 1) = accL k Q (gdS D P k Q q) (besN D.fv (P q) D.nv)) := rfl
          have ML : Hid (∀ j, (accL k Q (gdS D P k Q q) ((besN D.fv (P q) D.nv).take j)).length ≤ D.nv) := fun j => mid_len hV.out P k Q q j
          have ow4 : Hid (w4.ownsRow (w.heap.size + 1 + 1) 9 1 (.slice (some ⟨g, 0, none⟩) (gdS D P k Q q).length cap) (gdS D P k Q q).length ((gdS D P k Q q).map .string)) := own_belowR ou.out hb4
          have k4 : Hid (Below (w.heap.size + 1 + 1) W w4) := ku.out.trans (hb4.mono hsu)
          generalize besN D.fv (P q) D.nv = LL at ol hLL GD ML
          have L4 := own_lst ol (by omega)
          obtain ⟨ol', cl, rfl, _, hcl⟩ := L4
          have HCL : Hid _ := hcl
          have hs4 : w.heap.size + 1 + 1 ≤ w4.heap.size := by have := k4.out.size; omega
          generalize gdS D P k Q q = G at ow4 GD ML
          clear ol hcl hb4 ou ku hown hbel hbu hsu hsr
          go_wp2_with fail
          go_loopw [5, 8] (fun v i wi => ∃ j g cap : Nat, j ≤ LL.length ∧ i = .int .i64 j ∧ v = .slice (some ⟨g, 0, none⟩) (accL k Q G (LL.take j)).length cap ∧ Hid (wi.ownsRow (w.heap.size + 1 + 1) 9 1 (.slice (some ⟨g, 0, none⟩) (accL k Q G (LL.take j)).length cap) (accL k Q G (LL.take j)).length ((accL k Q G (LL.take j)).map .string)) ∧ Hid (Below w4.heap.size w4 wi)) (fun _ i _ => LL.length - (intOf i).toNat)
          case atStart => exact ⟨0, _, _, Nat.zero_le _, rfl, rfl, ow4, Below.refl _ _⟩
          case round =>
            obtain ⟨j, g', cap', hj, rfl, rfl, howj, hbj⟩ := hrel
            have hsj : w4.heap.size ≤ wr.heap.size := hbj.out.size
            have kj : Hid (Below (w.heap.size + 1 + 1) W wr) := k4.out.trans (hbj.out.mono hs4)
            by_cases hlj : j < LL.length
            · obtain ⟨⟨⟨x0, x1, x2, x3⟩, y0, y1⟩, hbw⟩ := bx.out wr kj.out
              obtain ⟨bl, offl, rfl, hblB, hc0⟩ := HCL.out j hlj
              have zl : wr.cell? ⟨bl, offl + j, none⟩ = some (.string (nthB LL j)) := (hbj.out.cell (p := ⟨bl, offl + j, none⟩) hblB).trans (by simpa [cS] using hc0 0 (by omega))
              have HLQ : Hid (Lst B wr (.slice ov k ck) k 1 (cS Q)) := (H.out wr hbw).2.2
              have hBW : B ≤ wr.heap.size := Nat.le_trans hB hbw.size
              have qy1 := fun d os => cell_regrown y1 d os
              have qzl := fun d os => cell_regrown zl d os
              have TK : Hid (accL k Q G (LL.take (j + 1)) = bif hasB k Q (nthB LL j) then accL k Q G (LL.take j) else insR (accL k Q G (LL.take j)) (nthB LL j)) := by
                show _ = _
                rw [take_nth hlj, accL_snoc]
              clear hc0
              cases hh : hasB k Q (nthB LL j)
              · rw [hh] at TK
                go_wp2_with fail
                refine wp_region_quiet_below (by kernel_rfl) (by kernel_rfl) ?_
                repeat (first | go_big_quiet_step (with_reducible exact has_q B _ k Q _ _ HLQ.out hBW _ hh _ _) | quiet_step (with_reducible exact has_q B _ k Q _ _ HLQ.out hBW _ hh _ _))
                refine wpQuiet_nil ?_
                intro _ hw'
                obtain ⟨⟨dq, osq⟩, hw''⟩ := hw'
                subst hw''
                have hbu : Hid (Below wr.heap.size wr (grow (redrawn wr dq) osq)) := below_regrown _ dq osq
                replace zl := qzl dq osq
                generalize grow (redrawn wr dq) osq = u at hbu zl ⊢
                clear x0 x1 x2 x3 y0 y1 qy1 qzl
                have hsu : wr.heap.size ≤ u.heap.size := hbu.out.size
                go_wp2_with fail
                refine (insS_any (w.heap.size + 1 + 1) g' cap' (accL k Q G (LL.take j)) (nthB LL j) _ (own_belowR howj.out hbu.out) (by have := ML.out j; omega) (by omega)).mono ?_; rintro e w6 ⟨g6, cap6, rfl, o6, hb6⟩
                have R6 : Hid (∃ j' g cap : Nat, j' ≤ LL.length ∧ Value.int .i64 ((j : Int) + 1) = .int .i64 (j' : Int) ∧ Value.slice (some ⟨g6, 0, none⟩) (insR (accL k Q G (LL.take j)) (nthB LL j)).length cap6 = .slice (some ⟨g, 0, none⟩) (accL k Q G (LL.take j')).length cap ∧ Hid (w6.ownsRow (w.heap.size + 1 + 1) 9 1 (.slice (some ⟨g, 0, none⟩) (accL k Q G (LL.take j')).length cap) (accL k Q G (LL.take j')).length ((accL k Q G (LL.take j')).map .string)) ∧ Hid (Below w4.heap.size w4 w6)) :=
                  ⟨j + 1, g6, cap6, by omega, by go_num, by rw [TK.out]; rfl, by show World.ownsRow _ _ _ _ _ _ _; rw [TK.out]; exact o6, (hbj.out.trans (hbu.out.mono hsj)).trans (hb6.mono (by omega))⟩
                clear o6
                go_wp2_with fail
                go_roundw
                case rel => exact R6.out
                case measure => simp [intOf]; omega
              · rw [hh] at TK
                go_wp2_with fail
                refine wp_region_quiet_below (by kernel_rfl) (by kernel_rfl) ?_
                repeat (first | go_big_quiet_step (with_reducible exact has_q B _ k Q _ _ HLQ.out hBW _ hh _ _) | quiet_step (with_reducible exact has_q B _ k Q _ _ HLQ.out hBW _ hh _ _))
                refine wpQuiet_nil ?_
                intro _ hw'
                obtain ⟨⟨dq, osq⟩, hw''⟩ := hw'
                subst hw''
                have hbu : Hid (Below wr.heap.size wr (grow (redrawn wr dq) osq)) := below_regrown _ dq osq
                generalize grow (redrawn wr dq) osq = u at hbu ⊢
                go_wp2_with fail
                go_roundw
                case rel => exact ⟨j + 1, g', cap', by omega, by go_num, by rw [TK.out]; rfl, by show World.ownsRow _ _ _ _ _ _ _; rw [TK.out]; exact own_belowR howj.out hbu.out, hbj.out.trans (hbu.out.mono hsj)⟩
                case measure => simp [intOf]; omega
            · obtain rfl : j = LL.length := by omega
              have ED : Hid (accL k Q G (LL.take LL.length) = gdS D P k Q (q + 1)) := by show _ = _; rw [List.take_length, GD.out]
              go_wp2_with fail
              go_roundw
              case rel => exact ⟨q + 1, g', cap', by omega, by go_num, by rw [← ED.out], by show World.ownsRow _ _ _ _ _ _ _; rw [← ED.out]; exact howj.out, kj⟩
              case measure => simp [intOf]; omega
        · obtain rfl : q = m := by omega
          have EQ : Hid (gdS D P k Q q = gdL true D q P k Q) := gdS_eq hV.out P k Q q
          go_wp2_with fail
          go_ret
          refine ⟨_, true, rfl, ⟨fun _ => ⟨hV.out, by have := IS2.out; simpa using this⟩, fun _ => rfl⟩, ?_, hbw⟩
          rw [← EQ.out]
          exact own_leR hown.out (by omega)

end Go.Proofs.YtndacfockllehaaGreat
