/-
  The law FnExactCtlRouteAsks, walked: whatever the plant, the number, the route, the stuffs and the amount, the call returns true, and nothing that was there before has turned.
-/
import Derived.Test.YtffmfomonmhkcabGreatM34
import Derived.Test.YtffmfomonmhkcabGreatM40
import Derived.Test.YtffmfomonmhkcabGreatM41
import Derived.Test.YtffmfomonmhkcabGreatM42
import Derived.Test.YtffmfomonmhkcabGreatM11
namespace Go.Proofs.YtffmfomonmhkcabGreat
open Go.RowKit

theorem PAt.up {B B' : Nat} {w : World} {v0 v1 v2 v3 : Value} {D : PD} (h : PAt B w v0 v1 v2 v3 D) (hB : B ≤ B') : PAt B' w v0 v1 v2 v3 D := ⟨h.s.up hB, h.f.up hB, h.p.up hB, h.v.up hB⟩
theorem Blk.outs {B L H : Nat} {w w' : World} {g t m : Nat} (h : Blk B w g t m) (ho : Outs L H w w') : Blk B w' g t m := ⟨h.1, ho.blk g t m h.2⟩
theorem at_lst {B : Nat} {w : World} {n : Nat} {f : Nat → ByteArray} {ad : Addr} (h : Lst B w (.slice (some ad) n n) n 1 (cS f)) (hz : ∀ i, i < n → (f i).size ≤ maxLen) : AtL (fun b => b < B) w ((List.range n).map f) (.slice (some ad) n n) := by
  obtain ⟨oa, cap, ev, hn, hc⟩ := h
  cases ev
  refine ⟨some ad, n, by simp, ⟨by simpa using hn, by simp, fun h => nomatch h⟩, fun i hi => ?_⟩
  have hi' : i < n := by simpa using hi
  obtain ⟨b, off, e1, e2, h3⟩ := hc i hi'
  refine ⟨b, off, e1, e2, fun _ => .string (f i), fun j hj => ?_, ?_⟩
  · rw [width_str] at hj ⊢
    exact h3 j hj
  · rw [at_str]
    simp only [List.getElem_map, List.getElem_range]
    exact ⟨trivial, hz i hi'⟩
theorem cntL_len {α : Type} [Own α] (K : Nat) : ∀ l : List α, (∀ x ∈ l, Own.cnt x ≤ K) → cntL l ≤ K * l.length
  | [], _ => by simp [cntL, cntTo]
  | x :: l, h => by
    have h1 := h x List.mem_cons_self
    have h2 := cntL_len K l (fun y hy => h y (List.mem_cons_of_mem _ hy))
    have e1 : cntL (x :: l) = Own.cnt x + cntL l := by simp [cntL, cntTo]
    rw [e1, List.length_cons, Nat.mul_add]
    omega
theorem ra_same {D : PD} {num am : Int} {m : Nat} {P : Nat → ByteArray} {k : Nat} {Q : Nat → ByteArray} {ts : List ByteArray} {q q1 : List DCtlAsk} (h : RaIs D num am m P k Q ts q) (h1 : RaIs D num am m P k Q ts q1) : q1 = q := by
  by_cases c : D.V ∧ RS D m P k Q
  · rw [h.1 c, h1.1 c]
  · rw [h.2 c, h1.2 c]
theorem ra_cnt {D : PD} {num am : Int} {m : Nat} {P : Nat → ByteArray} {k : Nat} {Q : Nat → ByteArray} {ts : List ByteArray} {q : List DCtlAsk} (h : RaIs D num am m P k Q ts q) (hl : ts.length ≤ 1048576) : cntL q ≤ 40000000 := by
  by_cases c : D.V ∧ RS D m P k Q
  · rw [h.1 c]
    have hv : D.nv ≤ 18 := c.1.2.2.1
    have hp : D.np ≤ 14 := c.1.2.1.1
    have hm := rt_len c.2
    have hk : k + 1 = m := c.2.1.2
    have e1 := cntL_len 1048776 (askL D (rtD D num am m P k Q ts) (stL true D)) (fun x hx => by
      obtain ⟨st, _, rfl⟩ := List.mem_map.1 hx
      have a1 : cntL (usL D st (usS m P am m)) ≤ 3 * (usL D st (usS m P am m)).length := cntL_len 3 _ (fun x _ => by rw [cnt_DClaimUse]; omega)
      have a2 : cntL (opL D st (insA ((List.range k).map Q))) ≤ 1 * (opL D st (insA ((List.range k).map Q))).length := cntL_len 1 _ (fun x _ => Nat.le_refl 1)
      have b2 : cntL (opL D st (gdN D m P k Q D.nv)) ≤ 1 * (opL D st (gdN D m P k Q D.nv)).length := cntL_len 1 _ (fun x _ => Nat.le_refl 1)
      have a3 := usL_len D st (usS m P am m)
      have a4 := opL_len D st (insA ((List.range k).map Q))
      have b4 := opL_len D st (gdN D m P k Q D.nv)
      have a5 := insA_len ((List.range k).map Q)
      simp only [List.length_map, List.length_range] at a5
      have b5 := gdN_len D m P k Q D.nv
      have a8 := usS_len m P am m
      have a9 : cntL ts ≤ 1 * ts.length := cntL_len 1 _ (fun x _ => Nat.le_refl 1)
      rw [cnt_DCtlAsk]
      show 1 + (1 + (1 + (cntL ts + (cntL (usL D st (usS m P am m)) + (cntL (opL D st (insA ((List.range k).map Q))) + cntL (opL D st (gdN D m P k Q D.nv)))))))  ≤ 1048776
      omega)
    have e2 := askL_len D (rtD D num am m P k Q ts) (stL true D)
    have e3 : (stL true D).length ≤ D.np + D.nv := stnL_len D
    omega
  · rw [h.2 c]; simp [cntL, cntTo]

set_option maxRecDepth 100000 in
set_option maxHeartbeats 1000000 in
theorem szT_any (B : Nat) (v : Value) (n : Nat) (f : Nat → ByteArray) (x : Int) (w : World) (h : Lst B w v n 1 (cS f)) (hz : ∀ i, i < n → (f i).size ≤ maxLen) (h0 : 0 ≤ x) (h1 : x ≤ 1048576) :
    Calls Tryz.prog 6 #[v, .int .i64 x] w fun e w' => ∃ y, e = .returned (.int .i64 y) ∧ y ≤ x ∧ (0 ≤ y → n ≤ 1048576 ∧ ∀ i, i < n → (f i).size ≤ 1048576) ∧ Below w.heap.size w w' := by
  obtain ⟨oa, cap, rfl, hn, hc⟩ := h
  unfold maxLen at hn hz
  have HC : Hid _ := hc
  have HZ : Hid _ := hz
  clear hc hz
  by_cases hx : (n : Int) ≤ x
  · go_enter Tryz.func6, Tryz.ntmps6
    go_wp2
    go_loop [1, 5] (fun l i => ∃ (k : Nat) (y : Int), k ≤ n ∧ i = .int .i64 k ∧ l = .int .i64 y ∧ 0 ≤ y ∧ y ≤ x ∧ Hid (∀ i, i < k → (f i).size ≤ 1048576)) (fun _ i => n - (intOf i).toNat)
    case atStart => exact ⟨0, _, Nat.zero_le _, rfl, rfl, by omega, by omega, fun i hi => absurd hi (Nat.not_lt_zero _)⟩
    case round =>
      obtain ⟨k, y, hk, rfl, rfl, hy0, hy1, HK⟩ := hrel
      by_cases hlt : k < n
      · obtain ⟨b, off, rfl, _, hcell⟩ := HC.out k hlt
        have hcell := hcell 0 (by omega)
        rw [Nat.mul_one, Nat.add_zero] at hcell
        simp only [cS] at hcell
        have hzk := HZ.out k hlt
        by_cases hs : ((f k).size : Int) ≤ y
        · go_wp2
          go_round
          case rel => exact ⟨k + 1, _, by omega, by go_num, rfl, by omega, by omega, fun i hi => by
            by_cases e : i = k
            · subst e; omega
            · exact HK.out i (by omega)⟩
          case measure => simp [intOf]; omega
        · go_wp2
          go_ret
          exact ⟨-1, rfl, by omega, fun h => by omega, Below.refl _ _⟩
      · go_wp2
        go_ret
        exact ⟨y, rfl, hy1, fun _ => ⟨by omega, fun i hi => HK.out i (by omega)⟩, Below.refl _ _⟩
  · go_enter Tryz.func6, Tryz.ntmps6
    go_wp2
    go_ret
    exact ⟨-1, rfl, by omega, fun h => by omega, Below.refl _ _⟩

open Go.Sort in
set_option maxRecDepth 100000 in
set_option maxHeartbeats 16000000 in
theorem lawRq_any (B : Nat) (v0 v1 v2 v3 vp vv vo : Value) (D : PD) (num am : Int) (m k no : Nat) (P Q fo : Nat → ByteArray) (w : World) (h : PAt B w v0 v1 v2 v3 D) (hr : RAt B w vp vv m P k Q) (ho : Lst B w vo no 1 (cS fo)) (hB : B ≤ w.heap.size) (hz : D.All) (hp : ∀ i, i < m → (P i).size ≤ maxLen) (hq : ∀ i, i < k → (Q i).size ≤ maxLen) (hzo : ∀ i, i < no → (fo i).size ≤ maxLen) (hn : OkI num) (ha : OkI am) :
    Calls Tryz.prog 3 #[.agg #[v0, v1, v2, v3], .int .i64 num, .agg #[vp, vv], vo, .int .i64 am] w fun e w' => e = .returned (.bool true) ∧ Below w.heap.size w w' := by
  have H : Hid (∀ w', Below w.heap.size w w' → PAt B w' v0 v1 v2 v3 D ∧ RAt B w' vp vv m P k Q ∧ Lst B w' vo no 1 (cS fo)) := fun w' hb => ⟨h.kept hb hB, hr.kept hb hB, ho.kept hb hB⟩
  have HZO : Hid (∀ i, i < no → (fo i).size ≤ maxLen) := hzo
  have HZP : Hid (∀ i, i < m → (P i).size ≤ maxLen) := hp
  have HZQ : Hid (∀ i, i < k → (Q i).size ≤ maxLen) := hq
  have HSL : Hid (D.V → (stnL D).length ≤ 1048576) := fun hv => by have a1 := stnL_len D; have a2 : D.np ≤ 14 := hv.2.1.1; have a3 : D.nv ≤ 18 := hv.2.2.1; omega
  clear h hr ho
  obtain ⟨W, hW⟩ : ∃ W, W = (w.alloc (.cells #[v0, v1, v2, v3] 27)).alloc (.cells #[vp, vv] 29) := ⟨_, rfl⟩
  have kW : Hid (Below (w.heap.size + 1 + 1) W W) := Below.refl _ _
  have sW : W.heap.size ≤ w.heap.size + 1 + 1 ∧ w.heap.size + 1 + 1 ≤ W.heap.size := by rw [hW]; simp
  have eW : Hid (W = (w.alloc (.cells #[v0, v1, v2, v3] 27)).alloc (.cells #[vp, vv] 29)) := hW
  have bx : Hid (∀ wr, Below (w.heap.size + 1 + 1) W wr → ((wr.cell? ⟨w.heap.size, 0, none⟩ = some v0 ∧ wr.cell? ⟨w.heap.size, 1, none⟩ = some v1 ∧ wr.cell? ⟨w.heap.size, 2, none⟩ = some v2 ∧ wr.cell? ⟨w.heap.size, 3, none⟩ = some v3) ∧ wr.cell? ⟨w.heap.size + 1, 0, none⟩ = some vp ∧ wr.cell? ⟨w.heap.size + 1, 1, none⟩ = some vv) ∧ Below w.heap.size w wr) := fun wr hb => by
    rw [hW] at hb
    obtain ⟨h1, h2⟩ := two_box hb
    exact ⟨⟨⟨h1 0 _ rfl, h1 1 _ rfl, h1 2 _ rfl, h1 3 _ rfl⟩, h2 0 _ rfl, h2 1 _ rfl⟩, two_end hb⟩
  clear hW
  go_enter Tryz.func3, Tryz.ntmps3
  go_upto_region 1 with fail
  rw [← eW.out]
  obtain ⟨⟨⟨x0, x1, x2, x3⟩, y0, y1⟩, hbw⟩ := bx.out W kW.out
  go_wp2_with fail
  refine (szPlant_le B v0 v1 v2 v3 D _ (H.out W hbw).1 (Nat.le_trans hB hbw.size) hz).mono ?_; rintro e w1 ⟨n1, rfl, hn1, hsm1, hb1⟩
  have k1 : Hid (Below (w.heap.size + 1 + 1) W w1) := kW.out.trans (hb1.mono (by omega))
  have HS1 : Hid _ := hsm1
  clear hsm1 hb1 hbw x0 x1 x2 x3 y0 y1
  by_cases hg1 : n1 < 0
  · go_wp2_with fail
    go_ret
    exact ⟨rfl, (bx.out _ k1.out).2⟩
  obtain ⟨⟨⟨x0, x1, x2, x3⟩, y0, y1⟩, hbw⟩ := bx.out w1 k1.out
  have s1 : w.heap.size + 1 + 1 ≤ w1.heap.size := by have := k1.out.size; omega
  go_wp2_with fail
  refine (szRoute_any B vp vv m k P Q n1 _ (H.out w1 hbw).2.1 (Nat.le_trans hB hbw.size) hp hq (by omega) hn1).mono ?_; rintro e w2 ⟨n2, rfl, hn2, hsm2, hb2⟩
  have k2 : Hid (Below (w.heap.size + 1 + 1) W w2) := k1.out.trans (hb2.mono s1)
  have HS2 : Hid _ := hsm2
  clear hsm2 hb2 hbw x0 x1 x2 x3 y0 y1
  by_cases hg2 : n2 < 0
  · go_wp2_with fail
    go_ret
    exact ⟨rfl, (bx.out _ k2.out).2⟩
  obtain ⟨⟨⟨x0, x1, x2, x3⟩, y0, y1⟩, hbw⟩ := bx.out w2 k2.out
  have s2' : w.heap.size + 1 + 1 ≤ w2.heap.size := by have := k2.out.size; omega
  clear x0 x1 x2 x3 y0 y1
  go_wp2_with fail
  refine (szT_any B vo no fo n2 _ (H.out w2 hbw).2.2 hzo (by omega) (by omega)).mono ?_; rintro e w2b ⟨n3, rfl, hn3, hsm3, hb2b⟩
  have k2b : Hid (Below (w.heap.size + 1 + 1) W w2b) := k2.out.trans (hb2b.mono s2')
  have HS3 : Hid _ := hsm3
  clear hsm3 hb2b hbw hzo hp hq
  by_cases hg3 : n3 < 0
  · go_wp2_with fail
    go_ret
    exact ⟨rfl, (bx.out _ k2b.out).2⟩
  have HM : Hid (D.ns ≤ 1048576 ∧ D.nf ≤ 1048576 ∧ D.np ≤ 1048576 ∧ D.nv ≤ 1048576) := HS1.out (by omega)
  obtain ⟨hm, hk⟩ := HS2.out (by omega)
  obtain ⟨hno, hzt⟩ := HS3.out (by omega)
  have HZT : Hid (∀ x ∈ ((List.range no).map fo), x.size ≤ 1048576) := fun x hx => by
    obtain ⟨i, hi, rfl⟩ := List.mem_map.1 hx
    exact hzt i (List.mem_range.1 hi)
  have HTL : Hid ((((List.range no).map fo)).length ≤ 1048576) := by show _ ≤ _; simp; omega
  clear hzt
  have s2 : w.heap.size + 1 + 1 ≤ w2b.heap.size := by have := k2b.out.size; omega
  have MODEL : Hid (∀ (wr : World), Below (w.heap.size + 1 + 1) W wr → Calls Tryz.prog 8 #[.agg #[v0, v1, v2, v3]] wr fun e w' => ∃ u0 u1 u2 u3, e = .returned (.agg #[u0, u1, u2, u3]) ∧ PAt w'.heap.size w' u0 u1 u2 u3 D ∧ Below wr.heap.size wr w') := fun wr hb => toPlant_any B v0 v1 v2 v3 D wr (H.out wr (bx.out wr hb).2).1 (Nat.le_trans hB (bx.out wr hb).2.size) HM.out
  have ROUTE : Hid (∀ (wr : World), Below (w.heap.size + 1 + 1) W wr → Calls Tryz.prog 9 #[.agg #[vp, vv]] wr fun e w' => ∃ g0 g1, e = .returned (.agg #[sl g0 m, sl g1 k]) ∧ RAt w'.heap.size w' (sl g0 m) (sl g1 k) m P k Q ∧ Below wr.heap.size wr w') := fun wr hb => toRoute_any B vp vv m k P Q wr (H.out wr (bx.out wr hb).2).2.1 (Nat.le_trans hB (bx.out wr hb).2.size) hm hk
  have OPEN : Hid (∀ (wr : World), Below (w.heap.size + 1 + 1) W wr → Calls Tryz.prog 10 #[vo] wr fun e w' => e = .returned (.slice (some ⟨wr.heap.size, 0, none⟩) no no) ∧ Lst w'.heap.size w' (.slice (some ⟨wr.heap.size, 0, none⟩) no no) no 1 (cS fo) ∧ Blk w'.heap.size w' wr.heap.size 9 no ∧ Below wr.heap.size wr w') := fun wr hb => toS_blk B vo no fo wr (H.out wr (bx.out wr hb).2).2.2 (Nat.le_trans hB (bx.out wr hb).2.size) hno
  obtain ⟨⟨⟨x0, x1, x2, x3⟩, y0, y1⟩, hbw⟩ := bx.out w2b k2b.out
  have qx0 := fun d os => cell_regrown x0 d os
  have qx1 := fun d os => cell_regrown x1 d os
  have qx2 := fun d os => cell_regrown x2 d os
  have qx3 := fun d os => cell_regrown x3 d os
  have qy0 := fun d os => cell_regrown y0 d os
  have qy1 := fun d os => cell_regrown y1 d os
  go_wp2_with fail
  have hdr_w2b : Hid (Below w2b.heap.size w2b w2b.drew) := (Below.refl _ _).drew
  refine wp_region_mix 8 [0, 2, 3, 5, 7] (by kernel_rfl) (by kernel_rfl) ?_
  simp only [List.filterMap_cons, List.filterMap_nil, List.getElem?_cons_succ, List.getElem?_cons_zero]
  repeat (first | go_big_quiet_step (fail) | quiet_step (fail))
  refine wpQuiet_nil ?_
  clear qx0 qx1 qx2 qx3 qy0 qy1 x0 x1 x2 x3 y0 y1 hbw
  refine call1 (md := .any) (f := 2) (i := 1) (dc := 37) (fn := 8) ⟨rfl, rfl, rfl, by decide⟩ (by kernel_rfl) ?run ((MODEL.out w2b.drew (k2b.out.trans (hdr_w2b.out.mono s2))).mono ?_)
  case run => go_simp
  rintro e w3 ⟨p0, p1, p2, p3, rfl, P1, hbw3⟩
  have HB1 : Hid (Below w2b.heap.size w2b w3) := hdr_w2b.out.trans hbw3
  have HP1 : Hid (PAt w3.heap.size w3 p0 p1 p2 p3 D) := P1
  refine ⟨_, rfl, regrown_of_below HB1.out, ?_⟩
  clear P1 hbw3
  simp only [Act.put, List.setIfInBounds_toArray, List.set_cons_zero, List.set_cons_succ]
  refine call1 (md := .any) (f := 1) (i := 4) (dc := 40) (fn := 9) ⟨rfl, rfl, rfl, by decide⟩ (by kernel_rfl) ?run ((ROUTE.out w3 (k2b.out.trans (HB1.out.mono s2))).mono ?_)
  case run => go_simp
  rintro e w3r ⟨r0, r1, rfl, R1, hbw4⟩
  have HB2 : Hid (Below w2b.heap.size w2b w3r) := HB1.out.trans (hbw4.mono HB1.out.size)
  have HR1 : Hid (RAt w3r.heap.size w3r (sl r0 m) (sl r1 k) m P k Q) := R1
  have HPb : Hid (PAt w3r.heap.size w3r p0 p1 p2 p3 D) := (HP1.out.kept hbw4 (Nat.le_refl _)).up hbw4.size
  refine ⟨_, rfl, regrown_of_below HB2.out, ?_⟩
  clear R1 hbw4 HP1
  simp only [Act.put, List.setIfInBounds_toArray, List.set_cons_zero, List.set_cons_succ]
  refine call1 (md := .any) (f := 0) (i := 6) (dc := 42) (fn := 10) ⟨rfl, rfl, rfl, by decide⟩ (by kernel_rfl) ?run ((OPEN.out w3r (k2b.out.trans (HB2.out.mono s2))).mono ?_)
  case run => go_simp
  rintro e w4 ⟨rfl, T1, _, hbw5⟩
  have HB3 : Hid (Below w2b.heap.size w2b w4) := HB2.out.trans (hbw5.mono HB2.out.size)
  have HT1 : Hid (Lst w4.heap.size w4 (.slice (some ⟨w3r.heap.size, 0, none⟩) no no) no 1 (cS fo)) := T1
  have HPc : Hid (PAt w4.heap.size w4 p0 p1 p2 p3 D) := (HPb.out.kept hbw5 (Nat.le_refl _)).up hbw5.size
  have HRc : Hid (RAt w4.heap.size w4 (sl r0 m) (sl r1 k) m P k Q) := ⟨(HR1.out.kept hbw5 (Nat.le_refl _)).p.up hbw5.size, (HR1.out.kept hbw5 (Nat.le_refl _)).v.up hbw5.size⟩
  refine ⟨_, rfl, regrown_of_below HB3.out, ?_⟩
  clear T1 hbw5 HPb HR1
  refine ⟨by kernel_rfl, ?_⟩
  simp only [List.drop_succ_cons, List.drop_zero, Act.put, List.setIfInBounds_toArray, List.set_cons_zero, List.set_cons_succ]
  have s4 : w2b.heap.size ≤ w4.heap.size := HB3.out.size
  have kw4 : Hid (Below (w.heap.size + 1 + 1) W w4) := k2b.out.trans (HB3.out.mono s2)
  go_wp2_with fail
  refine (routeAsksS_any w4.heap.size (fun b => b < w4.heap.size) p0 p1 p2 p3 D num am _ _ m k m k P Q ((List.range no).map fo) _ _ HPc.out HRc.out.p HRc.out.v (Nat.le_refl _) hz.sz (Nat.le_refl _) hm hk HZP.out HZQ.out (at_lst HT1.out HZO.out) (fun _ h => h) HTL.out hn ha HSL.out).mono ?_; rintro e w5 ⟨⟨u0, q, rfl, is, on0⟩, hb5⟩
  have IS : Hid (RaIs D num am m P k Q ((List.range no).map fo) q) := is
  have CN : Hid (cntL q ≤ 40000000) := ra_cnt is HTL.out
  have k5 : Hid (Below (w.heap.size + 1 + 1) W w5) := kw4.out.trans (hb5.mono (by omega))
  have ON0 : Hid (OnL (fun b => w4.heap.size ≤ b ∧ b < w5.heap.size) w5 q u0) := on0
  have s45 := hb5.size
  clear is on0 hb5 HPc HRc HT1 HB1 HB2 HB3 kw4 k2b k2
  have s5 : w.heap.size + 1 + 1 ≤ w5.heap.size := by have := k5.out.size; omega
  obtain ⟨⟨⟨x0, x1, x2, x3⟩, y0, y1⟩, hbw⟩ := bx.out w5 k5.out
  go_wp2_with fail
  refine (toPlant_blk B v0 v1 v2 v3 D _ (H.out w5 hbw).1 (Nat.le_trans hB hbw.size) HM.out).mono ?_; rintro e w6 ⟨g0, g1, g2, g3, rfl, P2, PB, hb6⟩
  have HP2 : Hid (PAt w6.heap.size w6 (sl g0 D.ns) (sl g1 D.nf) (sl g2 D.np) (sl g3 D.nv) D) := P2
  have HPB : Hid (PBlk w5.heap.size w6.heap.size w6 g0 g1 g2 g3 D) := PB
  have s6 : w5.heap.size ≤ w6.heap.size := hb6.size
  obtain ⟨w6a, hw6a⟩ : ∃ u, u = w6.alloc (.cells #[sl g0 D.ns, sl g1 D.nf, sl g2 D.np, sl g3 D.nv] 39) := ⟨_, rfl⟩
  have HW6 : Hid (w6a = w6.alloc (.cells #[sl g0 D.ns, sl g1 D.nf, sl g2 D.np, sl g3 D.nv] 39)) := hw6a
  have b6 : Hid (Below w6.heap.size w6 w6a) := by rw [hw6a]; exact (Below.refl _ _).alloc (Nat.le_refl _) _
  have X6 : Hid (w6a.heap[w6.heap.size]? = some (.cells #[sl g0 D.ns, sl g1 D.nf, sl g2 D.np, sl g3 D.nv] 39 (0, 0))) := by rw [hw6a]; exact heap_alloc_new w6 _
  have s6a : w6a.heap.size ≤ w6.heap.size + 1 ∧ w6.heap.size + 1 ≤ w6a.heap.size := by rw [hw6a]; simp
  have k6a : Hid (Below (w.heap.size + 1 + 1) W w6a) := (k5.out.trans (hb6.mono s5)).trans (b6.out.mono (by omega))
  have b5 : Hid (Below w5.heap.size w5 w6a) := hb6.trans (b6.out.mono s6)
  clear hw6a P2 PB hb6 hbw x0 x1 x2 x3 y0 y1
  go_upto_region 13 with fail
  rw [← HW6.out]
  obtain ⟨⟨⟨x0, x1, x2, x3⟩, y0, y1⟩, hbw⟩ := bx.out w6a k6a.out
  go_wp2_with fail
  refine (toRoute_blk B vp vv m k P Q _ (H.out w6a hbw).2.1 (Nat.le_trans hB hbw.size) hm hk).mono ?_; rintro e w7 ⟨h0, h1, rfl, R2, ⟨ha0, ha1⟩, RB0, RB1, hb7⟩
  have HR2 : Hid (RAt w7.heap.size w7 (sl h0 m) (sl h1 k) m P k Q) := R2
  have HRB0 : Hid (Blk w7.heap.size w7 h0 9 m) := RB0
  have HRB1 : Hid (Blk w7.heap.size w7 h1 9 k) := RB1
  have s7 : w6a.heap.size ≤ w7.heap.size := hb7.size
  obtain ⟨w8, hw8⟩ : ∃ u, u = w7.alloc (.cells #[sl h0 m, sl h1 k] 41) := ⟨_, rfl⟩
  have HW8 : Hid (w8 = w7.alloc (.cells #[sl h0 m, sl h1 k] 41)) := hw8
  have b8 : Hid (Below w7.heap.size w7 w8) := by rw [hw8]; exact (Below.refl _ _).alloc (Nat.le_refl _) _
  have X8 : Hid (w8.heap[w7.heap.size]? = some (.cells #[sl h0 m, sl h1 k] 41 (0, 0))) := by rw [hw8]; exact heap_alloc_new w7 _
  have s8 : w8.heap.size ≤ w7.heap.size + 1 ∧ w7.heap.size + 1 ≤ w8.heap.size := by rw [hw8]; simp
  have X68 : Hid (w8.heap[w6.heap.size]? = some (.cells #[sl g0 D.ns, sl g1 D.nf, sl g2 D.np, sl g3 D.nv] 39 (0, 0))) := (b8.out.block _ (by omega)).trans ((hb7.block _ (by omega)).trans X6.out)
  have b78 : Hid (Below w6a.heap.size w6a w8) := hb7.trans (b8.out.mono s7)
  have k8 : Hid (Below (w.heap.size + 1 + 1) W w8) := k6a.out.trans (b78.out.mono (by omega))
  clear hw8 R2 RB0 RB1 hb7 hbw x0 x1 x2 x3 y0 y1
  go_upto_region 14 with fail
  rw [← HW8.out]
  go_wp2_with fail
  refine (OPEN.out w8 k8.out).mono ?_; rintro e w8t ⟨rfl, T2, TB0, hb8t⟩
  have HT2 : Hid (Lst w8t.heap.size w8t (.slice (some ⟨w8.heap.size, 0, none⟩) no no) no 1 (cS fo)) := T2
  have HTB0 : Hid (Blk w8t.heap.size w8t w8.heap.size 9 no) := TB0
  have b8t : Hid (Below w8.heap.size w8 w8t) := hb8t
  have s8t : w8.heap.size ≤ w8t.heap.size := hb8t.size
  have X68t : Hid (w8t.heap[w6.heap.size]? = some (.cells #[sl g0 D.ns, sl g1 D.nf, sl g2 D.np, sl g3 D.nv] 39 (0, 0))) := (hb8t.block _ (by omega)).trans X68.out
  have X8t : Hid (w8t.heap[w7.heap.size]? = some (.cells #[sl h0 m, sl h1 k] 41 (0, 0))) := (hb8t.block _ (by omega)).trans X8.out
  have k8t : Hid (Below (w.heap.size + 1 + 1) W w8t) := k8.out.trans (hb8t.mono (by omega))
  clear T2 TB0 hb8t
  obtain ⟨d0, _⟩ := cell_row X68t.out 0 _ rfl
  obtain ⟨d1, _⟩ := cell_row X68t.out 1 _ rfl
  obtain ⟨d2, _⟩ := cell_row X68t.out 2 _ rfl
  obtain ⟨d3, _⟩ := cell_row X68t.out 3 _ rfl
  obtain ⟨f0, _⟩ := cell_row X8t.out 0 _ rfl
  obtain ⟨f1, _⟩ := cell_row X8t.out 1 _ rfl
  simp only [List.getElem_toArray, List.getElem_cons_zero, List.getElem_cons_succ] at d0 d1 d2 d3 f0 f1
  have bW8 : Hid (Below w6.heap.size w6 w8t) := (b6.out.trans (b78.out.mono (by omega))).trans (b8t.out.mono (by omega))
  have bR8 : Hid (Below w7.heap.size w7 w8t) := b8.out.trans (b8t.out.mono (by omega))
  go_wp2_with fail
  refine (routeAsksI_any w8t.heap.size (fun b => b < w8t.heap.size) _ _ _ _ D num am _ _ m k m k P Q ((List.range no).map fo) _ _ ((HP2.out.kept bW8.out (Nat.le_refl _)).up (by omega)) ((HR2.out.kept bR8.out (Nat.le_refl _)).p.up (by omega)) ((HR2.out.kept bR8.out (Nat.le_refl _)).v.up (by omega)) (Nat.le_refl _) hz.sz (Nat.le_refl _) (at_lst HT2.out HZO.out) (fun _ h => h) HTL.out HZT.out hn ha HSL.out).mono ?_; rintro e w9 ⟨⟨u1, q1, rfl, ii, on1⟩, hb9⟩
  have hqe : q1 = q := ra_same IS.out ii
  rw [hqe] at on1
  clear ii hqe d0 d1 d2 d3 f0 f1 q1
  have s9 : w8t.heap.size ≤ w9.heap.size := hb9.size
  have ON1 : Hid (OnL (fun b => w8t.heap.size ≤ b ∧ b < w9.heap.size) w9 q u1) := on1
  have b89 : Hid (Below w8t.heap.size w8t w9) := hb9
  have k9 : Hid (Below (w.heap.size + 1 + 1) W w9) := k8t.out.trans (hb9.mono (by omega))
  have b59 : Hid (Below w5.heap.size w5 w9) := ((b5.out.trans (b78.out.mono (by omega))).trans (b8t.out.mono (by omega))).trans (b89.out.mono (by omega))
  have ON09 : Hid (OnL (fun b => w4.heap.size ≤ b ∧ b < w5.heap.size) w9 q u0) := ON0.out.same (fun b hb => b59.out.block b hb.2)
  clear on1 hb9
  go_wp2_with fail
  refine (eqCtlAskS_any _ _ q u1 u0 w9 ON1.out.at_ ON09.out.at_ (fun b hb => hb.2) (fun b hb => by omega)).mono ?_; rintro e w10 ⟨rfl, hb10⟩
  have s10 : w9.heap.size ≤ w10.heap.size := hb10.size
  have b910 : Hid (Below w9.heap.size w9 w10) := hb10
  have k10 : Hid (Below (w.heap.size + 1 + 1) W w10) := k9.out.trans (hb10.mono (by omega))
  have t10 : w.heap.size + 1 + 1 ≤ w10.heap.size := by omega
  have X610 : Hid (w10.heap[w6.heap.size]? = some (.cells #[sl g0 D.ns, sl g1 D.nf, sl g2 D.np, sl g3 D.nv] 39 (0, 0))) := (hb10.block _ (by omega)).trans ((b89.out.block _ (by omega)).trans X68t.out)
  clear hb10
  obtain ⟨d0, _⟩ := cell_row X610.out 0 _ rfl
  obtain ⟨d1, _⟩ := cell_row X610.out 1 _ rfl
  obtain ⟨d2, _⟩ := cell_row X610.out 2 _ rfl
  obtain ⟨d3, _⟩ := cell_row X610.out 3 _ rfl
  simp only [List.getElem_toArray, List.getElem_cons_zero, List.getElem_cons_succ] at d0 d1 d2 d3
  obtain ⟨⟨⟨x0, x1, x2, x3⟩, y0, y1⟩, hbw⟩ := bx.out w10 k10.out
  have qx0 := fun d os => cell_regrown x0 d os
  have qx1 := fun d os => cell_regrown x1 d os
  have qx2 := fun d os => cell_regrown x2 d os
  have qx3 := fun d os => cell_regrown x3 d os
  have qd0 := fun d os => cell_regrown d0 d os
  have qd1 := fun d os => cell_regrown d1 d os
  have qd2 := fun d os => cell_regrown d2 d os
  have qd3 := fun d os => cell_regrown d3 d os
  go_wp2_with fail
  have hdr_w10 : Hid (Below w10.heap.size w10 w10.drew) := (Below.refl _ _).drew
  refine wp_region_mix 3 [0, 1] (by kernel_rfl) (by kernel_rfl) ?_
  simp only [List.filterMap_cons, List.filterMap_nil, List.getElem?_cons_succ, List.getElem?_cons_zero]
  repeat (first | go_big_quiet_step (fail) | quiet_step (fail))
  refine wpQuiet_nil ?_
  refine call1 (md := .any) (f := 0) (i := 2) (dc := 63) (fn := 8) ⟨rfl, rfl, rfl, by decide⟩ (by kernel_rfl) ?run ((MODEL.out w10.drew (k10.out.trans (hdr_w10.out.mono t10))).mono ?_)
  case run => go_simp
  rintro e w11 ⟨p0, p1, p2, p3, rfl, P3, hbw11⟩
  have HBw11 : Hid (Below w10.heap.size w10 w11) := hdr_w10.out.trans hbw11
  have HP3 : Hid (PAt w11.heap.size w11 p0 p1 p2 p3 D) := P3
  clear P3 hbw11 qx0 qx1 qx2 qx3 qd0 qd1 qd2 qd3 d0 d1 d2 d3 x0 x1 x2 x3 y0 y1 hbw
  refine ⟨_, rfl, regrown_of_below HBw11.out, ?_⟩
  refine ⟨by kernel_rfl, ?_⟩
  simp only [List.drop_succ_cons, List.drop_zero, Act.put, List.setIfInBounds_toArray, List.set_cons_zero, List.set_cons_succ]
  have s11 : w10.heap.size ≤ w11.heap.size := HBw11.out.size
  have b911 : Hid (Below w9.heap.size w9 w11) := b910.out.trans (HBw11.out.mono s10)
  have b611 : Hid (Below w6.heap.size w6 w11) := (bW8.out.trans (b89.out.mono (by omega))).trans (b911.out.mono (by omega))
  go_wp2_with fail
  refine (eqPlant_any w6.heap.size w11.heap.size _ _ _ _ p0 p1 p2 p3 D _ (HP2.out.kept b611.out (Nat.le_refl _)) HP3.out (by omega) (Nat.le_refl _)).mono ?_; rintro e w12 ⟨rfl, hb12⟩
  have s12 : w11.heap.size ≤ w12.heap.size := hb12.size
  have b912 : Hid (Below w9.heap.size w9 w12) := b911.out.trans (hb12.mono (by omega))
  have k12 : Hid (Below (w.heap.size + 1 + 1) W w12) := k9.out.trans (b912.out.mono (by omega))
  have t12 : w.heap.size + 1 + 1 ≤ w12.heap.size := by omega
  have X612 : Hid (w12.heap[w6.heap.size]? = some (.cells #[sl g0 D.ns, sl g1 D.nf, sl g2 D.np, sl g3 D.nv] 39 (0, 0))) := (b912.out.block _ (by omega)).trans ((b89.out.block _ (by omega)).trans X68t.out)
  have X812 : Hid (w12.heap[w7.heap.size]? = some (.cells #[sl h0 m, sl h1 k] 41 (0, 0))) := (b912.out.block _ (by omega)).trans ((b89.out.block _ (by omega)).trans X8t.out)
  clear hb12 HP3 HBw11
  obtain ⟨f0, _⟩ := cell_row X812.out 0 _ rfl
  obtain ⟨f1, _⟩ := cell_row X812.out 1 _ rfl
  simp only [List.getElem_toArray, List.getElem_cons_zero, List.getElem_cons_succ] at f0 f1
  obtain ⟨⟨⟨x0, x1, x2, x3⟩, y0, y1⟩, hbw⟩ := bx.out w12 k12.out
  have qy0 := fun d os => cell_regrown y0 d os
  have qy1 := fun d os => cell_regrown y1 d os
  have qf0 := fun d os => cell_regrown f0 d os
  have qf1 := fun d os => cell_regrown f1 d os
  go_wp2_with fail
  have hdr_w12 : Hid (Below w12.heap.size w12 w12.drew) := (Below.refl _ _).drew
  refine wp_region_mix 3 [0, 1] (by kernel_rfl) (by kernel_rfl) ?_
  simp only [List.filterMap_cons, List.filterMap_nil, List.getElem?_cons_succ, List.getElem?_cons_zero]
  repeat (first | go_big_quiet_step (fail) | quiet_step (fail))
  refine wpQuiet_nil ?_
  refine call1 (md := .any) (f := 0) (i := 2) (dc := 68) (fn := 9) ⟨rfl, rfl, rfl, by decide⟩ (by kernel_rfl) ?run ((ROUTE.out w12.drew (k12.out.trans (hdr_w12.out.mono t12))).mono ?_)
  case run => go_simp
  rintro e w13 ⟨r0, r1, rfl, R3, hbw13⟩
  have HBw13 : Hid (Below w12.heap.size w12 w13) := hdr_w12.out.trans hbw13
  have HR3 : Hid (RAt w13.heap.size w13 (sl r0 m) (sl r1 k) m P k Q) := R3
  clear R3 hbw13 qy0 qy1 qf0 qf1 f0 f1 x0 x1 x2 x3 y0 y1 hbw
  refine ⟨_, rfl, regrown_of_below HBw13.out, ?_⟩
  refine ⟨by kernel_rfl, ?_⟩
  simp only [List.drop_succ_cons, List.drop_zero, Act.put, List.setIfInBounds_toArray, List.set_cons_zero, List.set_cons_succ]
  have s13 : w12.heap.size ≤ w13.heap.size := HBw13.out.size
  have b913 : Hid (Below w9.heap.size w9 w13) := b912.out.trans (HBw13.out.mono (by omega))
  have b713 : Hid (Below w7.heap.size w7 w13) := (bR8.out.trans (b89.out.mono (by omega))).trans (b913.out.mono (by omega))
  go_wp2_with fail
  refine (eqRoute_any w7.heap.size w13.heap.size _ _ _ _ m k P Q _ (HR2.out.kept b713.out (Nat.le_refl _)) HR3.out (by omega) (Nat.le_refl _)).mono ?_; rintro e w14 ⟨rfl, hb14⟩
  have s14 : w13.heap.size ≤ w14.heap.size := hb14.size
  have b914 : Hid (Below w9.heap.size w9 w14) := b913.out.trans (hb14.mono (by omega))
  have b614 : Hid (Below w6.heap.size w6 w14) := (bW8.out.trans (b89.out.mono (by omega))).trans (b914.out.mono (by omega))
  have b714 : Hid (Below w7.heap.size w7 w14) := b713.out.trans (hb14.mono (by omega))
  have k14 : Hid (Below (w.heap.size + 1 + 1) W w14) := k9.out.trans (b914.out.mono (by omega))
  have X614 : Hid (w14.heap[w6.heap.size]? = some (.cells #[sl g0 D.ns, sl g1 D.nf, sl g2 D.np, sl g3 D.nv] 39 (0, 0))) := (b914.out.block _ (by omega)).trans ((b89.out.block _ (by omega)).trans X68t.out)
  have X814 : Hid (w14.heap[w7.heap.size]? = some (.cells #[sl h0 m, sl h1 k] 41 (0, 0))) := (b914.out.block _ (by omega)).trans ((b89.out.block _ (by omega)).trans X8t.out)
  have b8t14 : Hid (Below w8t.heap.size w8t w14) := b89.out.trans (b914.out.mono (by omega))
  have ON114 : Hid (OnL (fun b => w8t.heap.size ≤ b ∧ b < w9.heap.size) w14 q u1) := ON1.out.same (fun b hb => b914.out.block b hb.2)
  have ON014 : Hid (OnL (fun b => w4.heap.size ≤ b ∧ b < w5.heap.size) w14 q u0) := ON09.out.same (fun b hb => b914.out.block b (by omega))
  clear hb14 HR3 HBw13
  go_wp2_with fail
  refine (OPEN.out w14 k14.out).mono ?_; rintro e w14a ⟨rfl, T3, _, hb14a⟩
  have HT3 : Hid (Lst w14a.heap.size w14a (.slice (some ⟨w14.heap.size, 0, none⟩) no no) no 1 (cS fo)) := T3
  have s14a : w14.heap.size ≤ w14a.heap.size := hb14a.size
  have b1414 : Hid (Below w14.heap.size w14 w14a) := hb14a
  clear T3 hb14a
  go_wp2_with fail
  refine (eqS_lst w8t.heap.size w14a.heap.size _ _ no fo _ ((HT2.out.kept b8t14.out (Nat.le_refl _)).kept b1414.out (by omega)) HT3.out (by omega) (Nat.le_refl _)).mono ?_; rintro e w14b ⟨rfl, hb14b⟩
  have s14b : w14a.heap.size ≤ w14b.heap.size := hb14b.size
  have bAB : Hid (Below w14.heap.size w14 w14b) := b1414.out.trans (hb14b.mono (by omega))
  clear hb14b HT3 b1414
  have k14b : Hid (Below (w.heap.size + 1 + 1) W w14b) := k14.out.trans (bAB.out.mono (by omega))
  have b614b : Hid (Below w6.heap.size w6 w14b) := b614.out.trans (bAB.out.mono (by omega))
  have b714b : Hid (Below w7.heap.size w7 w14b) := b714.out.trans (bAB.out.mono (by omega))
  have b8t14b : Hid (Below w8t.heap.size w8t w14b) := b8t14.out.trans (bAB.out.mono (by omega))
  have X614b : Hid (w14b.heap[w6.heap.size]? = some (.cells #[sl g0 D.ns, sl g1 D.nf, sl g2 D.np, sl g3 D.nv] 39 (0, 0))) := (bAB.out.block _ (by omega)).trans X614.out
  have X814b : Hid (w14b.heap[w7.heap.size]? = some (.cells #[sl h0 m, sl h1 k] 41 (0, 0))) := (bAB.out.block _ (by omega)).trans X814.out
  have ON114b : Hid (OnL (fun b => w8t.heap.size ≤ b ∧ b < w9.heap.size) w14b q u1) := ON114.out.same (fun b hb => bAB.out.block b (by omega))
  have ON014b : Hid (OnL (fun b => w4.heap.size ≤ b ∧ b < w5.heap.size) w14b q u0) := ON014.out.same (fun b hb => bAB.out.block b (by omega))
  have d0 := (cell_row X614b.out 0 (sl g0 D.ns) rfl).1
  have d1 := (cell_row X614b.out 1 (sl g1 D.nf) rfl).1
  have d2 := (cell_row X614b.out 2 (sl g2 D.np) rfl).1
  have d3 := (cell_row X614b.out 3 (sl g3 D.nv) rfl).1
  have pb14 : Hid (PBlk w5.heap.size w6.heap.size w14b g0 g1 g2 g3 D) := ⟨HPB.out.a, HPB.out.s.kept b614b.out (Nat.le_refl _), HPB.out.f.kept b614b.out (Nat.le_refl _), HPB.out.p.kept b614b.out (Nat.le_refl _), HPB.out.v.kept b614b.out (Nat.le_refl _)⟩
  go_wp2_with fail
  refine (markPlant_le w5.heap.size w6.heap.size g0 g1 g2 g3 D _ pb14.out (by omega) s6 HM.out).mono ?_; rintro e w15 ⟨kk, rfl, ⟨hkk1, hkk2⟩, o15⟩
  have O15 : Hid (Outs w5.heap.size w6.heap.size w14b w15) := o15
  have s15 : w14b.heap.size ≤ w15.heap.size := o15.bel.size
  have X815 : Hid (w15.heap[w7.heap.size]? = some (.cells #[sl h0 m, sl h1 k] 41 (0, 0))) := (o15.out _ (by omega) (by omega)).trans X814b.out
  have rb0 : Hid (Blk w7.heap.size w15 h0 9 m) := (HRB0.out.kept b714b.out (Nat.le_refl _)).outs o15
  have rb1 : Hid (Blk w7.heap.size w15 h1 9 k) := (HRB1.out.kept b714b.out (Nat.le_refl _)).outs o15
  have tb0 : Hid (Blk w8t.heap.size w15 w8.heap.size 9 no) := (HTB0.out.kept b8t14b.out (Nat.le_refl _)).outs o15
  clear o15 d0 d1 d2 d3
  have f0 := (cell_row X815.out 0 (sl h0 m) rfl).1
  have f1 := (cell_row X815.out 1 (sl h1 k) rfl).1
  go_wp2_with fail
  refine (markRoute_any w6a.heap.size w7.heap.size h0 h1 m k kk _ ha0 ha1 rb0.out rb1.out (by omega) hm hk hkk1 (by omega)).mono ?_; rintro e w16 ⟨kj, rfl, ⟨hkj1, hkj2⟩, o16⟩
  have O16 : Hid (Outs w6a.heap.size w7.heap.size w15 w16) := o16
  have s16 : w15.heap.size ≤ w16.heap.size := o16.bel.size
  obtain ⟨lb, cb, hcb, hcs⟩ := tb0.out.outs o16
  have HCB : Hid _ := hcb
  clear o16 f0 f1 hcb
  go_wp2_with fail
  refine (mkS_any w8.heap.size w8t.heap.size w8.heap.size no no no kj cb _ HCB.out hcs (Nat.le_refl _) lb (Nat.le_refl _) hkj1 (by omega)).mono ?_; rintro e w16t ⟨rfl, o16t, _⟩
  have O16t : Hid (Outs w8.heap.size w8t.heap.size w16 w16t) := o16t
  have s16t : w16.heap.size ≤ w16t.heap.size := o16t.bel.size
  clear o16t
  have ON116 : Hid (OnL (fun b => w8t.heap.size ≤ b ∧ b < w9.heap.size) w16t q u1) := ((ON114b.out.same (fun b hb => O15.out.out b (by omega) (by omega))).same (fun b hb => O16.out.out b (by omega) (by omega))).same (fun b hb => O16t.out.out b (by omega) (by omega))
  have ON016 : Hid (OnL (fun b => w4.heap.size ≤ b ∧ b < w5.heap.size) w16t q u0) := ((ON014b.out.same (fun b hb => O15.out.bel.block b hb.2)).same (fun b hb => O16.out.bel.block b (by omega))).same (fun b hb => O16t.out.bel.block b (by omega))
  have k16 : Hid (Below (w.heap.size + 1 + 1) W w16t) := ((k14b.out.trans (O15.out.bel.mono s5)).trans (O16.out.bel.mono (by omega))).trans (O16t.out.bel.mono (by omega))
  have dkj : decide (kj + (no : Int) < 0) = false := by simp; omega
  go_wp2_with fail
  refine (eqCtlAskS_any _ _ q u1 u0 w16t ON116.out.at_ ON016.out.at_ (fun b hb => by omega) (fun b hb => by omega)).mono ?_; rintro e w17 ⟨rfl, hb17⟩
  have s17 : w16t.heap.size ≤ w17.heap.size := hb17.size
  have HB17 : Hid (Below w16t.heap.size w16t w17) := hb17
  have ON117 : Hid (OnL (fun b => w8t.heap.size ≤ b ∧ b < w9.heap.size) w17 q u1) := ON116.out.same (fun b hb => hb17.block b (by omega))
  have ON017 : Hid (OnL (fun b => w4.heap.size ≤ b ∧ b < w5.heap.size) w17 q u0) := ON016.out.same (fun b hb => hb17.block b (by omega))
  clear hb17
  go_wp2_with fail
  refine (markCtlAskS_any _ q u1 1 w17 ON117.out (fun b hb => by omega) (by omega) (by have := CN.out; omega)).mono ?_; rintro e w18 ⟨rfl, O18, hbu⟩
  have s18 : w17.heap.size ≤ w18.heap.size := hbu.size
  have BU : Hid (But (fun b => w8t.heap.size ≤ b ∧ b < w9.heap.size) w17 w18) := hbu
  have AT : Hid (AtL (fun b => w8t.heap.size ≤ b ∧ b < w9.heap.size) w18 (mkL 1 q) u1) := O18.at_
  clear O18 hbu
  have k18 : Hid (Below (w.heap.size + 1 + 1) W w18) := (k16.out.trans (HB17.out.mono (by omega))).trans (BU.out.below (B := w.heap.size + 1 + 1) (fun b hb => by omega) (by omega))
  have ON018 : Hid (OnL (fun b => w4.heap.size ≤ b ∧ b < w5.heap.size) w18 q u0) := ON017.out.same (fun b hb => BU.out.block b (by omega) (by omega))
  have HE : Hid (∀ w', Below w18.heap.size w18 w' → Calls Tryz.prog 20 #[u1, .int .i64 1] w' fun e w'' => e = .returned (.int .i64 (1 + (cntL q : Int))) ∧ Below w'.heap.size w' w'') := fun w' hb => heldCtlAskS_any _ q u1 1 w' (AT.out.same (Same.of_below hb (fun b hb => by omega))) (fun b hb' => by have := hb.size; omega) (by omega) (by have := CN.out; omega)
  have hcn : (cntL q : Int) ≤ 40000000 := by have := CN.out; omega
  go_wp2_with fail
  refine (HE.out w18 (Below.refl _ _)).mono ?_; rintro e w19 ⟨rfl, hb19⟩
  have s19 : w18.heap.size ≤ w19.heap.size := hb19.size
  have HB19 : Hid (Below w18.heap.size w18 w19) := hb19
  have k19 : Hid (Below (w.heap.size + 1 + 1) W w19) := k18.out.trans (hb19.mono (by omega))
  have t19 : w.heap.size + 1 + 1 ≤ w19.heap.size := by omega
  clear hb19
  obtain ⟨⟨⟨x0, x1, x2, x3⟩, y0, y1⟩, hbw⟩ := bx.out w19 k19.out
  have qx0 := fun d os => cell_regrown x0 d os
  have qx1 := fun d os => cell_regrown x1 d os
  have qx2 := fun d os => cell_regrown x2 d os
  have qx3 := fun d os => cell_regrown x3 d os
  have qy0 := fun d os => cell_regrown y0 d os
  have qy1 := fun d os => cell_regrown y1 d os
  go_wp2_with fail
  have hdr_w19 : Hid (Below w19.heap.size w19 w19.drew) := (Below.refl _ _).drew
  refine wp_region_mix 8 [0, 2, 3, 5, 7] (by kernel_rfl) (by kernel_rfl) ?_
  simp only [List.filterMap_cons, List.filterMap_nil, List.getElem?_cons_succ, List.getElem?_cons_zero]
  repeat (first | go_big_quiet_step (fail) | quiet_step (fail))
  refine wpQuiet_nil ?_
  clear qx0 qx1 qx2 qx3 qy0 qy1 x0 x1 x2 x3 y0 y1 hbw
  refine call1 (md := .any) (f := 2) (i := 1) (dc := 105) (fn := 8) ⟨rfl, rfl, rfl, by decide⟩ (by kernel_rfl) ?run ((MODEL.out w19.drew (k19.out.trans (hdr_w19.out.mono t19))).mono ?_)
  case run => go_simp
  rintro e w20 ⟨p0, p1, p2, p3, rfl, P1, hbw3⟩
  have HB1 : Hid (Below w19.heap.size w19 w20) := hdr_w19.out.trans hbw3
  have HP1 : Hid (PAt w20.heap.size w20 p0 p1 p2 p3 D) := P1
  refine ⟨_, rfl, regrown_of_below HB1.out, ?_⟩
  clear P1 hbw3
  simp only [Act.put, List.setIfInBounds_toArray, List.set_cons_zero, List.set_cons_succ]
  refine call1 (md := .any) (f := 1) (i := 4) (dc := 108) (fn := 9) ⟨rfl, rfl, rfl, by decide⟩ (by kernel_rfl) ?run ((ROUTE.out w20 (k19.out.trans (HB1.out.mono t19))).mono ?_)
  case run => go_simp
  rintro e w20r ⟨r0, r1, rfl, R1, hbw4⟩
  have HB2 : Hid (Below w19.heap.size w19 w20r) := HB1.out.trans (hbw4.mono HB1.out.size)
  have HR1 : Hid (RAt w20r.heap.size w20r (sl r0 m) (sl r1 k) m P k Q) := R1
  have HPb : Hid (PAt w20r.heap.size w20r p0 p1 p2 p3 D) := (HP1.out.kept hbw4 (Nat.le_refl _)).up hbw4.size
  refine ⟨_, rfl, regrown_of_below HB2.out, ?_⟩
  clear R1 hbw4 HP1
  simp only [Act.put, List.setIfInBounds_toArray, List.set_cons_zero, List.set_cons_succ]
  refine call1 (md := .any) (f := 0) (i := 6) (dc := 110) (fn := 10) ⟨rfl, rfl, rfl, by decide⟩ (by kernel_rfl) ?run ((OPEN.out w20r (k19.out.trans (HB2.out.mono t19))).mono ?_)
  case run => go_simp
  rintro e w21 ⟨rfl, T1, _, hbw5⟩
  have HB3 : Hid (Below w19.heap.size w19 w21) := HB2.out.trans (hbw5.mono HB2.out.size)
  have HT1 : Hid (Lst w21.heap.size w21 (.slice (some ⟨w20r.heap.size, 0, none⟩) no no) no 1 (cS fo)) := T1
  have HPc : Hid (PAt w21.heap.size w21 p0 p1 p2 p3 D) := (HPb.out.kept hbw5 (Nat.le_refl _)).up hbw5.size
  have HRc : Hid (RAt w21.heap.size w21 (sl r0 m) (sl r1 k) m P k Q) := ⟨(HR1.out.kept hbw5 (Nat.le_refl _)).p.up hbw5.size, (HR1.out.kept hbw5 (Nat.le_refl _)).v.up hbw5.size⟩
  refine ⟨_, rfl, regrown_of_below HB3.out, ?_⟩
  clear T1 hbw5 HPb HR1
  refine ⟨by kernel_rfl, ?_⟩
  simp only [List.drop_succ_cons, List.drop_zero, Act.put, List.setIfInBounds_toArray, List.set_cons_zero, List.set_cons_succ]
  have s21 : w19.heap.size ≤ w21.heap.size := HB3.out.size
  go_wp2_with fail
  refine (routeAsksI_any w21.heap.size (fun b => b < w21.heap.size) _ _ _ _ D num am _ _ m k m k P Q ((List.range no).map fo) _ _ HPc.out HRc.out.p HRc.out.v (Nat.le_refl _) hz.sz (Nat.le_refl _) (at_lst HT1.out HZO.out) (fun _ h => h) HTL.out HZT.out hn ha HSL.out).mono ?_; rintro e w22 ⟨⟨u2, q2, rfl, ii, on2⟩, hb22⟩
  have hqe : q2 = q := ra_same IS.out ii
  rw [hqe] at on2
  clear ii hqe q2
  have s22 : w21.heap.size ≤ w22.heap.size := hb22.size
  have ON2 : Hid (OnL (fun b => w21.heap.size ≤ b ∧ b < w22.heap.size) w22 q u2) := on2
  have b1822 : Hid (Below w18.heap.size w18 w22) := (HB19.out.trans (HB3.out.mono s19)).trans (hb22.mono (by omega))
  have ON022 : Hid (OnL (fun b => w4.heap.size ≤ b ∧ b < w5.heap.size) w22 q u0) := ON018.out.same (fun b hb => b1822.out.block b (by omega))
  clear on2 hb22
  go_wp2_with fail
  refine (eqCtlAskS_any _ _ q u2 u0 w22 ON2.out.at_ ON022.out.at_ (fun b hb => hb.2) (fun b hb => by omega)).mono ?_; rintro e w23 ⟨rfl, hb23⟩
  have s23 : w22.heap.size ≤ w23.heap.size := hb23.size
  have b1823 : Hid (Below w18.heap.size w18 w23) := b1822.out.trans (hb23.mono (by omega))
  clear hb23
  go_wp2_with fail
  refine (HE.out w23 b1823.out).mono ?_; rintro e w24 ⟨rfl, hb24⟩
  have k24 : Hid (Below (w.heap.size + 1 + 1) W w24) := (k18.out.trans (b1823.out.mono (by omega))).trans (hb24.mono (by omega))
  clear hb24
  go_wp2_with fail
  go_ret
  exact ⟨rfl, (bx.out _ k24.out).2⟩

end Go.Proofs.YtffmfomonmhkcabGreat
