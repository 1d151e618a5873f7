/-
  The law FnExactCtlPlaceAsks, walked: whatever the plant, the number, the kind and the places, the call returns true, and nothing that was there before has turned.
-/
import Derived.Test.YtffmfomonmhkcaaGreatBo
import Derived.Test.YtffmfomonmhkcaaGreatM46
import Derived.Test.YtffmfomonmhkcaaGreatBje
import Derived.Test.YtffmfomonmhkcaaGreatBjh
import Derived.Test.YtffmfomonmhkcaaGreatM51
import Derived.Test.YtffmfomonmhkcaaGreatM14
namespace Go.Proofs.YtffmfomonmhkcaaGreat
open Go.RowKit

theorem PAt.up {B B' : Nat} {w : World} {v0 v1 v2 v3 : Value} {D : PD} (h : PAt B w v0 v1 v2 v3 D) (hB : B ≤ B') : PAt B' w v0 v1 v2 v3 D := ⟨h.s.up hB, h.f.up hB, h.p.up hB, h.v.up hB⟩
theorem at_lst {B : Nat} {w : World} {n : Nat} {f : Nat → ByteArray} {ad : Addr} (h : Lst B w (.slice (some ad) n n) n 1 (cS f)) (hz : ∀ i, i < n → (f i).size ≤ maxLen) : AtL (fun b => b < B) w ((List.range n).map f) (.slice (some ad) n n) := by
  obtain ⟨oa, cap, ev, hn, hc⟩ := h
  cases ev
  refine ⟨some ad, n, by simp, ⟨by simpa using hn, by simp, fun h => nomatch h⟩, fun i hi => ?_⟩
  have hi' : i < n := by simpa using hi
  obtain ⟨b, off, e1, e2, h3⟩ := hc i hi'
  refine ⟨b, off, e1, e2, fun _ => .string (f i), fun j hj => ?_, ?_⟩
  · rw [width_str] at hj ⊢
    exact h3 j hj
  · rw [at_str]
    simp only [List.getElem_map, List.getElem_range]
    exact ⟨trivial, hz i hi'⟩
theorem pa_same {D : PD} {num kind : Int} {l : List ByteArray} {q q1 : List DCtlAsk} (h : PaIs D num kind l q) (h1 : PsIs D num kind l q1) : q1 = q := by
  by_cases c : D.V ∧ itsP D l ∧ (kind = 2 ∨ kind = 3)
  · rw [h.1 c, h1.1 c]; exact share_same c.1 c.2.1 num kind
  · rw [h.2 c, h1.2 c]
theorem cntL_len {α : Type} [Own α] (K : Nat) : ∀ l : List α, (∀ x ∈ l, Own.cnt x ≤ K) → cntL l ≤ K * l.length
  | [], _ => by simp [cntL, cntTo]
  | x :: l, h => by
    have h1 := h x List.mem_cons_self
    have h2 := cntL_len K l (fun y hy => h y (List.mem_cons_of_mem _ hy))
    have e1 : cntL (x :: l) = Own.cnt x + cntL l := by simp [cntL, cntTo]
    rw [e1, List.length_cons, Nat.mul_add]
    omega
theorem pa_cnt {D : PD} {num kind : Int} {l : List ByteArray} {q : List DCtlAsk} (h : PaIs D num kind l q) : cntL q ≤ 10000 := by
  by_cases c : D.V ∧ itsP D l ∧ (kind = 2 ∨ kind = 3)
  · rw [h.1 c]
    have hv : D.nv ≤ 18 := c.1.2.2.1
    have hp : D.np ≤ 14 := c.1.2.1.1
    have h8 : l.length ≤ 8 := c.2.1.2.1
    have e1 := cntL_len 200 (askL D (atD D num kind l) (stL true D)) (fun x hx => by
      obtain ⟨st, _, rfl⟩ := List.mem_map.1 hx
      have a1 : cntL (usL D st (useL l)) ≤ 3 * (usL D st (useL l)).length := cntL_len 3 _ (fun x _ => by rw [cnt_DClaimUse]; omega)
      have a2 : cntL (opL D st (insA (besL D l))) ≤ 1 * (opL D st (insA (besL D l))).length := cntL_len 1 _ (fun x _ => Nat.le_refl 1)
      have a3 := usL_len D st (useL l)
      have a4 := opL_len D st (insA (besL D l))
      have a5 := insA_len (besL D l)
      have a6 := besL_len D l
      have a7 : l.length * D.nv ≤ 8 * 18 := Nat.mul_le_mul h8 hv
      have a8 : (useL l).length = l.length := by simp [useL]
      have a9 : cntL ([] : List ByteArray) = 0 := by simp [cntL, cntTo]
      have a0 : cntL (opL D st []) = 0 := by simp [opL, cntL, cntTo]
      rw [cnt_DCtlAsk]
      show 1 + (1 + (1 + (cntL ([] : List ByteArray) + (cntL (usL D st (useL l)) + (cntL (opL D st []) + cntL (opL D st (insA (besL D l)))))))) ≤ 200
      omega)
    have e2 := askL_len D (atD D num kind l) (stL true D)
    have e3 : (stL true D).length ≤ D.np + D.nv := stnL_len D
    omega
  · rw [h.2 c]; simp [cntL, cntTo]

set_option maxRecDepth 100000 in
set_option maxHeartbeats 8000000 in
theorem lawPq_any (B : Nat) (v0 v1 v2 v3 vo : Value) (D : PD) (num kind : Int) (no : Nat) (fo : Nat → ByteArray) (w : World) (h : PAt B w v0 v1 v2 v3 D) (ho : Lst B w vo no 1 (cS fo)) (hB : B ≤ w.heap.size) (hz : D.All) (hzo : ∀ i, i < no → (fo i).size ≤ maxLen) (hn : OkI num) (hk : OkI kind) :
    Calls Tryz.prog 3 #[.agg #[v0, v1, v2, v3], .int .i64 num, .int .i64 kind, vo] w fun e w' => e = .returned (.bool true) ∧ Below w.heap.size w w' := by
  have H : Hid (∀ w', Below w.heap.size w w' → PAt B w' v0 v1 v2 v3 D ∧ Lst B w' vo no 1 (cS fo)) := fun w' hb => ⟨h.kept hb hB, ho.kept hb hB⟩
  have HZO : Hid (∀ i, i < no → (fo i).size ≤ maxLen) := hzo
  have HSL : Hid (D.V → (stnL D).length ≤ 1048576) := fun hv => by have a1 := stnL_len D; have a2 : D.np ≤ 14 := hv.2.1.1; have a3 : D.nv ≤ 18 := hv.2.2.1; omega
  clear h ho
  have k0 : Hid (Below (w.heap.size + 1) (w.alloc (.cells #[v0, v1, v2, v3] 27)) (w.alloc (.cells #[v0, v1, v2, v3] 27))) := Below.refl _ _
  go_enter Tryz.func3, Tryz.ntmps3
  go_wp2_with fail
  refine (szPlant_le B v0 v1 v2 v3 D _ (H.out _ (below_end k0.out)).1 (by simp; omega) hz).mono ?_; rintro e w1 ⟨n1, rfl, hn1, hsm1, hb1⟩
  have k1 : Hid (Below (w.heap.size + 1) (w.alloc (.cells #[v0, v1, v2, v3] 27)) w1) := below_of k0.out hb1
  have HS1 : Hid _ := hsm1
  clear hsm1 hb1
  by_cases hg1 : n1 < 0
  · go_wp2_with fail
    go_ret
    exact ⟨rfl, below_end k1.out⟩
  have s1 : w.heap.size + 1 ≤ w1.heap.size := by have := k1.out.size; simpa using this
  go_wp2_with fail
  refine (szS_any B vo no fo n1 _ (H.out _ (below_end k1.out)).2 hzo (by omega) hn1).mono ?_; rintro e w2 ⟨n2, rfl, hn2, hsm2, hb2⟩
  have k2 : Hid (Below (w.heap.size + 1) (w.alloc (.cells #[v0, v1, v2, v3] 27)) w2) := below_of k1.out hb2
  have HS2 : Hid _ := hsm2
  clear hsm2 hb2 hzo
  by_cases hg2 : n2 < 0
  · go_wp2_with fail
    go_ret
    exact ⟨rfl, below_end k2.out⟩
  have HM : Hid (D.ns ≤ 1048576 ∧ D.nf ≤ 1048576 ∧ D.np ≤ 1048576 ∧ D.nv ≤ 1048576) := HS1.out (by omega)
  have hno : no ≤ 1048576 := HS2.out (by omega)
  have s2 : w.heap.size + 1 ≤ w2.heap.size := by have := k2.out.size; simpa using this
  have bx : Hid (∀ w', Below (w.heap.size + 1) (w.alloc (.cells #[v0, v1, v2, v3] 27)) w' → w'.cell? ⟨w.heap.size, 0, none⟩ = some v0 ∧ w'.cell? ⟨w.heap.size, 1, none⟩ = some v1 ∧ w'.cell? ⟨w.heap.size, 2, none⟩ = some v2 ∧ w'.cell? ⟨w.heap.size, 3, none⟩ = some v3) := fun w' hb => ⟨box_in hb 0 _ rfl, box_in hb 1 _ rfl, box_in hb 2 _ rfl, box_in hb 3 _ rfl⟩
  have MODEL : Hid (∀ (wr : World), Below (w.heap.size + 1) (w.alloc (.cells #[v0, v1, v2, v3] 27)) wr → Calls Tryz.prog 7 #[.agg #[v0, v1, v2, v3]] wr fun e w' => ∃ u0 u1 u2 u3, e = .returned (.agg #[u0, u1, u2, u3]) ∧ PAt w'.heap.size w' u0 u1 u2 u3 D ∧ Below wr.heap.size wr w') := fun wr hb => toPlant_any B v0 v1 v2 v3 D wr (H.out wr (below_end hb)).1 (Nat.le_trans hB (below_end hb).size) HM.out
  have OPEN : Hid (∀ (wr : World), Below (w.heap.size + 1) (w.alloc (.cells #[v0, v1, v2, v3] 27)) wr → Calls Tryz.prog 8 #[vo] wr fun e w' => e = .returned (.slice (some ⟨wr.heap.size, 0, none⟩) no no) ∧ Lst w'.heap.size w' (.slice (some ⟨wr.heap.size, 0, none⟩) no no) no 1 (cS fo) ∧ Blk w'.heap.size w' wr.heap.size 9 no ∧ Below wr.heap.size wr w') := fun wr hb => toS_blk B vo no fo wr (H.out wr (below_end hb)).2 (Nat.le_trans hB (below_end hb).size) hno
  obtain ⟨a0, a1, a2, a3⟩ := bx.out w2 k2.out
  go_wp2_with fail
  refine (MODEL.out w2 k2.out).mono ?_; rintro e w3 ⟨p0, p1, p2, p3, rfl, P1, hbw3⟩
  have HP1 : Hid (PAt w3.heap.size w3 p0 p1 p2 p3 D) := P1
  have kw3 : Hid (Below (w.heap.size + 1) (w.alloc (.cells #[v0, v1, v2, v3] 27)) w3) := below_of k2.out hbw3
  have HBw3 : Hid (Below w2.heap.size w2 w3) := hbw3
  clear P1 hbw3 a0 a1 a2 a3
  go_wp2_with fail
  refine (OPEN.out w3 kw3.out).mono ?_; rintro e w4 ⟨rfl, R1, _, hbw4⟩
  have HR1 : Hid (Lst w4.heap.size w4 (.slice (some ⟨w3.heap.size, 0, none⟩) no no) no 1 (cS fo)) := R1
  have kw4 : Hid (Below (w.heap.size + 1) (w.alloc (.cells #[v0, v1, v2, v3] 27)) w4) := below_of kw3.out hbw4
  have HBw4 : Hid (Below w2.heap.size w2 w4) := HBw3.out.trans (hbw4.mono HBw3.out.size)
  have HP2 : Hid (PAt w4.heap.size w4 p0 p1 p2 p3 D) := (HP1.out.kept hbw4 (Nat.le_refl _)).up hbw4.size
  clear R1 hbw4 HP1
  have s4 : w2.heap.size ≤ w4.heap.size := HBw4.out.size
  go_wp2_with fail
  refine (placeAsksS_any w4.heap.size (fun b => b < w4.heap.size) p0 p1 p2 p3 D num kind ((List.range no).map fo) _ _ HP2.out (Nat.le_refl _) hz.sz (at_lst HR1.out HZO.out) (fun _ h => h) hn hk HSL.out).mono ?_; rintro e w5 ⟨u0, q, rfl, is, on0, hb5⟩
  have IS : Hid (PaIs D num kind ((List.range no).map fo) q) := is
  have CN : Hid (cntL q ≤ 10000) := pa_cnt is
  have k5 : Hid (Below (w.heap.size + 1) (w.alloc (.cells #[v0, v1, v2, v3] 27)) w5) := below_of kw4.out hb5
  have ON0 : Hid (OnL (fun b => w4.heap.size ≤ b ∧ b < w5.heap.size) w5 q u0) := on0
  have s45 := hb5.size
  clear is on0 hb5 HP2 HR1 HBw4 HBw3 kw3 kw4
  have s5 : w.heap.size + 1 ≤ w5.heap.size := by have := k5.out.size; simpa using this
  obtain ⟨a0, a1, a2, a3⟩ := bx.out w5 k5.out
  go_wp2_with fail
  refine (toPlant_blk B v0 v1 v2 v3 D _ (H.out w5 (below_end k5.out)).1 (by omega) HM.out).mono ?_; rintro e w6 ⟨g0, g1, g2, g3, rfl, P2, PB, hb6⟩
  have HP2 : Hid (PAt w6.heap.size w6 (sl g0 D.ns) (sl g1 D.nf) (sl g2 D.np) (sl g3 D.nv) D) := P2
  have HPB : Hid (PBlk w5.heap.size w6.heap.size w6 g0 g1 g2 g3 D) := PB
  have s6 : w5.heap.size ≤ w6.heap.size := hb6.size
  obtain ⟨w6a, hw6a⟩ : ∃ u, u = w6.alloc (.cells #[sl g0 D.ns, sl g1 D.nf, sl g2 D.np, sl g3 D.nv] 36) := ⟨_, rfl⟩
  have HW6 : Hid (w6a = w6.alloc (.cells #[sl g0 D.ns, sl g1 D.nf, sl g2 D.np, sl g3 D.nv] 36)) := hw6a
  have b6 : Hid (Below w6.heap.size w6 w6a) := by rw [hw6a]; exact (Below.refl _ _).alloc (Nat.le_refl _) _
  have X6 : Hid (w6a.heap[w6.heap.size]? = some (.cells #[sl g0 D.ns, sl g1 D.nf, sl g2 D.np, sl g3 D.nv] 36 (0, 0))) := by rw [hw6a]; exact heap_alloc_new w6 _
  have s6a : w6.heap.size < w6a.heap.size := by rw [hw6a]; simp
  have b56 : Hid (Below w5.heap.size w5 w6a) := hb6.trans (b6.out.mono s6)
  have k6a : Hid (Below (w.heap.size + 1) (w.alloc (.cells #[v0, v1, v2, v3] 27)) w6a) := below_of k5.out b56.out
  clear hw6a P2 PB hb6 a0 a1 a2 a3
  go_upto_region 10 with fail
  rw [← HW6.out]
  go_wp2_with fail
  refine (OPEN.out w6a k6a.out).mono ?_; rintro e w8 ⟨rfl, R2, RB0, hb8⟩
  have HR2 : Hid (Lst w8.heap.size w8 (.slice (some ⟨w6a.heap.size, 0, none⟩) no no) no 1 (cS fo)) := R2
  have HRB0 : Hid (Blk w8.heap.size w8 w6a.heap.size 9 no) := RB0
  have b78 : Hid (Below w6a.heap.size w6a w8) := hb8
  have s8 : w6a.heap.size ≤ w8.heap.size := hb8.size
  have X68 : Hid (w8.heap[w6.heap.size]? = some (.cells #[sl g0 D.ns, sl g1 D.nf, sl g2 D.np, sl g3 D.nv] 36 (0, 0))) := (hb8.block _ (by omega)).trans X6.out
  have k8 : Hid (Below (w.heap.size + 1) (w.alloc (.cells #[v0, v1, v2, v3] 27)) w8) := below_of k6a.out hb8
  clear R2 RB0 hb8
  have d0 := (cell_row X68.out 0 (sl g0 D.ns) rfl).1
  have d1 := (cell_row X68.out 1 (sl g1 D.nf) rfl).1
  have d2 := (cell_row X68.out 2 (sl g2 D.np) rfl).1
  have d3 := (cell_row X68.out 3 (sl g3 D.nv) rfl).1
  have bW8 : Hid (Below w6.heap.size w6 w8) := b6.out.trans (b78.out.mono (by omega))
  go_wp2_with fail
  refine (placeAsksI_any w8.heap.size (fun b => b < w8.heap.size) _ _ _ _ D num kind ((List.range no).map fo) _ _ ((HP2.out.kept bW8.out (Nat.le_refl _)).up (by omega)) (Nat.le_refl _) hz.sz (at_lst HR2.out HZO.out) (fun _ h => h) hn hk HSL.out).mono ?_; rintro e w9 ⟨⟨u1, q1, rfl, ii, on1⟩, hb9⟩
  have hqe : q1 = q := pa_same IS.out ii
  rw [hqe] at on1
  clear ii hqe d0 d1 d2 d3 q1
  have s9 : w8.heap.size ≤ w9.heap.size := hb9.size
  have ON1 : Hid (OnL (fun b => w8.heap.size ≤ b ∧ b < w9.heap.size) w9 q u1) := on1
  have b89 : Hid (Below w8.heap.size w8 w9) := hb9
  have k9 : Hid (Below (w.heap.size + 1) (w.alloc (.cells #[v0, v1, v2, v3] 27)) w9) := below_of k8.out hb9
  have b59 : Hid (Below w5.heap.size w5 w9) := (b56.out.trans (b78.out.mono (by omega))).trans (b89.out.mono (by omega))
  have ON09 : Hid (OnL (fun b => w4.heap.size ≤ b ∧ b < w5.heap.size) w9 q u0) := ON0.out.same (fun b hb => b59.out.block b hb.2)
  clear on1 hb9
  go_wp2_with fail
  refine (eqCtlAskS_any _ _ q u1 u0 w9 ON1.out.at_ ON09.out.at_ (fun b hb => hb.2) (fun b hb => by omega)).mono ?_; rintro e w10 ⟨rfl, hb10⟩
  have s10 : w9.heap.size ≤ w10.heap.size := hb10.size
  have b910 : Hid (Below w9.heap.size w9 w10) := hb10
  have k10 : Hid (Below (w.heap.size + 1) (w.alloc (.cells #[v0, v1, v2, v3] 27)) w10) := below_of k9.out hb10
  have t10 : w.heap.size + 1 ≤ w10.heap.size := by omega
  have X610 : Hid (w10.heap[w6.heap.size]? = some (.cells #[sl g0 D.ns, sl g1 D.nf, sl g2 D.np, sl g3 D.nv] 36 (0, 0))) := (hb10.block _ (by omega)).trans ((b89.out.block _ (by omega)).trans X68.out)
  clear hb10
  have d0 := (cell_row X610.out 0 (sl g0 D.ns) rfl).1
  have d1 := (cell_row X610.out 1 (sl g1 D.nf) rfl).1
  have d2 := (cell_row X610.out 2 (sl g2 D.np) rfl).1
  have d3 := (cell_row X610.out 3 (sl g3 D.nv) rfl).1
  obtain ⟨x0, x1, x2, x3⟩ := bx.out w10 k10.out
  have qx0 := fun d os => cell_regrown x0 d os
  have qx1 := fun d os => cell_regrown x1 d os
  have qx2 := fun d os => cell_regrown x2 d os
  have qx3 := fun d os => cell_regrown x3 d os
  have qd0 := fun d os => cell_regrown d0 d os
  have qd1 := fun d os => cell_regrown d1 d os
  have qd2 := fun d os => cell_regrown d2 d os
  have qd3 := fun d os => cell_regrown d3 d os
  go_wp2_with fail
  have hdr : Hid (Below w10.heap.size w10 w10.drew) := (Below.refl _ _).drew
  refine wp_region_mix 3 [0, 1] (by kernel_rfl) (by kernel_rfl) ?_
  simp only [List.filterMap_cons, List.filterMap_nil, List.getElem?_cons_succ, List.getElem?_cons_zero]
  repeat (first | go_big_quiet_step (fail) | quiet_step (fail))
  refine wpQuiet_nil ?_
  refine call1 (md := .any) (f := 0) (i := 2) (dc := 50) (fn := 7) ⟨rfl, rfl, rfl, by decide⟩ (by kernel_rfl) ?run ((MODEL.out w10.drew (k10.out.trans (hdr.out.mono t10))).mono ?_)
  case run => go_simp
  rintro e w11 ⟨p0, p1, p2, p3, rfl, P3, hbw11⟩
  have HBw11 : Hid (Below w10.heap.size w10 w11) := hdr.out.trans hbw11
  have HP3 : Hid (PAt w11.heap.size w11 p0 p1 p2 p3 D) := P3
  clear P3 hbw11 qx0 qx1 qx2 qx3 qd0 qd1 qd2 qd3 d0 d1 d2 d3 x0 x1 x2 x3
  refine ⟨_, rfl, regrown_of_below HBw11.out, ?_⟩
  refine ⟨by kernel_rfl, ?_⟩
  simp only [List.drop_succ_cons, List.drop_zero, Act.put, List.setIfInBounds_toArray, List.set_cons_zero, List.set_cons_succ]
  have s11 : w10.heap.size ≤ w11.heap.size := HBw11.out.size
  have b911 : Hid (Below w9.heap.size w9 w11) := b910.out.trans (HBw11.out.mono s10)
  have b611 : Hid (Below w6.heap.size w6 w11) := (bW8.out.trans (b89.out.mono (by omega))).trans (b911.out.mono (by omega))
  go_wp2_with fail
  refine (eqPlant_any w6.heap.size w11.heap.size _ _ _ _ p0 p1 p2 p3 D _ (HP2.out.kept b611.out (Nat.le_refl _)) HP3.out (by omega) (Nat.le_refl _)).mono ?_; rintro e w12 ⟨rfl, hb12⟩
  have s12 : w11.heap.size ≤ w12.heap.size := hb12.size
  have b912 : Hid (Below w9.heap.size w9 w12) := b911.out.trans (hb12.mono (by omega))
  have k12 : Hid (Below (w.heap.size + 1) (w.alloc (.cells #[v0, v1, v2, v3] 27)) w12) := below_of k9.out b912.out
  clear hb12 HP3 HBw11
  go_wp2_with fail
  refine (OPEN.out w12 k12.out).mono ?_; rintro e w13 ⟨rfl, R3, _, hb13⟩
  have HR3 : Hid (Lst w13.heap.size w13 (.slice (some ⟨w12.heap.size, 0, none⟩) no no) no 1 (cS fo)) := R3
  have s13 : w12.heap.size ≤ w13.heap.size := hb13.size
  have b913 : Hid (Below w9.heap.size w9 w13) := b912.out.trans (hb13.mono (by omega))
  have b813 : Hid (Below w8.heap.size w8 w13) := b89.out.trans (b913.out.mono (by omega))
  clear R3 hb13
  go_wp2_with fail
  refine (eqS_lst w8.heap.size w13.heap.size _ _ no fo _ (HR2.out.kept b813.out (Nat.le_refl _)) HR3.out (by omega) (Nat.le_refl _)).mono ?_; rintro e w14 ⟨rfl, hb14⟩
  have s14 : w13.heap.size ≤ w14.heap.size := hb14.size
  have b914 : Hid (Below w9.heap.size w9 w14) := b913.out.trans (hb14.mono (by omega))
  have b614 : Hid (Below w6.heap.size w6 w14) := (bW8.out.trans (b89.out.mono (by omega))).trans (b914.out.mono (by omega))
  have b814 : Hid (Below w8.heap.size w8 w14) := b813.out.trans (hb14.mono (by omega))
  have k14 : Hid (Below (w.heap.size + 1) (w.alloc (.cells #[v0, v1, v2, v3] 27)) w14) := below_of k9.out b914.out
  have X614 : Hid (w14.heap[w6.heap.size]? = some (.cells #[sl g0 D.ns, sl g1 D.nf, sl g2 D.np, sl g3 D.nv] 36 (0, 0))) := (b914.out.block _ (by omega)).trans ((b89.out.block _ (by omega)).trans X68.out)
  have ON114 : Hid (OnL (fun b => w8.heap.size ≤ b ∧ b < w9.heap.size) w14 q u1) := ON1.out.same (fun b hb => b914.out.block b hb.2)
  have ON014 : Hid (OnL (fun b => w4.heap.size ≤ b ∧ b < w5.heap.size) w14 q u0) := ON09.out.same (fun b hb => b914.out.block b (by omega))
  clear hb14 HR3
  have d0 := (cell_row X614.out 0 (sl g0 D.ns) rfl).1
  have d1 := (cell_row X614.out 1 (sl g1 D.nf) rfl).1
  have d2 := (cell_row X614.out 2 (sl g2 D.np) rfl).1
  have d3 := (cell_row X614.out 3 (sl g3 D.nv) rfl).1
  have pb14 : Hid (PBlk w5.heap.size w6.heap.size w14 g0 g1 g2 g3 D) := ⟨HPB.out.a, HPB.out.s.kept b614.out (Nat.le_refl _), HPB.out.f.kept b614.out (Nat.le_refl _), HPB.out.p.kept b614.out (Nat.le_refl _), HPB.out.v.kept b614.out (Nat.le_refl _)⟩
  go_wp2_with fail
  refine (markPlant_le w5.heap.size w6.heap.size g0 g1 g2 g3 D _ pb14.out (by omega) s6 HM.out).mono ?_; rintro e w15 ⟨kk, rfl, ⟨hkk1, hkk2⟩, o15⟩
  have O15 : Hid (Outs w5.heap.size w6.heap.size w14 w15) := o15
  have s15 : w14.heap.size ≤ w15.heap.size := o15.bel.size
  obtain ⟨lb, cb, hcb, hcs⟩ : Blk w8.heap.size w15 w6a.heap.size 9 no := ⟨(HRB0.out.kept b814.out (Nat.le_refl _)).1, o15.blk _ _ _ (HRB0.out.kept b814.out (Nat.le_refl _)).2⟩
  have HCB : Hid _ := hcb
  clear o15 d0 d1 d2 d3 hcb
  go_wp2_with fail
  refine (mkS_any w6a.heap.size w8.heap.size w6a.heap.size no no no kk cb _ HCB.out hcs (Nat.le_refl _) lb (Nat.le_refl _) hkk1 (by omega)).mono ?_; rintro e w16 ⟨rfl, o16, _⟩
  have O16 : Hid (Outs w6a.heap.size w8.heap.size w15 w16) := o16
  have s16 : w15.heap.size ≤ w16.heap.size := o16.bel.size
  clear o16
  have ON116 : Hid (OnL (fun b => w8.heap.size ≤ b ∧ b < w9.heap.size) w16 q u1) := (ON114.out.same (fun b hb => O15.out.out b (by omega) (by omega))).same (fun b hb => O16.out.out b (by omega) (by omega))
  have ON016 : Hid (OnL (fun b => w4.heap.size ≤ b ∧ b < w5.heap.size) w16 q u0) := (ON014.out.same (fun b hb => O15.out.bel.block b hb.2)).same (fun b hb => O16.out.bel.block b (by omega))
  have k16 : Hid (Below (w.heap.size + 1) (w.alloc (.cells #[v0, v1, v2, v3] 27)) w16) := (k14.out.trans (O15.out.bel.mono s5)).trans (O16.out.bel.mono (by omega))
  have dkj : decide (kk + (no : Int) < 0) = false := by simp; omega
  go_wp2_with fail
  refine (eqCtlAskS_any _ _ q u1 u0 w16 ON116.out.at_ ON016.out.at_ (fun b hb => by omega) (fun b hb => by omega)).mono ?_; rintro e w17 ⟨rfl, hb17⟩
  have s17 : w16.heap.size ≤ w17.heap.size := hb17.size
  have HB17 : Hid (Below w16.heap.size w16 w17) := hb17
  have ON117 : Hid (OnL (fun b => w8.heap.size ≤ b ∧ b < w9.heap.size) w17 q u1) := ON116.out.same (fun b hb => hb17.block b (by omega))
  have ON017 : Hid (OnL (fun b => w4.heap.size ≤ b ∧ b < w5.heap.size) w17 q u0) := ON016.out.same (fun b hb => hb17.block b (by omega))
  clear hb17
  go_wp2_with fail
  refine (markCtlAskS_any _ q u1 1 w17 ON117.out (fun b hb => by omega) (by omega) (by have := CN.out; omega)).mono ?_; rintro e w18 ⟨rfl, O18, hbu⟩
  have s18 : w17.heap.size ≤ w18.heap.size := hbu.size
  have BU : Hid (But (fun b => w8.heap.size ≤ b ∧ b < w9.heap.size) w17 w18) := hbu
  have AT : Hid (AtL (fun b => w8.heap.size ≤ b ∧ b < w9.heap.size) w18 (mkL 1 q) u1) := O18.at_
  clear O18 hbu
  have k18 : Hid (Below (w.heap.size + 1) (w.alloc (.cells #[v0, v1, v2, v3] 27)) w18) := (k16.out.trans (HB17.out.mono (by omega))).trans (BU.out.below (B := w.heap.size + 1) (fun b hb => by omega) (by omega))
  have ON018 : Hid (OnL (fun b => w4.heap.size ≤ b ∧ b < w5.heap.size) w18 q u0) := ON017.out.same (fun b hb => BU.out.block b (by omega) (by omega))
  have HE : Hid (∀ w', Below w18.heap.size w18 w' → Calls Tryz.prog 16 #[u1, .int .i64 1] w' fun e w'' => e = .returned (.int .i64 (1 + (cntL q : Int))) ∧ Below w'.heap.size w' w'') := fun w' hb => heldCtlAskS_any _ q u1 1 w' (AT.out.same (Same.of_below hb (fun b hb => by omega))) (fun b hb' => by have := hb.size; omega) (by omega) (by have := CN.out; omega)
  have hcn : (cntL q : Int) ≤ 10000 := by have := CN.out; omega
  go_wp2_with fail
  refine (HE.out w18 (Below.refl _ _)).mono ?_; rintro e w19 ⟨rfl, hb19⟩
  have s19 : w18.heap.size ≤ w19.heap.size := hb19.size
  have HB19 : Hid (Below w18.heap.size w18 w19) := hb19
  have k19 : Hid (Below (w.heap.size + 1) (w.alloc (.cells #[v0, v1, v2, v3] 27)) w19) := below_of k18.out hb19
  clear hb19
  obtain ⟨a0, a1, a2, a3⟩ := bx.out w19 k19.out
  go_wp2_with fail
  refine (MODEL.out w19 k19.out).mono ?_; rintro e w20 ⟨p0, p1, p2, p3, rfl, P1, hbw20⟩
  have HP1 : Hid (PAt w20.heap.size w20 p0 p1 p2 p3 D) := P1
  have kw20 : Hid (Below (w.heap.size + 1) (w.alloc (.cells #[v0, v1, v2, v3] 27)) w20) := below_of k19.out hbw20
  have HBw20 : Hid (Below w19.heap.size w19 w20) := hbw20
  clear P1 hbw20 a0 a1 a2 a3
  go_wp2_with fail
  refine (OPEN.out w20 kw20.out).mono ?_; rintro e w21 ⟨rfl, R1, _, hbw21⟩
  have HR1 : Hid (Lst w21.heap.size w21 (.slice (some ⟨w20.heap.size, 0, none⟩) no no) no 1 (cS fo)) := R1
  have HBw21 : Hid (Below w19.heap.size w19 w21) := HBw20.out.trans (hbw21.mono HBw20.out.size)
  have HP3 : Hid (PAt w21.heap.size w21 p0 p1 p2 p3 D) := (HP1.out.kept hbw21 (Nat.le_refl _)).up hbw21.size
  clear R1 hbw21 HP1
  have s21 : w19.heap.size ≤ w21.heap.size := HBw21.out.size
  go_wp2_with fail
  refine (placeAsksI_any w21.heap.size (fun b => b < w21.heap.size) _ _ _ _ D num kind ((List.range no).map fo) _ _ HP3.out (Nat.le_refl _) hz.sz (at_lst HR1.out HZO.out) (fun _ h => h) hn hk HSL.out).mono ?_; rintro e w22 ⟨⟨u2, q2, rfl, ii, on2⟩, hb22⟩
  have hqe : q2 = q := pa_same IS.out ii
  rw [hqe] at on2
  clear ii hqe q2
  have s22 : w21.heap.size ≤ w22.heap.size := hb22.size
  have ON2 : Hid (OnL (fun b => w21.heap.size ≤ b ∧ b < w22.heap.size) w22 q u2) := on2
  have b1822 : Hid (Below w18.heap.size w18 w22) := (HB19.out.trans (HBw21.out.mono s19)).trans (hb22.mono (by omega))
  have ON022 : Hid (OnL (fun b => w4.heap.size ≤ b ∧ b < w5.heap.size) w22 q u0) := ON018.out.same (fun b hb => b1822.out.block b (by omega))
  clear on2 hb22
  go_wp2_with fail
  refine (eqCtlAskS_any _ _ q u2 u0 w22 ON2.out.at_ ON022.out.at_ (fun b hb => hb.2) (fun b hb => by omega)).mono ?_; rintro e w23 ⟨rfl, hb23⟩
  have s23 : w22.heap.size ≤ w23.heap.size := hb23.size
  have b1823 : Hid (Below w18.heap.size w18 w23) := b1822.out.trans (hb23.mono (by omega))
  clear hb23
  go_wp2_with fail
  refine (HE.out w23 b1823.out).mono ?_; rintro e w24 ⟨rfl, hb24⟩
  have k24 : Hid (Below (w.heap.size + 1) (w.alloc (.cells #[v0, v1, v2, v3] 27)) w24) := (k18.out.trans (b1823.out.mono (by omega))).trans (hb24.mono (by omega))
  clear hb24
  go_wp2_with fail
  go_ret
  exact ⟨rfl, below_end k24.out⟩

end Go.Proofs.YtffmfomonmhkcaaGreat
