/-
  Several texts in one.
-/
import Derived.Test.YtndacfockllehaaGreatJo
import Derived.Test.YtndacfockllehaaGreatM15
import Derived.Test.YtndacfockllehaaGreatM34
import Derived.Deep.Cut
/-
  Contracts of what the laws themselves do with a job: whether two are the same, its marks.
-/
namespace Go.Proofs.YtndacfockllehaaGreat
open Go.RowKit Go.Sort

set_option maxRecDepth 100000 in
set_option maxHeartbeats 4000000 in
theorem eqJob_any (B B' : Nat) (num kind am st mv : Int) (dn : Bool) (ap av a3 a4 a7 bp bv b3 b4 b7 : Value) (m k n3 n4 n7 : Nat) (P Q f3 f4 f7 : Nat → ByteArray) (w : World) (h : JAt B w ap av a3 a4 a7 m P k Q n3 f3 n4 f4 n7 f7) (h' : JAt B' w bp bv b3 b4 b7 m P k Q n3 f3 n4 f4 n7 f7) (hB : B ≤ w.heap.size) (hB' : B' ≤ w.heap.size) :
    Calls Tryz.prog 12 #[.agg #[.int .i64 num, .int .i64 kind, ap, av, a3, a4, .int .i64 am, .int .i64 st, a7, .int .i64 mv, .bool dn], .agg #[.int .i64 num, .int .i64 kind, bp, bv, b3, b4, .int .i64 am, .int .i64 st, b7, .int .i64 mv, .bool dn]] w fun e w' => e = .returned (.bool true) ∧ Below w.heap.size w w' := by
  have H : Hid (∀ w', Below w.heap.size w w' → JAt B w' ap av a3 a4 a7 m P k Q n3 f3 n4 f4 n7 f7 ∧ JAt B' w' bp bv b3 b4 b7 m P k Q n3 f3 n4 f4 n7 f7) := fun w' hb => ⟨h.kept hb hB, h'.kept hb hB'⟩
  clear h h'
  have k0 : Hid (Below (w.heap.size + 1 + 1) ((w.alloc (.cells #[.int .i64 num, .int .i64 kind, ap, av, a3, a4, .int .i64 am, .int .i64 st, a7, .int .i64 mv, .bool dn] 44)).alloc (.cells #[.int .i64 num, .int .i64 kind, bp, bv, b3, b4, .int .i64 am, .int .i64 st, b7, .int .i64 mv, .bool dn] 44)) ((w.alloc (.cells #[.int .i64 num, .int .i64 kind, ap, av, a3, a4, .int .i64 am, .int .i64 st, a7, .int .i64 mv, .bool dn] 44)).alloc (.cells #[.int .i64 num, .int .i64 kind, bp, bv, b3, b4, .int .i64 am, .int .i64 st, b7, .int .i64 mv, .bool dn] 44))) := Below.refl _ _
  go_enter Tryz.func12, Tryz.ntmps12
  go_wp2_with fail
  have e0 := two_end k0.out
  have z0 := e0.size
  refine (eqRoute_any B B' ap av bp bv m k P Q _ (H.out _ e0).1.r (H.out _ e0).2.r (by omega) (by omega)).mono ?_; rintro e w1 ⟨rfl, hb1⟩
  have k1 : Hid (Below (w.heap.size + 1 + 1) ((w.alloc (.cells #[.int .i64 num, .int .i64 kind, ap, av, a3, a4, .int .i64 am, .int .i64 st, a7, .int .i64 mv, .bool dn] 44)).alloc (.cells #[.int .i64 num, .int .i64 kind, bp, bv, b3, b4, .int .i64 am, .int .i64 st, b7, .int .i64 mv, .bool dn] 44)) w1) := k0.out.trans (hb1.mono (by simp))
  clear hb1 e0 z0
  obtain ⟨X1, Y1⟩ := two_box k1.out
  have x1_4 := X1 4 (a3) rfl
  have y1_4 := Y1 4 (b3) rfl
  have e1 := two_end k1.out
  have z1 := e1.size
  clear X1 Y1
  go_wp2_with fail
  refine (eqS_lst B B' a3 b3 n3 f3 _ (H.out _ e1).1.a (H.out _ e1).2.a (by omega) (by omega)).mono ?_; rintro e w2 ⟨rfl, hb2⟩
  have k2 : Hid (Below (w.heap.size + 1 + 1) ((w.alloc (.cells #[.int .i64 num, .int .i64 kind, ap, av, a3, a4, .int .i64 am, .int .i64 st, a7, .int .i64 mv, .bool dn] 44)).alloc (.cells #[.int .i64 num, .int .i64 kind, bp, bv, b3, b4, .int .i64 am, .int .i64 st, b7, .int .i64 mv, .bool dn] 44)) w2) := k1.out.trans (hb2.mono (by have := k1.out.size; simp at this; omega))
  clear hb2 e1 z1 x1_4 y1_4
  obtain ⟨X2, Y2⟩ := two_box k2.out
  have x2_5 := X2 5 (a4) rfl
  have y2_5 := Y2 5 (b4) rfl
  have e2 := two_end k2.out
  have z2 := e2.size
  clear X2 Y2
  go_wp2_with fail
  refine (eqS_lst B B' a4 b4 n4 f4 _ (H.out _ e2).1.b (H.out _ e2).2.b (by omega) (by omega)).mono ?_; rintro e w3 ⟨rfl, hb3⟩
  have k3 : Hid (Below (w.heap.size + 1 + 1) ((w.alloc (.cells #[.int .i64 num, .int .i64 kind, ap, av, a3, a4, .int .i64 am, .int .i64 st, a7, .int .i64 mv, .bool dn] 44)).alloc (.cells #[.int .i64 num, .int .i64 kind, bp, bv, b3, b4, .int .i64 am, .int .i64 st, b7, .int .i64 mv, .bool dn] 44)) w3) := k2.out.trans (hb3.mono (by have := k2.out.size; simp at this; omega))
  clear hb3 e2 z2 x2_5 y2_5
  obtain ⟨X3, Y3⟩ := two_box k3.out
  have x3_6 := X3 6 (.int .i64 am) rfl
  have y3_6 := Y3 6 (.int .i64 am) rfl
  have x3_7 := X3 7 (.int .i64 st) rfl
  have y3_7 := Y3 7 (.int .i64 st) rfl
  have x3_8 := X3 8 (a7) rfl
  have y3_8 := Y3 8 (b7) rfl
  have e3 := two_end k3.out
  have z3 := e3.size
  clear X3 Y3
  go_wp2_with fail
  refine (eqS_lst B B' a7 b7 n7 f7 _ (H.out _ e3).1.c (H.out _ e3).2.c (by omega) (by omega)).mono ?_; rintro e w4 ⟨rfl, hb4⟩
  have k4 : Hid (Below (w.heap.size + 1 + 1) ((w.alloc (.cells #[.int .i64 num, .int .i64 kind, ap, av, a3, a4, .int .i64 am, .int .i64 st, a7, .int .i64 mv, .bool dn] 44)).alloc (.cells #[.int .i64 num, .int .i64 kind, bp, bv, b3, b4, .int .i64 am, .int .i64 st, b7, .int .i64 mv, .bool dn] 44)) w4) := k3.out.trans (hb4.mono (by have := k3.out.size; simp at this; omega))
  clear hb4 e3 z3 x3_6 y3_6 x3_7 y3_7 x3_8 y3_8
  obtain ⟨X4, Y4⟩ := two_box k4.out
  have x4_9 := X4 9 (.int .i64 mv) rfl
  have y4_9 := Y4 9 (.int .i64 mv) rfl
  have x4_10 := X4 10 (.bool dn) rfl
  have y4_10 := Y4 10 (.bool dn) rfl
  have e4 := two_end k4.out
  have z4 := e4.size
  clear X4 Y4
  clear z4
  go_wp2_with fail
  go_ret
  exact ⟨rfl, e4⟩

set_option maxRecDepth 100000 in
set_option maxHeartbeats 4000000 in
theorem markJob_any (A B g0 g1 g3 g4 g7 : Nat) (num kind am st mv : Int) (dn : Bool) (m k n3 n4 n7 : Nat) (k0 : Int) (w : World) (h : JBlk A B w g0 g1 g3 g4 g7 m k n3 n4 n7) (hB : B ≤ w.heap.size) (hm : JM m k n3 n4 n7) (hk0 : 1 ≤ k0) (hk1 : k0 ≤ 13000000) :
    Calls Tryz.prog 14 #[.agg #[.int .i64 num, .int .i64 kind, sl g0 m, sl g1 k, sl g3 n3, sl g4 n4, .int .i64 am, .int .i64 st, sl g7 n7, .int .i64 mv, .bool dn], .int .i64 k0] w fun e w' => ∃ y : Int, e = .returned (.int .i64 y) ∧ (1 ≤ y ∧ y ≤ k0 + 5242880) ∧ Outs A B w w' := by
  have H : Hid (∀ w', Outs A B w w' → JBlk A B w' g0 g1 g3 g4 g7 m k n3 n4 n7) := fun w' ho => h.outs ho
  obtain ⟨lo0, lo1, lo3, lo4, lo7⟩ := h.lo
  have hA : A ≤ w.heap.size := by have := h.p.1; omega
  obtain ⟨mp, mq, m3, m4, m7⟩ := hm
  clear h
  have O0 : Hid (Outs A B w (w.alloc (.cells #[.int .i64 num, .int .i64 kind, sl g0 m, sl g1 k, sl g3 n3, sl g4 n4, .int .i64 am, .int .i64 st, sl g7 n7, .int .i64 mv, .bool dn] 44))) := Outs.of_below ((Below.refl _ _).alloc (Nat.le_refl _) _) hA
  have bx : Hid (∀ w' : World, Outs A B (w.alloc (.cells #[.int .i64 num, .int .i64 kind, sl g0 m, sl g1 k, sl g3 n3, sl g4 n4, .int .i64 am, .int .i64 st, sl g7 n7, .int .i64 mv, .bool dn] 44)) w' → w'.heap[w.heap.size]? = some (.cells #[.int .i64 num, .int .i64 kind, sl g0 m, sl g1 k, sl g3 n3, sl g4 n4, .int .i64 am, .int .i64 st, sl g7 n7, .int .i64 mv, .bool dn] 44 (0, 0))) := fun w' ho => (ho.out _ hB (by simp)).trans (heap_alloc_new w _)
  go_enter Tryz.func14, Tryz.ntmps14
  go_wp2_with fail
  refine (markRoute_any A B g0 g1 m k k0 _ lo0 lo1 (H.out _ O0.out).p (H.out _ O0.out).q (by simp; omega) mp mq hk0 (by omega)).mono ?_; rintro e w1 ⟨y1, rfl, ⟨l1, r1⟩, o1⟩
  have P1 : Hid (Outs A B (w.alloc (.cells #[.int .i64 num, .int .i64 kind, sl g0 m, sl g1 k, sl g3 n3, sl g4 n4, .int .i64 am, .int .i64 st, sl g7 n7, .int .i64 mv, .bool dn] 44)) w1) := o1
  have O1 : Hid (Outs A B w w1) := O0.out.trans o1
  clear o1
  obtain ⟨x4, _⟩ := cell_row (bx.out w1 P1.out) 4 _ rfl
  simp only [List.getElem_toArray, List.getElem_cons_zero, List.getElem_cons_succ] at x4
  obtain ⟨lb4, c4, cb4, cz4⟩ := (H.out _ O1.out).a
  have HCB4 : Hid (w1.heap[g3]? = some (.cells c4 9 (0, 0))) := cb4
  clear cb4
  go_wp2_with fail
  refine (mkS_any A B g3 n3 n3 n3 y1 c4 _ HCB4.out cz4 lo3 lb4 (Nat.le_refl _) (by omega) (by omega)).mono ?_; rintro e w2 ⟨rfl, o2, _⟩
  have P2 : Hid (Outs A B (w.alloc (.cells #[.int .i64 num, .int .i64 kind, sl g0 m, sl g1 k, sl g3 n3, sl g4 n4, .int .i64 am, .int .i64 st, sl g7 n7, .int .i64 mv, .bool dn] 44)) w2) := P1.out.trans o2
  have O2 : Hid (Outs A B w w2) := O1.out.trans o2
  clear o2 x4
  obtain ⟨x5, _⟩ := cell_row (bx.out w2 P2.out) 5 _ rfl
  simp only [List.getElem_toArray, List.getElem_cons_zero, List.getElem_cons_succ] at x5
  obtain ⟨lb5, c5, cb5, cz5⟩ := (H.out _ O2.out).b
  have HCB5 : Hid (w2.heap[g4]? = some (.cells c5 9 (0, 0))) := cb5
  clear cb5
  go_wp2_with fail
  refine (mkS_any A B g4 n4 n4 n4 (y1 + n3) c5 _ HCB5.out cz5 lo4 lb5 (Nat.le_refl _) (by omega) (by omega)).mono ?_; rintro e w3 ⟨rfl, o3, _⟩
  have P3 : Hid (Outs A B (w.alloc (.cells #[.int .i64 num, .int .i64 kind, sl g0 m, sl g1 k, sl g3 n3, sl g4 n4, .int .i64 am, .int .i64 st, sl g7 n7, .int .i64 mv, .bool dn] 44)) w3) := P2.out.trans o3
  have O3 : Hid (Outs A B w w3) := O2.out.trans o3
  clear o3 x5
  obtain ⟨x8, _⟩ := cell_row (bx.out w3 P3.out) 8 _ rfl
  simp only [List.getElem_toArray, List.getElem_cons_zero, List.getElem_cons_succ] at x8
  obtain ⟨lb8, c8, cb8, cz8⟩ := (H.out _ O3.out).c
  have HCB8 : Hid (w3.heap[g7]? = some (.cells c8 9 (0, 0))) := cb8
  clear cb8
  go_wp2_with fail
  refine (mkS_any A B g7 n7 n7 n7 ((y1 + n3) + n4) c8 _ HCB8.out cz8 lo7 lb8 (Nat.le_refl _) (by omega) (by omega)).mono ?_; rintro e w4 ⟨rfl, o4, _⟩
  have P4 : Hid (Outs A B (w.alloc (.cells #[.int .i64 num, .int .i64 kind, sl g0 m, sl g1 k, sl g3 n3, sl g4 n4, .int .i64 am, .int .i64 st, sl g7 n7, .int .i64 mv, .bool dn] 44)) w4) := P3.out.trans o4
  have O4 : Hid (Outs A B w w4) := O3.out.trans o4
  clear o4 x8
  go_wp2_with fail
  go_ret
  exact ⟨_, rfl, by omega, O4.out⟩

end Go.Proofs.YtndacfockllehaaGreat

/-
  What is asked of types whose lists are made.
-/
namespace Go.Proofs.YtndacfockllehaaGreat
open Go.RowKit

theorem underStringS : Tryz.prog.underlying 22 = some (.slice 9) := by kernel_rfl
theorem infoStringS : (Tryz.prog.info? 9).map (fun i => (i.zero, i.size, i.bytes)) = some (some (.string ByteArray.empty), 1, 16) := by kernel_rfl
theorem underClaimUseS : Tryz.prog.underlying 66 = some (.slice 95) := by kernel_rfl
theorem infoClaimUseS : (Tryz.prog.info? 95).map (fun i => (i.zero, i.size, i.bytes)) = some (some (.agg #[.string ByteArray.empty, .int .i64 0, .int .i64 0]), 3, 32) := by kernel_rfl

end Go.Proofs.YtndacfockllehaaGreat

/-
  Contracts of the laws' own comparing of data that hold the same.
-/
namespace Go.Proofs.YtndacfockllehaaGreat
open Go.RowKit

set_option maxRecDepth 100000 in
set_option maxHeartbeats 4000000 in
theorem eqClaimUse_any (S S' : Nat → Prop) (a : DClaimUse) (c c' : Nat → Value) (w : World) (h : Lay.At S w a c) (h' : Lay.At S' w a c') (_hS : ∀ b, S b → b < w.heap.size) (_hS' : ∀ b, S' b → b < w.heap.size) :
    Calls Tryz.prog 133 #[.agg #[c 0, c 1, c 2], .agg #[c' 0, c' 1, c' 2]] w fun e w' => e = .returned (.bool true) ∧ Below w.heap.size w w' := by
  rw [at_DClaimUse] at h
  obtain ⟨⟨ep0, _⟩, ⟨ep1, _, _⟩, ⟨ep2, _, _⟩⟩ := h
  rw [ep0, ep1, ep2]
  clear ep0 ep1 ep2
  rw [at_DClaimUse] at h'
  obtain ⟨⟨eq0, _⟩, ⟨eq1, _, _⟩, ⟨eq2, _, _⟩⟩ := h'
  rw [eq0, eq1, eq2]
  clear eq0 eq1 eq2
  have k0 : Hid (Below w.heap.size w ((w.alloc (.cells #[.string a.1, .int .i64 a.2.1, .int .i64 a.2.2] 95)).alloc (.cells #[.string a.1, .int .i64 a.2.1, .int .i64 a.2.2] 95))) := ((Below.refl _ _).alloc (Nat.le_refl _) _).alloc (by simp) _
  go_enter Tryz.func133, Tryz.ntmps133
  go_wp2
  go_ret
  exact ⟨rfl, k0.out⟩
open Go.Sort in
theorem eqClaimUseq (S S' : Nat → Prop) (a : DClaimUse) (c c' : Nat → Value) (wr : World) (h : Lay.At S wr a c) (h' : Lay.At S' wr a c') (hS : ∀ b, S b → b < wr.heap.size) (hS' : ∀ b, S' b → b < wr.heap.size) (d : Nat) (os : Array Obj) : Calls Tryz.prog 133 #[.agg #[c 0, c 1, c 2], .agg #[c' 0, c' 1, c' 2]] (grow (redrawn wr d) os) fun e w'' => e = .returned (.bool true) ∧ ∃ p : Regrown, w'' = grow (redrawn wr p.d) p.os :=
  Calls.regrown_of (eqClaimUse_any S S' a c c' _ (Lay.same h (Same.of_below (below_regrown wr d os) hS)) (Lay.same h' (Same.of_below (below_regrown wr d os) hS')) (fun b hb => Nat.lt_of_lt_of_le (hS b hb) (below_regrown wr d os).size) (fun b hb => Nat.lt_of_lt_of_le (hS' b hb) (below_regrown wr d os).size))

set_option maxRecDepth 100000 in
set_option maxHeartbeats 4000000 in
theorem eqStringS_any (S S' : Nat → Prop) (l : List ByteArray) (va vb : Value) (w : World) (ha : AtL S w l va) (hb : AtL S' w l vb) (hS : ∀ b, S b → b < w.heap.size) (hS' : ∀ b, S' b → b < w.heap.size) :
    Calls Tryz.prog 32 #[va, vb] w fun e w' => e = .returned (.bool true) ∧ Below w.heap.size w w' := by
  obtain ⟨oa, ca, rfl, hn, hca⟩ := ha
  obtain ⟨ob, cb, rfl, _, hcb⟩ := hb
  obtain ⟨n, en⟩ : ∃ n, l.length = n := ⟨_, rfl⟩
  rw [en] at hn
  rw [en]
  unfold maxLen at hn
  have HA : Hid _ := hca
  have HB : Hid _ := hcb
  clear hca hcb
  go_enter Tryz.func32, Tryz.ntmps32
  go_wp2
  go_loopw [5] (fun i wr => ∃ k : Nat, k ≤ n ∧ i = .int .i64 k ∧ Hid (Below w.heap.size w wr)) (fun i _ => n - (intOf i).toNat)
  case atStart => exact ⟨0, Nat.zero_le _, rfl, Below.refl _ _⟩
  case round =>
    obtain ⟨k, hk, rfl, hbel⟩ := hrel
    have hs := hbel.out.size
    by_cases hlt : k < n
    · obtain ⟨ba, fa, rfl, hba, cc, hxa, hata⟩ := HA.out k (by omega)
      obtain ⟨bb, fb, rfl, hbb, dd, hxb, hatb⟩ := HB.out k (by omega)
      have hba' := hS ba hba
      have hbb' := hS' bb hbb
      rw [width_str] at hxa hxb
      have a0 : wr.cell? ⟨ba, fa + k, none⟩ = some (cc 0) := (hbel.out.cell (p := ⟨ba, fa + k, none⟩) (by show ba < _; omega)).trans (by simpa using hxa 0 (by omega))
      have c0 : wr.cell? ⟨bb, fb + k, none⟩ = some (dd 0) := (hbel.out.cell (p := ⟨bb, fb + k, none⟩) (by show bb < _; omega)).trans (by simpa using hxb 0 (by omega))
      rw [at_str] at hata hatb
      rw [hata.1] at a0
      rw [hatb.1] at c0
      clear hata hatb
      clear hxa hxb
      have qa0 := fun d os => cell_regrown a0 d os
      have qc0 := fun d os => cell_regrown c0 d os
      go_wp2
      refine wp_region_quiet_below (by kernel_rfl) (by kernel_rfl) ?_
      repeat (first | go_big_quiet_step (fail) | quiet_step (fail))
      refine wpQuiet_nil ?_
      intro _ hw'
      obtain ⟨⟨dq, osq⟩, hw''⟩ := hw'
      subst hw''
      go_wp2
      go_roundw
      case rel => exact ⟨k + 1, by omega, by go_num, hbel.out.trans ((below_regrown _ dq osq).mono hs)⟩
      case measure => simp [intOf]; omega
    · go_wp2
      go_ret
      exact ⟨rfl, hbel.out⟩

set_option maxRecDepth 100000 in
set_option maxHeartbeats 4000000 in
theorem eqClaimUseS_any (S S' : Nat → Prop) (l : List DClaimUse) (va vb : Value) (w : World) (ha : AtL S w l va) (hb : AtL S' w l vb) (hS : ∀ b, S b → b < w.heap.size) (hS' : ∀ b, S' b → b < w.heap.size) :
    Calls Tryz.prog 103 #[va, vb] w fun e w' => e = .returned (.bool true) ∧ Below w.heap.size w w' := by
  obtain ⟨oa, ca, rfl, hn, hca⟩ := ha
  obtain ⟨ob, cb, rfl, _, hcb⟩ := hb
  obtain ⟨n, en⟩ : ∃ n, l.length = n := ⟨_, rfl⟩
  rw [en] at hn
  rw [en]
  unfold maxLen at hn
  have HA : Hid _ := hca
  have HB : Hid _ := hcb
  clear hca hcb
  go_enter Tryz.func103, Tryz.ntmps103
  go_wp2
  go_loopw [5] (fun i wr => ∃ k : Nat, k ≤ n ∧ i = .int .i64 k ∧ Hid (Below w.heap.size w wr)) (fun i _ => n - (intOf i).toNat)
  case atStart => exact ⟨0, Nat.zero_le _, rfl, Below.refl _ _⟩
  case round =>
    obtain ⟨k, hk, rfl, hbel⟩ := hrel
    have hs := hbel.out.size
    by_cases hlt : k < n
    · obtain ⟨ba, fa, rfl, hba, cc, hxa, hata⟩ := HA.out k (by omega)
      obtain ⟨bb, fb, rfl, hbb, dd, hxb, hatb⟩ := HB.out k (by omega)
      have hba' := hS ba hba
      have hbb' := hS' bb hbb
      rw [width_DClaimUse] at hxa hxb
      have a0 : wr.cell? ⟨ba, fa + k * 3, none⟩ = some (cc 0) := (hbel.out.cell (p := ⟨ba, fa + k * 3, none⟩) (by show ba < _; omega)).trans (hxa 0 (by omega))
      have a1 : wr.cell? ⟨ba, fa + k * 3 + 1, none⟩ = some (cc 1) := (hbel.out.cell (p := ⟨ba, fa + k * 3 + 1, none⟩) (by show ba < _; omega)).trans (hxa 1 (by omega))
      have a2 : wr.cell? ⟨ba, fa + k * 3 + 2, none⟩ = some (cc 2) := (hbel.out.cell (p := ⟨ba, fa + k * 3 + 2, none⟩) (by show ba < _; omega)).trans (hxa 2 (by omega))
      have c0 : wr.cell? ⟨bb, fb + k * 3, none⟩ = some (dd 0) := (hbel.out.cell (p := ⟨bb, fb + k * 3, none⟩) (by show bb < _; omega)).trans (hxb 0 (by omega))
      have c1 : wr.cell? ⟨bb, fb + k * 3 + 1, none⟩ = some (dd 1) := (hbel.out.cell (p := ⟨bb, fb + k * 3 + 1, none⟩) (by show bb < _; omega)).trans (hxb 1 (by omega))
      have c2 : wr.cell? ⟨bb, fb + k * 3 + 2, none⟩ = some (dd 2) := (hbel.out.cell (p := ⟨bb, fb + k * 3 + 2, none⟩) (by show bb < _; omega)).trans (hxb 2 (by omega))
      have HAA : Hid (Lay.At S wr (l[k]'(by omega)) cc) := Lay.same hata (Same.of_below hbel.out hS)
      have HBB : Hid (Lay.At S' wr (l[k]'(by omega)) dd) := Lay.same hatb (Same.of_below hbel.out hS')
      clear hata hatb
      have hSr : ∀ b, S b → b < wr.heap.size := fun b hb => Nat.lt_of_lt_of_le (hS b hb) hs
      have hSr' : ∀ b, S' b → b < wr.heap.size := fun b hb => Nat.lt_of_lt_of_le (hS' b hb) hs
      clear hxa hxb
      have qa0 := fun d os => cell_regrown a0 d os
      have qa1 := fun d os => cell_regrown a1 d os
      have qa2 := fun d os => cell_regrown a2 d os
      have qc0 := fun d os => cell_regrown c0 d os
      have qc1 := fun d os => cell_regrown c1 d os
      have qc2 := fun d os => cell_regrown c2 d os
      go_wp2
      refine wp_region_quiet_below (by kernel_rfl) (by kernel_rfl) ?_
      repeat (first | go_big_quiet_step (with_reducible exact eqClaimUseq S S' _ _ _ _ HAA.out HBB.out hSr hSr' _ _) | quiet_step (with_reducible exact eqClaimUseq S S' _ _ _ _ HAA.out HBB.out hSr hSr' _ _))
      refine wpQuiet_nil ?_
      intro _ hw'
      obtain ⟨⟨dq, osq⟩, hw''⟩ := hw'
      subst hw''
      go_wp2
      go_roundw
      case rel => exact ⟨k + 1, by omega, by go_num, hbel.out.trans ((below_regrown _ dq osq).mono hs)⟩
      case measure => simp [intOf]; omega
    · go_wp2
      go_ret
      exact ⟨rfl, hbel.out⟩

set_option maxRecDepth 100000 in
set_option maxHeartbeats 4000000 in
theorem eqClaimWant_any (S S' : Nat → Prop) (a : DClaimWant) (c c' : Nat → Value) (w : World) (h : Lay.At S w a c) (h' : Lay.At S' w a c') (hS : ∀ b, S b → b < w.heap.size) (hS' : ∀ b, S' b → b < w.heap.size) :
    Calls Tryz.prog 66 #[.agg #[c 0, c 1, c 2, c 3, c 4, c 5], .agg #[c' 0, c' 1, c' 2, c' 3, c' 4, c' 5]] w fun e w' => e = .returned (.bool true) ∧ Below w.heap.size w w' := by
  rw [at_DClaimWant] at h
  obtain ⟨⟨ep0, _, _⟩, ⟨ep1, _, _⟩, Hp2, Hp3, Hp4, Hp5⟩ := h
  obtain ⟨vp2, ep2⟩ : ∃ v, c 2 = v := ⟨_, rfl⟩
  rw [ep2] at Hp2
  obtain ⟨vp3, ep3⟩ : ∃ v, c 3 = v := ⟨_, rfl⟩
  rw [ep3] at Hp3
  obtain ⟨vp4, ep4⟩ : ∃ v, c 4 = v := ⟨_, rfl⟩
  rw [ep4] at Hp4
  obtain ⟨vp5, ep5⟩ : ∃ v, c 5 = v := ⟨_, rfl⟩
  rw [ep5] at Hp5
  rw [ep0, ep1, ep2, ep3, ep4, ep5]
  clear ep0 ep1 ep2 ep3 ep4 ep5
  rw [at_DClaimWant] at h'
  obtain ⟨⟨eq0, _, _⟩, ⟨eq1, _, _⟩, Hq2, Hq3, Hq4, Hq5⟩ := h'
  obtain ⟨vq2, eq2⟩ : ∃ v, c' 2 = v := ⟨_, rfl⟩
  rw [eq2] at Hq2
  obtain ⟨vq3, eq3⟩ : ∃ v, c' 3 = v := ⟨_, rfl⟩
  rw [eq3] at Hq3
  obtain ⟨vq4, eq4⟩ : ∃ v, c' 4 = v := ⟨_, rfl⟩
  rw [eq4] at Hq4
  obtain ⟨vq5, eq5⟩ : ∃ v, c' 5 = v := ⟨_, rfl⟩
  rw [eq5] at Hq5
  rw [eq0, eq1, eq2, eq3, eq4, eq5]
  clear eq0 eq1 eq2 eq3 eq4 eq5
  have k0 : Hid (Below w.heap.size w ((w.alloc (.cells #[.int .i64 a.1, .int .i64 a.2.1, vp2, vp3, vp4, vp5] 68)).alloc (.cells #[.int .i64 a.1, .int .i64 a.2.1, vq2, vq3, vq4, vq5] 68))) := ((Below.refl _ _).alloc (Nat.le_refl _) _).alloc (by simp) _
  go_enter Tryz.func66, Tryz.ntmps66
  go_wp2_with fail
  refine (eqStringS_any S S' _ vp2 vq2 _ (Hp2.same (Same.of_below k0.out hS)) (Hq2.same (Same.of_below k0.out hS')) (fun b hb => by have := hS b hb; simp; omega) (fun b hb => by have := hS' b hb; simp; omega)).mono ?_
  rintro e w1 ⟨rfl, hb1⟩
  have k1 : Hid (Below w.heap.size w w1) := k0.out.trans (hb1.mono (by simp; omega))
  have x1_3 : w1.cell? ⟨w.heap.size, 3, none⟩ = some (vp3) := (hb1.cell (p := ⟨w.heap.size, 3, none⟩) (by simp; omega)).trans (cell_past (cell_row (heap_alloc_new w (.cells #[.int .i64 a.1, .int .i64 a.2.1, vp2, vp3, vp4, vp5] 68)) 3 _ rfl).1 (by simp) _)
  have y1_3 : w1.cell? ⟨w.heap.size + 1, 3, none⟩ = some (vq3) := (hb1.cell (p := ⟨w.heap.size + 1, 3, none⟩) (by simp)).trans (by simp)
  have x1_4 : w1.cell? ⟨w.heap.size, 4, none⟩ = some (vp4) := (hb1.cell (p := ⟨w.heap.size, 4, none⟩) (by simp; omega)).trans (cell_past (cell_row (heap_alloc_new w (.cells #[.int .i64 a.1, .int .i64 a.2.1, vp2, vp3, vp4, vp5] 68)) 4 _ rfl).1 (by simp) _)
  have y1_4 : w1.cell? ⟨w.heap.size + 1, 4, none⟩ = some (vq4) := (hb1.cell (p := ⟨w.heap.size + 1, 4, none⟩) (by simp)).trans (by simp)
  have x1_5 : w1.cell? ⟨w.heap.size, 5, none⟩ = some (vp5) := (hb1.cell (p := ⟨w.heap.size, 5, none⟩) (by simp; omega)).trans (cell_past (cell_row (heap_alloc_new w (.cells #[.int .i64 a.1, .int .i64 a.2.1, vp2, vp3, vp4, vp5] 68)) 5 _ rfl).1 (by simp) _)
  have y1_5 : w1.cell? ⟨w.heap.size + 1, 5, none⟩ = some (vq5) := (hb1.cell (p := ⟨w.heap.size + 1, 5, none⟩) (by simp)).trans (by simp)
  have s1 : w.heap.size + 2 ≤ w1.heap.size := by have := hb1.size; simp at this; omega
  go_wp2_with fail
  refine (eqClaimUseS_any S S' _ vp3 vq3 _ (Hp3.same (Same.of_below k1.out hS)) (Hq3.same (Same.of_below k1.out hS')) (fun b hb => by have := hS b hb; omega) (fun b hb => by have := hS' b hb; omega)).mono ?_
  rintro e w2 ⟨rfl, hb2⟩
  have k2 : Hid (Below w.heap.size w w2) := k1.out.trans (hb2.mono (by omega))
  have x2_4 : w2.cell? ⟨w.heap.size, 4, none⟩ = some (vp4) := (hb2.cell (p := ⟨w.heap.size, 4, none⟩) (by show w.heap.size < _; omega)).trans x1_4
  have y2_4 : w2.cell? ⟨w.heap.size + 1, 4, none⟩ = some (vq4) := (hb2.cell (p := ⟨w.heap.size + 1, 4, none⟩) (by show w.heap.size + 1 < _; omega)).trans y1_4
  have x2_5 : w2.cell? ⟨w.heap.size, 5, none⟩ = some (vp5) := (hb2.cell (p := ⟨w.heap.size, 5, none⟩) (by show w.heap.size < _; omega)).trans x1_5
  have y2_5 : w2.cell? ⟨w.heap.size + 1, 5, none⟩ = some (vq5) := (hb2.cell (p := ⟨w.heap.size + 1, 5, none⟩) (by show w.heap.size + 1 < _; omega)).trans y1_5
  have s2 : w.heap.size + 2 ≤ w2.heap.size := by have := hb2.size; omega
  go_wp2_with fail
  refine (eqStringS_any S S' _ vp4 vq4 _ (Hp4.same (Same.of_below k2.out hS)) (Hq4.same (Same.of_below k2.out hS')) (fun b hb => by have := hS b hb; omega) (fun b hb => by have := hS' b hb; omega)).mono ?_
  rintro e w3 ⟨rfl, hb3⟩
  have k3 : Hid (Below w.heap.size w w3) := k2.out.trans (hb3.mono (by omega))
  have x3_5 : w3.cell? ⟨w.heap.size, 5, none⟩ = some (vp5) := (hb3.cell (p := ⟨w.heap.size, 5, none⟩) (by show w.heap.size < _; omega)).trans x2_5
  have y3_5 : w3.cell? ⟨w.heap.size + 1, 5, none⟩ = some (vq5) := (hb3.cell (p := ⟨w.heap.size + 1, 5, none⟩) (by show w.heap.size + 1 < _; omega)).trans y2_5
  have s3 : w.heap.size + 2 ≤ w3.heap.size := by have := hb3.size; omega
  go_wp2_with fail
  refine (eqStringS_any S S' _ vp5 vq5 _ (Hp5.same (Same.of_below k3.out hS)) (Hq5.same (Same.of_below k3.out hS')) (fun b hb => by have := hS b hb; omega) (fun b hb => by have := hS' b hb; omega)).mono ?_
  rintro e w4 ⟨rfl, hb4⟩
  have k4 : Hid (Below w.heap.size w w4) := k3.out.trans (hb4.mono (by omega))
  have s4 : w.heap.size + 2 ≤ w4.heap.size := by have := hb4.size; omega
  go_wp2_with fail
  go_ret
  exact ⟨rfl, k4.out⟩
open Go.Sort in
theorem eqClaimWantq (S S' : Nat → Prop) (a : DClaimWant) (c c' : Nat → Value) (wr : World) (h : Lay.At S wr a c) (h' : Lay.At S' wr a c') (hS : ∀ b, S b → b < wr.heap.size) (hS' : ∀ b, S' b → b < wr.heap.size) (d : Nat) (os : Array Obj) : Calls Tryz.prog 66 #[.agg #[c 0, c 1, c 2, c 3, c 4, c 5], .agg #[c' 0, c' 1, c' 2, c' 3, c' 4, c' 5]] (grow (redrawn wr d) os) fun e w'' => e = .returned (.bool true) ∧ ∃ p : Regrown, w'' = grow (redrawn wr p.d) p.os :=
  Calls.regrown_of (eqClaimWant_any S S' a c c' _ (Lay.same h (Same.of_below (below_regrown wr d os) hS)) (Lay.same h' (Same.of_below (below_regrown wr d os) hS')) (fun b hb => Nat.lt_of_lt_of_le (hS b hb) (below_regrown wr d os).size) (fun b hb => Nat.lt_of_lt_of_le (hS' b hb) (below_regrown wr d os).size))

end Go.Proofs.YtndacfockllehaaGreat

/-
  Contracts of the laws' own comparing of asks that hold the same.
-/
namespace Go.Proofs.YtndacfockllehaaGreat
open Go.RowKit

set_option maxRecDepth 100000 in
set_option maxHeartbeats 4000000 in
theorem eqCtlAsk_any (S S' : Nat → Prop) (a : DCtlAsk) (c c' : Nat → Value) (w : World) (h : Lay.At S w a c) (h' : Lay.At S' w a c') (hS : ∀ b, S b → b < w.heap.size) (hS' : ∀ b, S' b → b < w.heap.size) :
    Calls Tryz.prog 31 #[.agg #[c 0, c 1, c 2, c 3, c 4, c 5, c 6], .agg #[c' 0, c' 1, c' 2, c' 3, c' 4, c' 5, c' 6]] w fun e w' => e = .returned (.bool true) ∧ Below w.heap.size w w' := by
  rw [at_DCtlAsk] at h h'
  obtain ⟨⟨ep0, _⟩, hp⟩ := h
  obtain ⟨⟨eq0, _⟩, hq⟩ := h'
  have HP : Lay.At S w a.2 (fun j => c (j + 1)) := at_DClaimWant.2 hp
  have HQ : Lay.At S' w a.2 (fun j => c' (j + 1)) := at_DClaimWant.2 hq
  rw [ep0, eq0]
  clear ep0 eq0 hp hq
  obtain ⟨W, hW⟩ : ∃ u, u = (w.alloc (.cells #[.string a.1, c 1, c 2, c 3, c 4, c 5, c 6] 70)).alloc (.cells #[.string a.1, c' 1, c' 2, c' 3, c' 4, c' 5, c' 6] 70) := ⟨_, rfl⟩
  have EW : Hid (W = (w.alloc (.cells #[.string a.1, c 1, c 2, c 3, c 4, c 5, c 6] 70)).alloc (.cells #[.string a.1, c' 1, c' 2, c' 3, c' 4, c' 5, c' 6] 70)) := hW
  have bW : Hid (Below w.heap.size w W) := by rw [hW]; exact ((Below.refl _ _).alloc (Nat.le_refl _) _).alloc (by simp) _
  have bx : Hid (∀ w', Below (w.heap.size + 1 + 1) W w' → (w'.cell? ⟨w.heap.size, 0, none⟩ = some (.string a.1) ∧ w'.cell? ⟨w.heap.size, 1, none⟩ = some (c 1) ∧ w'.cell? ⟨w.heap.size, 2, none⟩ = some (c 2) ∧ w'.cell? ⟨w.heap.size, 3, none⟩ = some (c 3) ∧ w'.cell? ⟨w.heap.size, 4, none⟩ = some (c 4) ∧ w'.cell? ⟨w.heap.size, 5, none⟩ = some (c 5) ∧ w'.cell? ⟨w.heap.size, 6, none⟩ = some (c 6)) ∧ w'.cell? ⟨w.heap.size + 1, 0, none⟩ = some (.string a.1) ∧ w'.cell? ⟨w.heap.size + 1, 1, none⟩ = some (c' 1) ∧ w'.cell? ⟨w.heap.size + 1, 2, none⟩ = some (c' 2) ∧ w'.cell? ⟨w.heap.size + 1, 3, none⟩ = some (c' 3) ∧ w'.cell? ⟨w.heap.size + 1, 4, none⟩ = some (c' 4) ∧ w'.cell? ⟨w.heap.size + 1, 5, none⟩ = some (c' 5) ∧ w'.cell? ⟨w.heap.size + 1, 6, none⟩ = some (c' 6)) := fun w' hb => by
    rw [hW] at hb
    obtain ⟨h1, h2⟩ := two_box hb
    exact ⟨⟨h1 0 _ rfl, h1 1 _ rfl, h1 2 _ rfl, h1 3 _ rfl, h1 4 _ rfl, h1 5 _ rfl, h1 6 _ rfl⟩, h2 0 _ rfl, h2 1 _ rfl, h2 2 _ rfl, h2 3 _ rfl, h2 4 _ rfl, h2 5 _ rfl, h2 6 _ rfl⟩
  have sW : w.heap.size + 1 + 1 ≤ W.heap.size := by rw [hW]; simp
  clear hW
  have kP : Hid (Lay.At S W a.2 (fun j => c (j + 1))) := Lay.same HP (Same.of_below bW.out hS)
  have kQ : Hid (Lay.At S' W a.2 (fun j => c' (j + 1))) := Lay.same HQ (Same.of_below bW.out hS')
  clear HP HQ
  go_enter Tryz.func31, Tryz.ntmps31
  go_upto_region 1 with fail
  rw [← EW.out]
  obtain ⟨⟨x0, x1, x2, x3, x4, x5, x6⟩, y0, y1, y2, y3, y4, y5, y6⟩ := bx.out W (Below.refl _ _)
  go_wp2_with fail
  refine (eqClaimWant_any S S' a.2 (fun j => c (j + 1)) (fun j => c' (j + 1)) _ kP.out kQ.out (fun b hb => Nat.lt_of_lt_of_le (hS b hb) bW.out.size) (fun b hb => Nat.lt_of_lt_of_le (hS' b hb) bW.out.size)).mono ?_
  rintro e w1 ⟨rfl, hb1⟩
  have b1 : Hid (Below w.heap.size w w1) := bW.out.trans (hb1.mono bW.out.size)
  clear hb1
  go_wp2_with fail
  go_ret
  exact ⟨rfl, b1.out⟩
open Go.Sort in
theorem eqCtlAskq (S S' : Nat → Prop) (a : DCtlAsk) (c c' : Nat → Value) (wr : World) (h : Lay.At S wr a c) (h' : Lay.At S' wr a c') (hS : ∀ b, S b → b < wr.heap.size) (hS' : ∀ b, S' b → b < wr.heap.size) (d : Nat) (os : Array Obj) : Calls Tryz.prog 31 #[.agg #[c 0, c 1, c 2, c 3, c 4, c 5, c 6], .agg #[c' 0, c' 1, c' 2, c' 3, c' 4, c' 5, c' 6]] (grow (redrawn wr d) os) fun e w'' => e = .returned (.bool true) ∧ ∃ p : Regrown, w'' = grow (redrawn wr p.d) p.os :=
  Calls.regrown_of (eqCtlAsk_any S S' a c c' _ (Lay.same h (Same.of_below (below_regrown wr d os) hS)) (Lay.same h' (Same.of_below (below_regrown wr d os) hS')) (fun b hb => Nat.lt_of_lt_of_le (hS b hb) (below_regrown wr d os).size) (fun b hb => Nat.lt_of_lt_of_le (hS' b hb) (below_regrown wr d os).size))

set_option maxRecDepth 100000 in
set_option maxHeartbeats 4000000 in
theorem eqCtlAskS_any (S S' : Nat → Prop) (l : List DCtlAsk) (va vb : Value) (w : World) (ha : AtL S w l va) (hb : AtL S' w l vb) (hS : ∀ b, S b → b < w.heap.size) (hS' : ∀ b, S' b → b < w.heap.size) :
    Calls Tryz.prog 10 #[va, vb] w fun e w' => e = .returned (.bool true) ∧ Below w.heap.size w w' := by
  obtain ⟨oa, ca, rfl, hn, hca⟩ := ha
  obtain ⟨ob, cb, rfl, _, hcb⟩ := hb
  obtain ⟨n, en⟩ : ∃ n, l.length = n := ⟨_, rfl⟩
  rw [en] at hn
  rw [en]
  unfold maxLen at hn
  have HA : Hid _ := hca
  have HB : Hid _ := hcb
  clear hca hcb
  go_enter Tryz.func10, Tryz.ntmps10
  go_wp2
  go_loopw [5] (fun i wr => ∃ k : Nat, k ≤ n ∧ i = .int .i64 k ∧ Hid (Below w.heap.size w wr)) (fun i _ => n - (intOf i).toNat)
  case atStart => exact ⟨0, Nat.zero_le _, rfl, Below.refl _ _⟩
  case round =>
    obtain ⟨k, hk, rfl, hbel⟩ := hrel
    have hs := hbel.out.size
    by_cases hlt : k < n
    · obtain ⟨ba, fa, rfl, hba, cc, hxa, hata⟩ := HA.out k (by omega)
      obtain ⟨bb, fb, rfl, hbb, dd, hxb, hatb⟩ := HB.out k (by omega)
      have hba' := hS ba hba
      have hbb' := hS' bb hbb
      rw [width_DCtlAsk] at hxa hxb
      have a0 : wr.cell? ⟨ba, fa + k * 7, none⟩ = some (cc 0) := (hbel.out.cell (p := ⟨ba, fa + k * 7, none⟩) (by show ba < _; omega)).trans (hxa 0 (by omega))
      have a1 : wr.cell? ⟨ba, fa + k * 7 + 1, none⟩ = some (cc 1) := (hbel.out.cell (p := ⟨ba, fa + k * 7 + 1, none⟩) (by show ba < _; omega)).trans (hxa 1 (by omega))
      have a2 : wr.cell? ⟨ba, fa + k * 7 + 2, none⟩ = some (cc 2) := (hbel.out.cell (p := ⟨ba, fa + k * 7 + 2, none⟩) (by show ba < _; omega)).trans (hxa 2 (by omega))
      have a3 : wr.cell? ⟨ba, fa + k * 7 + 3, none⟩ = some (cc 3) := (hbel.out.cell (p := ⟨ba, fa + k * 7 + 3, none⟩) (by show ba < _; omega)).trans (hxa 3 (by omega))
      have a4 : wr.cell? ⟨ba, fa + k * 7 + 4, none⟩ = some (cc 4) := (hbel.out.cell (p := ⟨ba, fa + k * 7 + 4, none⟩) (by show ba < _; omega)).trans (hxa 4 (by omega))
      have a5 : wr.cell? ⟨ba, fa + k * 7 + 5, none⟩ = some (cc 5) := (hbel.out.cell (p := ⟨ba, fa + k * 7 + 5, none⟩) (by show ba < _; omega)).trans (hxa 5 (by omega))
      have a6 : wr.cell? ⟨ba, fa + k * 7 + 6, none⟩ = some (cc 6) := (hbel.out.cell (p := ⟨ba, fa + k * 7 + 6, none⟩) (by show ba < _; omega)).trans (hxa 6 (by omega))
      have c0 : wr.cell? ⟨bb, fb + k * 7, none⟩ = some (dd 0) := (hbel.out.cell (p := ⟨bb, fb + k * 7, none⟩) (by show bb < _; omega)).trans (hxb 0 (by omega))
      have c1 : wr.cell? ⟨bb, fb + k * 7 + 1, none⟩ = some (dd 1) := (hbel.out.cell (p := ⟨bb, fb + k * 7 + 1, none⟩) (by show bb < _; omega)).trans (hxb 1 (by omega))
      have c2 : wr.cell? ⟨bb, fb + k * 7 + 2, none⟩ = some (dd 2) := (hbel.out.cell (p := ⟨bb, fb + k * 7 + 2, none⟩) (by show bb < _; omega)).trans (hxb 2 (by omega))
      have c3 : wr.cell? ⟨bb, fb + k * 7 + 3, none⟩ = some (dd 3) := (hbel.out.cell (p := ⟨bb, fb + k * 7 + 3, none⟩) (by show bb < _; omega)).trans (hxb 3 (by omega))
      have c4 : wr.cell? ⟨bb, fb + k * 7 + 4, none⟩ = some (dd 4) := (hbel.out.cell (p := ⟨bb, fb + k * 7 + 4, none⟩) (by show bb < _; omega)).trans (hxb 4 (by omega))
      have c5 : wr.cell? ⟨bb, fb + k * 7 + 5, none⟩ = some (dd 5) := (hbel.out.cell (p := ⟨bb, fb + k * 7 + 5, none⟩) (by show bb < _; omega)).trans (hxb 5 (by omega))
      have c6 : wr.cell? ⟨bb, fb + k * 7 + 6, none⟩ = some (dd 6) := (hbel.out.cell (p := ⟨bb, fb + k * 7 + 6, none⟩) (by show bb < _; omega)).trans (hxb 6 (by omega))
      have HAA : Hid (Lay.At S wr (l[k]'(by omega)) cc) := Lay.same hata (Same.of_below hbel.out hS)
      have HBB : Hid (Lay.At S' wr (l[k]'(by omega)) dd) := Lay.same hatb (Same.of_below hbel.out hS')
      clear hata hatb
      have hSr : ∀ b, S b → b < wr.heap.size := fun b hb => Nat.lt_of_lt_of_le (hS b hb) hs
      have hSr' : ∀ b, S' b → b < wr.heap.size := fun b hb => Nat.lt_of_lt_of_le (hS' b hb) hs
      clear hxa hxb
      have qa0 := fun d os => cell_regrown a0 d os
      have qa1 := fun d os => cell_regrown a1 d os
      have qa2 := fun d os => cell_regrown a2 d os
      have qa3 := fun d os => cell_regrown a3 d os
      have qa4 := fun d os => cell_regrown a4 d os
      have qa5 := fun d os => cell_regrown a5 d os
      have qa6 := fun d os => cell_regrown a6 d os
      have qc0 := fun d os => cell_regrown c0 d os
      have qc1 := fun d os => cell_regrown c1 d os
      have qc2 := fun d os => cell_regrown c2 d os
      have qc3 := fun d os => cell_regrown c3 d os
      have qc4 := fun d os => cell_regrown c4 d os
      have qc5 := fun d os => cell_regrown c5 d os
      have qc6 := fun d os => cell_regrown c6 d os
      go_wp2
      refine wp_region_quiet_below (by kernel_rfl) (by kernel_rfl) ?_
      repeat (first | go_big_quiet_step (with_reducible exact eqCtlAskq S S' _ _ _ _ HAA.out HBB.out hSr hSr' _ _) | quiet_step (with_reducible exact eqCtlAskq S S' _ _ _ _ HAA.out HBB.out hSr hSr' _ _))
      refine wpQuiet_nil ?_
      intro _ hw'
      obtain ⟨⟨dq, osq⟩, hw''⟩ := hw'
      subst hw''
      go_wp2
      go_roundw
      case rel => exact ⟨k + 1, by omega, by go_num, hbel.out.trans ((below_regrown _ dq osq).mono hs)⟩
      case measure => simp [intOf]; omega
    · go_wp2
      go_ret
      exact ⟨rfl, hbel.out⟩

end Go.Proofs.YtndacfockllehaaGreat
