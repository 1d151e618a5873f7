/-
  The law FnExactRunBatchOk, walked: whatever the batch, the call returns true, and nothing that was there before has turned.
-/
import Derived.Test.YtkbocdkgkhgioacM3
import Derived.Test.YtkbocdkgkhgioacVpc
import Derived.Test.YtkbocdkgkhgioacM42
import Derived.Test.YtkbocdkgkhgioacVrt
import Derived.Test.YtkbocdkgkhgioacVre
import Derived.Deep.Cut
namespace Go.Proofs.Ytkbocdkgkhgioac
open Go.RowKit Go.Sort

set_option maxRecDepth 100000 in
set_option maxHeartbeats 16000000 in
theorem lawb_any (S : Nat → Prop) (nm : ByteArray) (r : List DRecPhase) (sl : List DRunSlot) (at_ : ByteArray) (si st : Int) (c : Nat → Value) (w : World) (h : Lay.At S w ((nm, r, sl, at_, si, st) : DRunBatch) c) (hS : ∀ b, S b → b < w.heap.size) :
    Calls Try.prog 3 #[.agg #[c 0, c 1, c 2, c 3, c 4, c 5]] w fun e w' => e = .returned (.bool true) ∧ Below w.heap.size w w' := by
  have H : Hid (∀ w', Below w.heap.size w w' → Lay.At S w' ((nm, r, sl, at_, si, st) : DRunBatch) c) := fun w' hb => Lay.same h (Same.of_below hb hS)
  have HN : Hid (nm.size ≤ maxLen) := (at_DRunBatch.1 h).1.2
  clear h
  obtain ⟨w0, hw0⟩ : ∃ w0, w0 = (w.alloc (.cells #[c 0, c 1, c 2, c 3, c 4, c 5] 25)) := ⟨_, rfl⟩
  have EW : Hid (w0 = (w.alloc (.cells #[c 0, c 1, c 2, c 3, c 4, c 5] 25))) := hw0
  have k0 : Hid (Below (w.heap.size + 1) (w.alloc (.cells #[c 0, c 1, c 2, c 3, c 4, c 5] 25)) w0) := by rw [hw0]; exact Below.refl _ _
  have s0 : w.heap.size + 1 ≤ w0.heap.size := by have := k0.out.size; simpa using this
  clear hw0
  obtain ⟨R, hR⟩ : ∃ R : Bool, R = runB (nm, r, sl, at_, si, st) := ⟨_, rfl⟩
  have HR : Hid (R = runB (nm, r, sl, at_, si, st)) := hR
  clear hR
  have a0 := box_at _ _ k0.out 0 (c 0) rfl
  have a1 := box_at _ _ k0.out 1 (c 1) rfl
  have a2 := box_at _ _ k0.out 2 (c 2) rfl
  have a3 := box_at _ _ k0.out 3 (c 3) rfl
  have a4 := box_at _ _ k0.out 4 (c 4) rfl
  have a5 := box_at _ _ k0.out 5 (c 5) rfl
  go_enter Try.func3, Try.ntmps3
  go_upto_region 1 with fail
  rw [← EW.out]
  go_wp2_with fail
  refine (szRunBatch_any S (nm, r, sl, at_, si, st) c 1048576 _ (H.out _ (below_end k0.out)) (fun b hb => by have := hS b hb; omega) (by omega) (by omega)).mono ?_
  rintro e w1 ⟨y, rfl, hy, hb1⟩
  clear a0 a1 a2 a3 a4 a5
  have k1 : Hid (Below (w.heap.size + 1) (w.alloc (.cells #[c 0, c 1, c 2, c 3, c 4, c 5] 25)) w1) := below_of k0.out hb1
  have s1 : w.heap.size + 1 ≤ w1.heap.size := by have := k1.out.size; simpa using this
  have HY : Hid _ := hy
  clear hy hb1
  by_cases hneg : y < 0
  · go_wp2_with fail
    go_ret
    exact ⟨rfl, below_end k1.out⟩
  have HM : Hid (Lay.tot (α := DRunBatch) (nm, r, sl, at_, si, st) ≤ 1048576) := by have := HY.out; show _ ≤ _; omega
  have TR : Hid (totL r ≤ 1048576) := by have := HM.out; rw [tot_DRunBatch] at this; simp only at this; show _ ≤ _; omega
  have TS : Hid (totL sl ≤ 1048576) := by have := HM.out; rw [tot_DRunBatch] at this; simp only at this; show _ ≤ _; omega
  clear HY
  have a0 := box_at _ _ k1.out 0 (c 0) rfl
  have a1 := box_at _ _ k1.out 1 (c 1) rfl
  have a2 := box_at _ _ k1.out 2 (c 2) rfl
  have a3 := box_at _ _ k1.out 3 (c 3) rfl
  have a4 := box_at _ _ k1.out 4 (c 4) rfl
  have a5 := box_at _ _ k1.out 5 (c 5) rfl
  go_wp2_with fail
  refine (toRunBatch_any S (nm, r, sl, at_, si, st) c _ (H.out _ (below_end k1.out)) (fun b hb => by have := hS b hb; omega) HM.out).mono ?_
  rintro e w2 ⟨g2, rfl, G, hb⟩
  clear a0 a1 a2 a3 a4 a5
  have k2 : Hid (Below (w.heap.size + 1) (w.alloc (.cells #[c 0, c 1, c 2, c 3, c 4, c 5] 25)) w2) := below_of k1.out hb
  have s2 : w.heap.size + 1 ≤ w2.heap.size := by have := k2.out.size; simpa using this
  have z2 : w1.heap.size ≤ w2.heap.size := hb.size
  obtain ⟨oA2, oB2, nA2, kA2, nB2, kB2, e0, e1, e2, e3, e4, e5, LA, LB⟩ := batch_shape G
  have GC2 : Hid (Lay.At (fun b => w1.heap.size ≤ b ∧ b < w2.heap.size) w2 ((nm, r, sl, at_, si, st) : DRunBatch) (cs [.string nm, .slice oA2 nA2 kA2, .slice oB2 nB2 kB2, .string at_, .int .i64 si, .int .i64 st])) := Lay.ext G (batch_ext e0 e1 e2 e3 e4 e5)
  rw [e0, e1, e2, e3, e4, e5]
  have LA2 : Hid (AtL (fun b => w1.heap.size ≤ b ∧ b < w2.heap.size) w2 r (.slice oA2 nA2 kA2)) := LA
  have LB2 : Hid (AtL (fun b => w1.heap.size ≤ b ∧ b < w2.heap.size) w2 sl (.slice oB2 nB2 kB2)) := LB
  clear e0 e1 e2 e3 e4 e5 LA LB G hb
  go_wp2_with fail
  refine (runX_any _ nm r sl at_ si st _ _ _ _ _ _ w2 HN.out LA2.out LB2.out (fun b hb => hb.2)).mono ?_; rintro e w3 ⟨rfl, hb⟩
  rw [← HR.out]
  have k3 : Hid (Below (w.heap.size + 1) (w.alloc (.cells #[c 0, c 1, c 2, c 3, c 4, c 5] 25)) w3) := below_of k2.out hb
  have s3 : w.heap.size + 1 ≤ w3.heap.size := by have := k3.out.size; simpa using this
  have z3 := hb.size
  clear hb LA2 LB2 GC2
  have a0 := box_at _ _ k3.out 0 (c 0) rfl
  have a1 := box_at _ _ k3.out 1 (c 1) rfl
  have a2 := box_at _ _ k3.out 2 (c 2) rfl
  have a3 := box_at _ _ k3.out 3 (c 3) rfl
  have a4 := box_at _ _ k3.out 4 (c 4) rfl
  have a5 := box_at _ _ k3.out 5 (c 5) rfl
  go_wp2_with fail
  refine (toRunBatch_any S (nm, r, sl, at_, si, st) c _ (H.out _ (below_end k3.out)) (fun b hb => by have := hS b hb; omega) HM.out).mono ?_
  rintro e w4 ⟨g4, rfl, G, hb⟩
  clear a0 a1 a2 a3 a4 a5
  have k4 : Hid (Below (w.heap.size + 1) (w.alloc (.cells #[c 0, c 1, c 2, c 3, c 4, c 5] 25)) w4) := below_of k3.out hb
  have s4 : w.heap.size + 1 ≤ w4.heap.size := by have := k4.out.size; simpa using this
  have z4 : w3.heap.size ≤ w4.heap.size := hb.size
  obtain ⟨oA4, oB4, nA4, kA4, nB4, kB4, e0, e1, e2, e3, e4, e5, LA, LB⟩ := batch_shape G
  have GC4 : Hid (Lay.At (fun b => w3.heap.size ≤ b ∧ b < w4.heap.size) w4 ((nm, r, sl, at_, si, st) : DRunBatch) (cs [.string nm, .slice oA4 nA4 kA4, .slice oB4 nB4 kB4, .string at_, .int .i64 si, .int .i64 st])) := Lay.ext G (batch_ext e0 e1 e2 e3 e4 e5)
  rw [e0, e1, e2, e3, e4, e5]
  have LA4 : Hid (AtL (fun b => w3.heap.size ≤ b ∧ b < w4.heap.size) w4 r (.slice oA4 nA4 kA4)) := LA
  have LB4 : Hid (AtL (fun b => w3.heap.size ≤ b ∧ b < w4.heap.size) w4 sl (.slice oB4 nB4 kB4)) := LB
  clear e0 e1 e2 e3 e4 e5 LA LB G hb
  obtain ⟨W4, hW4⟩ : ∃ W, W = w4.alloc (.cells #[.string nm, .slice oA4 nA4 kA4, .slice oB4 nB4 kB4, .string at_, .int .i64 si, .int .i64 st] 31) := ⟨_, rfl⟩
  have EW4 : Hid (W4 = w4.alloc (.cells #[.string nm, .slice oA4 nA4 kA4, .slice oB4 nB4 kB4, .string at_, .int .i64 si, .int .i64 st] 31)) := hW4
  have B4 : Hid (Below w4.heap.size w4 W4) := by rw [hW4]; exact (Below.refl _ _).alloc (Nat.le_refl _) _
  have X4 : Hid (W4.heap[w4.heap.size]? = some (.cells #[.string nm, .slice oA4 nA4 kA4, .slice oB4 nB4 kB4, .string at_, .int .i64 si, .int .i64 st] 31 (0, 0))) := by rw [hW4]; exact heap_alloc_new w4 _
  have p4 : w4.heap.size + 1 ≤ W4.heap.size := by rw [hW4]; simp
  have LA5 : Hid (AtL (fun b => w3.heap.size ≤ b ∧ b < w4.heap.size) W4 r (.slice oA4 nA4 kA4)) := LA4.out.same (Same.of_below B4.out (fun b hb => hb.2))
  have LB5 : Hid (AtL (fun b => w3.heap.size ≤ b ∧ b < w4.heap.size) W4 sl (.slice oB4 nB4 kB4)) := LB4.out.same (Same.of_below B4.out (fun b hb => hb.2))
  have j0 := (cell_row X4.out 0 _ rfl).1
  have j1 := (cell_row X4.out 1 _ rfl).1
  have j2 := (cell_row X4.out 2 _ rfl).1
  have j3 := (cell_row X4.out 3 _ rfl).1
  have j4 := (cell_row X4.out 4 _ rfl).1
  have j5 := (cell_row X4.out 5 _ rfl).1
  clear hW4
  go_upto_region 7 with fail
  rw [← EW4.out]
  go_wp2_with fail
  refine (runI_any _ nm r sl at_ si st _ _ _ _ _ _ W4 HN.out LA5.out LB5.out (fun b hb => by omega) TR.out TS.out).mono ?_; rintro e w6 ⟨rfl, hb⟩
  rw [← HR.out]
  have C6 : Hid (Below w4.heap.size w4 w6) := B4.out.trans (hb.mono B4.out.size)
  have k6 : Hid (Below (w.heap.size + 1) (w.alloc (.cells #[c 0, c 1, c 2, c 3, c 4, c 5] 25)) w6) := below_of k4.out C6.out
  have s6 : w.heap.size + 1 ≤ w6.heap.size := by have := k6.out.size; simpa using this
  have z6 := hb.size
  have X6 : Hid (w6.heap[w4.heap.size]? = some (.cells #[.string nm, .slice oA4 nA4 kA4, .slice oB4 nB4 kB4, .string at_, .int .i64 si, .int .i64 st] 31 (0, 0))) := (hb.block _ (by omega)).trans X4.out
  have GC6 : Hid (Lay.At (fun b => w3.heap.size ≤ b ∧ b < w4.heap.size) w6 ((nm, r, sl, at_, si, st) : DRunBatch) (cs [.string nm, .slice oA4 nA4 kA4, .slice oB4 nB4 kB4, .string at_, .int .i64 si, .int .i64 st])) := Lay.same GC4.out (Same.of_below C6.out (fun b hb => hb.2))
  clear hb j0 j1 j2 j3 j4 j5 LA5 LB5 X4 LA4 LB4 GC4
  cases R
  all_goals
    have qa0 := fun d os => cell_regrown (box_at _ _ k6.out 0 (c 0) rfl) d os
    have qj0 := fun d os => cell_regrown ((cell_row X6.out 0 _ rfl).1) d os
    have qa1 := fun d os => cell_regrown (box_at _ _ k6.out 1 (c 1) rfl) d os
    have qj1 := fun d os => cell_regrown ((cell_row X6.out 1 _ rfl).1) d os
    have qa2 := fun d os => cell_regrown (box_at _ _ k6.out 2 (c 2) rfl) d os
    have qj2 := fun d os => cell_regrown ((cell_row X6.out 2 _ rfl).1) d os
    have qa3 := fun d os => cell_regrown (box_at _ _ k6.out 3 (c 3) rfl) d os
    have qj3 := fun d os => cell_regrown ((cell_row X6.out 3 _ rfl).1) d os
    have qa4 := fun d os => cell_regrown (box_at _ _ k6.out 4 (c 4) rfl) d os
    have qj4 := fun d os => cell_regrown ((cell_row X6.out 4 _ rfl).1) d os
    have qa5 := fun d os => cell_regrown (box_at _ _ k6.out 5 (c 5) rfl) d os
    have qj5 := fun d os => cell_regrown ((cell_row X6.out 5 _ rfl).1) d os
    go_wp2_with fail
    refine wp_region_mix 3 [0, 1] (by kernel_rfl) (by kernel_rfl) ?_
    simp only [List.filterMap_cons, List.filterMap_nil, List.getElem?_cons_succ, List.getElem?_cons_zero]
    repeat (first | go_big_quiet_step (fail) | quiet_step (fail))
    refine wpQuiet_nil ?_
    clear qa0 qa1 qa2 qa3 qa4 qa5 qj0 qj1 qj2 qj3 qj4 qj5
    have HDR : Hid (Below w6.heap.size w6 w6.drew) := (Below.refl _ _).drew
    refine call1 (md := .any) (f := 0) (i := 2) (dc := 24) (fn := 6) ⟨rfl, rfl, rfl, by decide⟩ (by kernel_rfl) ?run ((toRunBatch_any S (nm, r, sl, at_, si, st) c w6.drew (H.out _ (below_end (below_of k6.out HDR.out))) (fun b hb => by have := hS b hb; show b < w6.heap.size; omega) HM.out).mono ?_)
    case run => go_simp
    rintro e w7 ⟨g7, rfl, G, hb⟩
    have C7 : Hid (Below w6.heap.size w6 w7) := HDR.out.trans (hb.mono HDR.out.size)
    have z7 : w6.heap.size ≤ w7.heap.size := C7.out.size
    obtain ⟨oA7, oB7, nA7, kA7, nB7, kB7, e0, e1, e2, e3, e4, e5, _, _⟩ := batch_shape G
    have GC7 : Hid (Lay.At (fun b => w6.heap.size ≤ b ∧ b < w7.heap.size) w7 ((nm, r, sl, at_, si, st) : DRunBatch) (cs [.string nm, .slice oA7 nA7 kA7, .slice oB7 nB7 kB7, .string at_, .int .i64 si, .int .i64 st])) := Lay.ext G (batch_ext e0 e1 e2 e3 e4 e5)
    rw [e0, e1, e2, e3, e4, e5]
    clear e0 e1 e2 e3 e4 e5 G hb
    refine ⟨_, rfl, regrown_of_below C7.out, ?_⟩
    refine ⟨by kernel_rfl, ?_⟩
    simp only [List.drop_succ_cons, List.drop_zero, Act.put, List.setIfInBounds_toArray, List.set_cons_zero, List.set_cons_succ]
    have GX : Hid (Lay.At (fun b => w3.heap.size ≤ b ∧ b < w4.heap.size) w7 ((nm, r, sl, at_, si, st) : DRunBatch) (cs [.string nm, .slice oA4 nA4 kA4, .slice oB4 nB4 kB4, .string at_, .int .i64 si, .int .i64 st])) := Lay.same GC6.out (Same.of_below C7.out (fun b hb => by omega))
    go_wp2_with fail
    refine (eqRunBatch_any _ _ (nm, r, sl, at_, si, st) (cs [.string nm, .slice oA4 nA4 kA4, .slice oB4 nB4 kB4, .string at_, .int .i64 si, .int .i64 st]) (cs [.string nm, .slice oA7 nA7 kA7, .slice oB7 nB7 kB7, .string at_, .int .i64 si, .int .i64 st]) w7 GX.out GC7.out (fun b hb => by omega) (fun b hb => hb.2)).mono ?_; rintro e w8 ⟨rfl, hb⟩
    have C8 : Hid (Below w6.heap.size w6 w8) := C7.out.trans (hb.mono z7)
    clear hb GC7
    go_wp2_with fail
    go_ret
    exact ⟨rfl, below_end (below_of k6.out C8.out)⟩

end Go.Proofs.Ytkbocdkgkhgioac
