import Derived.Test.YtobchllaopdchaaM2
import Derived.Test.YtobchllaopdchaaVpo
import Derived.Test.YtobchllaopdchaaM38
import Derived.Test.YtobchllaopdchaaM48
import Derived.Test.YtobchllaopdchaaM49
import Derived.Test.YtobchllaopdchaaXrh
import Derived.Deep.Cut
namespace Go.Proofs.Ytobchllaopdchaa
open Go.RowKit Go.Sort
set_option maxRecDepth 100000 in
set_option maxHeartbeats 16000000 in
theorem lawo_any (S : Nat → Prop) (nm : ByteArray) (r : List DRecPhase) (sl : List DRunSlot) (at_ : ByteArray) (si st : Int) (c : Nat → Value) (w : World) (h : Lay.At S w ((nm, r, sl, at_, si, st) : DRunBatch) c) (hS : ∀ b, S b → b < w.heap.size) :
    Calls Try.prog 3 #[.agg #[c 0, c 1, c 2, c 3, c 4, c 5]] w fun e w' => e = .returned (.bool true) ∧ Below w.heap.size w w' := by
  have H : Hid (∀ w', Below w.heap.size w w' → Lay.At S w' ((nm, r, sl, at_, si, st) : DRunBatch) c) := fun w' hb => Lay.same h (Same.of_below hb hS)
  have HN : Hid (nm.size ≤ maxLen) := (at_DRunBatch.1 h).1.2
  clear h
  obtain ⟨w0, hw0⟩ : ∃ w0, w0 = (w.alloc (.cells #[c 0, c 1, c 2, c 3, c 4, c 5] 25)) := ⟨_, rfl⟩
  have EW : Hid (w0 = (w.alloc (.cells #[c 0, c 1, c 2, c 3, c 4, c 5] 25))) := hw0
  have k0 : Hid (Below (w.heap.size + 1) (w.alloc (.cells #[c 0, c 1, c 2, c 3, c 4, c 5] 25)) w0) := by rw [hw0]; exact Below.refl _ _
  have s0 : w.heap.size + 1 ≤ w0.heap.size := by have := k0.out.size; simpa using this
  clear hw0
  have a0 := box_at _ _ k0.out 0 (c 0) rfl
  have a1 := box_at _ _ k0.out 1 (c 1) rfl
  have a2 := box_at _ _ k0.out 2 (c 2) rfl
  have a3 := box_at _ _ k0.out 3 (c 3) rfl
  have a4 := box_at _ _ k0.out 4 (c 4) rfl
  have a5 := box_at _ _ k0.out 5 (c 5) rfl
  go_enter Try.func3, Try.ntmps3
  go_upto_region 1 with fail
  rw [← EW.out]
  go_wp2_with fail
  refine (szRunBatch_any S (nm, r, sl, at_, si, st) c 1048576 _ (H.out _ (below_end k0.out)) (fun b hb => by have := hS b hb; omega) (by omega) (by omega)).mono ?_
  rintro e w1 ⟨y, rfl, hy, hb1⟩
  clear a0 a1 a2 a3 a4 a5
  have k1 : Hid (Below (w.heap.size + 1) (w.alloc (.cells #[c 0, c 1, c 2, c 3, c 4, c 5] 25)) w1) := below_of k0.out hb1
  have s1 : w.heap.size + 1 ≤ w1.heap.size := by have := k1.out.size; simpa using this
  have HY : Hid _ := hy
  clear hy hb1
  by_cases hneg : y < 0
  · go_wp2_with fail
    go_ret
    exact ⟨rfl, below_end k1.out⟩
  have HM : Hid (Lay.tot (α := DRunBatch) (nm, r, sl, at_, si, st) ≤ 1048576) := by have := HY.out; show _ ≤ _; omega
  have TR : Hid (totL r ≤ 1048576) := by have := HM.out; rw [tot_DRunBatch] at this; simp only at this; show _ ≤ _; omega
  have TS : Hid (totL sl ≤ 1048576) := by have := HM.out; rw [tot_DRunBatch] at this; simp only at this; show _ ≤ _; omega
  clear HY
  obtain ⟨L, hL⟩ : ∃ L, L = (owL (nm, r, sl, at_, si, st)) := ⟨_, rfl⟩
  have HZ : Hid (∀ y ∈ L, y.size ≤ maxLen) := by rw [hL]; exact fun y hy => ow_names TS.out hy
  have hll : L.length ≤ 8192 := by rw [hL]; exact ow_len _
  have HCL : Hid (cntL L ≤ 8192) := by have := cnt_le 1 L (fun y _ => Nat.le_refl 1); show _ ≤ _; omega
  have HCR : Hid (cntL r ≤ 8388608) := by
    have h1 := cnt_le 8 r (fun y _ => by rw [cnt_DRecPhase]; omega)
    have h2 := totL_len r
    have h3 := TR.out
    show _ ≤ _; omega
  have HCS : Hid (cntL sl ≤ 2097152) := by
    have h1 := cnt_le 2 sl (fun y _ => by rw [cnt_DRunSlot]; omega)
    have h2 := totL_len sl
    have h3 := TS.out
    show _ ≤ _; omega
  have PP : Hid (∀ (S : Nat → Prop) (o1 o2 : Option Addr) (n1 k1 n2 k2 : Nat) (w : World), AtL S w r (.slice o1 n1 k1) → AtL S w sl (.slice o2 n2 k2) → (∀ b, S b → b < w.heap.size) → Calls Try.prog 7 #[.agg #[.string nm, .slice o1 n1 k1, .slice o2 n2 k2, .string at_, .int .i64 si, .int .i64 st]] w fun e w' => ∃ q, e = .returned q ∧ Row w' w.heap.size 9 1 eS q L ∧ Below w.heap.size w w') := fun S o1 o2 n1 k1 n2 k2 w h1 h2 h3 => by rw [hL]; exact ownI_any S nm r sl at_ si st o1 o2 n1 k1 n2 k2 w HN.out h1 h2 h3 TR.out TS.out
  have MM : Hid (∀ (S : Nat → Prop) (o1 o2 : Option Addr) (n1 k1 n2 k2 : Nat) (w : World), AtL S w r (.slice o1 n1 k1) → AtL S w sl (.slice o2 n2 k2) → (∀ b, S b → b < w.heap.size) → Calls Try.prog 5 #[.agg #[.string nm, .slice o1 n1 k1, .slice o2 n2 k2, .string at_, .int .i64 si, .int .i64 st]] w fun e w' => ∃ q, e = .returned q ∧ w'.ownsRow w.heap.size 9 1 q L.length (L.map .string) ∧ Below w.heap.size w w') := fun S o1 o2 n1 k1 n2 k2 w h1 h2 h3 => by rw [hL]; exact ownX_any S nm r sl at_ si st o1 o2 n1 k1 n2 k2 w HN.out h1 h2 h3
  clear hL
  have a0 := box_at _ _ k1.out 0 (c 0) rfl
  have a1 := box_at _ _ k1.out 1 (c 1) rfl
  have a2 := box_at _ _ k1.out 2 (c 2) rfl
  have a3 := box_at _ _ k1.out 3 (c 3) rfl
  have a4 := box_at _ _ k1.out 4 (c 4) rfl
  have a5 := box_at _ _ k1.out 5 (c 5) rfl
  go_wp2_with fail
  refine (toRunBatch_any S (nm, r, sl, at_, si, st) c _ (H.out _ (below_end k1.out)) (fun b hb => by have := hS b hb; omega) HM.out).mono ?_
  rintro e w2 ⟨g2, rfl, G, hb⟩
  clear a0 a1 a2 a3 a4 a5
  have k2 : Hid (Below (w.heap.size + 1) (w.alloc (.cells #[c 0, c 1, c 2, c 3, c 4, c 5] 25)) w2) := below_of k1.out hb
  have s2 : w.heap.size + 1 ≤ w2.heap.size := by have := k2.out.size; simpa using this
  have z2 : w1.heap.size ≤ w2.heap.size := hb.size
  obtain ⟨oA2, oB2, nA2, kA2, nB2, kB2, e0, e1, e2, e3, e4, e5, LA, LB⟩ := batch_shape G
  have GC2 : Hid (Lay.At (fun b => w1.heap.size ≤ b ∧ b < w2.heap.size) w2 ((nm, r, sl, at_, si, st) : DRunBatch) (cs [.string nm, .slice oA2 nA2 kA2, .slice oB2 nB2 kB2, .string at_, .int .i64 si, .int .i64 st])) := Lay.ext G (batch_ext e0 e1 e2 e3 e4 e5)
  rw [e0, e1, e2, e3, e4, e5]
  have LA2 : Hid (AtL (fun b => w1.heap.size ≤ b ∧ b < w2.heap.size) w2 r (.slice oA2 nA2 kA2)) := LA
  have LB2 : Hid (AtL (fun b => w1.heap.size ≤ b ∧ b < w2.heap.size) w2 sl (.slice oB2 nB2 kB2)) := LB
  clear e0 e1 e2 e3 e4 e5 LA LB G hb
  go_wp2_with fail
  refine (MM.out _ _ _ _ _ _ _ w2 LA2.out LB2.out (fun b hb => hb.2)).mono ?_; rintro e w3 ⟨u0, rfl, o3, hb⟩
  have U3 : Hid (AtL (fun b => w2.heap.size ≤ b ∧ b < w3.heap.size) w3 L u0) := at_rowX o3 HZ.out hll
  have k3 : Hid (Below (w.heap.size + 1) (w.alloc (.cells #[c 0, c 1, c 2, c 3, c 4, c 5] 25)) w3) := below_of k2.out hb
  have s3 : w.heap.size + 1 ≤ w3.heap.size := by have := k3.out.size; simpa using this
  have z3 := hb.size
  clear hb o3 LA2 LB2 GC2 MM
  have a0 := box_at _ _ k3.out 0 (c 0) rfl
  have a1 := box_at _ _ k3.out 1 (c 1) rfl
  have a2 := box_at _ _ k3.out 2 (c 2) rfl
  have a3 := box_at _ _ k3.out 3 (c 3) rfl
  have a4 := box_at _ _ k3.out 4 (c 4) rfl
  have a5 := box_at _ _ k3.out 5 (c 5) rfl
  go_wp2_with fail
  refine (toRunBatch_own S (nm, r, sl, at_, si, st) c _ (H.out _ (below_end k3.out)) (fun b hb => by have := hS b hb; omega) HM.out).mono ?_
  rintro e w4 ⟨g4, rfl, G, hb⟩
  clear a0 a1 a2 a3 a4 a5
  have k4 : Hid (Below (w.heap.size + 1) (w.alloc (.cells #[c 0, c 1, c 2, c 3, c 4, c 5] 25)) w4) := below_of k3.out hb
  have s4 : w.heap.size + 1 ≤ w4.heap.size := by have := k4.out.size; simpa using this
  have z4 : w3.heap.size ≤ w4.heap.size := hb.size
  obtain ⟨oA4, oB4, nA4, kA4, nB4, kB4, e0, e1, e2, e3, e4, e5, LA, LB⟩ := batch_shape (Own.on_at G)
  have ON4 : Hid (Own.On (fun b => w3.heap.size ≤ b ∧ b < w4.heap.size) w4 ((nm, r, sl, at_, si, st) : DRunBatch) (cs [.string nm, .slice oA4 nA4 kA4, .slice oB4 nB4 kB4, .string at_, .int .i64 si, .int .i64 st])) := Own.on_ext G (batch_ext e0 e1 e2 e3 e4 e5)
  rw [e0, e1, e2, e3, e4, e5]
  have LA4 : Hid (AtL (fun b => w3.heap.size ≤ b ∧ b < w4.heap.size) w4 r (.slice oA4 nA4 kA4)) := LA
  have LB4 : Hid (AtL (fun b => w3.heap.size ≤ b ∧ b < w4.heap.size) w4 sl (.slice oB4 nB4 kB4)) := LB
  have Z34 : Hid (Below w3.heap.size w3 w4) := hb
  clear e0 e1 e2 e3 e4 e5 LA LB G hb
  obtain ⟨W4, hW4⟩ : ∃ W, W = w4.alloc (.cells #[.string nm, .slice oA4 nA4 kA4, .slice oB4 nB4 kB4, .string at_, .int .i64 si, .int .i64 st] 32) := ⟨_, rfl⟩
  have EW4 : Hid (W4 = w4.alloc (.cells #[.string nm, .slice oA4 nA4 kA4, .slice oB4 nB4 kB4, .string at_, .int .i64 si, .int .i64 st] 32)) := hW4
  have B4 : Hid (Below w4.heap.size w4 W4) := by rw [hW4]; exact (Below.refl _ _).alloc (Nat.le_refl _) _
  have X4 : Hid (W4.heap[w4.heap.size]? = some (.cells #[.string nm, .slice oA4 nA4 kA4, .slice oB4 nB4 kB4, .string at_, .int .i64 si, .int .i64 st] 32 (0, 0))) := by rw [hW4]; exact heap_alloc_new w4 _
  have p4 : w4.heap.size + 1 ≤ W4.heap.size := by rw [hW4]; simp
  have LA5 : Hid (AtL (fun b => w3.heap.size ≤ b ∧ b < w4.heap.size) W4 r (.slice oA4 nA4 kA4)) := LA4.out.same (Same.of_below B4.out (fun b hb => hb.2))
  have LB5 : Hid (AtL (fun b => w3.heap.size ≤ b ∧ b < w4.heap.size) W4 sl (.slice oB4 nB4 kB4)) := LB4.out.same (Same.of_below B4.out (fun b hb => hb.2))
  have j0 := (cell_row X4.out 0 _ rfl).1
  have j1 := (cell_row X4.out 1 _ rfl).1
  have j2 := (cell_row X4.out 2 _ rfl).1
  have j3 := (cell_row X4.out 3 _ rfl).1
  have j4 := (cell_row X4.out 4 _ rfl).1
  have j5 := (cell_row X4.out 5 _ rfl).1
  clear hW4
  go_upto_region 7 with fail
  rw [← EW4.out]
  go_wp2_with fail
  refine (PP.out _ _ _ _ _ _ _ W4 LA5.out LB5.out (fun b hb => by omega)).mono ?_; rintro e w5 ⟨g0, rfl, a5, hb⟩
  have C5 : Hid (Below w4.heap.size w4 w5) := B4.out.trans (hb.mono B4.out.size)
  have k5 : Hid (Below (w.heap.size + 1) (w.alloc (.cells #[c 0, c 1, c 2, c 3, c 4, c 5] 25)) w5) := below_of k4.out C5.out
  have s5 : w.heap.size + 1 ≤ w5.heap.size := by have := k5.out.size; simpa using this
  have z5 := hb.size
  have X5 : Hid (w5.heap[w4.heap.size]? = some (.cells #[.string nm, .slice oA4 nA4 kA4, .slice oB4 nB4 kB4, .string at_, .int .i64 si, .int .i64 st] 32 (0, 0))) := (hb.block _ (by omega)).trans X4.out
  have G5 : Hid (OnL (fun b => W4.heap.size ≤ b ∧ b < w5.heap.size) w5 L g0) := onS a5 (fun g hg => World.ownsRow.lt a5 g hg) (fun y hy => HZ.out y hy)
  have U5 : Hid (AtL (fun b => w2.heap.size ≤ b ∧ b < w3.heap.size) w5 L u0) := U3.out.same (Same.of_below ((Z34.out.trans (C5.out.mono z4))) (fun b hb => by omega))
  clear hb a5 j0 j1 j2 j3 j4 j5 LA5 LB5 X4
  go_wp2_with fail
  refine (eqStringS_any _ _ L g0 u0 w5 G5.out.at_ U5.out (fun b hb => hb.2) (fun b hb => by omega)).mono ?_; rintro e w6 ⟨rfl, hb6⟩
  have C6 : Hid (Below w5.heap.size w5 w6) := hb6
  have k6 : Hid (Below (w.heap.size + 1) (w.alloc (.cells #[c 0, c 1, c 2, c 3, c 4, c 5] 25)) w6) := below_of k5.out hb6
  have s6 : w.heap.size + 1 ≤ w6.heap.size := by have := k6.out.size; simpa using this
  have z6 := hb6.size
  have X6 : Hid (w6.heap[w4.heap.size]? = some (.cells #[.string nm, .slice oA4 nA4 kA4, .slice oB4 nB4 kB4, .string at_, .int .i64 si, .int .i64 st] 32 (0, 0))) := (hb6.block _ (by omega)).trans X5.out
  clear hb6
  have qa0 := fun d os => cell_regrown (box_at _ _ k6.out 0 (c 0) rfl) d os
  have qj0 := fun d os => cell_regrown ((cell_row X6.out 0 _ rfl).1) d os
  have qa1 := fun d os => cell_regrown (box_at _ _ k6.out 1 (c 1) rfl) d os
  have qj1 := fun d os => cell_regrown ((cell_row X6.out 1 _ rfl).1) d os
  have qa2 := fun d os => cell_regrown (box_at _ _ k6.out 2 (c 2) rfl) d os
  have qj2 := fun d os => cell_regrown ((cell_row X6.out 2 _ rfl).1) d os
  have qa3 := fun d os => cell_regrown (box_at _ _ k6.out 3 (c 3) rfl) d os
  have qj3 := fun d os => cell_regrown ((cell_row X6.out 3 _ rfl).1) d os
  have qa4 := fun d os => cell_regrown (box_at _ _ k6.out 4 (c 4) rfl) d os
  have qj4 := fun d os => cell_regrown ((cell_row X6.out 4 _ rfl).1) d os
  have qa5 := fun d os => cell_regrown (box_at _ _ k6.out 5 (c 5) rfl) d os
  have qj5 := fun d os => cell_regrown ((cell_row X6.out 5 _ rfl).1) d os
  go_wp2_with fail
  refine wp_region_mix 3 [0, 1] (by kernel_rfl) (by kernel_rfl) ?_
  simp only [List.filterMap_cons, List.filterMap_nil, List.getElem?_cons_succ, List.getElem?_cons_zero]
  repeat (first | go_big_quiet_step (fail) | quiet_step (fail))
  refine wpQuiet_nil ?_
  clear qa0 qa1 qa2 qa3 qa4 qa5 qj0 qj1 qj2 qj3 qj4 qj5
  have HDR : Hid (Below w6.heap.size w6 w6.drew) := (Below.refl _ _).drew
  refine call1 (md := .any) (f := 0) (i := 2) (dc := 29) (fn := 6) ⟨rfl, rfl, rfl, by decide⟩ (by kernel_rfl) ?run ((toRunBatch_any S (nm, r, sl, at_, si, st) c w6.drew (H.out _ (below_end (below_of k6.out HDR.out))) (fun b hb => by have := hS b hb; show b < w6.heap.size; omega) HM.out).mono ?_)
  case run => go_simp
  rintro e w7 ⟨g7, rfl, G, hb⟩
  have C7 : Hid (Below w6.heap.size w6 w7) := HDR.out.trans (hb.mono HDR.out.size)
  have z7 : w6.heap.size ≤ w7.heap.size := C7.out.size
  obtain ⟨oA7, oB7, nA7, kA7, nB7, kB7, e0, e1, e2, e3, e4, e5, _, _⟩ := batch_shape G
  have GC7 : Hid (Lay.At (fun b => w6.heap.size ≤ b ∧ b < w7.heap.size) w7 ((nm, r, sl, at_, si, st) : DRunBatch) (cs [.string nm, .slice oA7 nA7 kA7, .slice oB7 nB7 kB7, .string at_, .int .i64 si, .int .i64 st])) := Lay.ext G (batch_ext e0 e1 e2 e3 e4 e5)
  rw [e0, e1, e2, e3, e4, e5]
  clear e0 e1 e2 e3 e4 e5 G hb
  refine ⟨_, rfl, regrown_of_below C7.out, ?_⟩
  refine ⟨by kernel_rfl, ?_⟩
  simp only [List.drop_succ_cons, List.drop_zero, Act.put, List.setIfInBounds_toArray, List.set_cons_zero, List.set_cons_succ]
  have GX : Hid (Lay.At (fun b => w3.heap.size ≤ b ∧ b < w4.heap.size) w7 ((nm, r, sl, at_, si, st) : DRunBatch) (cs [.string nm, .slice oA4 nA4 kA4, .slice oB4 nB4 kB4, .string at_, .int .i64 si, .int .i64 st])) := Lay.same (Own.on_at ON4.out) (Same.of_below (C5.out.trans ((C6.out.trans (C7.out.mono z6)).mono (by omega))) (fun b hb => hb.2))
  go_wp2_with fail
  refine (eqRunBatch_any _ _ (nm, r, sl, at_, si, st) (cs [.string nm, .slice oA4 nA4 kA4, .slice oB4 nB4 kB4, .string at_, .int .i64 si, .int .i64 st]) (cs [.string nm, .slice oA7 nA7 kA7, .slice oB7 nB7 kB7, .string at_, .int .i64 si, .int .i64 st]) w7 GX.out GC7.out (fun b hb => by omega) (fun b hb => hb.2)).mono ?_; rintro e w8 ⟨rfl, hb⟩
  have C8 : Hid (Below w6.heap.size w6 w8) := C7.out.trans (hb.mono z7)
  clear hb GC7
  have k8 : Hid (Below (w.heap.size + 1) (w.alloc (.cells #[c 0, c 1, c 2, c 3, c 4, c 5] 25)) w8) := below_of k6.out C8.out
  have s8 : w.heap.size + 1 ≤ w8.heap.size := by have := k8.out.size; simpa using this
  have z8 := C8.out.size
  have C48 : Hid (Below w4.heap.size w4 w8) := C5.out.trans ((C6.out.trans (C8.out.mono z6)).mono (by omega))
  have C58 : Hid (Below w5.heap.size w5 w8) := C6.out.trans (C8.out.mono z6)
  have ON8 : Hid (Own.On (fun b => w3.heap.size ≤ b ∧ b < w4.heap.size) w8 ((nm, r, sl, at_, si, st) : DRunBatch) (cs [.string nm, .slice oA4 nA4 kA4, .slice oB4 nB4 kB4, .string at_, .int .i64 si, .int .i64 st])) := Own.on_same ON4.out (Same.of_below C48.out (fun b hb => hb.2))
  have X8 : Hid (w8.heap[w4.heap.size]? = some (.cells #[.string nm, .slice oA4 nA4 kA4, .slice oB4 nB4 kB4, .string at_, .int .i64 si, .int .i64 st] 32 (0, 0))) := (C8.out.block _ (by omega)).trans X6.out
  have G8 : Hid (OnL (fun b => W4.heap.size ≤ b ∧ b < w5.heap.size) w8 L g0) := G5.out.same (fun b hb => C58.out.block b hb.2)
  have U8 : Hid (AtL (fun b => w2.heap.size ≤ b ∧ b < w3.heap.size) w8 L u0) := U5.out.same (Same.of_below C58.out (fun b hb => by omega))
  have j0 := (cell_row X8.out 0 _ rfl).1
  have j1 := (cell_row X8.out 1 _ rfl).1
  have j2 := (cell_row X8.out 2 _ rfl).1
  have j3 := (cell_row X8.out 3 _ rfl).1
  have j4 := (cell_row X8.out 4 _ rfl).1
  have j5 := (cell_row X8.out 5 _ rfl).1
  clear GX C7 C6 C8 U5 G5 X5 X6
  go_wp2_with fail
  refine (markRunBatch_any _ (nm, r, sl, at_, si, st) (cs [.string nm, .slice oA4 nA4 kA4, .slice oB4 nB4 kB4, .string at_, .int .i64 si, .int .i64 st]) 1 w8 ON8.out (fun b hb => by omega) (by omega) (by have := HCR.out; have := HCS.out; show (1 : Int) + (cntL r : Int) + (cntL sl : Int) ≤ _; omega)).mono ?_; rintro e w9 ⟨rfl, bu9⟩
  have z9 := bu9.size
  have G9 : Hid (OnL (fun b => W4.heap.size ≤ b ∧ b < w5.heap.size) w9 L g0) := G8.out.same (fun b hb => bu9.block b (by omega) (by omega))
  have U9 : Hid (AtL (fun b => w2.heap.size ≤ b ∧ b < w3.heap.size) w9 L u0) := U8.out.same (fun b hb => bu9.block b (by omega) (by omega))
  have k9 : Hid (Below (w.heap.size + 1) (w.alloc (.cells #[c 0, c 1, c 2, c 3, c 4, c 5] 25)) w9) := k8.out.trans (bu9.below (B := w.heap.size + 1) (fun b hb => by omega) (by omega))
  have s9 : w.heap.size + 1 ≤ w9.heap.size := by have := k9.out.size; simpa using this
  clear bu9 G8 U8 X8 ON8 ON4 j0 j1 j2 j3 j4 j5
  obtain ⟨m9, em9⟩ : ∃ m : Int, m = 1 + (cntL r : Int) + (cntL sl : Int) := ⟨_, rfl⟩
  have dk : decide (m9 < 0) = false := by rw [em9]; simp; omega
  rw [← em9]
  clear em9
  go_wp2_with fail
  refine (eqStringS_any _ _ L g0 u0 w9 G9.out.at_ U9.out (fun b hb => by omega) (fun b hb => by omega)).mono ?_; rintro e w10 ⟨rfl, hb10⟩
  have z10 := hb10.size
  have G10 : Hid (OnL (fun b => W4.heap.size ≤ b ∧ b < w5.heap.size) w10 L g0) := G9.out.same (fun b hb => hb10.block b (by omega))
  have U10 : Hid (AtL (fun b => w2.heap.size ≤ b ∧ b < w3.heap.size) w10 L u0) := U9.out.same (Same.of_below hb10 (fun b hb => by omega))
  have k10 : Hid (Below (w.heap.size + 1) (w.alloc (.cells #[c 0, c 1, c 2, c 3, c 4, c 5] 25)) w10) := below_of k9.out hb10
  have s10 : w.heap.size + 1 ≤ w10.heap.size := by have := k10.out.size; simpa using this
  clear hb10 G9 U9 dk
  go_wp2_with fail
  refine (markStringS_any _ L g0 1 w10 G10.out (fun b hb => by omega) (by omega) (by have := HCL.out; omega)).mono ?_; rintro e w11 ⟨rfl, m11, bu11⟩
  have z11 := bu11.size
  have M11 : Hid (AtL (fun b => W4.heap.size ≤ b ∧ b < w5.heap.size) w11 (mkL 1 L) g0) := m11.at_
  have U11 : Hid (AtL (fun b => w2.heap.size ≤ b ∧ b < w3.heap.size) w11 L u0) := U10.out.same (fun b hb => bu11.block b (by omega) (by omega))
  have k11 : Hid (Below (w.heap.size + 1) (w.alloc (.cells #[c 0, c 1, c 2, c 3, c 4, c 5] 25)) w11) := k10.out.trans (bu11.below (B := w.heap.size + 1) (fun b hb => by omega) (by omega))
  have s11 : w.heap.size + 1 ≤ w11.heap.size := by have := k11.out.size; simpa using this
  clear m11 bu11 G10 U10
  have HE : Hid (∀ u, Below w11.heap.size w11 u → Calls Try.prog 12 #[g0, .int .i64 1] u fun e w' => e = .returned (.int .i64 (1 + (cntL L : Int))) ∧ Below u.heap.size u w') := fun u hu => heldStringS_any _ L g0 1 u (M11.out.same (Same.of_below hu (fun b hb => by omega))) (fun b hb => by have := hu.size; omega) (by omega) (by have := HCL.out; omega)
  have hcl : (cntL L : Int) ≤ 8192 := by have := HCL.out; omega
  go_wp2_with fail
  refine (HE.out w11 (Below.refl _ _)).mono ?_; rintro e w12 ⟨rfl, hb12⟩
  have C12 : Hid (Below w11.heap.size w11 w12) := hb12
  have z12 := hb12.size
  have k12 : Hid (Below (w.heap.size + 1) (w.alloc (.cells #[c 0, c 1, c 2, c 3, c 4, c 5] 25)) w12) := below_of k11.out hb12
  have s12 : w.heap.size + 1 ≤ w12.heap.size := by have := k12.out.size; simpa using this
  clear hb12
  have a0 := box_at _ _ k12.out 0 (c 0) rfl
  have a1 := box_at _ _ k12.out 1 (c 1) rfl
  have a2 := box_at _ _ k12.out 2 (c 2) rfl
  have a3 := box_at _ _ k12.out 3 (c 3) rfl
  have a4 := box_at _ _ k12.out 4 (c 4) rfl
  have a5 := box_at _ _ k12.out 5 (c 5) rfl
  go_wp2_with fail
  refine (toRunBatch_any S (nm, r, sl, at_, si, st) c _ (H.out _ (below_end k12.out)) (fun b hb => by have := hS b hb; omega) HM.out).mono ?_
  rintro e w13 ⟨g13, rfl, G, hb⟩
  clear a0 a1 a2 a3 a4 a5
  have k13 : Hid (Below (w.heap.size + 1) (w.alloc (.cells #[c 0, c 1, c 2, c 3, c 4, c 5] 25)) w13) := below_of k12.out hb
  have s13 : w.heap.size + 1 ≤ w13.heap.size := by have := k13.out.size; simpa using this
  have z13 : w12.heap.size ≤ w13.heap.size := hb.size
  obtain ⟨oA13, oB13, nA13, kA13, nB13, kB13, e0, e1, e2, e3, e4, e5, LA, LB⟩ := batch_shape G
  have GC13 : Hid (Lay.At (fun b => w12.heap.size ≤ b ∧ b < w13.heap.size) w13 ((nm, r, sl, at_, si, st) : DRunBatch) (cs [.string nm, .slice oA13 nA13 kA13, .slice oB13 nB13 kB13, .string at_, .int .i64 si, .int .i64 st])) := Lay.ext G (batch_ext e0 e1 e2 e3 e4 e5)
  rw [e0, e1, e2, e3, e4, e5]
  have LA13 : Hid (AtL (fun b => w12.heap.size ≤ b ∧ b < w13.heap.size) w13 r (.slice oA13 nA13 kA13)) := LA
  have LB13 : Hid (AtL (fun b => w12.heap.size ≤ b ∧ b < w13.heap.size) w13 sl (.slice oB13 nB13 kB13)) := LB
  have ZZ : Hid (Below w12.heap.size w12 w13) := hb
  clear e0 e1 e2 e3 e4 e5 LA LB G hb
  have C13 : Hid (Below w11.heap.size w11 w13) := C12.out.trans (ZZ.out.mono z12)
  go_wp2_with fail
  refine (PP.out _ _ _ _ _ _ _ w13 LA13.out LB13.out (fun b hb => hb.2)).mono ?_; rintro e w14 ⟨h0, rfl, a14, hb14⟩
  have z14 := hb14.size
  have A14 : Hid (AtL (fun b => w13.heap.size ≤ b ∧ b < w14.heap.size) w14 L h0) := flatS.row_at a14 (fun g hg => World.ownsRow.lt a14 g hg) (fun y hy => HZ.out y hy)
  have C14 : Hid (Below w11.heap.size w11 w14) := C13.out.trans (hb14.mono (by omega))
  have U14 : Hid (AtL (fun b => w2.heap.size ≤ b ∧ b < w3.heap.size) w14 L u0) := U11.out.same (Same.of_below C14.out (fun b hb => by omega))
  clear a14 hb14 LA13 LB13 GC13
  go_wp2_with fail
  refine (eqStringS_any _ _ L h0 u0 w14 A14.out U14.out (fun b hb => hb.2) (fun b hb => by omega)).mono ?_; rintro e w15 ⟨rfl, hb15⟩
  have C15 : Hid (Below w11.heap.size w11 w15) := C14.out.trans (hb15.mono (by omega))
  clear hb15
  go_wp2_with fail
  refine (HE.out w15 C15.out).mono ?_; rintro e w16 ⟨rfl, hb16⟩
  have B16 : Hid (Below w11.heap.size w11 w16) := C15.out.trans (hb16.mono C15.out.size)
  clear hb16
  go_wp2_with fail
  go_ret
  exact ⟨rfl, below_end (below_of k11.out B16.out)⟩
end Go.Proofs.Ytobchllaopdchaa
