/-
  Several texts in one.
-/
import Derived.Test.YtkbocdkgkhgioaaVmd
import Derived.Test.YtkbocdkgkhgioaaVmbx
import Derived.Test.YtkbocdkgkhgioaaVpc
/-
  RunThings, by the model.
-/
namespace Go.Proofs.Ytkbocdkgkhgioaa
open Go.RowKit Go.Sort

/-- The things that a batch may yet need from a phase on. -/
noncomputable def tgL (b : DRunBatch) (x : ByteArray) : List ByteArray := if runB b = true then thL b.2.2.1 (sltF 12 b.2.1 x) else []

theorem run_rec {b : DRunBatch} (h : runB b = true) : RecP b.2.1 ∧ SlP (sltF 12 b.2.1 (fstN b.2.1)) b.2.2.1 := by
  unfold runB at h
  simp only [Bool.and_eq_true] at h
  exact ⟨rec_iff.1 h.1.1.1.1.2, sl_iff.1 h.1.1.1.2⟩

set_option maxRecDepth 100000 in
set_option maxHeartbeats 8000000 in
theorem thgX_any (S : Nat → Prop) (nm : ByteArray) (r : List DRecPhase) (sl : List DRunSlot) (at_ : ByteArray) (si st : Int) (o1 o2 : Option Addr) (n1 k1 n2 k2 : Nat) (x : ByteArray) (w : World) (hn : nm.size ≤ maxLen) (hr : AtL S w r (.slice o1 n1 k1)) (h : AtL S w sl (.slice o2 n2 k2)) (hS : ∀ b, S b → b < w.heap.size) :
    Calls Try.prog 5 #[.agg #[.string nm, .slice o1 n1 k1, .slice o2 n2 k2, .string at_, .int .i64 si, .int .i64 st], .string x] w fun e w' => ∃ q, e = .returned q ∧ w'.ownsRow w.heap.size 9 1 q (tgL (nm, r, sl, at_, si, st) x).length ((tgL (nm, r, sl, at_, si, st) x).map .string) ∧ Below w.heap.size w w' := by
  have HN : Hid (nm.size ≤ maxLen) := hn
  obtain ⟨G, hG⟩ : ∃ G, G = tgL (nm, r, sl, at_, si, st) x := ⟨_, rfl⟩
  rw [← hG]
  have TG : Hid (G = if runB (nm, r, sl, at_, si, st) = true then thL sl (sltF 12 r x) else []) := hG
  clear hG
  obtain ⟨W, hW⟩ : ∃ W, W = w.alloc (.cells #[.string nm, .slice o1 n1 k1, .slice o2 n2 k2, .string at_, .int .i64 si, .int .i64 st] 32) := ⟨_, rfl⟩
  have EW : Hid (W = w.alloc (.cells #[.string nm, .slice o1 n1 k1, .slice o2 n2 k2, .string at_, .int .i64 si, .int .i64 st] 32)) := hW
  have BW : Hid (Below w.heap.size w W) := by rw [hW]; exact (Below.refl _ _).alloc (Nat.le_refl _) _
  have RW : Hid (W.heap[w.heap.size]? = some (.cells #[.string nm, .slice o1 n1 k1, .slice o2 n2 k2, .string at_, .int .i64 si, .int .i64 st] 32 (0, 0))) := by rw [hW]; exact heap_alloc_new w _
  have sW : w.heap.size + 1 ≤ W.heap.size := by rw [hW]; simp
  clear hW
  have BOX : Hid (∀ u, Below W.heap.size W u → u.heap[w.heap.size]? = some (.cells #[.string nm, .slice o1 n1 k1, .slice o2 n2 k2, .string at_, .int .i64 si, .int .i64 st] 32 (0, 0)) ∧ Below w.heap.size w u) := fun u hu => ⟨(hu.block _ (by omega)).trans RW.out, BW.out.trans (hu.mono (by omega))⟩
  have HR : Hid (∀ u, Below w.heap.size w u → AtL S u r (.slice o1 n1 k1)) := fun u hu => hr.same (Same.of_below hu hS)
  have HA : Hid (∀ u, Below w.heap.size w u → AtL S u sl (.slice o2 n2 k2)) := fun u hu => h.same (Same.of_below hu hS)
  have HS : Hid (∀ u, Below w.heap.size w u → ∀ b, S b → b < u.heap.size) := fun u hu b hb => Nat.lt_of_lt_of_le (hS b hb) hu.size
  clear h hr hS hn
  have h0 := fun u (hu : Below W.heap.size W u) => cell_row (BOX.out u hu).1
  have Y : Hid (∀ u, Below W.heap.size W u → u.cell? ⟨w.heap.size, 0, none⟩ = some (.string nm) ∧ u.cell? ⟨w.heap.size, 1, none⟩ = some (.slice o1 n1 k1) ∧ u.cell? ⟨w.heap.size, 2, none⟩ = some (.slice o2 n2 k2) ∧ u.cell? ⟨w.heap.size, 3, none⟩ = some (.string at_) ∧ u.cell? ⟨w.heap.size, 4, none⟩ = some (.int .i64 si) ∧ u.cell? ⟨w.heap.size, 5, none⟩ = some (.int .i64 st)) := fun u hu =>
    ⟨(h0 u hu 0 _ rfl).1, (h0 u hu 1 _ rfl).1, (h0 u hu 2 _ rfl).1, (h0 u hu 3 _ rfl).1, (h0 u hu 4 _ rfl).1, (h0 u hu 5 _ rfl).1⟩
  clear h0
  obtain ⟨y0, y1, y2, y3, y4, y5⟩ := Y.out W (Below.refl _ _)
  have BWW := BW.out
  have szW := BWW.size
  go_enter Try.func5, Try.ntmps5
  go_upto_region 1 with fail
  rw [← EW.out]
  go_wp2_with fail
  refine (runX_any S nm r sl at_ si st o1 o2 n1 k1 n2 k2 W HN.out (HR.out _ BW.out) (HA.out _ BW.out) (HS.out _ BW.out)).mono ?_; rintro e w1 ⟨rfl, hb1⟩
  have B1 : Hid (Below W.heap.size W w1) := hb1
  have BW1 : Hid (Below w.heap.size w w1) := (BOX.out w1 hb1).2
  clear y0 y1 y2 y3 y4 y5 hb1
  obtain ⟨y0, y1, y2, y3, y4, y5⟩ := Y.out w1 B1.out
  cases c : runB (nm, r, sl, at_, si, st)
  · rw [c] at TG
    obtain rfl : G = [] := TG.out
    clear y0 y1 y2 y3 y4 y5 szW BWW
    go_wp2_with fail
    go_ret
    have sz := BW1.out.size
    exact ⟨_, rfl, own_nil sz, BW1.out.alloc sz _⟩
  rw [c, if_pos rfl] at TG
  have HP := run_rec c
  have hR : RecP r := HP.1
  obtain ⟨L, hL⟩ : ∃ L, L = sltF 12 r x := ⟨_, rfl⟩
  have hll : L.length ≤ 8192 := by rw [hL]; exact slt_small r (by omega) _
  have HLL : Hid (L.length ≤ 8192) := hll
  have CS : Hid (∀ u, Below w.heap.size w u → Calls Try.prog 17 #[.slice o1 n1 k1, .string x] u fun e w' => ∃ q, e = .returned q ∧ w'.ownsRow u.heap.size 9 1 q L.length (L.map .string) ∧ Below u.heap.size u w') := fun u hu => by
    rw [hL]; exact sltX_any S r hR 12 _ _ u (Nat.le_refl _) (HR.out u hu) (HS.out u hu) (fun k hk => by have := hR.1; omega)
  rw [← hL] at TG
  have hG : G = thL sl L := TG.out
  subst hG
  have HDR : Hid (Below w1.heap.size w1 w1.drew) := (Below.refl _ _).drew
  have q0 := fun d os => cell_regrown y0 d os
  have q1 := fun d os => cell_regrown y1 d os
  have q2 := fun d os => cell_regrown y2 d os
  have q3 := fun d os => cell_regrown y3 d os
  have q4 := fun d os => cell_regrown y4 d os
  have q5 := fun d os => cell_regrown y5 d os
  clear hL HP hR hll TG y0 y1 y2 y3 y4 y5 szW BWW
  go_wp2_with fail
  refine wp_region_mix 5 [0, 1, 2, 3] (by kernel_rfl) (by kernel_rfl) ?_
  simp only [List.filterMap_cons, List.filterMap_nil, List.getElem?_cons_succ, List.getElem?_cons_zero]
  repeat (first | go_big_quiet_step (fail) | quiet_step (fail))
  refine wpQuiet_nil ?_
  clear q0 q1 q2 q3 q4 q5
  have bdr : Hid (Below w.heap.size w w1.drew) := BW1.out.trans (HDR.out.mono BW1.out.size)
  refine call1 (md := .any) (f := 0) (i := 4) (dc := 13) (fn := 17) ⟨rfl, rfl, rfl, by decide⟩ (by kernel_rfl) ?run ((CS.out w1.drew bdr.out).mono ?_)
  case run => go_simp
  rintro e u ⟨q, rfl, hq, hb1⟩
  have C1 : Hid (Below w1.heap.size w1 u) := HDR.out.trans (hb1.mono HDR.out.size)
  have BU : Hid (Below w.heap.size w u) := BW1.out.trans (C1.out.mono BW1.out.size)
  have RD : Hid (RdB u q L) := RdB.of hq
  refine ⟨_, rfl, regrown_of_below C1.out, ?_⟩
  clear hb1 hq
  refine ⟨by kernel_rfl, ?_⟩
  simp only [List.drop_succ_cons, List.drop_zero, Act.put, List.setIfInBounds_toArray, List.set_cons_zero, List.set_cons_succ]
  have s1 := BU.out.size
  go_wp2_with fail
  refine (thingsX_any S sl nm at_ si st o1 o2 n1 k1 n2 k2 L q u (HA.out _ BU.out) (HS.out _ BU.out) RD.out (by have := HLL.out; omega)).mono ?_; rintro e u2 ⟨g, cap, rfl, ho, hb2⟩
  have HO : Hid _ := ho
  have HB : Hid (Below w.heap.size w u2) := BU.out.trans (hb2.mono s1)
  clear ho hb2
  go_wp2_with fail
  go_ret
  exact ⟨_, rfl, own_leR HO.out s1, HB.out⟩

end Go.Proofs.Ytkbocdkgkhgioaa

/-
  RunThings, by the program.
-/
namespace Go.Proofs.Ytkbocdkgkhgioaa
open Go.RowKit Go.Sort

theorem run_dist {r : List DRecPhase} {sl : List DRunSlot} {nm at_ : ByteArray} {si st : Int} (h : runB (nm, r, sl, at_, si, st) = true) : (sl.map (·.1)).Nodup :=
  ((sl_two (slt_asc r 12 _)).1 (run_rec h).2).1.dist (slt_asc r 12 _)

set_option maxRecDepth 100000 in
set_option maxHeartbeats 8000000 in
theorem thgI_any (S : Nat → Prop) (nm : ByteArray) (r : List DRecPhase) (sl : List DRunSlot) (at_ : ByteArray) (si st : Int) (o1 o2 : Option Addr) (n1 k1 n2 k2 : Nat) (x : ByteArray) (w : World) (hn : nm.size ≤ maxLen) (hr : AtL S w r (.slice o1 n1 k1)) (h : AtL S w sl (.slice o2 n2 k2)) (hS : ∀ b, S b → b < w.heap.size) (tr : totL r ≤ 1048576) (ts : totL sl ≤ 1048576) (hx : x.size ≤ 1048576) :
    Calls Try.prog 7 #[.agg #[.string nm, .slice o1 n1 k1, .slice o2 n2 k2, .string at_, .int .i64 si, .int .i64 st], .string x] w fun e w' => ∃ q, e = .returned q ∧ Row w' w.heap.size 9 1 eS q (tgL (nm, r, sl, at_, si, st) x) ∧ Below w.heap.size w w' := by
  have HX : Hid (x.size ≤ 1048576) := hx
  obtain ⟨G, hG⟩ : ∃ G, G = tgL (nm, r, sl, at_, si, st) x := ⟨_, rfl⟩
  rw [← hG]
  have TG : Hid (G = if runB (nm, r, sl, at_, si, st) = true then thL sl (sltF 12 r x) else []) := hG
  clear hG hx
  have HN : Hid (nm.size ≤ maxLen) := hn
  have TR : Hid (totL r ≤ 1048576) := tr
  have TS : Hid (totL sl ≤ 1048576) := ts
  obtain ⟨W, hW⟩ : ∃ W, W = w.alloc (.cells #[.string nm, .slice o1 n1 k1, .slice o2 n2 k2, .string at_, .int .i64 si, .int .i64 st] 32) := ⟨_, rfl⟩
  have EW : Hid (W = w.alloc (.cells #[.string nm, .slice o1 n1 k1, .slice o2 n2 k2, .string at_, .int .i64 si, .int .i64 st] 32)) := hW
  have BW : Hid (Below w.heap.size w W) := by rw [hW]; exact (Below.refl _ _).alloc (Nat.le_refl _) _
  have RW : Hid (W.heap[w.heap.size]? = some (.cells #[.string nm, .slice o1 n1 k1, .slice o2 n2 k2, .string at_, .int .i64 si, .int .i64 st] 32 (0, 0))) := by rw [hW]; exact heap_alloc_new w _
  have sW : w.heap.size + 1 ≤ W.heap.size := by rw [hW]; simp
  clear hW
  have BOX : Hid (∀ u, Below W.heap.size W u → u.heap[w.heap.size]? = some (.cells #[.string nm, .slice o1 n1 k1, .slice o2 n2 k2, .string at_, .int .i64 si, .int .i64 st] 32 (0, 0)) ∧ Below w.heap.size w u) := fun u hu => ⟨(hu.block _ (by omega)).trans RW.out, BW.out.trans (hu.mono (by omega))⟩
  have HR : Hid (∀ u, Below w.heap.size w u → AtL S u r (.slice o1 n1 k1)) := fun u hu => hr.same (Same.of_below hu hS)
  have HA : Hid (∀ u, Below w.heap.size w u → AtL S u sl (.slice o2 n2 k2)) := fun u hu => h.same (Same.of_below hu hS)
  have HS : Hid (∀ u, Below w.heap.size w u → ∀ b, S b → b < u.heap.size) := fun u hu b hb => Nat.lt_of_lt_of_le (hS b hb) hu.size
  have h0 := fun u (hu : Below W.heap.size W u) => cell_row (BOX.out u hu).1
  have Y : Hid (∀ u, Below W.heap.size W u → u.cell? ⟨w.heap.size, 0, none⟩ = some (.string nm) ∧ u.cell? ⟨w.heap.size, 1, none⟩ = some (.slice o1 n1 k1) ∧ u.cell? ⟨w.heap.size, 2, none⟩ = some (.slice o2 n2 k2) ∧ u.cell? ⟨w.heap.size, 3, none⟩ = some (.string at_) ∧ u.cell? ⟨w.heap.size, 4, none⟩ = some (.int .i64 si) ∧ u.cell? ⟨w.heap.size, 5, none⟩ = some (.int .i64 st)) := fun u hu =>
    ⟨(h0 u hu 0 _ rfl).1, (h0 u hu 1 _ rfl).1, (h0 u hu 2 _ rfl).1, (h0 u hu 3 _ rfl).1, (h0 u hu 4 _ rfl).1, (h0 u hu 5 _ rfl).1⟩
  clear h0
  clear h hr hS hn tr ts
  obtain ⟨y0, y1, y2, y3, y4, y5⟩ := Y.out W (Below.refl _ _)
  have BWW := BW.out
  have szW := BWW.size
  go_enter Try.func7, Try.ntmps7
  go_upto_region 1 with fail
  rw [← EW.out]
  go_wp2_with fail
  refine (runI_any S nm r sl at_ si st o1 o2 n1 k1 n2 k2 W HN.out (HR.out _ BW.out) (HA.out _ BW.out) (HS.out _ BW.out) TR.out TS.out).mono ?_; rintro e w1 ⟨rfl, hb1⟩
  have B1 : Hid (Below W.heap.size W w1) := hb1
  have BW1 : Hid (Below w.heap.size w w1) := (BOX.out w1 hb1).2
  clear y0 y1 y2 y3 y4 y5 hb1
  obtain ⟨y0, y1, y2, y3, y4, y5⟩ := Y.out w1 B1.out
  cases c : runB (nm, r, sl, at_, si, st)
  · rw [c] at TG
    obtain rfl : G = [] := TG.out
    clear y0 y1 y2 y3 y4 y5 szW BWW
    go_wp2_with fail
    go_ret
    exact ⟨_, rfl, Row.nil _ _ _ _ _, BW1.out⟩
  rw [c, if_pos rfl] at TG
  have HP := run_rec c
  have hR : RecP r := HP.1
  have HD : Hid ((sl.map (·.1)).Nodup) := run_dist c
  obtain ⟨L, hL⟩ : ∃ L, L = sltF 12 r x := ⟨_, rfl⟩
  have hsl : slL r x = L := by rw [hL]; unfold slL; rw [rec_yes hR]; rfl
  have hll : L.length ≤ 8192 := by rw [hL]; exact slt_small r (by omega) _
  have HLL : Hid (L.length ≤ 8192) := hll
  have CS : Hid (∀ u, Below w.heap.size w u → Calls Try.prog 23 #[.slice o1 n1 k1, .string x] u fun e w' => ∃ q, e = .returned q ∧ OnL (fun b => u.heap.size ≤ b ∧ b < w'.heap.size) w' L q ∧ Below u.heap.size u w') := fun u hu => by
    rw [← hsl]; exact slotsI_any S r _ _ u (HR.out u hu) (HS.out u hu) TR.out HX.out
  rw [← hL] at TG
  have hG : G = thL sl L := TG.out
  subst hG
  have HDR : Hid (Below w1.heap.size w1 w1.drew) := (Below.refl _ _).drew
  have q0 := fun d os => cell_regrown y0 d os
  have q1 := fun d os => cell_regrown y1 d os
  have q2 := fun d os => cell_regrown y2 d os
  have q3 := fun d os => cell_regrown y3 d os
  have q4 := fun d os => cell_regrown y4 d os
  have q5 := fun d os => cell_regrown y5 d os
  clear hL HP hR hll TG y0 y1 y2 y3 y4 y5 szW BWW hsl
  go_wp2_with fail
  refine wp_region_mix 6 [0, 2, 3, 4] (by kernel_rfl) (by kernel_rfl) ?_
  simp only [List.filterMap_cons, List.filterMap_nil, List.getElem?_cons_succ, List.getElem?_cons_zero]
  repeat (first | go_big_quiet_step (fail) | quiet_step (fail))
  refine wpQuiet_nil ?_
  clear q0 q1 q2 q3 q4 q5
  have bdr : Hid (Below w.heap.size w w1.drew) := BW1.out.trans (HDR.out.mono BW1.out.size)
  refine call1 (md := .any) (f := 1) (i := 1) (dc := 9) (fn := 21) ⟨rfl, rfl, rfl, by decide⟩ (by kernel_rfl) ?run ((slotThings_any S sl nm at_ (.slice o1 n1 k1) (.slice o2 n2 k2) si st w1.drew (HA.out _ bdr.out) (HS.out _ bdr.out) HD.out ⟨_, _, _, rfl⟩).mono ?_)
  case run => go_simp
  rintro e u ⟨m, rfl, hm, hM, hb1⟩
  have MM : Hid (Mr u m (thO sl)) := hM
  have C1 : Hid (Below w1.heap.size w1 u) := HDR.out.trans (hb1.mono HDR.out.size)
  have BU : Hid (Below w.heap.size w u) := BW1.out.trans (C1.out.mono BW1.out.size)
  refine ⟨_, rfl, regrown_of_below C1.out, ?_⟩
  clear hb1 hM hm
  simp only [Act.put, List.setIfInBounds_toArray, List.set_cons_zero, List.set_cons_succ]
  refine call1 (md := .any) (f := 0) (i := 5) (dc := 13) (fn := 23) ⟨rfl, rfl, rfl, by decide⟩ (by kernel_rfl) ?run2 ((CS.out u BU.out).mono ?_)
  case run2 => go_simp
  rintro e u2 ⟨q, rfl, hq, hb2⟩
  have C2 : Hid (Below w1.heap.size w1 u2) := C1.out.trans (hb2.mono C1.out.size)
  have BU2 : Hid (Below w.heap.size w u2) := BU.out.trans (hb2.mono BU.out.size)
  have M2 : Hid (Mr u2 m (thO sl)) := MM.out.below hb2 MM.out.lt
  have AL : Hid (AtL (fun b => u.heap.size ≤ b ∧ b < u2.heap.size) u2 L q) := hq.at_
  refine ⟨_, rfl, regrown_of_below C2.out, ?_⟩
  clear hb2 hq
  refine ⟨by kernel_rfl, ?_⟩
  simp only [List.drop_succ_cons, List.drop_zero, Act.put, List.setIfInBounds_toArray, List.set_cons_zero, List.set_cons_succ]
  have s2 := BU2.out.size
  go_wp2_with fail
  refine (things_any _ sl L q m u2 AL.out (fun b hb => hb.2) M2.out (by have := HLL.out; omega) (thing_small TS.out)).mono ?_; rintro e u3 ⟨q', rfl, hrow, hb3⟩
  have HO : Hid (Row u3 w.heap.size 9 1 eS q' (thL sl L)) := hrow.low s2
  have HB : Hid (Below w.heap.size w u3) := BU2.out.trans (hb3.mono s2)
  clear hrow hb3
  go_wp2_with fail
  go_ret
  exact ⟨_, rfl, HO.out, HB.out⟩

end Go.Proofs.Ytkbocdkgkhgioaa
