/-
  Several texts in one.
-/
import Derived.Test.YtobchllaopdchabGreatM16
import Derived.Test.YtobchllaopdchabGreatM17
import Derived.Test.YtobchllaopdchabGreatM2
import Derived.Test.YtobchllaopdchabGreatM4
import Derived.Test.YtobchllaopdchabGreatM10
import Derived.Test.YtobchllaopdchabGreatM18
import Derived.Test.YtobchllaopdchabGreatXsu
namespace Go.Proofs.YtobchllaopdchabGreat
open Go.RowKit Go.Sort
set_option maxRecDepth 100000 in
set_option maxHeartbeats 8000000 in
theorem thgI_any (S : Nat → Prop) (nm : ByteArray) (r : List DRecPhase) (sl : List DRunSlot) (at_ : ByteArray) (si st : Int) (o1 o2 : Option Addr) (n1 k1 n2 k2 : Nat) (x : ByteArray) (w : World) (hn : nm.size ≤ maxLen) (hr : AtL S w r (.slice o1 n1 k1)) (h : AtL S w sl (.slice o2 n2 k2)) (hS : ∀ b, S b → b < w.heap.size) (tr : totL r ≤ 1048576) (ts : totL sl ≤ 1048576) (hx : x.size ≤ 1048576) :
    Calls Tryz.prog 98 #[.agg #[.string nm, .slice o1 n1 k1, .slice o2 n2 k2, .string at_, .int .i64 si, .int .i64 st], .string x] w fun e w' => ∃ q, e = .returned q ∧ Row w' w.heap.size 9 1 eS q (tgL (nm, r, sl, at_, si, st) x) ∧ Below w.heap.size w w' := by
  have HX : Hid (x.size ≤ 1048576) := hx
  obtain ⟨G, hG⟩ : ∃ G, G = tgL (nm, r, sl, at_, si, st) x := ⟨_, rfl⟩
  rw [← hG]
  have TG : Hid (G = if runB (nm, r, sl, at_, si, st) = true then thL sl (sltF 12 r x) else []) := hG
  clear hG hx
  have HN : Hid (nm.size ≤ maxLen) := hn
  have TR : Hid (totL r ≤ 1048576) := tr
  have TS : Hid (totL sl ≤ 1048576) := ts
  obtain ⟨W, EW, BW, RW, sW⟩ := box_new w #[.string nm, .slice o1 n1 k1, .slice o2 n2 k2, .string at_, .int .i64 si, .int .i64 st] 50
  have BOX : Hid (∀ u, Below W.heap.size W u → u.heap[w.heap.size]? = some (.cells #[.string nm, .slice o1 n1 k1, .slice o2 n2 k2, .string at_, .int .i64 si, .int .i64 st] 50 (0, 0)) ∧ Below w.heap.size w u) := fun u hu => ⟨(hu.block _ (by omega)).trans RW.out, BW.out.trans (hu.mono (by omega))⟩
  have HR : Hid _ := hr.ups hS
  have HA : Hid _ := h.ups hS
  have HS : Hid _ := lt_up hS
  have h0 := fun u (hu : Below W.heap.size W u) => cell_row (BOX.out u hu).1
  have Y : Hid (∀ u, Below W.heap.size W u → u.cell? ⟨w.heap.size, 0, none⟩ = some (.string nm) ∧ u.cell? ⟨w.heap.size, 1, none⟩ = some (.slice o1 n1 k1) ∧ u.cell? ⟨w.heap.size, 2, none⟩ = some (.slice o2 n2 k2) ∧ u.cell? ⟨w.heap.size, 3, none⟩ = some (.string at_) ∧ u.cell? ⟨w.heap.size, 4, none⟩ = some (.int .i64 si) ∧ u.cell? ⟨w.heap.size, 5, none⟩ = some (.int .i64 st)) := fun u hu =>
    ⟨(h0 u hu 0 _ rfl).1, (h0 u hu 1 _ rfl).1, (h0 u hu 2 _ rfl).1, (h0 u hu 3 _ rfl).1, (h0 u hu 4 _ rfl).1, (h0 u hu 5 _ rfl).1⟩
  clear h0
  clear h hr hS hn tr ts
  obtain ⟨y0, y1, y2, y3, y4, y5⟩ := Y.out W (Below.refl _ _)
  have BWW := BW.out
  have szW := BWW.size
  go_enter Tryz.func98, Tryz.ntmps98
  go_upto_region 1 with fail
  rw [← EW.out]
  go_wp2_with fail
  refine (runI_any S nm r sl at_ si st o1 o2 n1 k1 n2 k2 W HN.out (HR.out _ BW.out) (HA.out _ BW.out) (HS.out _ BW.out) TR.out TS.out).mono ?_; rintro e w1 ⟨rfl, hb1⟩
  have B1 : Hid (Below W.heap.size W w1) := hb1
  have BW1 : Hid (Below w.heap.size w w1) := (BOX.out w1 hb1).2
  clear y0 y1 y2 y3 y4 y5 hb1
  obtain ⟨y0, y1, y2, y3, y4, y5⟩ := Y.out w1 B1.out
  cases c : runB (nm, r, sl, at_, si, st)
  · rw [c] at TG
    obtain rfl : G = [] := TG.out
    clear y0 y1 y2 y3 y4 y5 szW BWW
    go_wp2_with fail
    go_ret
    exact ⟨_, rfl, Row.nil _ _ _ _ _, BW1.out⟩
  rw [c, if_pos rfl] at TG
  have HP := run_rec c
  have hR : RecP r := HP.1
  have HD : Hid ((sl.map (·.1)).Nodup) := run_dist c
  obtain ⟨L, hL⟩ : ∃ L, L = sltF 12 r x := ⟨_, rfl⟩
  have hsl : slL r x = L := by rw [hL]; unfold slL; rw [rec_yes hR]; rfl
  have hll : L.length ≤ 8192 := by rw [hL]; exact slt_small r (by omega) _
  have HLL : Hid (L.length ≤ 8192) := hll
  have CS : Hid (∀ u, Below w.heap.size w u → Calls Tryz.prog 128 #[.slice o1 n1 k1, .string x] u fun e w' => ∃ q, e = .returned q ∧ OnL (fun b => u.heap.size ≤ b ∧ b < w'.heap.size) w' L q ∧ Below u.heap.size u w') := fun u hu => by
    rw [← hsl]; exact slotsI_any S r _ _ u (HR.out u hu) (HS.out u hu) TR.out HX.out
  rw [← hL] at TG
  have hG : G = thL sl L := TG.out
  subst hG
  have HDR : Hid (Below w1.heap.size w1 w1.drew) := (Below.refl _ _).drew
  have q0 := fun d os => cell_regrown y0 d os
  have q1 := fun d os => cell_regrown y1 d os
  have q2 := fun d os => cell_regrown y2 d os
  have q3 := fun d os => cell_regrown y3 d os
  have q4 := fun d os => cell_regrown y4 d os
  have q5 := fun d os => cell_regrown y5 d os
  clear hL HP hR hll TG y0 y1 y2 y3 y4 y5 szW BWW hsl
  go_wp2_with fail
  refine wp_region_mix 6 [0, 2, 3, 4] (by kernel_rfl) (by kernel_rfl) ?_
  simp only [List.filterMap_cons, List.filterMap_nil, List.getElem?_cons_succ, List.getElem?_cons_zero]
  repeat (first | go_big_quiet_step (fail) | quiet_step (fail))
  refine wpQuiet_nil ?_
  clear q0 q1 q2 q3 q4 q5
  have bdr : Hid (Below w.heap.size w w1.drew) := BW1.out.trans (HDR.out.mono BW1.out.size)
  refine call1 (md := .any) (f := 1) (i := 1) (dc := 9) (fn := 131) ⟨rfl, rfl, rfl, by decide⟩ (by kernel_rfl) ?run ((slotThings_any S sl nm at_ (.slice o1 n1 k1) (.slice o2 n2 k2) si st w1.drew (HA.out _ bdr.out) (HS.out _ bdr.out) HD.out ⟨_, _, _, rfl⟩).mono ?_)
  case run => go_simp
  rintro e u ⟨m, rfl, hm, hM, hb1⟩
  have MM : Hid (Mr u m (thO sl)) := hM
  have C1 : Hid (Below w1.heap.size w1 u) := HDR.out.trans (hb1.mono HDR.out.size)
  have BU : Hid (Below w.heap.size w u) := BW1.out.trans (C1.out.mono BW1.out.size)
  refine ⟨_, rfl, regrown_of_below C1.out, ?_⟩
  clear hb1 hM hm
  simp only [Act.put, List.setIfInBounds_toArray, List.set_cons_zero, List.set_cons_succ]
  refine call1 (md := .any) (f := 0) (i := 5) (dc := 13) (fn := 128) ⟨rfl, rfl, rfl, by decide⟩ (by kernel_rfl) ?run2 ((CS.out u BU.out).mono ?_)
  case run2 => go_simp
  rintro e u2 ⟨q, rfl, hq, hb2⟩
  have C2 : Hid (Below w1.heap.size w1 u2) := C1.out.trans (hb2.mono C1.out.size)
  have BU2 : Hid (Below w.heap.size w u2) := BU.out.trans (hb2.mono BU.out.size)
  have M2 : Hid (Mr u2 m (thO sl)) := MM.out.below hb2 MM.out.lt
  have AL : Hid (AtL (fun b => u.heap.size ≤ b ∧ b < u2.heap.size) u2 L q) := hq.at_
  refine ⟨_, rfl, regrown_of_below C2.out, ?_⟩
  clear hb2 hq
  refine ⟨by kernel_rfl, ?_⟩
  simp only [List.drop_succ_cons, List.drop_zero, Act.put, List.setIfInBounds_toArray, List.set_cons_zero, List.set_cons_succ]
  have s2 := BU2.out.size
  go_wp2_with fail
  refine (things_any _ sl L q m u2 AL.out (fun b hb => hb.2) M2.out (by have := HLL.out; omega) (thing_small TS.out)).mono ?_; rintro e u3 ⟨q', rfl, hrow, hb3⟩
  have HO : Hid (Row u3 w.heap.size 9 1 eS q' (thL sl L)) := hrow.low s2
  have HB : Hid (Below w.heap.size w u3) := BU2.out.trans (hb3.mono s2)
  clear hrow hb3
  go_wp2_with fail
  go_ret
  exact ⟨_, rfl, HO.out, HB.out⟩
end Go.Proofs.YtobchllaopdchabGreat

namespace Go.Proofs.YtobchllaopdchabGreat
open Go.RowKit Go.Sort
theorem stepV1 {P : Program} {md : Region.Mode} {ops : Array Oper} {C : World → Prop} {n f : Nat} {L : Array Bool → Act → World → Prop} {listed : Array Bool} {i d : Nat} {o : Oper} {a : Act} {w : World} (u : Value) (w' : World) (hc : ops[i]? = some o ∧ o.guard = none ∧ o.dst = some d ∧ i < n) (r0 : Region.ready md ops listed = [i]) (run : (execOp a.eval o).run P w = .ok (.value u) w') (hC : C w') (hk : anyC P md ops C n L f (listed.setIfInBounds i true) (a.put (some d) u) w') : anyC P md ops C n L (f + 1) listed a w := by
  obtain ⟨h1, h2, h3, h4⟩ := hc
  refine anyC_step [i] r0 (by simp) (one_list ⟨h4, o, h1, h2, u, w', run, hC, ?_⟩)
  rw [h3]; exact hk
set_option maxRecDepth 100000 in
set_option maxHeartbeats 8000000 in
theorem phaseM_any (nm at_ : ByteArray) (si st : Int) (b off n1 k1 k : Nat) (v2 : Value) (p0 p2 p3 p6 p7 : ByteArray) (p1 p4 p5 : Int) (w : World) (hk : k < n1) (hb : b < w.heap.size) (c0 : w.cell? ⟨b, off + k * 8, none⟩ = some (.string p0)) (c1 : w.cell? ⟨b, off + k * 8 + 1, none⟩ = some (.int .i64 p1)) (c2 : w.cell? ⟨b, off + k * 8 + 2, none⟩ = some (.string p2)) (c3 : w.cell? ⟨b, off + k * 8 + 3, none⟩ = some (.string p3)) (c4 : w.cell? ⟨b, off + k * 8 + 4, none⟩ = some (.int .i64 p4)) (c5 : w.cell? ⟨b, off + k * 8 + 5, none⟩ = some (.int .i64 p5)) (c6 : w.cell? ⟨b, off + k * 8 + 6, none⟩ = some (.string p6)) (c7 : w.cell? ⟨b, off + k * 8 + 7, none⟩ = some (.string p7))
    (CA : ∀ u, Below w.heap.size w u → Calls Tryz.prog 92 #[.slice (some ⟨b, off, none⟩) n1 k1, .string at_] u fun e w' => e = .returned (.int .i64 (k : Int)) ∧ Below u.heap.size u w') :
    Calls Tryz.prog 147 #[.agg #[.string nm, .slice (some ⟨b, off, none⟩) n1 k1, v2, .string at_, .int .i64 si, .int .i64 st]] w fun e w' => e = .returned (.agg #[.string p0, .int .i64 p1, .string p2, .string p3, .int .i64 p4, .int .i64 p5, .string p6, .string p7]) ∧ Below w.heap.size w w' := by
  obtain ⟨W, hW⟩ : ∃ W, W = (w.alloc (.cells #[.string nm, .slice (some ⟨b, off, none⟩) n1 k1, v2, .string at_, .int .i64 si, .int .i64 st] 50)).alloc (.cells #[.string ⟨#[]⟩, .int .i64 0, .string ⟨#[]⟩, .string ⟨#[]⟩, .int .i64 0, .int .i64 0, .string ⟨#[]⟩, .string ⟨#[]⟩] 78) := ⟨_, rfl⟩
  have EW : Hid (W = (w.alloc (.cells #[.string nm, .slice (some ⟨b, off, none⟩) n1 k1, v2, .string at_, .int .i64 si, .int .i64 st] 50)).alloc (.cells #[.string ⟨#[]⟩, .int .i64 0, .string ⟨#[]⟩, .string ⟨#[]⟩, .int .i64 0, .int .i64 0, .string ⟨#[]⟩, .string ⟨#[]⟩] 78)) := hW
  have BW : Hid (Below w.heap.size w W) := by rw [hW]; exact ((Below.refl _ _).alloc (Nat.le_refl _) _).alloc (by simp) _
  have R1 : Hid (W.heap[w.heap.size]? = some (.cells #[.string nm, .slice (some ⟨b, off, none⟩) n1 k1, v2, .string at_, .int .i64 si, .int .i64 st] 50 (0, 0))) := by rw [hW]; exact (Below.heap_alloc _ _ _ (by simp)).trans (heap_alloc_new w _)
  have R2 : Hid (W.heap[w.heap.size + 1]? = some (.cells #[.string ⟨#[]⟩, .int .i64 0, .string ⟨#[]⟩, .string ⟨#[]⟩, .int .i64 0, .int .i64 0, .string ⟨#[]⟩, .string ⟨#[]⟩] 78 (0, 0))) := by
    rw [hW]
    have := heap_alloc_new (w.alloc (.cells #[.string nm, .slice (some ⟨b, off, none⟩) n1 k1, v2, .string at_, .int .i64 si, .int .i64 st] 50)) (.cells #[.string ⟨#[]⟩, .int .i64 0, .string ⟨#[]⟩, .string ⟨#[]⟩, .int .i64 0, .int .i64 0, .string ⟨#[]⟩, .string ⟨#[]⟩] 78)
    rw [World.size_alloc] at this
    exact this
  have sW : w.heap.size + 2 ≤ W.heap.size := by rw [hW]; simp
  clear hW
  have HX : Hid (∀ u, Below w.heap.size w u → u.cell? ⟨b, off + k * 8, none⟩ = some (.string p0) ∧ u.cell? ⟨b, off + k * 8 + 1, none⟩ = some (.int .i64 p1) ∧ u.cell? ⟨b, off + k * 8 + 2, none⟩ = some (.string p2) ∧ u.cell? ⟨b, off + k * 8 + 3, none⟩ = some (.string p3) ∧ u.cell? ⟨b, off + k * 8 + 4, none⟩ = some (.int .i64 p4) ∧ u.cell? ⟨b, off + k * 8 + 5, none⟩ = some (.int .i64 p5) ∧ u.cell? ⟨b, off + k * 8 + 6, none⟩ = some (.string p6) ∧ u.cell? ⟨b, off + k * 8 + 7, none⟩ = some (.string p7)) := fun u hu => ⟨(hu.cell (p := ⟨b, off + k * 8, none⟩) hb).trans c0, (hu.cell (p := ⟨b, off + k * 8 + 1, none⟩) hb).trans c1, (hu.cell (p := ⟨b, off + k * 8 + 2, none⟩) hb).trans c2, (hu.cell (p := ⟨b, off + k * 8 + 3, none⟩) hb).trans c3, (hu.cell (p := ⟨b, off + k * 8 + 4, none⟩) hb).trans c4, (hu.cell (p := ⟨b, off + k * 8 + 5, none⟩) hb).trans c5, (hu.cell (p := ⟨b, off + k * 8 + 6, none⟩) hb).trans c6, (hu.cell (p := ⟨b, off + k * 8 + 7, none⟩) hb).trans c7⟩
  clear c0 c1 c2 c3 c4 c5 c6 c7
  have HCA : Hid _ := CA
  clear CA
  have HDR : Hid (Below W.heap.size W W.drew) := (Below.refl _ _).drew
  have y1 := (cell_row R1.out 1 (.slice (some ⟨b, off, none⟩) n1 k1) rfl).1
  have y3 := (cell_row R1.out 3 (.string at_) rfl).1
  go_enter Tryz.func147, Tryz.ntmps147
  go_upto_region 1 with fail
  rw [← EW.out]
  have q1 := fun d os => cell_regrown y1 d os
  have q3 := fun d os => cell_regrown y3 d os
  clear y1 y3
  refine wp_region_mix 9 [0, 1, 2, 3, 4, 5] (by kernel_rfl) (by kernel_rfl) ?_
  simp only [List.filterMap_cons, List.filterMap_nil, List.getElem?_cons_succ, List.getElem?_cons_zero]
  repeat (first | go_big_quiet_step (fail) | quiet_step (fail))
  refine wpQuiet_nil ?_
  clear q1 q3
  have bdr : Hid (Below w.heap.size w W.drew) := BW.out.trans (HDR.out.mono BW.out.size)
  refine call1 (md := .any) (f := 2) (i := 6) (dc := 9) (fn := 92) ⟨rfl, rfl, rfl, by decide⟩ (by kernel_rfl) ?run ((HCA.out W.drew bdr.out).mono ?_)
  case run => go_simp
  rintro e u ⟨rfl, hb1⟩
  have C1 : Hid (Below W.heap.size W u) := HDR.out.trans (hb1.mono HDR.out.size)
  have BU : Hid (Below w.heap.size w u) := BW.out.trans (C1.out.mono BW.out.size)
  refine ⟨_, rfl, regrown_of_below C1.out, ?_⟩
  clear hb1
  simp only [Act.put, List.setIfInBounds_toArray, List.set_cons_zero, List.set_cons_succ]
  refine stepV1 (md := .any) (f := 1) (i := 7) (d := 10) (.pointer (some ⟨b, off + k * 8, none⟩)) u ⟨rfl, rfl, rfl, by decide⟩ (by kernel_rfl) ?r7 (regrown_of_below C1.out) ?_
  case r7 => go_simp
  simp only [Act.put, List.setIfInBounds_toArray, List.set_cons_zero, List.set_cons_succ]
  obtain ⟨x0, x1, x2, x3, x4, x5, x6, x7⟩ := HX.out u BU.out
  refine stepV1 (md := .any) (f := 0) (i := 8) (d := 11) (.agg #[.string p0, .int .i64 p1, .string p2, .string p3, .int .i64 p4, .int .i64 p5, .string p6, .string p7]) u ⟨rfl, rfl, rfl, by decide⟩ (by kernel_rfl) ?r8 (regrown_of_below C1.out) ?_
  case r8 => go_simp
  clear x0 x1 x2 x3 x4 x5 x6 x7
  refine ⟨by kernel_rfl, ?_⟩
  simp only [List.drop_succ_cons, List.drop_zero, Act.put, List.setIfInBounds_toArray, List.set_cons_zero, List.set_cons_succ]
  have FB := (C1.out.block (w.heap.size + 1) (by omega)).trans R2.out
  obtain ⟨z0, f0⟩ := cell_row FB 0 (.string ⟨#[]⟩) rfl
  obtain ⟨z1, f1⟩ := cell_row FB 1 (.int .i64 0) rfl
  obtain ⟨z2, f2⟩ := cell_row FB 2 (.string ⟨#[]⟩) rfl
  obtain ⟨z3, f3⟩ := cell_row FB 3 (.string ⟨#[]⟩) rfl
  obtain ⟨z4, f4⟩ := cell_row FB 4 (.int .i64 0) rfl
  obtain ⟨z5, f5⟩ := cell_row FB 5 (.int .i64 0) rfl
  obtain ⟨z6, f6⟩ := cell_row FB 6 (.string ⟨#[]⟩) rfl
  obtain ⟨z7, f7⟩ := cell_row FB 7 (.string ⟨#[]⟩) rfl
  go_wp2_with fail
  have FIN := (set_row (set_row (set_row (set_row (set_row (set_row (set_row (set_row FB 0 (.string p0)) 1 (.int .i64 p1)) 2 (.string p2)) 3 (.string p3)) 4 (.int .i64 p4)) 5 (.int .i64 p5)) 6 (.string p6)) 7 (.string p7))
  simp only [List.setIfInBounds_toArray, List.set_cons_zero, List.set_cons_succ] at FIN
  have BF : Below w.heap.size w ((((((((u.setCell ⟨w.heap.size + 1, 0, none⟩ (.string p0)).setCell ⟨w.heap.size + 1, 1, none⟩ (.int .i64 p1)).setCell ⟨w.heap.size + 1, 2, none⟩ (.string p2)).setCell ⟨w.heap.size + 1, 3, none⟩ (.string p3)).setCell ⟨w.heap.size + 1, 4, none⟩ (.int .i64 p4)).setCell ⟨w.heap.size + 1, 5, none⟩ (.int .i64 p5)).setCell ⟨w.heap.size + 1, 6, none⟩ (.string p6)).setCell ⟨w.heap.size + 1, 7, none⟩ (.string p7)) := ((((((((BU.out.setCell (p := ⟨w.heap.size + 1, 0, none⟩) (Nat.le_succ _) _).setCell (p := ⟨w.heap.size + 1, 1, none⟩) (Nat.le_succ _) _).setCell (p := ⟨w.heap.size + 1, 2, none⟩) (Nat.le_succ _) _).setCell (p := ⟨w.heap.size + 1, 3, none⟩) (Nat.le_succ _) _).setCell (p := ⟨w.heap.size + 1, 4, none⟩) (Nat.le_succ _) _).setCell (p := ⟨w.heap.size + 1, 5, none⟩) (Nat.le_succ _) _).setCell (p := ⟨w.heap.size + 1, 6, none⟩) (Nat.le_succ _) _).setCell (p := ⟨w.heap.size + 1, 7, none⟩) (Nat.le_succ _) _)
  generalize ((((((((u.setCell ⟨w.heap.size + 1, 0, none⟩ (.string p0)).setCell ⟨w.heap.size + 1, 1, none⟩ (.int .i64 p1)).setCell ⟨w.heap.size + 1, 2, none⟩ (.string p2)).setCell ⟨w.heap.size + 1, 3, none⟩ (.string p3)).setCell ⟨w.heap.size + 1, 4, none⟩ (.int .i64 p4)).setCell ⟨w.heap.size + 1, 5, none⟩ (.int .i64 p5)).setCell ⟨w.heap.size + 1, 6, none⟩ (.string p6)).setCell ⟨w.heap.size + 1, 7, none⟩ (.string p7)) = F at FIN BF ⊢
  have g0 := (cell_row FIN 0 (.string p0) rfl).1
  have g1 := (cell_row FIN 1 (.int .i64 p1) rfl).1
  have g2 := (cell_row FIN 2 (.string p2) rfl).1
  have g3 := (cell_row FIN 3 (.string p3) rfl).1
  have g4 := (cell_row FIN 4 (.int .i64 p4) rfl).1
  have g5 := (cell_row FIN 5 (.int .i64 p5) rfl).1
  have g6 := (cell_row FIN 6 (.string p6) rfl).1
  have g7 := (cell_row FIN 7 (.string p7) rfl).1
  exact bodyPost_ret (v := .agg #[.string p0, .int .i64 p1, .string p2, .string p3, .int .i64 p4, .int .i64 p5, .string p6, .string p7]) (by simp [results, Tryz.results147, go_sem, g0, g1, g2, g3, g4, g5, g6, g7]) rfl ⟨rfl, BF⟩
end Go.Proofs.YtobchllaopdchabGreat

namespace Go.Proofs.YtobchllaopdchabGreat
open Go.RowKit Go.Sort
theorem own_things (sl : List DRunSlot) (p : DRecPhase) : thL sl (ownL p.2.1 p.2.2.1 p.2.2.2.1) = thL sl (ofL p) := by
  refine asc_unique _ _ (both_asc _ _ List.Pairwise.nil) (both_asc _ _ List.Pairwise.nil) fun y => ?_
  unfold thL
  rw [both_memI, both_memI, List.mem_map, List.mem_map]
  constructor
  · rintro (h | ⟨z, hz, e⟩)
    · exact Or.inl h
    · exact Or.inr ⟨z, (own_mem p z).1 hz, e⟩
  · rintro (h | ⟨z, hz, e⟩)
    · exact Or.inl h
    · exact Or.inr ⟨z, (own_mem p z).2 hz, e⟩
theorem slotsV (kd : Int) (a b : ByteArray) (n wi : Int) (hk : kd = 1 ∨ kd = 2 ∨ kd = 3 ∨ kd = 4 ∨ kd = 5) : ∃ (t : TypeId) (v : Value) (fn : FuncId) (a0 : Value), phV kd a b n wi = .iface t v ∧ (∀ W, (Go.method 379 t v "loop.example/malthouse/impl.slots").run Tryz.prog W = .ok (fn, a0) W) ∧ (∀ W, (callFunc fn #[a0]).run Tryz.prog W = .ok (.enter fn #[a0]) W) ∧
    ∀ w : World, Calls Tryz.prog fn #[a0] w fun e w' => ∃ q, e = .returned q ∧ Row w' w.heap.size 9 1 eS q (ownL kd a b) ∧ Below w.heap.size w w' := by
  rcases hk with rfl | rfl | rfl | rfl | rfl
  · exact ⟨_, _, 223, .agg #[.string a], ph_1 a b n wi, fun W => by kernel_rfl, fun W => by kernel_rfl, fun w => by rw [own_1 a b (by decide)]; exact slotA_any a w⟩
  · exact ⟨_, _, 227, .agg #[.int .i64 n, .string a, .string b], ph_2 a b n wi, fun W => by kernel_rfl, fun W => by kernel_rfl, fun w => by rw [own_2]; exact slotM_any a b n w⟩
  · exact ⟨_, _, 223, .agg #[.string a], ph_3 a b n wi, fun W => by kernel_rfl, fun W => by kernel_rfl, fun w => by rw [own_1 a b (by decide)]; exact slotA_any a w⟩
  · exact ⟨_, _, 223, .agg #[.string a], ph_4 a b n wi, fun W => by kernel_rfl, fun W => by kernel_rfl, fun w => by rw [own_1 a b (by decide)]; exact slotA_any a w⟩
  · exact ⟨_, _, 223, .agg #[.string a], ph_5 a b n wi, fun W => by kernel_rfl, fun W => by kernel_rfl, fun w => by rw [own_1 a b (by decide)]; exact slotA_any a w⟩
set_option maxRecDepth 100000 in
set_option maxHeartbeats 8000000 in
theorem ownI_any (S : Nat → Prop) (nm : ByteArray) (r : List DRecPhase) (sl : List DRunSlot) (at_ : ByteArray) (si st : Int) (o1 o2 : Option Addr) (n1 k1 n2 k2 : Nat) (w : World) (hn : nm.size ≤ maxLen) (hr : AtL S w r (.slice o1 n1 k1)) (h : AtL S w sl (.slice o2 n2 k2)) (hS : ∀ b, S b → b < w.heap.size) (tr : totL r ≤ 1048576) (ts : totL sl ≤ 1048576) :
    Calls Tryz.prog 99 #[.agg #[.string nm, .slice o1 n1 k1, .slice o2 n2 k2, .string at_, .int .i64 si, .int .i64 st]] w fun e w' => ∃ q, e = .returned q ∧ Row w' w.heap.size 9 1 eS q (owL (nm, r, sl, at_, si, st)) ∧ Below w.heap.size w w' := by
  have HN : Hid (nm.size ≤ maxLen) := hn
  have TR : Hid (totL r ≤ 1048576) := tr
  have TS : Hid (totL sl ≤ 1048576) := ts
  obtain ⟨G, hG⟩ : ∃ G, G = owL (nm, r, sl, at_, si, st) := ⟨_, rfl⟩
  rw [← hG]
  have TG : Hid (G = if runB (nm, r, sl, at_, si, st) = true then thL sl (ofL (phX r at_)) else []) := hG
  clear hG
  obtain ⟨W, EW, BW, RW, sW⟩ := box_new w #[.string nm, .slice o1 n1 k1, .slice o2 n2 k2, .string at_, .int .i64 si, .int .i64 st] 50
  have BOX : Hid (∀ u, Below W.heap.size W u → u.heap[w.heap.size]? = some (.cells #[.string nm, .slice o1 n1 k1, .slice o2 n2 k2, .string at_, .int .i64 si, .int .i64 st] 50 (0, 0)) ∧ Below w.heap.size w u) := fun u hu => ⟨(hu.block _ (by omega)).trans RW.out, BW.out.trans (hu.mono (by omega))⟩
  have HR : Hid _ := hr.ups hS
  have HA : Hid _ := h.ups hS
  have HS : Hid _ := lt_up hS
  have h0 := fun u (hu : Below W.heap.size W u) => cell_row (BOX.out u hu).1
  have Y : Hid (∀ u, Below W.heap.size W u → u.cell? ⟨w.heap.size, 0, none⟩ = some (.string nm) ∧ u.cell? ⟨w.heap.size, 1, none⟩ = some (.slice o1 n1 k1) ∧ u.cell? ⟨w.heap.size, 2, none⟩ = some (.slice o2 n2 k2) ∧ u.cell? ⟨w.heap.size, 3, none⟩ = some (.string at_) ∧ u.cell? ⟨w.heap.size, 4, none⟩ = some (.int .i64 si) ∧ u.cell? ⟨w.heap.size, 5, none⟩ = some (.int .i64 st)) := fun u hu =>
    ⟨(h0 u hu 0 _ rfl).1, (h0 u hu 1 _ rfl).1, (h0 u hu 2 _ rfl).1, (h0 u hu 3 _ rfl).1, (h0 u hu 4 _ rfl).1, (h0 u hu 5 _ rfl).1⟩
  clear h0
  have PH : Hid (runB (nm, r, sl, at_, si, st) = true → ∃ (k : Nat), atI r at_ = (k : Int) ∧ k < n1 ∧ (phaseB (phX r at_) = true) ∧ ∃ b off, o1 = some ⟨b, off, none⟩ ∧ b < w.heap.size ∧ ∀ u, Below w.heap.size w u → u.cell? ⟨b, off + k * 8, none⟩ = some (.string (phX r at_).1) ∧ u.cell? ⟨b, off + k * 8 + 1, none⟩ = some (.int .i64 (phX r at_).2.1) ∧ u.cell? ⟨b, off + k * 8 + 2, none⟩ = some (.string (phX r at_).2.2.1) ∧ u.cell? ⟨b, off + k * 8 + 3, none⟩ = some (.string (phX r at_).2.2.2.1) ∧ u.cell? ⟨b, off + k * 8 + 4, none⟩ = some (.int .i64 (phX r at_).2.2.2.2.1) ∧ u.cell? ⟨b, off + k * 8 + 5, none⟩ = some (.int .i64 (phX r at_).2.2.2.2.2.1) ∧ u.cell? ⟨b, off + k * 8 + 6, none⟩ = some (.string (phX r at_).2.2.2.2.2.2.1) ∧ u.cell? ⟨b, off + k * 8 + 7, none⟩ = some (.string (phX r at_).2.2.2.2.2.2.2)) := fun hb => by
    have hR : RecP r := (run_rec hb).1
    have h0 : 0 ≤ atI r at_ := by
      unfold runB at hb
      simp only [Bool.and_eq_true, decide_eq_true_eq] at hb
      exact hb.1.2
    rcases at_cases r at_ with e | ⟨k', hk', e, _⟩
    · omega
    obtain ⟨oa, cap, ev, _, hc⟩ := id hr
    obtain ⟨b, off, eo, hbS, cc, hcell, hat⟩ := hc k' hk'
    rw [width_DRecPhase] at hcell
    rw [at_DRecPhase, ← ph_at hk' e] at hat
    obtain ⟨⟨q0, _⟩, ⟨q1, _, _⟩, ⟨q2, _⟩, ⟨q3, _⟩, ⟨q4, _, _⟩, ⟨q5, _, _⟩, ⟨q6, _⟩, ⟨q7, _⟩⟩ := hat
    cases ev
    have hbb := hS b hbS
    refine ⟨k', e, hk', by rw [ph_at hk' e]; exact (step_of hR hk').1, b, off, eo, hbb, fun u hu => ?_⟩
    rw [← q0, ← q1, ← q2, ← q3, ← q4, ← q5, ← q6, ← q7]
    exact ⟨(hu.cell hbb).trans (hcell 0 (by omega)), (hu.cell hbb).trans (hcell 1 (by omega)), (hu.cell hbb).trans (hcell 2 (by omega)), (hu.cell hbb).trans (hcell 3 (by omega)), (hu.cell hbb).trans (hcell 4 (by omega)), (hu.cell hbb).trans (hcell 5 (by omega)), (hu.cell hbb).trans (hcell 6 (by omega)), (hu.cell hbb).trans (hcell 7 (by omega))⟩
  clear h hr hS hn tr ts
  obtain ⟨y0, y1, y2, y3, y4, y5⟩ := Y.out W (Below.refl _ _)
  have szW := BW.out.size
  go_enter Tryz.func99, Tryz.ntmps99
  go_upto_region 1 with fail
  rw [← EW.out]
  go_wp2_with fail
  refine (runI_any S nm r sl at_ si st o1 o2 n1 k1 n2 k2 W HN.out (HR.out _ BW.out) (HA.out _ BW.out) (HS.out _ BW.out) TR.out TS.out).mono ?_; rintro e w1 ⟨rfl, hb1⟩
  have B1 : Hid (Below W.heap.size W w1) := hb1
  have BW1 : Hid (Below w.heap.size w w1) := (BOX.out w1 hb1).2
  clear y0 y1 y2 y3 y4 y5 hb1
  obtain ⟨y0, y1, y2, y3, y4, y5⟩ := Y.out w1 B1.out
  cases c : runB (nm, r, sl, at_, si, st)
  · rw [c] at TG
    obtain rfl : G = [] := TG.out
    clear y0 y1 y2 y3 y4 y5 szW
    go_wp2_with fail
    go_ret
    exact ⟨_, rfl, Row.nil _ _ _ _ _, BW1.out⟩
  rw [c, if_pos rfl] at TG
  have HD : Hid ((sl.map (·.1)).Nodup) := run_dist c
  obtain ⟨k, hk, hkn, hph, b, off, rfl, hb, hx⟩ := PH.out c
  have HX : Hid _ := hx
  obtain ⟨p, hp⟩ : ∃ p, p = phX r at_ := ⟨_, rfl⟩
  rw [← hp] at HX TG hph
  have hG : G = thL sl (ofL p) := TG.out
  have hkd := kind_of hph
  have hz := ph_args hph
  rw [← own_things] at hG
  obtain ⟨pn, kd, pa, pb, pc, wi, th, el⟩ := p
  simp only at HX hG hkd hz
  obtain ⟨t, v, fn, a0, hv, hm, hcf, hc⟩ := slotsV kd pa pb pc wi hkd
  obtain ⟨L, hL⟩ : ∃ L, L = ownL kd pa pb := ⟨_, rfl⟩
  rw [← hL] at hG hc
  have hzz : ∀ x ∈ L, OkS x := fun x hx => by
    have : x.size ≤ 8 := by
      rw [hL] at hx
      unfold ownL at hx
      split at hx
      · rename_i h2
        rcases List.mem_cons.1 hx with rfl | hx
        · exact name_le hz.1
        · rcases List.mem_cons.1 hx with rfl | hx
          · exact name_le (hz.2 h2)
          · cases hx
      · rcases List.mem_cons.1 hx with rfl | hx
        · exact name_le hz.1
        · cases hx
    show x.size ≤ maxLen
    exact Nat.le_trans this (by decide)
  have HZ : Hid (∀ x ∈ L, OkS x) := hzz
  have HLL : Hid (L.length ≤ 100000) := by
    show _ ≤ _
    rw [hL]
    unfold ownL
    split <;> simp
  have HC : Hid _ := hc
  subst hG
  have CP : Hid (∀ u, Calls Tryz.prog 146 #[.agg #[.string pn, .int .i64 kd, .string pa, .string pb, .int .i64 pc, .int .i64 wi, .string th, .string el]] u fun e w' => e = .returned (.iface t v) ∧ Below u.heap.size u w') := fun u => by rw [← hv]; exact phasing_any pn pa pb th el kd pc wi u
  have CA : Hid (∀ u, Below w.heap.size w u → Calls Tryz.prog 92 #[.slice (some ⟨b, off, none⟩) n1 k1, .string at_] u fun e w' => e = .returned (.int .i64 (k : Int)) ∧ Below u.heap.size u w') := fun u hu => by rw [← hk]; exact phAt_any S r _ at_ u (HR.out u hu) (HS.out u hu)
  clear hL TG hk hp hv hc hph hkd hz hzz szW hx
  have HDR : Hid (Below w1.heap.size w1 w1.drew) := (Below.refl _ _).drew
  have CQ : Hid (∀ u, Below w.heap.size w u → Calls Tryz.prog 147 #[.agg #[.string nm, .slice (some ⟨b, off, none⟩) n1 k1, .slice o2 n2 k2, .string at_, .int .i64 si, .int .i64 st]] u fun e w' => e = .returned (.agg #[.string pn, .int .i64 kd, .string pa, .string pb, .int .i64 pc, .int .i64 wi, .string th, .string el]) ∧ Below u.heap.size u w') := fun u hu => by
    obtain ⟨x0, x1, x2, x3, x4, x5, x6, x7⟩ := HX.out u hu
    exact phaseM_any nm at_ si st b off n1 k1 k (.slice o2 n2 k2) pn pa pb th el kd pc wi u hkn (Nat.lt_of_lt_of_le hb hu.size) x0 x1 x2 x3 x4 x5 x6 x7 (fun u' hu' => CA.out u' (hu.trans (hu'.mono hu.size)))
  have q0 := fun d os => cell_regrown y0 d os
  have q1 := fun d os => cell_regrown y1 d os
  have q2 := fun d os => cell_regrown y2 d os
  have q3 := fun d os => cell_regrown y3 d os
  have q4 := fun d os => cell_regrown y4 d os
  have q5 := fun d os => cell_regrown y5 d os
  clear y0 y1 y2 y3 y4 y5
  go_wp2_with fail
  refine wp_region_mix 6 [0, 2] (by kernel_rfl) (by kernel_rfl) ?_
  simp only [List.filterMap_cons, List.filterMap_nil, List.getElem?_cons_succ, List.getElem?_cons_zero]
  repeat (first | go_big_quiet_step (fail) | quiet_step (fail))
  refine wpQuiet_nil ?_
  clear q0 q1 q2 q3 q4 q5
  have bdr : Hid (Below w.heap.size w w1.drew) := BW1.out.trans (HDR.out.mono BW1.out.size)
  refine call1 (md := .any) (f := 3) (i := 1) (dc := 7) (fn := 131) ⟨rfl, rfl, rfl, by decide⟩ (by kernel_rfl) ?run ((slotThings_any S sl nm at_ (.slice (some ⟨b, off, none⟩) n1 k1) (.slice o2 n2 k2) si st w1.drew (HA.out _ bdr.out) (HS.out _ bdr.out) HD.out ⟨_, _, _, rfl⟩).mono ?_)
  case run => go_simp
  rintro e u ⟨m, rfl, hm', hM, hb1⟩
  have MM : Hid (Mr u m (thO sl)) := hM
  have C1 : Hid (Below w1.heap.size w1 u) := HDR.out.trans (hb1.mono HDR.out.size)
  have BU : Hid (Below w.heap.size w u) := BW1.out.trans (C1.out.mono BW1.out.size)
  refine ⟨_, rfl, regrown_of_below C1.out, ?_⟩
  clear hb1 hM hm'
  simp only [Act.put, List.setIfInBounds_toArray, List.set_cons_zero, List.set_cons_succ]
  refine call1 (md := .any) (f := 2) (i := 3) (dc := 9) (fn := 147) ⟨rfl, rfl, rfl, by decide⟩ (by kernel_rfl) ?runp ((CQ.out u BU.out).mono ?_)
  case runp => go_simp
  rintro e u' ⟨rfl, hb1⟩
  have C1' : Hid (Below w1.heap.size w1 u') := C1.out.trans (hb1.mono C1.out.size)
  have BU' : Hid (Below w.heap.size w u') := BU.out.trans (hb1.mono BU.out.size)
  have MM' : Hid (Mr u' m (thO sl)) := MM.out.below hb1 MM.out.lt
  refine ⟨_, rfl, regrown_of_below C1'.out, ?_⟩
  clear hb1
  simp only [Act.put, List.setIfInBounds_toArray, List.set_cons_zero, List.set_cons_succ]
  refine call1 (md := .any) (f := 1) (i := 4) (dc := 10) (fn := 146) ⟨rfl, rfl, rfl, by decide⟩ (by kernel_rfl) ?run2 ((CP.out u').mono ?_)
  case run2 => go_simp
  rintro e u2 ⟨rfl, hb2⟩
  have C2 : Hid (Below w1.heap.size w1 u2) := C1'.out.trans (hb2.mono C1'.out.size)
  have BU2 : Hid (Below w.heap.size w u2) := BU'.out.trans (hb2.mono BU'.out.size)
  have M2 : Hid (Mr u2 m (thO sl)) := MM'.out.below hb2 MM'.out.lt
  refine ⟨_, rfl, regrown_of_below C2.out, ?_⟩
  clear hb2
  simp only [Act.put, List.setIfInBounds_toArray, List.set_cons_zero, List.set_cons_succ]
  refine call1 (md := .any) (f := 0) (i := 5) (dc := 11) (fn := fn) (args := #[a0]) ⟨rfl, rfl, rfl, by decide⟩ (by kernel_rfl) ?run3 (Calls.mono (HC.out u2) ?_)
  case run3 => go_simp
  rintro e u3 ⟨q, rfl, hrow, hb3⟩
  have C3 : Hid (Below w1.heap.size w1 u3) := C2.out.trans (hb3.mono C2.out.size)
  have BU3 : Hid (Below w.heap.size w u3) := BU2.out.trans (hb3.mono BU2.out.size)
  have M3 : Hid (Mr u3 m (thO sl)) := M2.out.below hb3 M2.out.lt
  have AL : Hid (AtL (fun b => u2.heap.size ≤ b ∧ b < u3.heap.size) u3 L q) := flatS.row_at hrow (fun g hg => World.ownsRow.lt hrow g hg) HZ.out
  refine ⟨_, rfl, regrown_of_below C3.out, ?_⟩
  clear hb3 hrow
  refine ⟨by kernel_rfl, ?_⟩
  simp only [List.drop_succ_cons, List.drop_zero, Act.put, List.setIfInBounds_toArray, List.set_cons_zero, List.set_cons_succ]
  have s2 := BU3.out.size
  go_wp2_with fail
  refine (things_any _ sl L q m u3 AL.out (fun b hb => hb.2) M3.out HLL.out (thing_small TS.out)).mono ?_; rintro e u4 ⟨q', rfl, hrow, hb4⟩
  have HO : Hid (Row u4 w.heap.size 9 1 eS q' (thL sl L)) := hrow.low s2
  have HB : Hid (Below w.heap.size w u4) := BU3.out.trans (hb4.mono s2)
  clear hrow hb4
  go_wp2_with fail
  go_ret
  exact ⟨_, rfl, HO.out, HB.out⟩
end Go.Proofs.YtobchllaopdchabGreat
