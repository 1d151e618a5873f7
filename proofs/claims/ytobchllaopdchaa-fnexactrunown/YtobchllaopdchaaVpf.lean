import Derived.Test.YtobchllaopdchaaHm
import Derived.Test.YtobchllaopdchaaM12
import Derived.Test.YtobchllaopdchaaM21
namespace Go.Proofs.Ytobchllaopdchaa
open Go.RowKit Go.Sort
theorem stepV1 {P : Program} {md : Region.Mode} {ops : Array Oper} {C : World → Prop} {n f : Nat} {L : Array Bool → Act → World → Prop} {listed : Array Bool} {i d : Nat} {o : Oper} {a : Act} {w : World} (u : Value) (w' : World) (hc : ops[i]? = some o ∧ o.guard = none ∧ o.dst = some d ∧ i < n) (r0 : Region.ready md ops listed = [i]) (run : (execOp a.eval o).run P w = .ok (.value u) w') (hC : C w') (hk : anyC P md ops C n L f (listed.setIfInBounds i true) (a.put (some d) u) w') : anyC P md ops C n L (f + 1) listed a w := by
  obtain ⟨h1, h2, h3, h4⟩ := hc
  refine anyC_step [i] r0 (by simp) (one_list ⟨h4, o, h1, h2, u, w', run, hC, ?_⟩)
  rw [h3]; exact hk
set_option maxRecDepth 100000 in
set_option maxHeartbeats 8000000 in
theorem phaseM_any (nm at_ : ByteArray) (si st : Int) (b off n1 k1 k : Nat) (v2 : Value) (p0 p2 p3 p6 p7 : ByteArray) (p1 p4 p5 : Int) (w : World) (hk : k < n1) (hb : b < w.heap.size) (c0 : w.cell? ⟨b, off + k * 8, none⟩ = some (.string p0)) (c1 : w.cell? ⟨b, off + k * 8 + 1, none⟩ = some (.int .i64 p1)) (c2 : w.cell? ⟨b, off + k * 8 + 2, none⟩ = some (.string p2)) (c3 : w.cell? ⟨b, off + k * 8 + 3, none⟩ = some (.string p3)) (c4 : w.cell? ⟨b, off + k * 8 + 4, none⟩ = some (.int .i64 p4)) (c5 : w.cell? ⟨b, off + k * 8 + 5, none⟩ = some (.int .i64 p5)) (c6 : w.cell? ⟨b, off + k * 8 + 6, none⟩ = some (.string p6)) (c7 : w.cell? ⟨b, off + k * 8 + 7, none⟩ = some (.string p7))
    (CA : ∀ u, Below w.heap.size w u → Calls Try.prog 44 #[.slice (some ⟨b, off, none⟩) n1 k1, .string at_] u fun e w' => e = .returned (.int .i64 (k : Int)) ∧ Below u.heap.size u w') :
    Calls Try.prog 25 #[.agg #[.string nm, .slice (some ⟨b, off, none⟩) n1 k1, v2, .string at_, .int .i64 si, .int .i64 st]] w fun e w' => e = .returned (.agg #[.string p0, .int .i64 p1, .string p2, .string p3, .int .i64 p4, .int .i64 p5, .string p6, .string p7]) ∧ Below w.heap.size w w' := by
  obtain ⟨W, hW⟩ : ∃ W, W = (w.alloc (.cells #[.string nm, .slice (some ⟨b, off, none⟩) n1 k1, v2, .string at_, .int .i64 si, .int .i64 st] 32)).alloc (.cells #[.string ⟨#[]⟩, .int .i64 0, .string ⟨#[]⟩, .string ⟨#[]⟩, .int .i64 0, .int .i64 0, .string ⟨#[]⟩, .string ⟨#[]⟩] 45) := ⟨_, rfl⟩
  have EW : Hid (W = (w.alloc (.cells #[.string nm, .slice (some ⟨b, off, none⟩) n1 k1, v2, .string at_, .int .i64 si, .int .i64 st] 32)).alloc (.cells #[.string ⟨#[]⟩, .int .i64 0, .string ⟨#[]⟩, .string ⟨#[]⟩, .int .i64 0, .int .i64 0, .string ⟨#[]⟩, .string ⟨#[]⟩] 45)) := hW
  have BW : Hid (Below w.heap.size w W) := by rw [hW]; exact ((Below.refl _ _).alloc (Nat.le_refl _) _).alloc (by simp) _
  have R1 : Hid (W.heap[w.heap.size]? = some (.cells #[.string nm, .slice (some ⟨b, off, none⟩) n1 k1, v2, .string at_, .int .i64 si, .int .i64 st] 32 (0, 0))) := by rw [hW]; exact (Below.heap_alloc _ _ _ (by simp)).trans (heap_alloc_new w _)
  have R2 : Hid (W.heap[w.heap.size + 1]? = some (.cells #[.string ⟨#[]⟩, .int .i64 0, .string ⟨#[]⟩, .string ⟨#[]⟩, .int .i64 0, .int .i64 0, .string ⟨#[]⟩, .string ⟨#[]⟩] 45 (0, 0))) := by
    rw [hW]
    have := heap_alloc_new (w.alloc (.cells #[.string nm, .slice (some ⟨b, off, none⟩) n1 k1, v2, .string at_, .int .i64 si, .int .i64 st] 32)) (.cells #[.string ⟨#[]⟩, .int .i64 0, .string ⟨#[]⟩, .string ⟨#[]⟩, .int .i64 0, .int .i64 0, .string ⟨#[]⟩, .string ⟨#[]⟩] 45)
    rw [World.size_alloc] at this
    exact this
  have sW : w.heap.size + 2 ≤ W.heap.size := by rw [hW]; simp
  clear hW
  have HX : Hid (∀ u, Below w.heap.size w u → u.cell? ⟨b, off + k * 8, none⟩ = some (.string p0) ∧ u.cell? ⟨b, off + k * 8 + 1, none⟩ = some (.int .i64 p1) ∧ u.cell? ⟨b, off + k * 8 + 2, none⟩ = some (.string p2) ∧ u.cell? ⟨b, off + k * 8 + 3, none⟩ = some (.string p3) ∧ u.cell? ⟨b, off + k * 8 + 4, none⟩ = some (.int .i64 p4) ∧ u.cell? ⟨b, off + k * 8 + 5, none⟩ = some (.int .i64 p5) ∧ u.cell? ⟨b, off + k * 8 + 6, none⟩ = some (.string p6) ∧ u.cell? ⟨b, off + k * 8 + 7, none⟩ = some (.string p7)) := fun u hu => ⟨(hu.cell (p := ⟨b, off + k * 8, none⟩) hb).trans c0, (hu.cell (p := ⟨b, off + k * 8 + 1, none⟩) hb).trans c1, (hu.cell (p := ⟨b, off + k * 8 + 2, none⟩) hb).trans c2, (hu.cell (p := ⟨b, off + k * 8 + 3, none⟩) hb).trans c3, (hu.cell (p := ⟨b, off + k * 8 + 4, none⟩) hb).trans c4, (hu.cell (p := ⟨b, off + k * 8 + 5, none⟩) hb).trans c5, (hu.cell (p := ⟨b, off + k * 8 + 6, none⟩) hb).trans c6, (hu.cell (p := ⟨b, off + k * 8 + 7, none⟩) hb).trans c7⟩
  clear c0 c1 c2 c3 c4 c5 c6 c7
  have HCA : Hid _ := CA
  clear CA
  have HDR : Hid (Below W.heap.size W W.drew) := (Below.refl _ _).drew
  have y1 := (cell_row R1.out 1 (.slice (some ⟨b, off, none⟩) n1 k1) rfl).1
  have y3 := (cell_row R1.out 3 (.string at_) rfl).1
  go_enter Try.func25, Try.ntmps25
  go_upto_region 1 with fail
  rw [← EW.out]
  have q1 := fun d os => cell_regrown y1 d os
  have q3 := fun d os => cell_regrown y3 d os
  clear y1 y3
  refine wp_region_mix 9 [0, 1, 2, 3, 4, 5] (by kernel_rfl) (by kernel_rfl) ?_
  simp only [List.filterMap_cons, List.filterMap_nil, List.getElem?_cons_succ, List.getElem?_cons_zero]
  repeat (first | go_big_quiet_step (fail) | quiet_step (fail))
  refine wpQuiet_nil ?_
  clear q1 q3
  have bdr : Hid (Below w.heap.size w W.drew) := BW.out.trans (HDR.out.mono BW.out.size)
  refine call1 (md := .any) (f := 2) (i := 6) (dc := 9) (fn := 44) ⟨rfl, rfl, rfl, by decide⟩ (by kernel_rfl) ?run ((HCA.out W.drew bdr.out).mono ?_)
  case run => go_simp
  rintro e u ⟨rfl, hb1⟩
  have C1 : Hid (Below W.heap.size W u) := HDR.out.trans (hb1.mono HDR.out.size)
  have BU : Hid (Below w.heap.size w u) := BW.out.trans (C1.out.mono BW.out.size)
  refine ⟨_, rfl, regrown_of_below C1.out, ?_⟩
  clear hb1
  simp only [Act.put, List.setIfInBounds_toArray, List.set_cons_zero, List.set_cons_succ]
  refine stepV1 (md := .any) (f := 1) (i := 7) (d := 10) (.pointer (some ⟨b, off + k * 8, none⟩)) u ⟨rfl, rfl, rfl, by decide⟩ (by kernel_rfl) ?r7 (regrown_of_below C1.out) ?_
  case r7 => go_simp
  simp only [Act.put, List.setIfInBounds_toArray, List.set_cons_zero, List.set_cons_succ]
  obtain ⟨x0, x1, x2, x3, x4, x5, x6, x7⟩ := HX.out u BU.out
  refine stepV1 (md := .any) (f := 0) (i := 8) (d := 11) (.agg #[.string p0, .int .i64 p1, .string p2, .string p3, .int .i64 p4, .int .i64 p5, .string p6, .string p7]) u ⟨rfl, rfl, rfl, by decide⟩ (by kernel_rfl) ?r8 (regrown_of_below C1.out) ?_
  case r8 => go_simp
  clear x0 x1 x2 x3 x4 x5 x6 x7
  refine ⟨by kernel_rfl, ?_⟩
  simp only [List.drop_succ_cons, List.drop_zero, Act.put, List.setIfInBounds_toArray, List.set_cons_zero, List.set_cons_succ]
  have FB := (C1.out.block (w.heap.size + 1) (by omega)).trans R2.out
  obtain ⟨z0, f0⟩ := cell_row FB 0 (.string ⟨#[]⟩) rfl
  obtain ⟨z1, f1⟩ := cell_row FB 1 (.int .i64 0) rfl
  obtain ⟨z2, f2⟩ := cell_row FB 2 (.string ⟨#[]⟩) rfl
  obtain ⟨z3, f3⟩ := cell_row FB 3 (.string ⟨#[]⟩) rfl
  obtain ⟨z4, f4⟩ := cell_row FB 4 (.int .i64 0) rfl
  obtain ⟨z5, f5⟩ := cell_row FB 5 (.int .i64 0) rfl
  obtain ⟨z6, f6⟩ := cell_row FB 6 (.string ⟨#[]⟩) rfl
  obtain ⟨z7, f7⟩ := cell_row FB 7 (.string ⟨#[]⟩) rfl
  go_wp2_with fail
  have FIN := (set_row (set_row (set_row (set_row (set_row (set_row (set_row (set_row FB 0 (.string p0)) 1 (.int .i64 p1)) 2 (.string p2)) 3 (.string p3)) 4 (.int .i64 p4)) 5 (.int .i64 p5)) 6 (.string p6)) 7 (.string p7))
  simp only [List.setIfInBounds_toArray, List.set_cons_zero, List.set_cons_succ] at FIN
  have BF : Below w.heap.size w ((((((((u.setCell ⟨w.heap.size + 1, 0, none⟩ (.string p0)).setCell ⟨w.heap.size + 1, 1, none⟩ (.int .i64 p1)).setCell ⟨w.heap.size + 1, 2, none⟩ (.string p2)).setCell ⟨w.heap.size + 1, 3, none⟩ (.string p3)).setCell ⟨w.heap.size + 1, 4, none⟩ (.int .i64 p4)).setCell ⟨w.heap.size + 1, 5, none⟩ (.int .i64 p5)).setCell ⟨w.heap.size + 1, 6, none⟩ (.string p6)).setCell ⟨w.heap.size + 1, 7, none⟩ (.string p7)) := ((((((((BU.out.setCell (p := ⟨w.heap.size + 1, 0, none⟩) (Nat.le_succ _) _).setCell (p := ⟨w.heap.size + 1, 1, none⟩) (Nat.le_succ _) _).setCell (p := ⟨w.heap.size + 1, 2, none⟩) (Nat.le_succ _) _).setCell (p := ⟨w.heap.size + 1, 3, none⟩) (Nat.le_succ _) _).setCell (p := ⟨w.heap.size + 1, 4, none⟩) (Nat.le_succ _) _).setCell (p := ⟨w.heap.size + 1, 5, none⟩) (Nat.le_succ _) _).setCell (p := ⟨w.heap.size + 1, 6, none⟩) (Nat.le_succ _) _).setCell (p := ⟨w.heap.size + 1, 7, none⟩) (Nat.le_succ _) _)
  generalize ((((((((u.setCell ⟨w.heap.size + 1, 0, none⟩ (.string p0)).setCell ⟨w.heap.size + 1, 1, none⟩ (.int .i64 p1)).setCell ⟨w.heap.size + 1, 2, none⟩ (.string p2)).setCell ⟨w.heap.size + 1, 3, none⟩ (.string p3)).setCell ⟨w.heap.size + 1, 4, none⟩ (.int .i64 p4)).setCell ⟨w.heap.size + 1, 5, none⟩ (.int .i64 p5)).setCell ⟨w.heap.size + 1, 6, none⟩ (.string p6)).setCell ⟨w.heap.size + 1, 7, none⟩ (.string p7)) = F at FIN BF ⊢
  have g0 := (cell_row FIN 0 (.string p0) rfl).1
  have g1 := (cell_row FIN 1 (.int .i64 p1) rfl).1
  have g2 := (cell_row FIN 2 (.string p2) rfl).1
  have g3 := (cell_row FIN 3 (.string p3) rfl).1
  have g4 := (cell_row FIN 4 (.int .i64 p4) rfl).1
  have g5 := (cell_row FIN 5 (.int .i64 p5) rfl).1
  have g6 := (cell_row FIN 6 (.string p6) rfl).1
  have g7 := (cell_row FIN 7 (.string p7) rfl).1
  exact bodyPost_ret (v := .agg #[.string p0, .int .i64 p1, .string p2, .string p3, .int .i64 p4, .int .i64 p5, .string p6, .string p7]) (by simp [results, Try.results25, go_sem, g0, g1, g2, g3, g4, g5, g6, g7]) rfl ⟨rfl, BF⟩
end Go.Proofs.Ytobchllaopdchaa
