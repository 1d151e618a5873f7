import Derived.Test.YtobchllaopdchaaVmd
import Derived.Test.YtobchllaopdchaaM34
namespace Go.Proofs.Ytobchllaopdchaa
open Go.RowKit Go.Sort
noncomputable def owL (b : DRunBatch) : List ByteArray := if runB b = true then thL b.2.2.1 (ofL (phX b.2.1 b.2.2.2.1)) else []
theorem ow_len (b : DRunBatch) : (owL b).length ≤ 8192 := by
  unfold owL
  split
  · exact Nat.le_trans (thL_len _ _) (Nat.le_trans (of_len _) (by decide))
  · simp
set_option maxRecDepth 100000 in
set_option maxHeartbeats 8000000 in
theorem ownX_any (S : Nat → Prop) (nm : ByteArray) (r : List DRecPhase) (sl : List DRunSlot) (at_ : ByteArray) (si st : Int) (o1 o2 : Option Addr) (n1 k1 n2 k2 : Nat) (w : World) (hn : nm.size ≤ maxLen) (hr : AtL S w r (.slice o1 n1 k1)) (h : AtL S w sl (.slice o2 n2 k2)) (hS : ∀ b, S b → b < w.heap.size) :
    Calls Try.prog 5 #[.agg #[.string nm, .slice o1 n1 k1, .slice o2 n2 k2, .string at_, .int .i64 si, .int .i64 st]] w fun e w' => ∃ q, e = .returned q ∧ w'.ownsRow w.heap.size 9 1 q (owL (nm, r, sl, at_, si, st)).length ((owL (nm, r, sl, at_, si, st)).map .string) ∧ Below w.heap.size w w' := by
  have HN : Hid (nm.size ≤ maxLen) := hn
  obtain ⟨G, hG⟩ : ∃ G, G = owL (nm, r, sl, at_, si, st) := ⟨_, rfl⟩
  rw [← hG]
  have TG : Hid (G = if runB (nm, r, sl, at_, si, st) = true then thL sl (ofL (phX r at_)) else []) := hG
  clear hG
  obtain ⟨W, EW, BW, RW, sW⟩ := box_new w #[.string nm, .slice o1 n1 k1, .slice o2 n2 k2, .string at_, .int .i64 si, .int .i64 st] 32
  have BOX : Hid (∀ u, Below W.heap.size W u → u.heap[w.heap.size]? = some (.cells #[.string nm, .slice o1 n1 k1, .slice o2 n2 k2, .string at_, .int .i64 si, .int .i64 st] 32 (0, 0)) ∧ Below w.heap.size w u) := fun u hu => ⟨(hu.block _ (by omega)).trans RW.out, BW.out.trans (hu.mono (by omega))⟩
  have HR : Hid _ := hr.ups hS
  have HA : Hid _ := h.ups hS
  have HS : Hid _ := lt_up hS
  have h0 := fun u (hu : Below W.heap.size W u) => cell_row (BOX.out u hu).1
  have Y : Hid (∀ u, Below W.heap.size W u → u.cell? ⟨w.heap.size, 0, none⟩ = some (.string nm) ∧ u.cell? ⟨w.heap.size, 1, none⟩ = some (.slice o1 n1 k1) ∧ u.cell? ⟨w.heap.size, 2, none⟩ = some (.slice o2 n2 k2) ∧ u.cell? ⟨w.heap.size, 3, none⟩ = some (.string at_) ∧ u.cell? ⟨w.heap.size, 4, none⟩ = some (.int .i64 si) ∧ u.cell? ⟨w.heap.size, 5, none⟩ = some (.int .i64 st)) := fun u hu =>
    ⟨(h0 u hu 0 _ rfl).1, (h0 u hu 1 _ rfl).1, (h0 u hu 2 _ rfl).1, (h0 u hu 3 _ rfl).1, (h0 u hu 4 _ rfl).1, (h0 u hu 5 _ rfl).1⟩
  clear h0
  have PH : Hid (runB (nm, r, sl, at_, si, st) = true → ∃ (k : Nat), atI r at_ = (k : Int) ∧ k < n1 ∧ (phaseB (phX r at_) = true) ∧ ∃ b off, o1 = some ⟨b, off, none⟩ ∧ b < w.heap.size ∧ ∀ u, Below w.heap.size w u → u.cell? ⟨b, off + k * 8, none⟩ = some (.string (phX r at_).1) ∧ u.cell? ⟨b, off + k * 8 + 1, none⟩ = some (.int .i64 (phX r at_).2.1) ∧ u.cell? ⟨b, off + k * 8 + 2, none⟩ = some (.string (phX r at_).2.2.1) ∧ u.cell? ⟨b, off + k * 8 + 3, none⟩ = some (.string (phX r at_).2.2.2.1) ∧ u.cell? ⟨b, off + k * 8 + 4, none⟩ = some (.int .i64 (phX r at_).2.2.2.2.1) ∧ u.cell? ⟨b, off + k * 8 + 5, none⟩ = some (.int .i64 (phX r at_).2.2.2.2.2.1) ∧ u.cell? ⟨b, off + k * 8 + 6, none⟩ = some (.string (phX r at_).2.2.2.2.2.2.1) ∧ u.cell? ⟨b, off + k * 8 + 7, none⟩ = some (.string (phX r at_).2.2.2.2.2.2.2)) := fun hb => by
    have hR : RecP r := (run_rec hb).1
    have h0 : 0 ≤ atI r at_ := by
      unfold runB at hb
      simp only [Bool.and_eq_true, decide_eq_true_eq] at hb
      exact hb.1.2
    rcases at_cases r at_ with e | ⟨k', hk', e, _⟩
    · omega
    obtain ⟨oa, cap, ev, _, hc⟩ := id hr
    obtain ⟨b, off, eo, hbS, cc, hcell, hat⟩ := hc k' hk'
    rw [width_DRecPhase] at hcell
    rw [at_DRecPhase, ← ph_at hk' e] at hat
    obtain ⟨⟨q0, _⟩, ⟨q1, _, _⟩, ⟨q2, _⟩, ⟨q3, _⟩, ⟨q4, _, _⟩, ⟨q5, _, _⟩, ⟨q6, _⟩, ⟨q7, _⟩⟩ := hat
    cases ev
    have hbb := hS b hbS
    refine ⟨k', e, hk', by rw [ph_at hk' e]; exact (step_of hR hk').1, b, off, eo, hbb, fun u hu => ?_⟩
    rw [← q0, ← q1, ← q2, ← q3, ← q4, ← q5, ← q6, ← q7]
    exact ⟨(hu.cell hbb).trans (hcell 0 (by omega)), (hu.cell hbb).trans (hcell 1 (by omega)), (hu.cell hbb).trans (hcell 2 (by omega)), (hu.cell hbb).trans (hcell 3 (by omega)), (hu.cell hbb).trans (hcell 4 (by omega)), (hu.cell hbb).trans (hcell 5 (by omega)), (hu.cell hbb).trans (hcell 6 (by omega)), (hu.cell hbb).trans (hcell 7 (by omega))⟩
  clear h hr hS hn
  obtain ⟨y0, y1, y2, y3, y4, y5⟩ := Y.out W (Below.refl _ _)
  have szW := BW.out.size
  go_enter Try.func5, Try.ntmps5
  go_upto_region 1 with fail
  rw [← EW.out]
  go_wp2_with fail
  refine (runX_any S nm r sl at_ si st o1 o2 n1 k1 n2 k2 W HN.out (HR.out _ BW.out) (HA.out _ BW.out) (HS.out _ BW.out)).mono ?_; rintro e w1 ⟨rfl, hb1⟩
  have B1 : Hid (Below W.heap.size W w1) := hb1
  have BW1 : Hid (Below w.heap.size w w1) := (BOX.out w1 hb1).2
  clear y0 y1 y2 y3 y4 y5 hb1
  obtain ⟨y0, y1, y2, y3, y4, y5⟩ := Y.out w1 B1.out
  cases c : runB (nm, r, sl, at_, si, st)
  · rw [c] at TG
    obtain rfl : G = [] := TG.out
    clear y0 y1 y2 y3 y4 y5 szW
    go_wp2_with fail
    go_ret
    have sz := BW1.out.size
    exact ⟨_, rfl, own_nil sz, BW1.out.alloc sz _⟩
  rw [c, if_pos rfl] at TG
  obtain ⟨k, hk, hkn, _, b, off, rfl, hb, hx⟩ := PH.out c
  obtain ⟨x0, x1, x2, x3, x4, x5, x6, x7⟩ := hx w1 BW1.out
  obtain ⟨p, hp⟩ : ∃ p, p = phX r at_ := ⟨_, rfl⟩
  rw [← hp] at x0 x1 x2 x3 x4 x5 x6 x7 TG
  have hG : G = thL sl (ofL p) := TG.out
  obtain ⟨pn, kd, pa, pb, pc, wi, th, el⟩ := p
  simp only at x0 x1 x2 x3 x4 x5 x6 x7
  obtain ⟨L, hL⟩ : ∃ L, L = ofL (pn, kd, pa, pb, pc, wi, th, el) := ⟨_, rfl⟩
  rw [← hL] at hG
  have hll : L.length ≤ 2 := by rw [hL]; exact of_len _
  have HLL : Hid (L.length ≤ 2) := hll
  have CO : Hid (∀ u, Calls Try.prog 17 #[.agg #[.string pn, .int .i64 kd, .string pa, .string pb, .int .i64 pc, .int .i64 wi, .string th, .string el]] u fun e w' => ∃ g cap, e = .returned (.slice (some ⟨g, 0, none⟩) L.length cap) ∧ w'.ownsRow u.heap.size 9 1 (.slice (some ⟨g, 0, none⟩) L.length cap) L.length (L.map .string) ∧ Below u.heap.size u w') := fun u => by rw [hL]; exact ofX_any pn pa pb th el kd pc wi u
  have CA : Hid (∀ u, Below w.heap.size w u → Calls Try.prog 18 #[.slice (some ⟨b, off, none⟩) n1 k1, .string at_] u fun e w' => e = .returned (.int .i64 (k : Int)) ∧ w' = u) := fun u hu => by rw [← hk]; exact atX_any S r _ at_ u (HR.out u hu)
  subst hG
  have HDR : Hid (Below w1.heap.size w1 w1.drew) := (Below.refl _ _).drew
  have q0 := fun d os => cell_regrown y0 d os
  have q1 := fun d os => cell_regrown y1 d os
  have q2 := fun d os => cell_regrown y2 d os
  have q3 := fun d os => cell_regrown y3 d os
  have q4 := fun d os => cell_regrown y4 d os
  have q5 := fun d os => cell_regrown y5 d os
  have qx0 := fun d os => cell_regrown x0 d os
  have qx1 := fun d os => cell_regrown x1 d os
  have qx2 := fun d os => cell_regrown x2 d os
  have qx3 := fun d os => cell_regrown x3 d os
  have qx4 := fun d os => cell_regrown x4 d os
  have qx5 := fun d os => cell_regrown x5 d os
  have qx6 := fun d os => cell_regrown x6 d os
  have qx7 := fun d os => cell_regrown x7 d os
  clear hL hll TG hk hx hp y0 y1 y2 y3 y4 y5 x0 x1 x2 x3 x4 x5 x6 x7 szW
  go_wp2_with fail
  refine wp_region_mix 11 [0, 1, 2, 3, 4, 5, 6] (by kernel_rfl) (by kernel_rfl) ?_
  simp only [List.filterMap_cons, List.filterMap_nil, List.getElem?_cons_succ, List.getElem?_cons_zero]
  repeat (first | go_big_quiet_step (fail) | quiet_step (fail))
  refine wpQuiet_nil ?_
  have bdr : Hid (Below w.heap.size w w1.drew) := BW1.out.trans (HDR.out.mono BW1.out.size)
  refine call1 (md := .any) (f := 3) (i := 7) (dc := 14) (fn := 18) ⟨rfl, rfl, rfl, by decide⟩ (by kernel_rfl) ?run ((CA.out w1.drew bdr.out).mono ?_)
  case run => go_simp
  rintro e u ⟨rfl, rfl⟩
  refine ⟨_, rfl, regrown_of_below HDR.out, ?_⟩
  simp only [Act.put, List.setIfInBounds_toArray, List.set_cons_zero, List.set_cons_succ]
  refine lexT (g := 1) [8, 9] (by kernel_rfl) (regrown_of_below HDR.out) ?_
  simp only [List.filterMap_cons, List.filterMap_nil, List.getElem?_cons_succ, List.getElem?_cons_zero]
  repeat (first | go_big_quiet_step (fail) | quiet_step (fail))
  refine wpQuiet_nil ?_
  clear q0 q1 q2 q3 q4 q5 qx0 qx1 qx2 qx3 qx4 qx5 qx6 qx7
  refine call1 (md := .any) (f := 0) (i := 10) (dc := 17) (fn := 17) ⟨rfl, rfl, rfl, by decide⟩ (by kernel_rfl) ?run2 ((CO.out w1.drew).mono ?_)
  case run2 => go_simp
  rintro e u ⟨g, cap, rfl, ho, hb1⟩
  have C1 : Hid (Below w1.heap.size w1 u) := HDR.out.trans (hb1.mono HDR.out.size)
  have BU : Hid (Below w.heap.size w u) := BW1.out.trans (C1.out.mono BW1.out.size)
  have RD : Hid (RdB u (.slice (some ⟨g, 0, none⟩) L.length cap) L) := RdB.of ho
  refine ⟨_, rfl, regrown_of_below C1.out, ?_⟩
  clear hb1 ho
  refine ⟨by kernel_rfl, ?_⟩
  simp only [List.drop_succ_cons, List.drop_zero, Act.put, List.setIfInBounds_toArray, List.set_cons_zero, List.set_cons_succ]
  have s1 := BU.out.size
  go_wp2_with fail
  refine (thingsX_any S sl nm at_ si st _ o2 n1 k1 n2 k2 L _ u (HA.out _ BU.out) (HS.out _ BU.out) RD.out (by have := HLL.out; omega)).mono ?_; rintro e u2 ⟨g', cap', rfl, ho, hb2⟩
  have HO : Hid _ := ho
  have HB : Hid (Below w.heap.size w u2) := BU.out.trans (hb2.mono s1)
  clear ho hb2
  go_wp2_with fail
  go_ret
  exact ⟨_, rfl, own_leR HO.out s1, HB.out⟩
end Go.Proofs.Ytobchllaopdchaa
