import Derived.Test.YtaejlcanccfmmaaGreatDoorZra
import Derived.Test.YtaejlcanccfmmaaGreatDoorM19
import Derived.Maps.AppendAt
namespace Go.Proofs.YtaejlcanccfmmaaGreatDoor
open Go.RowKit Go.Sort
set_option maxRecDepth 100000 in
set_option maxHeartbeats 16000000 in
theorem levZ_any (S : Nat → Prop) (T : List ByteArray) (Bs : List DShareBatch) (o0 oa : Option Addr) (n0 k0 nb kb : Nat) (x : ByteArray) (w : World) (h0 : AtL S w T (.slice o0 n0 k0)) (h1 : AtL S w Bs (.slice oa nb kb)) (hS : ∀ b, S b → b < w.heap.size) :
    Calls Tryz.prog 10 #[.agg #[.slice o0 n0 k0, .slice oa nb kb], .string x] w fun e w' => ∃ r0 r1, e = .returned (.tuple #[.agg #[r0, r1], .int .i64 (levS (T, Bs) x).2]) ∧ AtL (fun b => w.heap.size ≤ b ∧ b < w'.heap.size) w' (levS (T, Bs) x).1.1 r0 ∧ AtL (fun b => w.heap.size ≤ b ∧ b < w'.heap.size) w' (levS (T, Bs) x).1.2 r1 ∧ Below w.heap.size w w' := by
  have H0 : Hid _ := h0.ups hS
  have H1 : Hid _ := h1.ups hS
  have HS : Hid _ := lt_up hS
  have enb : Bs.length = nb := by obtain ⟨_, _, e, _⟩ := h1; cases e; rfl
  have ENB : Hid (Bs.length ≤ nb ∧ nb ≤ Bs.length) := ⟨by omega, by omega⟩
  have hmx : nb ≤ 9223372036854775807 := by obtain ⟨_, _, e, hf, _⟩ := id h1; cases e; have := hf.1; unfold maxLen at this; omega
  clear h0 h1 enb
  obtain ⟨RR, hRR⟩ : ∃ R, R = levS (T, Bs) x := ⟨_, rfl⟩
  have HRR : Hid (RR = levS (T, Bs) x) := hRR
  rw [← hRR]
  clear hRR
  obtain ⟨W, hW⟩ : ∃ W, W = (w.alloc (.cells #[.slice o0 n0 k0, .slice oa nb kb] 26)).alloc (.cells #[.slice none 0 0, .slice none 0 0] 26) := ⟨_, rfl⟩
  have EW : Hid (W = (w.alloc (.cells #[.slice o0 n0 k0, .slice oa nb kb] 26)).alloc (.cells #[.slice none 0 0, .slice none 0 0] 26)) := hW
  have BW : Hid (Below w.heap.size w W) := by rw [hW]; exact ((Below.refl _ _).alloc (Nat.le_refl _) _).alloc (by simp) _
  have R1 : Hid (W.heap[w.heap.size]? = some (.cells #[.slice o0 n0 k0, .slice oa nb kb] 26 (0, 0))) := by rw [hW]; exact (Below.heap_alloc _ _ _ (by simp)).trans (heap_alloc_new w _)
  have R2 : Hid (W.heap[w.heap.size + 1]? = some (.cells #[.slice none 0 0, .slice none 0 0] 26 (0, 0))) := by rw [hW]; exact alloc_atR _ (by simp)
  have sW : w.heap.size + 2 ≤ W.heap.size := by rw [hW]; simp
  clear hW
  have BOX : Hid (∀ u, Below W.heap.size W u → u.heap[w.heap.size]? = some (.cells #[.slice o0 n0 k0, .slice oa nb kb] 26 (0, 0)) ∧ u.heap[w.heap.size + 1]? = some (.cells #[.slice none 0 0, .slice none 0 0] 26 (0, 0)) ∧ Below w.heap.size w u) := fun u hu => ⟨(hu.block _ (by omega)).trans R1.out, (hu.block _ (by omega)).trans R2.out, BW.out.trans (hu.mono (by omega))⟩
  have y0 := (cell_row R1.out 0 (.slice o0 n0 k0) rfl).1
  have y1 := (cell_row R1.out 1 (.slice oa nb kb) rfl).1
  go_enter Tryz.func10, Tryz.ntmps10
  go_upto_region 1 with fail
  rw [← EW.out]
  go_wp2_with fail
  refine (bookZ_any S (T, Bs) _ _ W (H0.out W BW.out) (H1.out W BW.out) (HS.out W BW.out)).mono ?_; rintro e u1 ⟨rfl, hb1⟩
  have B1 : Hid (Below W.heap.size W u1) := hb1
  clear hb1 y0 y1
  cases hB : bokB (T, Bs)
  · have ER : Hid (RR = (([], []), 1)) := by show _ = _; rw [HRR.out]; unfold levS; rw [if_neg (by rw [hB]; simp)]
    obtain ⟨z0, f0⟩ := cell_row (BOX.out u1 B1.out).2.1 0 (.slice none 0 0) rfl
    obtain ⟨z1, f1⟩ := cell_row (BOX.out u1 B1.out).2.1 1 (.slice none 0 0) rfl
    have FA0 : Hid (AtL (fun b => W.heap.size ≤ b ∧ b < u1.heap.size) u1 RR.1.1 (.slice none 0 0)) := by rw [ER.out]; exact atl_noneM _ _
    have FA1 : Hid (AtL (fun b => W.heap.size ≤ b ∧ b < u1.heap.size) u1 RR.1.2 (.slice none 0 0)) := by rw [ER.out]; exact atl_noneM _ _
    have FC : Hid (RR.2 = 1) := by show _ = _; rw [ER.out]
    have FS : Hid (W.heap.size ≤ u1.heap.size) := (B1.out).size
    have FW : Hid (Below w.heap.size w u1) := (BOX.out u1 B1.out).2.2
    have FB : Hid (u1.heap[w.heap.size + 1]? = some (.cells #[.slice none 0 0, .slice none 0 0] 26 (0, 0))) := (BOX.out u1 B1.out).2.1
    go_wp2_with fail
    have FIN := set_row (set_row FB.out 0 (.slice none 0 0)) 1 (.slice none 0 0)
    have OTH : ∀ q, q ≠ w.heap.size + 1 → ((u1.setCell ⟨w.heap.size + 1, 0, none⟩ (.slice none 0 0)).setCell ⟨w.heap.size + 1, 1, none⟩ (.slice none 0 0)).heap[q]? = u1.heap[q]? := fun q hq => (Below.heap_setCell _ _ _ _ hq).trans (Below.heap_setCell _ _ _ _ hq)
    have BF : Below w.heap.size w ((u1.setCell ⟨w.heap.size + 1, 0, none⟩ (.slice none 0 0)).setCell ⟨w.heap.size + 1, 1, none⟩ (.slice none 0 0)) := (FW.out.setCell (p := ⟨w.heap.size + 1, 0, none⟩) (Nat.le_succ _) _).setCell (p := ⟨w.heap.size + 1, 1, none⟩) (Nat.le_succ _) _
    have SZ : ((u1.setCell ⟨w.heap.size + 1, 0, none⟩ (.slice none 0 0)).setCell ⟨w.heap.size + 1, 1, none⟩ (.slice none 0 0)).heap.size = u1.heap.size := by simp
    generalize (u1.setCell ⟨w.heap.size + 1, 0, none⟩ (.slice none 0 0)).setCell ⟨w.heap.size + 1, 1, none⟩ (.slice none 0 0) = F at FIN OTH BF SZ ⊢
    have g0 := (cell_row FIN 0 (.slice none 0 0) rfl).1
    have g1 := (cell_row FIN 1 (.slice none 0 0) rfl).1
    have fs := FS.out
    refine bodyPost_ret (v := .tuple #[.agg #[.slice none 0 0, .slice none 0 0], .int .i64 (1)]) (by simp [results, Tryz.results10, go_sem, g0, g1]) rfl ⟨_, _, by rw [FC.out], ?_, ?_, BF⟩
    · exact AtL.up (FA0.out.same (fun b hb => OTH b (by omega))) (fun b hb => ⟨by omega, by omega⟩)
    · exact AtL.up (FA1.out.same (fun b hb => OTH b (by omega))) (fun b hb => ⟨by omega, by omega⟩)
  have OK : Hid (BokP (T, Bs)) := bok_iff.1 hB
  have EB : Hid (bokB (T, Bs) = true) := hB
  clear hB
  have SM : Hid (Lay.tot (α := DShareBook) (T, Bs) ≤ 1048576) := (bok_small OK.out).1.tot
  have y0 := (cell_row (BOX.out u1 B1.out).1 0 (.slice o0 n0 k0) rfl).1
  have y1 := (cell_row (BOX.out u1 B1.out).1 1 (.slice oa nb kb) rfl).1
  go_wp2_with fail
  refine (copyZ_any S T Bs _ _ _ _ _ _ u1 (H0.out u1 (BOX.out u1 B1.out).2.2) (H1.out u1 (BOX.out u1 B1.out).2.2) (HS.out u1 (BOX.out u1 B1.out).2.2) SM.out).mono ?_
  rintro e u2 ⟨c0, c1, L, rfl, hbk, hmap, hb2⟩
  obtain ⟨oc0, kc0, rfl⟩ := Row.form hbk.th
  obtain ⟨oc1, kc1, rfl⟩ := Row.form hbk.bs.ro
  obtain ⟨mt, emt⟩ : ∃ n, T.length = n := ⟨_, rfl⟩
  have elb : L.length = nb := by have := congrArg List.length hmap; rw [List.length_map] at this; have := ENB.out; omega
  rw [emt, elb] at hbk
  rw [emt, elb]
  have BK2 : Hid (BkO u1.heap.size u2 (.slice oc0 mt kc0) (.slice oc1 nb kc1) T L) := hbk
  have HMP : Hid (L.map dH = Bs) := hmap
  have ELB : Hid (L.length = nb) := elb
  have B2 : Hid (Below W.heap.size W u2) := B1.out.trans (hb2.mono B1.out.size)
  have s12 := hb2.size
  have sW1 := B1.out.size
  clear hbk hmap hb2 emt elb y0 y1
  obtain ⟨X, hX⟩ : ∃ X, X = u2.alloc (.cells #[.slice oc0 mt kc0, .slice oc1 nb kc1] 26) := ⟨_, rfl⟩
  have EX : Hid (X = u2.alloc (.cells #[.slice oc0 mt kc0, .slice oc1 nb kc1] 26)) := hX
  have BX2 : Below u2.heap.size u2 X := by rw [hX]; exact (Below.refl _ _).alloc (Nat.le_refl _) _
  have RX : Hid (X.heap[u2.heap.size]? = some (.cells #[.slice oc0 mt kc0, .slice oc1 nb kc1] 26 (0, 0))) := by rw [hX]; exact heap_alloc_new u2 _
  have sX : u2.heap.size + 1 ≤ X.heap.size := by rw [hX]; simp
  have BX : Hid (Below W.heap.size W X) := B2.out.trans (BX2.mono B2.out.size)
  have BKX : Hid (BkO u1.heap.size X (.slice oc0 mt kc0) (.slice oc1 nb kc1) T L) := BK2.out.below BX2
  obtain ⟨gx, hgx⟩ : ∃ g, g = u2.heap.size := ⟨_, rfl⟩
  have EGX : Hid (gx = u2.heap.size) := hgx
  rw [← hgx] at RX
  have hgW : W.heap.size ≤ gx := by omega
  have hgX : gx < X.heap.size := by omega
  clear hX hgx BX2 BK2
  have KPX : Hid (∀ u, Below X.heap.size X u → u.heap[gx]? = some (.cells #[.slice oc0 mt kc0, .slice oc1 nb kc1] 26 (0, 0)) ∧ BkO u1.heap.size u (.slice oc0 mt kc0) (.slice oc1 nb kc1) T L ∧ Below W.heap.size W u) := fun u hu => ⟨(hu.block gx hgX).trans RX.out, BKX.out.below hu, BX.out.trans (hu.mono BX.out.size)⟩
  go_upto_region 4 with fail
  rw [← EX.out]
  rw [← EGX.out]
  have y0 := (cell_row (BOX.out X BX.out).1 0 (.slice o0 n0 k0) rfl).1
  have y1 := (cell_row (BOX.out X BX.out).1 1 (.slice oa nb kb) rfl).1
  have CA : Hid (Calls Tryz.prog 18 #[.agg #[.slice o0 n0 k0, .slice oa nb kb], .string x] X fun e w' => e = .returned (.int .i64 (atZI Bs x)) ∧ Below X.heap.size X w') := atZ_any S T Bs _ _ _ _ _ _ x X (H0.out X (BOX.out X BX.out).2.2) (H1.out X (BOX.out X BX.out).2.2) (HS.out X (BOX.out X BX.out).2.2)
  go_wp2_with fail
  refine CA.out.mono ?_; rintro e u3 ⟨rfl, hb3⟩
  have B3 : Hid (Below X.heap.size X u3) := hb3
  clear hb3 y0 y1 CA
  by_cases hneg : atZI Bs x < 0
  · have ER : Hid (RR = ((T, Bs), 3)) := by show _ = _; rw [HRR.out]; unfold levS; rw [if_pos EB.out, if_pos hneg]
    obtain ⟨g0x, _⟩ := cell_row (KPX.out u3 B3.out).1 0 (.slice oc0 mt kc0) rfl
    obtain ⟨g1x, _⟩ := cell_row (KPX.out u3 B3.out).1 1 (.slice oc1 nb kc1) rfl
    obtain ⟨z0, f0⟩ := cell_row (BOX.out u3 (KPX.out u3 B3.out).2.2).2.1 0 (.slice none 0 0) rfl
    obtain ⟨z1, f1⟩ := cell_row (BOX.out u3 (KPX.out u3 B3.out).2.2).2.1 1 (.slice none 0 0) rfl
    have FA0 : Hid (AtL (fun b => W.heap.size ≤ b ∧ b < u3.heap.size) u3 RR.1.1 (.slice oc0 mt kc0)) := by rw [ER.out]; exact (AtL.up (S := fun b => u1.heap.size ≤ b ∧ b < u3.heap.size) (KPX.out u3 B3.out).2.1.at_.1 (fun b hb => ⟨by omega, hb.2⟩))
    have FA1 : Hid (AtL (fun b => W.heap.size ≤ b ∧ b < u3.heap.size) u3 RR.1.2 (.slice oc1 nb kc1)) := by rw [ER.out]; exact (AtL.up (S := fun b => u1.heap.size ≤ b ∧ b < u3.heap.size) (HMP.out ▸ (KPX.out u3 B3.out).2.1.at_.2) (fun b hb => ⟨by omega, hb.2⟩))
    have FC : Hid (RR.2 = 3) := by show _ = _; rw [ER.out]
    have FS : Hid (W.heap.size ≤ u3.heap.size) := ((KPX.out u3 B3.out).2.2).size
    have FW : Hid (Below w.heap.size w u3) := (BOX.out u3 (KPX.out u3 B3.out).2.2).2.2
    have FB : Hid (u3.heap[w.heap.size + 1]? = some (.cells #[.slice none 0 0, .slice none 0 0] 26 (0, 0))) := (BOX.out u3 (KPX.out u3 B3.out).2.2).2.1
    go_wp2_with fail
    have FIN := set_row (set_row FB.out 0 (.slice oc0 mt kc0)) 1 (.slice oc1 nb kc1)
    have OTH : ∀ q, q ≠ w.heap.size + 1 → ((u3.setCell ⟨w.heap.size + 1, 0, none⟩ (.slice oc0 mt kc0)).setCell ⟨w.heap.size + 1, 1, none⟩ (.slice oc1 nb kc1)).heap[q]? = u3.heap[q]? := fun q hq => (Below.heap_setCell _ _ _ _ hq).trans (Below.heap_setCell _ _ _ _ hq)
    have BF : Below w.heap.size w ((u3.setCell ⟨w.heap.size + 1, 0, none⟩ (.slice oc0 mt kc0)).setCell ⟨w.heap.size + 1, 1, none⟩ (.slice oc1 nb kc1)) := (FW.out.setCell (p := ⟨w.heap.size + 1, 0, none⟩) (Nat.le_succ _) _).setCell (p := ⟨w.heap.size + 1, 1, none⟩) (Nat.le_succ _) _
    have SZ : ((u3.setCell ⟨w.heap.size + 1, 0, none⟩ (.slice oc0 mt kc0)).setCell ⟨w.heap.size + 1, 1, none⟩ (.slice oc1 nb kc1)).heap.size = u3.heap.size := by simp
    generalize (u3.setCell ⟨w.heap.size + 1, 0, none⟩ (.slice oc0 mt kc0)).setCell ⟨w.heap.size + 1, 1, none⟩ (.slice oc1 nb kc1) = F at FIN OTH BF SZ ⊢
    have g0 := (cell_row FIN 0 (.slice oc0 mt kc0) rfl).1
    have g1 := (cell_row FIN 1 (.slice oc1 nb kc1) rfl).1
    have fs := FS.out
    refine bodyPost_ret (v := .tuple #[.agg #[.slice oc0 mt kc0, .slice oc1 nb kc1], .int .i64 (3)]) (by simp [results, Tryz.results10, go_sem, g0, g1]) rfl ⟨_, _, by rw [FC.out], ?_, ?_, BF⟩
    · exact AtL.up (FA0.out.same (fun b hb => OTH b (by omega))) (fun b hb => ⟨by omega, by omega⟩)
    · exact AtL.up (FA1.out.same (fun b hb => OTH b (by omega))) (fun b hb => ⟨by omega, by omega⟩)
  obtain ⟨q, eq, hqb⟩ := at_lt hneg
  have hqn : q < nb := by have := ENB.out; omega
  have EQ : Hid (atZI Bs x = (q : Int)) := eq
  have ER : Hid (RR = ((T, Bs.take q ++ Bs.drop (q + 1)), 0)) := by show _ = _; rw [HRR.out]; unfold levS; rw [if_pos EB.out, if_neg hneg]; simp only [eq, Int.toNat_natCast]
  rw [eq]
  have hng0 : ¬ ((q : Int) < 0) := by omega
  clear hneg eq
  have nb5 : nb ≤ 5 := by have := ENB.out; have := OK.out.len; simp only at this; omega
  obtain ⟨kx, bkx, _⟩ := KPX.out u3 B3.out
  obtain ⟨gr, ecap, hv, hgr0, hgr1, _⟩ := Row.cell bkx.bs.ro (i := q) (by rw [ELB.out]; exact hqn)
  rw [ELB.out] at hv
  cases hv
  have hcap : nb ≤ kc1 := by
    rcases bkx.bs.ro.2 with ⟨h, _⟩ | ⟨g', cap', cur', h, _, _, hle, _⟩
    · cases h
    · cases h; rw [ELB.out] at hle; exact hle
  have SRC : Hid (Src u3 (.slice (some ⟨gr, 0, none⟩) nb kc1) nb 3 (enc 3 eH L)) := by
    have := own_src4 bkx.bs.ro
    rw [ELB.out] at this
    exact this
  have x1 := (cell_row kx 1 (.slice (some ⟨gr, 0, none⟩) nb kc1) rfl).1
  have s3 := B3.out.size
  have HONE : Hid (∀ z ∈ enc 3 eH L, z.oneCell' = true) := fun z hz => by
    obtain ⟨a, ha, j, hj, rfl⟩ := enc_mem hz
    have he := bkx.bs.el a ha
    obtain ⟨p1, p2, e1⟩ := Row.form he.h
    obtain ⟨p3, p4, e2⟩ := Row.form he.n
    rcases (show j = 0 ∨ j = 1 ∨ j = 2 by omega) with rfl | rfl | rfl
    · rfl
    · show (a.2.1.1).oneCell' = true; rw [e1]; rfl
    · show (a.2.2.1).oneCell' = true; rw [e2]; rfl
  clear kx bkx
  go_wp2_with fail
  have qx := fun d os => cell_regrown x1 d os
  have hcq : (q : Int) ≤ (kc1 : Int) := by omega
  have hcq1 : (q : Int) + 1 ≤ (nb : Int) := by omega
  have hcq2 : (q : Int) ≤ (nb : Int) := by omega
  have hcq3 : (nb : Int) ≤ (kc1 : Int) := by omega
  have hwr : IntKind.i64.wrap ((q : Int) + 1) = ((q + 1 : Nat) : Int) := by rw [wrap_i64M _ (by omega) (by omega)]; rfl
  have hz0 : (0 : Int) ≤ (q : Int) + 1 := by omega
  have htn : ((q : Int) + 1).toNat = q + 1 := by omega
  refine wp_region_mix 11 [1, 2, 3, 4, 6, 7, 8, 9, 10] (by kernel_rfl) (by kernel_rfl) ?_
  simp only [List.filterMap_cons, List.filterMap_nil, List.getElem?_cons_succ, List.getElem?_cons_zero]
  repeat (first | go_big_quiet_step (fail) | quiet_step (fail))
  refine wpQuiet_nil ?_
  clear qx x1 hcq hcq1 hcq2 hcq3 hwr hz0 htn
  have hdr : Below u3.heap.size u3 u3.drew := (Below.refl _ _).drew
  obtain ⟨Y, hY⟩ : ∃ Y, Y = u3.drew.alloc (.cells #[] 43) := ⟨_, rfl⟩
  have bY : Below u3.heap.size u3 Y := by rw [hY]; exact hdr.alloc (Nat.le_refl _) _
  have rY : Row Y u3.heap.size 43 3 eH (.slice (some ⟨u3.heap.size, 0, none⟩) 0 0) [] := by rw [hY]; exact Row.made u3.drew 43 3 eH (Nat.le_refl _)
  have hqL : q ≤ nb := by omega
  obtain ⟨v5, w5, hr5, ho5, hb5⟩ := app_newM (P := Tryz.prog) elB (B := u3.heap.size) (g := u3.heap.size) (w := Y) rY (by have := bY.size; omega) ((SRC.out.take_ hqL kc1).below bY) (by unfold maxLen; omega) (by omega) 24
  have bw5 : Below u3.heap.size u3 w5 := bY.trans (hb5.mono bY.size)
  refine anyC_step (f := 1) [0] (by kernel_rfl) (by simp) (one_list ⟨by decide, _, rfl, rfl, .slice (some ⟨u3.heap.size, 0, none⟩) 0 0, u3.drew.alloc (.cells #[] 43), ?r0, regrown_of_below (by rw [← hY]; exact bY), ?_⟩)
  case r0 => go_simp
  rw [← hY]
  refine anyC_step (f := 0) [5] (by kernel_rfl) (by simp) (one_list ⟨by decide, _, rfl, rfl, v5, w5, ?r5, regrown_of_below bw5, ?_⟩)
  case r5 => exact exec_runM (s := .tmp 20) (x := .tmp 24) rfl rfl rfl hr5
  refine ⟨by kernel_rfl, ?_⟩
  simp only [List.drop_succ_cons, List.drop_zero]
  simp only [Act.put, List.setIfInBounds_toArray]
  have etk : (enc 3 eH L).take (q * 3) = enc 3 eH (L.take q) := enc_take 3 eH L q
  have edr : (enc 3 eH L).drop ((q + 1) * 3) = enc 3 eH (L.drop (q + 1)) := enc_drop 3 eH L (q + 1)
  rw [etk] at ho5
  have SR2 : Hid (Src w5 (.slice (if kc1 = q + 1 then some ⟨gr, 0, none⟩ else some ⟨gr, (q + 1) * 3, none⟩) (nb - (q + 1)) (kc1 - (q + 1))) (nb - (q + 1)) 3 (enc 3 eH (L.drop (q + 1)))) := by
    have := (SRC.out.drop_ (k := q + 1) (by omega) hcap).below bw5
    rw [edr] at this
    show Src _ _ _ _ _
    simpa using this
  have ONE2 : Hid (∀ z ∈ enc 3 eH (L.drop (q + 1)), z.oneCell' = true) := fun z hz => HONE.out z (by rw [← edr] at hz; exact List.mem_of_mem_drop hz)
  have OWN5 : Hid (w5.ownsRow u3.heap.size 43 3 v5 q (enc 3 eH (L.take q))) := ho5
  have BW5 : Hid (Below u3.heap.size u3 w5) := bw5
  have s5 := bw5.size
  clear hr5 ho5 hb5 bw5 rY bY hY hdr etk edr
  generalize (if kc1 = q + 1 then some (⟨gr, 0, none⟩ : Addr) else some ⟨gr, (q + 1) * 3, none⟩) = ad8 at SR2 ⊢
  go_upto_region 8 with (first
    | (at_builtin; refine wpList_app elB rfl _ _ rfl rfl rfl OWN5.out SR2.out ONE2.out (by unfold maxLen; omega) (by omega) (by omega) ?_; intro v8 u8 hown hgr0 _; obtain ⟨ov8, kv8, rfl⟩ := row_shape4 hown; have hgr : w5.grownBy u8 v5.ownBlock := hgr0; have lt5 : ∀ g', v5.ownBlock = some g' → u3.heap.size ≤ g' := (fun g' hg' => (World.ownsRow.lt OWN5.out g' hg').1); have hb8 : u8.heap[gx]? = some (.cells #[.slice oc0 mt kc0, .slice (some ⟨gr, 0, none⟩) nb kc1] 26 (0, 0)) := (hgr.block gx (by omega) (fun e => by have := lt5 gx e.symm; omega)).trans ((BW5.out.block gx (by omega)).trans (KPX.out u3 B3.out).1); obtain ⟨zc8, zf8⟩ := cell_row hb8 1 _ rfl))
  have enq : q + (nb - (q + 1)) = nb - 1 := by omega
  have LOW : ∀ b, b < u3.heap.size → b ≠ gx → (u8.setCell ⟨gx, 1, none⟩ (.slice ov8 (q + (nb - (q + 1))) kv8)).heap[b]? = u3.heap[b]? := fun b hb hbx => (Below.heap_setCell _ _ _ _ hbx).trans ((hgr.block b (by omega) (fun e => by have := lt5 b e.symm; omega)).trans (BW5.out.block b hb))
  have KZ : Hid (BsO u1.heap.size (u8.setCell ⟨gx, 1, none⟩ (.slice ov8 (q + (nb - (q + 1))) kv8)) (.slice ov8 (q + (nb - (q + 1))) kv8) (L.take q ++ L.drop (q + 1))) := by
    have bk := (KPX.out u3 B3.out).2.1
    refine ⟨Row.low (B := u3.heap.size) (Row.block (w := u8) ?_ (fun g' hg' => Below.heap_setCell _ _ _ _ (fun e => by
      have h1 : g' = gx := e
      have := (World.ownsRow.lt hown g' hg').1
      omega))) (by omega), fun y hy => ?_⟩
    · show World.ownsRow _ _ _ _ _ _ _
      rw [enc_append, List.length_append, List.length_take, List.length_drop, ELB.out, show min q nb + (nb - (q + 1)) = q + (nb - (q + 1)) by omega]
      exact hown
    · have hyL : y ∈ L := by
        rcases List.mem_append.1 hy with h | h
        · exact List.mem_of_mem_take h
        · exact List.mem_of_mem_drop h
      refine (bk.bs.el y hyL).kept fun q' c hc => LOW q' (Array.getElem?_eq_some_iff.1 hc).1 (fun e => by
        subst e
        rw [(KPX.out u3 B3.out).1] at hc
        injection hc with h1
        injection h1 with _ h2
        revert h2
        decide)
  have TZ : Hid (AtL (fun b => u1.heap.size ≤ b ∧ b < (u8.setCell ⟨gx, 1, none⟩ (.slice ov8 (q + (nb - (q + 1))) kv8)).heap.size) (u8.setCell ⟨gx, 1, none⟩ (.slice ov8 (q + (nb - (q + 1))) kv8)) T (.slice oc0 mt kc0)) := by
    have bk := (KPX.out u3 B3.out).2.1
    exact str_at (strRow_kept bk.th fun q' c hc => LOW q' (Array.getElem?_eq_some_iff.1 hc).1 (fun e => by
      subst e
      rw [(KPX.out u3 B3.out).1] at hc
      injection hc with h1
      injection h1 with _ h2
      revert h2
      decide)) bk.zt
  have BZ : Hid (Below W.heap.size W (u8.setCell ⟨gx, 1, none⟩ (.slice ov8 (q + (nb - (q + 1))) kv8))) := by
    have h1 : Below W.heap.size W w5 := (KPX.out u3 B3.out).2.2.trans (BW5.out.mono (by omega))
    exact (h1.grown hgr (by omega) (fun i hi => by have := lt5 i hi; omega)).setCell (p := ⟨gx, 1, none⟩) hgW _
  have RZ : Hid ((u8.setCell ⟨gx, 1, none⟩ (.slice ov8 (q + (nb - (q + 1))) kv8)).heap[gx]? = some (.cells #[.slice oc0 mt kc0, .slice ov8 (q + (nb - (q + 1))) kv8] 26 (0, 0))) := by show _ = _; rw [set_row hb8 1 _]; rfl
  clear hown hgr hgr0 hb8 zc8 zf8 LOW lt5
  generalize (u8.setCell ⟨gx, 1, none⟩ (.slice ov8 (q + (nb - (q + 1))) kv8)) = Z at KZ TZ BZ RZ ⊢
  generalize q + (nb - (q + 1)) = m8 at KZ RZ ⊢
  have MZ : Hid (AtL (fun b => u1.heap.size ≤ b ∧ b < Z.heap.size) Z (Bs.take q ++ Bs.drop (q + 1)) (.slice ov8 m8 kv8)) := by
    have := KZ.out.at_
    rw [List.map_append, List.map_take, List.map_drop, HMP.out] at this
    exact this
  obtain ⟨g0x, _⟩ := cell_row RZ.out 0 (.slice oc0 mt kc0) rfl
  obtain ⟨g1x, _⟩ := cell_row RZ.out 1 (.slice ov8 m8 kv8) rfl
  obtain ⟨z0, f0⟩ := cell_row (BOX.out Z BZ.out).2.1 0 (.slice none 0 0) rfl
  obtain ⟨z1, f1⟩ := cell_row (BOX.out Z BZ.out).2.1 1 (.slice none 0 0) rfl
  have FA0 : Hid (AtL (fun b => W.heap.size ≤ b ∧ b < Z.heap.size) Z RR.1.1 (.slice oc0 mt kc0)) := by rw [ER.out]; exact (AtL.up TZ.out (fun b hb => ⟨by omega, hb.2⟩))
  have FA1 : Hid (AtL (fun b => W.heap.size ≤ b ∧ b < Z.heap.size) Z RR.1.2 (.slice ov8 m8 kv8)) := by rw [ER.out]; exact (AtL.up MZ.out (fun b hb => ⟨by omega, hb.2⟩))
  have FC : Hid (RR.2 = 0) := by show _ = _; rw [ER.out]
  have FS : Hid (W.heap.size ≤ Z.heap.size) := (BZ.out).size
  have FW : Hid (Below w.heap.size w Z) := (BOX.out Z BZ.out).2.2
  have FB : Hid (Z.heap[w.heap.size + 1]? = some (.cells #[.slice none 0 0, .slice none 0 0] 26 (0, 0))) := (BOX.out Z BZ.out).2.1
  go_wp2_with fail
  have FIN := set_row (set_row FB.out 0 (.slice oc0 mt kc0)) 1 (.slice ov8 m8 kv8)
  have OTH : ∀ q, q ≠ w.heap.size + 1 → ((Z.setCell ⟨w.heap.size + 1, 0, none⟩ (.slice oc0 mt kc0)).setCell ⟨w.heap.size + 1, 1, none⟩ (.slice ov8 m8 kv8)).heap[q]? = Z.heap[q]? := fun q hq => (Below.heap_setCell _ _ _ _ hq).trans (Below.heap_setCell _ _ _ _ hq)
  have BF : Below w.heap.size w ((Z.setCell ⟨w.heap.size + 1, 0, none⟩ (.slice oc0 mt kc0)).setCell ⟨w.heap.size + 1, 1, none⟩ (.slice ov8 m8 kv8)) := (FW.out.setCell (p := ⟨w.heap.size + 1, 0, none⟩) (Nat.le_succ _) _).setCell (p := ⟨w.heap.size + 1, 1, none⟩) (Nat.le_succ _) _
  have SZ : ((Z.setCell ⟨w.heap.size + 1, 0, none⟩ (.slice oc0 mt kc0)).setCell ⟨w.heap.size + 1, 1, none⟩ (.slice ov8 m8 kv8)).heap.size = Z.heap.size := by simp
  generalize (Z.setCell ⟨w.heap.size + 1, 0, none⟩ (.slice oc0 mt kc0)).setCell ⟨w.heap.size + 1, 1, none⟩ (.slice ov8 m8 kv8) = F at FIN OTH BF SZ ⊢
  have g0 := (cell_row FIN 0 (.slice oc0 mt kc0) rfl).1
  have g1 := (cell_row FIN 1 (.slice ov8 m8 kv8) rfl).1
  have fs := FS.out
  refine bodyPost_ret (v := .tuple #[.agg #[.slice oc0 mt kc0, .slice ov8 m8 kv8], .int .i64 (0)]) (by simp [results, Tryz.results10, go_sem, g0, g1]) rfl ⟨_, _, by rw [FC.out], ?_, ?_, BF⟩
  · exact AtL.up (FA0.out.same (fun b hb => OTH b (by omega))) (fun b hb => ⟨by omega, by omega⟩)
  · exact AtL.up (FA1.out.same (fun b hb => OTH b (by omega))) (fun b hb => ⟨by omega, by omega⟩)
end Go.Proofs.YtaejlcanccfmmaaGreatDoor
