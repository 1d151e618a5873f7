import Derived.Test.YtaejlcanccfmmaaGreatDoorM53
namespace Go.Proofs.YtaejlcanccfmmaaGreatDoor
open Go.RowKit Go.Sort
set_option maxRecDepth 100000 in
set_option maxHeartbeats 32000000 in
theorem spoil_rd : SpoilC := by
  intro R ob n cb f p D o0 oa n0 k0 nb kb w h hp hD hsz
  have rlt := h.lt
  obtain ⟨W, hW⟩ : ∃ W, W = (w.alloc (.cells #[.slice o0 n0 k0, .slice oa nb kb] 26)).alloc (.cells #[.slice none 0 0, .slice none 0 0] 26) := ⟨_, rfl⟩
  have EW : Hid (W = (w.alloc (.cells #[.slice o0 n0 k0, .slice oa nb kb] 26)).alloc (.cells #[.slice none 0 0, .slice none 0 0] 26)) := hW
  have BW : Hid (Below w.heap.size w W) := by rw [hW]; exact ((Below.refl _ _).alloc (Nat.le_refl _) _).alloc (by simp) _
  have R1 : W.heap[w.heap.size]? = some (.cells #[.slice o0 n0 k0, .slice oa nb kb] 26 (0, 0)) := by rw [hW]; exact (Below.heap_alloc _ _ _ (by simp)).trans (heap_alloc_new w _)
  have R2 : Hid (W.heap[w.heap.size + 1]? = some (.cells #[.slice none 0 0, .slice none 0 0] 26 (0, 0))) := by rw [hW]; exact alloc_atR _ (by simp)
  have SW : Hid (W.heap.size = w.heap.size + 2) := by rw [hW]; simp [Hid]
  have RD0 : Hid (Rd R W ob n cb p f) := h.but (fun b hb => BW.out.block b (by omega))
  have sam : Same (fun b => b < w.heap.size ∧ b ≠ R) w W := fun b hb => BW.out.block b hb.1
  have CC : Hid _ := copyA_any (fun b => b < w.heap.size ∧ b ≠ R) D.1 D.2 o0 oa n0 k0 nb kb W (hD.a0.same sam) (hD.a1.same sam) (fun b hb => Nat.lt_of_lt_of_le hb.1 BW.out.size) (SzD.sm (hsz.mono (by omega))).tot
  have HDZ : Hid (SzD 16 D) := hsz
  have y0 := (cell_row R1 0 (.slice o0 n0 k0) rfl).1
  have y1 := (cell_row R1 1 (.slice oa nb kb) rfl).1
  clear hW h R1 sam hD hsz
  go_enter Tryz.func42, Tryz.ntmps42
  go_upto_region 1 with fail
  rw [← EW.out]
  go_wp2_with fail
  refine Calls.mono CC.out ?_
  rintro e w1 ⟨r0, r1, L, rfl, hbk, hmap, hb1, hap⟩
  clear CC y0 y1
  obtain ⟨T, eT⟩ : ∃ T, T = D.1 := ⟨_, rfl⟩
  rw [← eT] at hbk hap
  obtain ⟨ov0, kv0, e0⟩ := Row.form hbk.th
  obtain ⟨ov1, kv1, e1⟩ := Row.form hbk.bs.ro
  obtain ⟨nt, ent⟩ : ∃ m, T.length = m := ⟨_, rfl⟩
  obtain ⟨nl, enl⟩ : ∃ m, L.length = m := ⟨_, rfl⟩
  rw [ent] at e0
  rw [enl] at e1
  subst e0 e1
  have HTL : Hid (T.length = nt) := ent
  have HLL0 : Hid (L.length = nl) := enl
  have HTZ : Hid (SzL 16 T) := by rw [eT]; exact HDZ.out.1
  have HZL : Hid (∀ x ∈ L, SzB 16 (dH x)) := fun x hx => HDZ.out.2.2 _ (by rw [← hmap]; exact List.mem_map.2 ⟨x, hx, rfl⟩)
  have HLL : Hid (L.length ≤ 16) := by have h9 := HDZ.out.2.1; rw [← hmap, List.length_map] at h9; exact h9
  have hnt : nt ≤ 16 := by have := HTZ.out.1; omega
  have hnl : nl ≤ 16 := by have := HLL.out; omega
  obtain ⟨U, hU⟩ : ∃ U, U = w1.alloc (.cells #[.slice ov0 nt kv0, .slice ov1 nl kv1] 26) := ⟨_, rfl⟩
  have EU : Hid (U = w1.alloc (.cells #[.slice ov0 nt kv0, .slice ov1 nl kv1] 26)) := hU
  obtain ⟨gx, hgx⟩ : ∃ g, g = w1.heap.size := ⟨_, rfl⟩
  have EGX : Hid (gx = w1.heap.size) := hgx
  have bU : Below w1.heap.size w1 U := by rw [hU]; exact (Below.refl _ _).alloc (Nat.le_refl _) _
  have sw := SW.out
  have s1 := hb1.size
  have sU := bU.size
  obtain ⟨B, hB⟩ : ∃ B, B = W.heap.size := ⟨_, rfl⟩
  obtain ⟨gr, hgr⟩ : ∃ g, g = w.heap.size + 1 := ⟨_, rfl⟩
  have EGR : Hid (gr = w.heap.size + 1) := hgr
  rw [← hB] at hbk
  have S0 : Hid (SJ R B gx gr w U ob n cb p f (.slice ov0 nt kv0) (.slice ov1 nl kv1) L) := ⟨by rw [hgx, hU]; exact heap_alloc_new w1 _, by rw [hgr]; exact (bU.block _ (by omega)).trans ((hb1.block _ (by omega)).trans R2.out), Row.below hbk.bs.ro bU, RD0.out.but (fun b hb => (bU.block b (by omega)).trans (hb1.block b (by omega))), (But.of_below BW.out).trans ((But.of_below hb1).trans (But.of_below bU)), by omega⟩
  have F0 : Hid (Fam B U (((.slice ov0 nt kv0, T) : Vl) :: flatH L)) := Fam.below ⟨fun x hx => by
    rcases List.mem_cons.1 hx with rfl | hx
    · exact hbk.th
    · obtain ⟨y, hy, hm⟩ := List.mem_flatMap.1 hx
      simp only [List.mem_cons, List.not_mem_nil, or_false] at hm
      rcases hm with rfl | rfl
      · exact (hbk.bs.el y hy).h
      · exact (hbk.bs.el y hy).n, hap⟩ bU
  have hgl : w.heap.size < gr ∧ gx ≠ gr ∧ w.heap.size < gx := by omega
  clear hU hgx bU sw s1 sU hB hbk hmap hb1 hap R2 RD0 BW SW eT ent enl hgr
  go_upto_region 2 with fail
  rw [← EU.out, ← EGX.out]
  try rw [← EGR.out]
  clear EU EGX
  have x1 := (cell_row S0.out.bx 1 (.slice ov1 nl kv1) rfl).1
  by_cases hl0 : nl = 0
  · have S1 := S0
    have F1 := F0
    clear S0 F0
    subst hl0
    go_upto_region 3 with fail
    obtain ⟨FF, eff⟩ : ∃ F, F = (((.slice ov0 nt kv0, T) : Vl) :: flatH L) := ⟨_, rfl⟩
    have EFF : Hid (FF = (((.slice ov0 nt kv0, T) : Vl) :: flatH L)) := eff
    rw [← eff] at F1
    have HLN : Hid (T.length = nt) := HTL.out
    have HCW : Hid (∀ (v : World) (q : Int), SJ R B gx gr w v ob n cb q f (.slice ov0 nt kv0) (.slice ov1 0 kv1) L → v.heap[gx]? = some (.cells #[.slice ov0 nt kv0, .slice ov1 0 kv1] 26 (0, 0))) := fun v q h => h.bx
    clear eff
    have hdr : Below U.heap.size U U.drew := (Below.refl _ _).drew
    obtain ⟨D1, hD1⟩ : ∃ D, D = U.drew := ⟨_, rfl⟩
    have ED : Hid (D1 = U.drew) := hD1
    have SD : Hid (SJ R B gx gr w D1 ob n cb p f (.slice ov0 nt kv0) (.slice ov1 0 kv1) L) := by rw [hD1]; exact S1.out.below hdr
    have FD : Hid (Fam B D1 FF) := by rw [hD1]; exact F1.out.below hdr
    have HC := HCW.out D1 p SD.out
    have HCD : Hid _ := HC
    clear hdr hD1 S1 F1 HC
    refine wp_region_movesC (fun v => v.heap[gx]? = some (.cells #[.slice ov0 nt kv0, .slice ov1 0 kv1] 26 (0, 0))) 7 [] (by kernel_rfl) (by kernel_rfl) (by rw [← ED.out]; exact HCD.out) ?_
    rw [← ED.out]
    simp only [List.filterMap_nil, movD]
    refine takeHQ (f := 6) (i := 0) (.pointer (some ⟨gx, 0, none⟩)) ⟨rfl, rfl⟩ (by kernel_rfl) rfl (HCD.out) ?r0 ?_
    case r0 => intro v hv; go_simp
    simp only [Act.put, List.setIfInBounds_toArray, List.set_cons_zero, List.set_cons_succ]
    refine takeHQ (f := 5) (i := 1) (.slice ov0 nt kv0) ⟨rfl, rfl⟩ (by kernel_rfl) rfl (HCD.out) ?r1 ?_
    case r1 => intro v hv; have c0 := (cell_row hv 0 _ rfl).1; go_simp
    simp only [Act.put, List.setIfInBounds_toArray, List.set_cons_zero, List.set_cons_succ]
    refine takeHQ (f := 4) (i := 2) (.pointer (some ⟨R, 0, none⟩)) ⟨rfl, rfl⟩ (by kernel_rfl) rfl (HCD.out) ?r2 ?_
    case r2 => intro v hv; go_simp
    simp only [Act.put, List.setIfInBounds_toArray, List.set_cons_zero, List.set_cons_succ]
    obtain ⟨V, hV⟩ : ∃ V, V = D1.alloc (.cells (([⟨#[]⟩, ⟨#[65]⟩, ⟨#[97]⟩, ⟨#[122, 122]⟩] : List ByteArray).map Value.string).toArray 9) := ⟨_, rfl⟩
    have bV : Below D1.heap.size D1 V := by rw [hV]; exact (Below.refl _ _).alloc (Nat.le_refl _) _
    have SV := SD.out.below bV
    refine oneHd (f := 3) (i := 3) (.slice (some ⟨D1.heap.size, 0, none⟩) 4 4) V ⟨rfl, rfl⟩ (by decide) (by kernel_rfl) rfl ?rb (HCW.out V p SV) ?_
    case rb => rw [hV]; go_simp
    simp only [Act.put, List.setIfInBounds_toArray, List.set_cons_zero, List.set_cons_succ]
    have hat : AtL (fun b => b = D1.heap.size) V ([⟨#[]⟩, ⟨#[65]⟩, ⟨#[97]⟩, ⟨#[122, 122]⟩] : List ByteArray) (.slice (some ⟨D1.heap.size, 0, none⟩) 4 4) := by rw [hV]; exact lit_at 9 D1 [⟨#[]⟩, ⟨#[65]⟩, ⟨#[97]⟩, ⟨#[122, 122]⟩] (by unfold maxLen; simp) (by intro s hs; simp at hs; rcases hs with rfl | rfl | rfl | rfl <;> (unfold maxLen; decide))
    have szV : D1.heap.size < V.heap.size := by rw [hV]; simp
    have loD := SD.out.lo
    refine callHd (f := 2) (i := 4) ⟨rfl, rfl⟩ (by decide) (by kernel_rfl) rfl ?rc ((of_rd R ob n cb f p (fun b => b = D1.heap.size) _ _ V SV.rd (by omega) hat (fun b hb => ⟨by omega, by omega⟩) (by decide) (by decide)).mono ?_)
    case rc => go_simp
    rintro e V2 ⟨s1, hs1, rfl, q2, hq2, rd2, bt2⟩
    have S2 : Hid (SJ R B gx gr w V2 ob n cb q2 f (.slice ov0 nt kv0) (.slice ov1 0 kv1) L) := SV.call bt2.out rd2.out
    have F2 : Hid (Fam B V2 FF) := (FD.out.below bV).but (by omega) bt2.out
    refine ⟨_, rfl, HCW.out V2 q2 S2.out, ?_⟩
    simp only [Act.put, List.setIfInBounds_toArray, List.set_cons_zero, List.set_cons_succ]
    have s1z : s1.size ≤ 16 := by simp at hs1; rcases hs1 with rfl | rfl | rfl | rfl <;> decide
    have HS1 : Hid (s1.size ≤ 16) := s1z
    clear hat szV bV hV SV SD FD rd2 bt2 hs1 s1z ED HCD loD
    obtain ⟨V3, hV3⟩ : ∃ X, X = V2.alloc (.cells #[.string s1] 9) := ⟨_, rfl⟩
    have b3 : Below V2.heap.size V2 V3 := by rw [hV3]; exact (Below.refl _ _).alloc (Nat.le_refl _) _
    have S3 := S2.out.below b3
    have F3 : Fam B V3 FF := F2.out.below b3
    refine oneHd (f := 1) (i := 5) (.slice (some ⟨V2.heap.size, 0, none⟩) 1 1) V3 ⟨rfl, rfl⟩ (by decide) (by kernel_rfl) rfl ?ro (HCW.out V3 q2 S3) ?_
    case ro => rw [hV3]; go_simp
    simp only [Act.put, List.setIfInBounds_toArray, List.set_cons_zero, List.set_cons_succ]
    have HSRC : Src V3 (.slice (some ⟨V2.heap.size, 0, none⟩) 1 1) 1 1 [.string s1] := by rw [hV3]; exact own_src4 (own_built (base := 0) (size := 1) (k := 1) (Nat.zero_le _) (by unfold maxLen; omega) rfl)
    rw [EFF.out] at F3
    have hrowv : Row V3 B 9 1 eS (.slice ov0 nt kv0) T := F3.head
    have hown : V3.ownsRow B 9 1 (.slice ov0 nt kv0) nt (enc 1 eS T) := by have h1 := hrowv; rw [Row, HLN.out] at h1; exact h1
    obtain ⟨v', V4, hrun, ho4, hg4, hbk4⟩ := run_app (P := Tryz.prog) elS hown HSRC (by intro z hz; simp at hz; subst hz; rfl) (by unfold maxLen; omega) (by omega) (by have := S3.lo; omega) 23
    obtain ⟨ov, cv, rfl⟩ := row_shape4 ho4
    have hrow4 : Row V4 B 9 1 eS (.slice ov (nt + 1) cv) (T ++ [s1]) := by
      show World.ownsRow _ _ _ _ _ _ _
      rw [List.length_append, enc_append, HLN.out]
      exact ho4
    have S4 : Hid (SJ R B gx gr w V4 ob n cb q2 f (.slice ov0 nt kv0) (.slice ov1 0 kv1) L) := S3.gr_ hrowv hg4
    have F4 := F3.grow hg4 hrow4 hbk4
    have HF4 : Hid _ := F4
    refine oneHd (f := 0) (i := 6) (.slice ov (nt + 1) cv) V4 ⟨rfl, rfl⟩ (by decide) (by kernel_rfl) rfl ?ra (HCW.out V4 q2 S4.out) ?_
    case ra => exact exec_runM rfl (by simp [Act.eval]) (by simp [Act.eval]) hrun
    simp only [Act.put, List.setIfInBounds_toArray, List.set_cons_zero, List.set_cons_succ]
    refine ⟨by kernel_rfl, ?_⟩
    simp only [List.drop_succ_cons, List.drop_zero]
    clear hown hrun ho4 hg4 hbk4 hrow4 hrowv F4 F3 S3 S2 F2 b3 hV3 HSRC
    obtain ⟨zz, ff⟩ := cell_row S4.out.bx 0 (.slice ov0 nt kv0) rfl
    have S5 : Hid (SJ R B gx gr w (V4.setCell ⟨gx, 0, none⟩ (.slice ov (nt + 1) cv)) ob n cb q2 f (.slice ov (nt + 1) cv) (.slice ov1 0 kv1) L) := S4.out.box0
    have F5 : Hid _ := HF4.out.box S4.out.bx (by decide) 0 (.slice ov (nt + 1) cv)
    have SZT : Hid (SzL 17 (T ++ [s1])) := ⟨by rw [List.length_append]; have := HTZ.out.1; show T.length + 1 ≤ 17; omega, fun x hx => by
      rcases List.mem_append.1 hx with hx | hx
      · have := HTZ.out.2 x hx; omega
      · rw [List.mem_singleton.1 hx]; have := HS1.out; omega⟩
    clear HF4 S4
    go_upto_region 4 with fail
    generalize V4.setCell ⟨gx, 0, none⟩ (.slice ov (nt + 1) cv) = V5 at S5 F5 ⊢
    have SFH : Hid (SF R gx gr w V5 ob n cb q2 f (.slice ov (nt + 1) cv) (.slice ov1 0 kv1) (T ++ [s1], L.map dH)) := S5.out.sf F5.out.row SZT.out (fun x hx => (HZL.out x hx).mono (by omega)) (by have := HLL.out; omega)
    have FIN : Hid (((V5.setCell ⟨gr, 0, none⟩ (.slice ov (nt + 1) cv)).setCell ⟨gr, 1, none⟩ (.slice ov1 0 kv1)).heap[gr]? = some (.cells #[.slice ov (nt + 1) cv, .slice ov1 0 kv1] 26 (0, 0))) := by
      have := set_row (set_row SFH.out.rs 0 (.slice ov (nt + 1) cv)) 1 (.slice ov1 0 kv1)
      show _ = _
      rw [this]; rfl
    have OTH : Hid (∀ q, q ≠ gr → ((V5.setCell ⟨gr, 0, none⟩ (.slice ov (nt + 1) cv)).setCell ⟨gr, 1, none⟩ (.slice ov1 0 kv1)).heap[q]? = V5.heap[q]?) := fun q hq => (Below.heap_setCell _ _ _ _ hq).trans (Below.heap_setCell _ _ _ _ hq)
    have BBT : Hid (But (fun k => k = R) w ((V5.setCell ⟨gr, 0, none⟩ (.slice ov (nt + 1) cv)).setCell ⟨gr, 1, none⟩ (.slice ov1 0 kv1))) := but_new (but_new SFH.out.bt (by omega) 0 _) (by omega) 1 _
    have SZF : Hid (((V5.setCell ⟨gr, 0, none⟩ (.slice ov (nt + 1) cv)).setCell ⟨gr, 1, none⟩ (.slice ov1 0 kv1)).heap.size = V5.heap.size) := by show _ = _; simp [World.setCell]
    have x0 := (cell_row SFH.out.bx 0 (.slice ov (nt + 1) cv) rfl).1
    have x1 := (cell_row SFH.out.bx 1 (.slice ov1 0 kv1) rfl).1
    obtain ⟨z0, f0⟩ := cell_row SFH.out.rs 0 (.slice none 0 0) rfl
    obtain ⟨z1, f1⟩ := cell_row SFH.out.rs 1 (.slice none 0 0) rfl
    go_wp2_with fail
    generalize ((V5.setCell ⟨gr, 0, none⟩ (.slice ov (nt + 1) cv)).setCell ⟨gr, 1, none⟩ (.slice ov1 0 kv1)) = F at FIN OTH BBT SZF ⊢
    have g0 := (cell_row FIN.out 0 (.slice ov (nt + 1) cv) rfl).1
    have g1 := (cell_row FIN.out 1 (.slice ov1 0 kv1) rfl).1
    have szf := SZF.out
    refine bodyPost_ret (v := .agg #[.slice ov (nt + 1) cv, .slice ov1 0 kv1]) (by simp [results, Tryz.results42, go_sem, g0, g1]) rfl ⟨ov, nt + 1, cv, ov1, 0, kv1, (T ++ [s1], L.map dH), rfl, SFH.out.sz, ⟨AtL.up (AtL.same SFH.out.a0 (fun b hb => OTH.out b hb.2.2)) (fun b hb => ⟨hb.1, by omega⟩), AtL.up (AtL.same SFH.out.a1 (fun b hb => OTH.out b hb.2.2)) (fun b hb => ⟨hb.1, by omega⟩)⟩, q2, by omega, SFH.out.rd.but (fun b hb => OTH.out b (by omega)), BBT⟩
  go_wp2_with fail
  refine (pick_rd R ob n cb f p 4 U S0.out.rd (by omega) (by omega) (by omega)).mono ?_
  rintro e u1 ⟨z, rfl, hz0, hz1, q1, hq1, rdn, btn⟩
  have S1 : Hid (SJ R B gx gr w u1 ob n cb q1 f (.slice ov0 nt kv0) (.slice ov1 nl kv1) L) := S0.out.call btn.out rdn.out
  have F1 : Hid (Fam B u1 (((.slice ov0 nt kv0, T) : Vl) :: flatH L)) := F0.out.but (by have := S0.out.lo; omega) btn.out
  clear rdn btn S0 F0 x1
  by_cases hz : z = 0
  · subst hz
    go_upto_region 3 with fail
    obtain ⟨FF, eff⟩ : ∃ F, F = (((.slice ov0 nt kv0, T) : Vl) :: flatH L) := ⟨_, rfl⟩
    have EFF : Hid (FF = (((.slice ov0 nt kv0, T) : Vl) :: flatH L)) := eff
    rw [← eff] at F1
    have HLN : Hid (T.length = nt) := HTL.out
    have HCW : Hid (∀ (v : World) (q : Int), SJ R B gx gr w v ob n cb q f (.slice ov0 nt kv0) (.slice ov1 nl kv1) L → v.heap[gx]? = some (.cells #[.slice ov0 nt kv0, .slice ov1 nl kv1] 26 (0, 0))) := fun v q h => h.bx
    clear eff
    have hdr : Below u1.heap.size u1 u1.drew := (Below.refl _ _).drew
    obtain ⟨D1, hD1⟩ : ∃ D, D = u1.drew := ⟨_, rfl⟩
    have ED : Hid (D1 = u1.drew) := hD1
    have SD : Hid (SJ R B gx gr w D1 ob n cb q1 f (.slice ov0 nt kv0) (.slice ov1 nl kv1) L) := by rw [hD1]; exact S1.out.below hdr
    have FD : Hid (Fam B D1 FF) := by rw [hD1]; exact F1.out.below hdr
    have HC := HCW.out D1 q1 SD.out
    have HCD : Hid _ := HC
    clear hdr hD1 S1 F1 HC
    refine wp_region_movesC (fun v => v.heap[gx]? = some (.cells #[.slice ov0 nt kv0, .slice ov1 nl kv1] 26 (0, 0))) 7 [] (by kernel_rfl) (by kernel_rfl) (by rw [← ED.out]; exact HCD.out) ?_
    rw [← ED.out]
    simp only [List.filterMap_nil, movD]
    refine takeHQ (f := 6) (i := 0) (.pointer (some ⟨gx, 0, none⟩)) ⟨rfl, rfl⟩ (by kernel_rfl) rfl (HCD.out) ?r0 ?_
    case r0 => intro v hv; go_simp
    simp only [Act.put, List.setIfInBounds_toArray, List.set_cons_zero, List.set_cons_succ]
    refine takeHQ (f := 5) (i := 1) (.slice ov0 nt kv0) ⟨rfl, rfl⟩ (by kernel_rfl) rfl (HCD.out) ?r1 ?_
    case r1 => intro v hv; have c0 := (cell_row hv 0 _ rfl).1; go_simp
    simp only [Act.put, List.setIfInBounds_toArray, List.set_cons_zero, List.set_cons_succ]
    refine takeHQ (f := 4) (i := 2) (.pointer (some ⟨R, 0, none⟩)) ⟨rfl, rfl⟩ (by kernel_rfl) rfl (HCD.out) ?r2 ?_
    case r2 => intro v hv; go_simp
    simp only [Act.put, List.setIfInBounds_toArray, List.set_cons_zero, List.set_cons_succ]
    obtain ⟨V, hV⟩ : ∃ V, V = D1.alloc (.cells (([⟨#[]⟩, ⟨#[65]⟩, ⟨#[97]⟩, ⟨#[122, 122]⟩] : List ByteArray).map Value.string).toArray 9) := ⟨_, rfl⟩
    have bV : Below D1.heap.size D1 V := by rw [hV]; exact (Below.refl _ _).alloc (Nat.le_refl _) _
    have SV := SD.out.below bV
    refine oneHd (f := 3) (i := 3) (.slice (some ⟨D1.heap.size, 0, none⟩) 4 4) V ⟨rfl, rfl⟩ (by decide) (by kernel_rfl) rfl ?rb (HCW.out V q1 SV) ?_
    case rb => rw [hV]; go_simp
    simp only [Act.put, List.setIfInBounds_toArray, List.set_cons_zero, List.set_cons_succ]
    have hat : AtL (fun b => b = D1.heap.size) V ([⟨#[]⟩, ⟨#[65]⟩, ⟨#[97]⟩, ⟨#[122, 122]⟩] : List ByteArray) (.slice (some ⟨D1.heap.size, 0, none⟩) 4 4) := by rw [hV]; exact lit_at 9 D1 [⟨#[]⟩, ⟨#[65]⟩, ⟨#[97]⟩, ⟨#[122, 122]⟩] (by unfold maxLen; simp) (by intro s hs; simp at hs; rcases hs with rfl | rfl | rfl | rfl <;> (unfold maxLen; decide))
    have szV : D1.heap.size < V.heap.size := by rw [hV]; simp
    have loD := SD.out.lo
    refine callHd (f := 2) (i := 4) ⟨rfl, rfl⟩ (by decide) (by kernel_rfl) rfl ?rc ((of_rd R ob n cb f q1 (fun b => b = D1.heap.size) _ _ V SV.rd (by omega) hat (fun b hb => ⟨by omega, by omega⟩) (by decide) (by decide)).mono ?_)
    case rc => go_simp
    rintro e V2 ⟨s1, hs1, rfl, q2, hq2, rd2, bt2⟩
    have S2 : Hid (SJ R B gx gr w V2 ob n cb q2 f (.slice ov0 nt kv0) (.slice ov1 nl kv1) L) := SV.call bt2.out rd2.out
    have F2 : Hid (Fam B V2 FF) := (FD.out.below bV).but (by omega) bt2.out
    refine ⟨_, rfl, HCW.out V2 q2 S2.out, ?_⟩
    simp only [Act.put, List.setIfInBounds_toArray, List.set_cons_zero, List.set_cons_succ]
    have s1z : s1.size ≤ 16 := by simp at hs1; rcases hs1 with rfl | rfl | rfl | rfl <;> decide
    have HS1 : Hid (s1.size ≤ 16) := s1z
    clear hat szV bV hV SV SD FD rd2 bt2 hs1 s1z ED HCD loD
    obtain ⟨V3, hV3⟩ : ∃ X, X = V2.alloc (.cells #[.string s1] 9) := ⟨_, rfl⟩
    have b3 : Below V2.heap.size V2 V3 := by rw [hV3]; exact (Below.refl _ _).alloc (Nat.le_refl _) _
    have S3 := S2.out.below b3
    have F3 : Fam B V3 FF := F2.out.below b3
    refine oneHd (f := 1) (i := 5) (.slice (some ⟨V2.heap.size, 0, none⟩) 1 1) V3 ⟨rfl, rfl⟩ (by decide) (by kernel_rfl) rfl ?ro (HCW.out V3 q2 S3) ?_
    case ro => rw [hV3]; go_simp
    simp only [Act.put, List.setIfInBounds_toArray, List.set_cons_zero, List.set_cons_succ]
    have HSRC : Src V3 (.slice (some ⟨V2.heap.size, 0, none⟩) 1 1) 1 1 [.string s1] := by rw [hV3]; exact own_src4 (own_built (base := 0) (size := 1) (k := 1) (Nat.zero_le _) (by unfold maxLen; omega) rfl)
    rw [EFF.out] at F3
    have hrowv : Row V3 B 9 1 eS (.slice ov0 nt kv0) T := F3.head
    have hown : V3.ownsRow B 9 1 (.slice ov0 nt kv0) nt (enc 1 eS T) := by have h1 := hrowv; rw [Row, HLN.out] at h1; exact h1
    obtain ⟨v', V4, hrun, ho4, hg4, hbk4⟩ := run_app (P := Tryz.prog) elS hown HSRC (by intro z hz; simp at hz; subst hz; rfl) (by unfold maxLen; omega) (by omega) (by have := S3.lo; omega) 23
    obtain ⟨ov, cv, rfl⟩ := row_shape4 ho4
    have hrow4 : Row V4 B 9 1 eS (.slice ov (nt + 1) cv) (T ++ [s1]) := by
      show World.ownsRow _ _ _ _ _ _ _
      rw [List.length_append, enc_append, HLN.out]
      exact ho4
    have S4 : Hid (SJ R B gx gr w V4 ob n cb q2 f (.slice ov0 nt kv0) (.slice ov1 nl kv1) L) := S3.gr_ hrowv hg4
    have F4 := F3.grow hg4 hrow4 hbk4
    have HF4 : Hid _ := F4
    refine oneHd (f := 0) (i := 6) (.slice ov (nt + 1) cv) V4 ⟨rfl, rfl⟩ (by decide) (by kernel_rfl) rfl ?ra (HCW.out V4 q2 S4.out) ?_
    case ra => exact exec_runM rfl (by simp [Act.eval]) (by simp [Act.eval]) hrun
    simp only [Act.put, List.setIfInBounds_toArray, List.set_cons_zero, List.set_cons_succ]
    refine ⟨by kernel_rfl, ?_⟩
    simp only [List.drop_succ_cons, List.drop_zero]
    clear hown hrun ho4 hg4 hbk4 hrow4 hrowv F4 F3 S3 S2 F2 b3 hV3 HSRC
    obtain ⟨zz, ff⟩ := cell_row S4.out.bx 0 (.slice ov0 nt kv0) rfl
    have S5 : Hid (SJ R B gx gr w (V4.setCell ⟨gx, 0, none⟩ (.slice ov (nt + 1) cv)) ob n cb q2 f (.slice ov (nt + 1) cv) (.slice ov1 nl kv1) L) := S4.out.box0
    have F5 : Hid _ := HF4.out.box S4.out.bx (by decide) 0 (.slice ov (nt + 1) cv)
    have SZT : Hid (SzL 17 (T ++ [s1])) := ⟨by rw [List.length_append]; have := HTZ.out.1; show T.length + 1 ≤ 17; omega, fun x hx => by
      rcases List.mem_append.1 hx with hx | hx
      · have := HTZ.out.2 x hx; omega
      · rw [List.mem_singleton.1 hx]; have := HS1.out; omega⟩
    clear HF4 S4
    go_upto_region 4 with fail
    generalize V4.setCell ⟨gx, 0, none⟩ (.slice ov (nt + 1) cv) = V5 at S5 F5 ⊢
    have SFH : Hid (SF R gx gr w V5 ob n cb q2 f (.slice ov (nt + 1) cv) (.slice ov1 nl kv1) (T ++ [s1], L.map dH)) := S5.out.sf F5.out.row SZT.out (fun x hx => (HZL.out x hx).mono (by omega)) (by have := HLL.out; omega)
    have FIN : Hid (((V5.setCell ⟨gr, 0, none⟩ (.slice ov (nt + 1) cv)).setCell ⟨gr, 1, none⟩ (.slice ov1 nl kv1)).heap[gr]? = some (.cells #[.slice ov (nt + 1) cv, .slice ov1 nl kv1] 26 (0, 0))) := by
      have := set_row (set_row SFH.out.rs 0 (.slice ov (nt + 1) cv)) 1 (.slice ov1 nl kv1)
      show _ = _
      rw [this]; rfl
    have OTH : Hid (∀ q, q ≠ gr → ((V5.setCell ⟨gr, 0, none⟩ (.slice ov (nt + 1) cv)).setCell ⟨gr, 1, none⟩ (.slice ov1 nl kv1)).heap[q]? = V5.heap[q]?) := fun q hq => (Below.heap_setCell _ _ _ _ hq).trans (Below.heap_setCell _ _ _ _ hq)
    have BBT : Hid (But (fun k => k = R) w ((V5.setCell ⟨gr, 0, none⟩ (.slice ov (nt + 1) cv)).setCell ⟨gr, 1, none⟩ (.slice ov1 nl kv1))) := but_new (but_new SFH.out.bt (by omega) 0 _) (by omega) 1 _
    have SZF : Hid (((V5.setCell ⟨gr, 0, none⟩ (.slice ov (nt + 1) cv)).setCell ⟨gr, 1, none⟩ (.slice ov1 nl kv1)).heap.size = V5.heap.size) := by show _ = _; simp [World.setCell]
    have x0 := (cell_row SFH.out.bx 0 (.slice ov (nt + 1) cv) rfl).1
    have x1 := (cell_row SFH.out.bx 1 (.slice ov1 nl kv1) rfl).1
    obtain ⟨z0, f0⟩ := cell_row SFH.out.rs 0 (.slice none 0 0) rfl
    obtain ⟨z1, f1⟩ := cell_row SFH.out.rs 1 (.slice none 0 0) rfl
    go_wp2_with fail
    generalize ((V5.setCell ⟨gr, 0, none⟩ (.slice ov (nt + 1) cv)).setCell ⟨gr, 1, none⟩ (.slice ov1 nl kv1)) = F at FIN OTH BBT SZF ⊢
    have g0 := (cell_row FIN.out 0 (.slice ov (nt + 1) cv) rfl).1
    have g1 := (cell_row FIN.out 1 (.slice ov1 nl kv1) rfl).1
    have szf := SZF.out
    refine bodyPost_ret (v := .agg #[.slice ov (nt + 1) cv, .slice ov1 nl kv1]) (by simp [results, Tryz.results42, go_sem, g0, g1]) rfl ⟨ov, nt + 1, cv, ov1, nl, kv1, (T ++ [s1], L.map dH), rfl, SFH.out.sz, ⟨AtL.up (AtL.same SFH.out.a0 (fun b hb => OTH.out b hb.2.2)) (fun b hb => ⟨hb.1, by omega⟩), AtL.up (AtL.same SFH.out.a1 (fun b hb => OTH.out b hb.2.2)) (fun b hb => ⟨hb.1, by omega⟩)⟩, q2, by omega, SFH.out.rd.but (fun b hb => OTH.out b (by omega)), BBT⟩
  have x1 := (cell_row S1.out.bx 1 (.slice ov1 nl kv1) rfl).1
  have hzp : (z == 0) = false := by simpa using hz
  go_wp2_with fail
  refine (pick_rd R ob n cb f q1 nl u1 S1.out.rd (by omega) (by omega) (by omega)).mono ?_
  rintro e u2 ⟨kk, rfl, hk0, hk1, q2', hq2', rdn, btn⟩
  obtain ⟨k, rfl⟩ : ∃ k : Nat, kk = (k : Int) := ⟨kk.toNat, by omega⟩
  have hkn : k < nl := by omega
  have S2 : Hid (SJ R B gx gr w u2 ob n cb q2' f (.slice ov0 nt kv0) (.slice ov1 nl kv1) L) := S1.out.call btn.out rdn.out
  have F2 : Hid (Fam B u2 (((.slice ov0 nt kv0, T) : Vl) :: flatH L)) := F1.out.but (by have := S1.out.lo; omega) btn.out
  clear rdn btn S1 F1 x1 hk0 hk1
  go_upto_region 6 with fail
  rename_i K20 hK20 Kb hKb
  have REST20 : Hid (∀ (a1 a2 a3 a6 a7 a8 a9 a10 a11 a12 a13 a14 a15 a16 a17 a18 a19 a20 a21 a22 a23 a24 a25 a26 a27 a28 a29 a30 a31 a32 a33 a34 a35 a36 a37 a38 a39 a40 a41 a42 a43 a44 a45 a46 a47 a48 a49 a50 a51 a52 a53 a54 a55 a56 a57 a58 a59 a60 a61 a62 a63 a64 a65 a66 a67 a68 a69 a70 a71 a72 a73 a74 a75 a76 a77 a78 a79 a80 a81 a82 a83 a84 a85 a86 a87 a88 a89 a90 a91 a92 a93 a94 a95 a96 a97 a98 a99 a100 a101 a102 a103 a104 a105 a106 a107 a108 a109 a110 a111 a112 a113 : Value) (p0 : Option Addr) (m0 j0 : Nat) (p1 : Option Addr) (m1 j1 : Nat) (D2 : DShareBook) (u : World) (q : Int), q ≤ p + 10 → SF R gx gr w u ob n cb q f (.slice p0 m0 j0) (.slice p1 m1 j1) D2 → K20 { tmps := #[.pointer (some ⟨R, 0, none⟩), a1, a2, a3, .pointer (some ⟨gr, 0, none⟩), .pointer (some ⟨gx, 0, none⟩), a6, a7, a8, a9, a10, a11, a12, a13, a14, a15, a16, a17, a18, a19, a20, a21, a22, a23, a24, a25, a26, a27, a28, a29, a30, a31, a32, a33, a34, a35, a36, a37, a38, a39, a40, a41, a42, a43, a44, a45, a46, a47, a48, a49, a50, a51, a52, a53, a54, a55, a56, a57, a58, a59, a60, a61, a62, a63, a64, a65, a66, a67, a68, a69, a70, a71, a72, a73, a74, a75, a76, a77, a78, a79, a80, a81, a82, a83, a84, a85, a86, a87, a88, a89, a90, a91, a92, a93, a94, a95, a96, a97, a98, a99, a100, a101, a102, a103, a104, a105, a106, a107, a108, a109, a110, a111, a112, a113], defers := [] } u) := by
    intro a1 a2 a3 a6 a7 a8 a9 a10 a11 a12 a13 a14 a15 a16 a17 a18 a19 a20 a21 a22 a23 a24 a25 a26 a27 a28 a29 a30 a31 a32 a33 a34 a35 a36 a37 a38 a39 a40 a41 a42 a43 a44 a45 a46 a47 a48 a49 a50 a51 a52 a53 a54 a55 a56 a57 a58 a59 a60 a61 a62 a63 a64 a65 a66 a67 a68 a69 a70 a71 a72 a73 a74 a75 a76 a77 a78 a79 a80 a81 a82 a83 a84 a85 a86 a87 a88 a89 a90 a91 a92 a93 a94 a95 a96 a97 a98 a99 a100 a101 a102 a103 a104 a105 a106 a107 a108 a109 a110 a111 a112 a113 p0 m0 j0 p1 m1 j1 D2 u q hq hSF
    refine hK20 _ _ ?_
    clear hK20 hKb Kb S2 F2
    have SFH : Hid (SF R gx gr w u ob n cb q f (.slice p0 m0 j0) (.slice p1 m1 j1) D2) := hSF
    have FIN : Hid (((u.setCell ⟨gr, 0, none⟩ (.slice p0 m0 j0)).setCell ⟨gr, 1, none⟩ (.slice p1 m1 j1)).heap[gr]? = some (.cells #[.slice p0 m0 j0, .slice p1 m1 j1] 26 (0, 0))) := by
      have := set_row (set_row SFH.out.rs 0 (.slice p0 m0 j0)) 1 (.slice p1 m1 j1)
      show _ = _
      rw [this]; rfl
    have OTH : Hid (∀ q, q ≠ gr → ((u.setCell ⟨gr, 0, none⟩ (.slice p0 m0 j0)).setCell ⟨gr, 1, none⟩ (.slice p1 m1 j1)).heap[q]? = u.heap[q]?) := fun q hq => (Below.heap_setCell _ _ _ _ hq).trans (Below.heap_setCell _ _ _ _ hq)
    have BBT : Hid (But (fun k => k = R) w ((u.setCell ⟨gr, 0, none⟩ (.slice p0 m0 j0)).setCell ⟨gr, 1, none⟩ (.slice p1 m1 j1))) := but_new (but_new SFH.out.bt (by omega) 0 _) (by omega) 1 _
    have SZF : Hid (((u.setCell ⟨gr, 0, none⟩ (.slice p0 m0 j0)).setCell ⟨gr, 1, none⟩ (.slice p1 m1 j1)).heap.size = u.heap.size) := by show _ = _; simp [World.setCell]
    have x0 := (cell_row SFH.out.bx 0 (.slice p0 m0 j0) rfl).1
    have x1 := (cell_row SFH.out.bx 1 (.slice p1 m1 j1) rfl).1
    obtain ⟨z0, f0⟩ := cell_row SFH.out.rs 0 (.slice none 0 0) rfl
    obtain ⟨z1, f1⟩ := cell_row SFH.out.rs 1 (.slice none 0 0) rfl
    go_wp2_with fail
    generalize ((u.setCell ⟨gr, 0, none⟩ (.slice p0 m0 j0)).setCell ⟨gr, 1, none⟩ (.slice p1 m1 j1)) = F at FIN OTH BBT SZF ⊢
    have g0 := (cell_row FIN.out 0 (.slice p0 m0 j0) rfl).1
    have g1 := (cell_row FIN.out 1 (.slice p1 m1 j1) rfl).1
    have szf := SZF.out
    refine bodyPost_ret (v := .agg #[.slice p0 m0 j0, .slice p1 m1 j1]) (by simp [results, Tryz.results42, go_sem, g0, g1]) rfl ⟨p0, m0, j0, p1, m1, j1, D2, rfl, SFH.out.sz, ⟨AtL.up (AtL.same SFH.out.a0 (fun b hb => OTH.out b hb.2.2)) (fun b hb => ⟨hb.1, by omega⟩), AtL.up (AtL.same SFH.out.a1 (fun b hb => OTH.out b hb.2.2)) (fun b hb => ⟨hb.1, by omega⟩)⟩, q, by omega, SFH.out.rd.but (fun b hb => OTH.out b (by omega)), BBT⟩
  clear hK20
  go_wp2_with fail
  refine (pick_rd R ob n cb f q2' 5 u2 S2.out.rd (by omega) (by omega) (by omega)).mono ?_
  rintro e u3 ⟨z3, rfl, hz30, hz31, q3, hq3, rdn, btn⟩
  have S1 : Hid (SJ R B gx gr w u3 ob n cb q3 f (.slice ov0 nt kv0) (.slice ov1 nl kv1) L) := S2.out.call btn.out rdn.out
  have F1 : Hid (Fam B u3 (((.slice ov0 nt kv0, T) : Vl) :: flatH L)) := F2.out.but (by have := S2.out.lo; omega) btn.out
  clear rdn btn S2 F2
  have hkl : k < L.length := by have := HLL0.out; omega
  obtain ⟨g, cap, e9, hgB, hgu, hcel⟩ := Row.cell S1.out.ro hkl
  injection e9 with e91 e92 e93
  subst e91
  clear e92 e93 hcel hgu cap
  have HKL : Hid (k < L.length) := hkl
  have HSELF : Hid (L.set k L[k] = L) := List.set_getElem_self hkl
  have CEL : Hid (∀ (v : World) (q : Int), SJ R B gx gr w v ob n cb q f (.slice ov0 nt kv0) (.slice (some ⟨g, 0, none⟩) nl kv1) L → ∀ j, j < 3 → v.cell? ⟨g, k * 3 + j, none⟩ = some (eH L[k] j) ∧ v.frozen? ⟨g, k * 3 + j, none⟩ = false) := fun v q h j hj => by
    obtain ⟨g', cap', e8, _, _, hc⟩ := Row.cell h.ro hkl
    injection e8 with e81 _ _
    injection e81 with e82
    injection e82 with e83
    subst e83
    exact hc j hj
  have TYP : Hid (∀ (v : World) (q : Int), SJ R B gx gr w v ob n cb q f (.slice ov0 nt kv0) (.slice (some ⟨g, 0, none⟩) nl kv1) L → ∃ c, v.heap[g]? = some (.cells c 43 (0, 0))) := fun v q h => Row.typed h.ro g rfl
  by_cases hz3 : z3 = 0
  · subst hz3
    go_upto_region 13 with fail
    obtain ⟨FF, eff⟩ : ∃ F, F = (((.slice ov0 nt kv0, T) : Vl) :: flatH L) := ⟨_, rfl⟩
    have EFF : Hid (FF = (((.slice ov0 nt kv0, T) : Vl) :: flatH L)) := eff
    rw [← eff] at F1
    have HCW : Hid (∀ (v : World) (q : Int), SJ R B gx gr w v ob n cb q f (.slice ov0 nt kv0) (.slice (some ⟨g, 0, none⟩) nl kv1) L → v.heap[gx]? = some (.cells #[.slice ov0 nt kv0, .slice (some ⟨g, 0, none⟩) nl kv1] 26 (0, 0))) := fun v q h => h.bx
    clear eff
    have hdr : Below u3.heap.size u3 u3.drew := (Below.refl _ _).drew
    obtain ⟨D1, hD1⟩ : ∃ D, D = u3.drew := ⟨_, rfl⟩
    have ED : Hid (D1 = u3.drew) := hD1
    have SD : Hid (SJ R B gx gr w D1 ob n cb q3 f (.slice ov0 nt kv0) (.slice (some ⟨g, 0, none⟩) nl kv1) L) := by rw [hD1]; exact S1.out.below hdr
    have FD : Hid (Fam B D1 FF) := by rw [hD1]; exact F1.out.below hdr
    have HC := HCW.out D1 q3 SD.out
    have HCD : Hid _ := HC
    clear hdr hD1 S1 F1 HC
    refine wp_region_movesC (fun v => v.heap[gx]? = some (.cells #[.slice ov0 nt kv0, .slice (some ⟨g, 0, none⟩) nl kv1] 26 (0, 0))) 6 [] (by kernel_rfl) (by kernel_rfl) (by rw [← ED.out]; exact HCD.out) ?_
    rw [← ED.out]
    simp only [List.filterMap_nil, movD]
    refine takeHQ (f := 5) (i := 0) (.pointer (some ⟨gx, 1, none⟩)) ⟨rfl, rfl⟩ (by kernel_rfl) rfl (HCD.out) ?r0 ?_
    case r0 => intro v hv; go_simp
    simp only [Act.put, List.setIfInBounds_toArray, List.set_cons_zero, List.set_cons_succ]
    refine takeHQ (f := 4) (i := 1) (.slice (some ⟨g, 0, none⟩) nl kv1) ⟨rfl, rfl⟩ (by kernel_rfl) rfl (HCD.out) ?r1 ?_
    case r1 => intro v hv; have c0 := (cell_row hv 1 _ rfl).1; go_simp
    simp only [Act.put, List.setIfInBounds_toArray, List.set_cons_zero, List.set_cons_succ]
    refine takeHQ (f := 3) (i := 2) (.int .i64 k) ⟨rfl, rfl⟩ (by kernel_rfl) rfl (HCD.out) ?r2 ?_
    case r2 => intro v hv; go_simp
    simp only [Act.put, List.setIfInBounds_toArray, List.set_cons_zero, List.set_cons_succ]
    refine takeHQ (f := 2) (i := 3) (.pointer (some ⟨R, 0, none⟩)) ⟨rfl, rfl⟩ (by kernel_rfl) rfl (HCD.out) ?r3 ?_
    case r3 => intro v hv; go_simp
    simp only [Act.put, List.setIfInBounds_toArray, List.set_cons_zero, List.set_cons_succ]
    obtain ⟨V, hV⟩ : ∃ V, V = D1.alloc (.cells (([⟨#[]⟩, ⟨#[66]⟩, ⟨#[122, 122]⟩, ⟨#[97]⟩] : List ByteArray).map Value.string).toArray 9) := ⟨_, rfl⟩
    have bV : Below D1.heap.size D1 V := by rw [hV]; exact (Below.refl _ _).alloc (Nat.le_refl _) _
    have SV := SD.out.below bV
    refine oneHd (f := 1) (i := 4) (.slice (some ⟨D1.heap.size, 0, none⟩) 4 4) V ⟨rfl, rfl⟩ (by decide) (by kernel_rfl) rfl ?rb (HCW.out V q3 SV) ?_
    case rb => rw [hV]; go_simp
    simp only [Act.put, List.setIfInBounds_toArray, List.set_cons_zero, List.set_cons_succ]
    have hat : AtL (fun b => b = D1.heap.size) V ([⟨#[]⟩, ⟨#[66]⟩, ⟨#[122, 122]⟩, ⟨#[97]⟩] : List ByteArray) (.slice (some ⟨D1.heap.size, 0, none⟩) 4 4) := by rw [hV]; exact lit_at 9 D1 [⟨#[]⟩, ⟨#[66]⟩, ⟨#[122, 122]⟩, ⟨#[97]⟩] (by unfold maxLen; simp) (by intro s hs; simp at hs; rcases hs with rfl | rfl | rfl | rfl <;> (unfold maxLen; decide))
    have szV : D1.heap.size < V.heap.size := by rw [hV]; simp
    have loD := SD.out.lo
    refine callHd (f := 0) (i := 5) ⟨rfl, rfl⟩ (by decide) (by kernel_rfl) rfl ?rc ((of_rd R ob n cb f q3 (fun b => b = D1.heap.size) _ _ V SV.rd (by omega) hat (fun b hb => ⟨by omega, by omega⟩) (by decide) (by decide)).mono ?_)
    case rc => go_simp
    rintro e V2 ⟨s1, hs1, rfl, q2, hq2, rd2, bt2⟩
    have S2 : Hid (SJ R B gx gr w V2 ob n cb q2 f (.slice ov0 nt kv0) (.slice (some ⟨g, 0, none⟩) nl kv1) L) := SV.call bt2.out rd2.out
    have F2 : Hid (Fam B V2 FF) := (FD.out.below bV).but (by omega) bt2.out
    refine ⟨_, rfl, HCW.out V2 q2 S2.out, ?_⟩
    simp only [Act.put, List.setIfInBounds_toArray, List.set_cons_zero, List.set_cons_succ]
    have s1z : s1.size ≤ 16 := by simp at hs1; rcases hs1 with rfl | rfl | rfl | rfl <;> decide
    have HS1 : Hid (s1.size ≤ 16) := s1z
    clear hat szV bV hV SV SD FD rd2 bt2 hs1 s1z ED HCD loD
    refine ⟨by kernel_rfl, ?_⟩
    simp only [List.drop_succ_cons, List.drop_zero]
    have hz0 := CEL.out V2 q2 S2.out 0 (by omega)
    have zz : V2.cell? ⟨g, k * 3, none⟩ = some (.string L[k].1) := hz0.1
    have ff : V2.frozen? ⟨g, k * 3, none⟩ = false := hz0.2
    have S5 : Hid (SJ R B gx gr w (V2.setCell ⟨g, k * 3, none⟩ (.string s1)) ob n cb q2 f (.slice ov0 nt kv0) (.slice (some ⟨g, 0, none⟩) nl kv1) (L.set k (s1, L[k].2))) := S2.out.el HLL0.out HKL.out (j := 0) (by omega) (.string s1) (s1, L[k].2) (fun j hj => by rcases (show j = 0 ∨ j = 1 ∨ j = 2 by omega) with rfl | rfl | rfl <;> rfl)
    obtain ⟨cg, hcg⟩ := TYP.out V2 q2 S2.out
    have F5 : Hid (Fam B (V2.setCell ⟨g, k * 3, none⟩ (.string s1)) (((.slice ov0 nt kv0, T) : Vl) :: flatH (L.set k (s1, L[k].2)))) := by
      have h9 := F2.out
      rw [EFF.out] at h9
      refine (h9.perm (List.Perm.cons _ ?_)).box hcg (by decide) _ _
      have p1 := flatH_at L HKL.out L[k]
      rw [HSELF.out] at p1
      exact p1.trans (flatH_at L HKL.out (s1, L[k].2)).symm
    have SF5 : Hid _ := S5.out.sf F5.out.row (HTZ.out.mono (by omega)) (fun x hx => by
      rcases List.mem_or_eq_of_mem_set hx with hx | rfl
      · exact (HZL.out x hx).mono (by omega)
      · have h9 := HZL.out _ (List.getElem_mem HKL.out)
        exact ⟨by have := HS1.out; show s1.size ≤ 17; omega, h9.2.1.mono (by omega), h9.2.2.mono (by omega)⟩) (by rw [List.length_set]; have := HLL.out; omega)
    clear hz0 S5 F5 hcg S2 F2
    go_wp2_with fail
    exact REST20.out _ _ _ _ _ _ _ _ _ _ _ _ _ _ _ _ _ _ _ _ _ _ _ _ _ _ _ _ _ _ _ _ _ _ _ _ _ _ _ _ _ _ _ _ _ _ _ _ _ _ _ _ _ _ _ _ _ _ _ _ _ _ _ _ _ _ _ _ _ _ _ _ _ _ _ _ _ _ _ _ _ _ _ _ _ _ _ _ _ _ _ _ _ _ _ _ _ _ _ _ _ _ _ _ _ _ _ _ _ _ _ _ _ _ _ _ _ _ _ q2 (by omega) SF5.out
  by_cases hz31 : z3 = 1
  · subst hz31
    go_upto_region 15 with fail
    have hrw := F1.out.row _ (List.mem_cons_of_mem _ (flatH_mem (List.getElem_mem HKL.out)).2)
    obtain ⟨o2, c2, e2⟩ := Row.form hrw
    obtain ⟨nd, hnd⟩ : ∃ l, L[k].2.2.2 = l := ⟨_, rfl⟩
    obtain ⟨m2, em2⟩ : ∃ m, nd.length = m := ⟨_, rfl⟩
    have e8 : L[k].2.2.2.length = m2 := by rw [hnd]; exact em2
    have e2' : L[k].2.2.1 = .slice o2 m2 c2 := e2.trans (congrArg (fun m => Value.slice o2 m c2) e8)
    have HE : Hid (L[k].2.2 = (.slice o2 m2 c2, nd)) := Prod.ext e2' hnd
    have HLN : Hid (nd.length = m2) := em2
    have h16 := HZL.out _ (List.getElem_mem HKL.out)
    have HND : Hid (SzL 16 nd) := by rw [← hnd]; exact h16.2.2
    have hm2 : m2 ≤ 16 := by have := HND.out.1; omega
    obtain ⟨FF, eff⟩ : ∃ F, F = (((.slice o2 m2 c2, nd) : Vl) :: (.slice ov0 nt kv0, T) :: L[k].2.1 :: flatH (L.eraseIdx k)) := ⟨_, rfl⟩
    have EFF : Hid (FF = (((.slice o2 m2 c2, nd) : Vl) :: (.slice ov0 nt kv0, T) :: L[k].2.1 :: flatH (L.eraseIdx k))) := eff
    have F1' : Hid (Fam B u3 FF) := by
      show Fam B u3 FF
      rw [eff, ← HE.out]
      have p1 := flatH_at L HKL.out L[k]
      rw [HSELF.out] at p1
      exact F1.out.perm ((List.Perm.cons _ p1).trans (List.perm_middle (l₁ := [((.slice ov0 nt kv0 : Value), T), L[k].2.1])))
    clear F1
    have F1 := F1'
    have HCW : Hid (∀ (v : World) (q : Int), SJ R B gx gr w v ob n cb q f (.slice ov0 nt kv0) (.slice (some ⟨g, 0, none⟩) nl kv1) L → v.heap[gx]? = some (.cells #[.slice ov0 nt kv0, .slice (some ⟨g, 0, none⟩) nl kv1] 26 (0, 0)) ∧ v.cell? ⟨g, k * 3 + 2, none⟩ = some (.slice o2 m2 c2)) := fun v q h => ⟨h.bx, by
      have h9 := (CEL.out v q h 2 (by omega)).1
      have e9 : eH L[k] 2 = .slice o2 m2 c2 := (show eH L[k] 2 = L[k].2.2.1 from rfl).trans (congrArg Prod.fst HE.out)
      rw [e9] at h9
      exact h9⟩
    clear eff F1' hrw hnd em2 e2 e2' e8 h16
    have hdr : Below u3.heap.size u3 u3.drew := (Below.refl _ _).drew
    obtain ⟨D1, hD1⟩ : ∃ D, D = u3.drew := ⟨_, rfl⟩
    have ED : Hid (D1 = u3.drew) := hD1
    have SD : Hid (SJ R B gx gr w D1 ob n cb q3 f (.slice ov0 nt kv0) (.slice (some ⟨g, 0, none⟩) nl kv1) L) := by rw [hD1]; exact S1.out.below hdr
    have FD : Hid (Fam B D1 FF) := by rw [hD1]; exact F1.out.below hdr
    have HC := HCW.out D1 q3 SD.out
    have HCD : Hid _ := HC
    clear hdr hD1 S1 F1 HC
    refine wp_region_movesC (fun v => v.heap[gx]? = some (.cells #[.slice ov0 nt kv0, .slice (some ⟨g, 0, none⟩) nl kv1] 26 (0, 0)) ∧ v.cell? ⟨g, k * 3 + 2, none⟩ = some (.slice o2 m2 c2)) 14 [] (by kernel_rfl) (by kernel_rfl) (by rw [← ED.out]; exact HCD.out) ?_
    rw [← ED.out]
    simp only [List.filterMap_nil, movD]
    refine takeHQ (f := 13) (i := 0) (.pointer (some ⟨gx, 1, none⟩)) ⟨rfl, rfl⟩ (by kernel_rfl) rfl (HCD.out) ?r0 ?_
    case r0 => intro v hv; go_simp
    simp only [Act.put, List.setIfInBounds_toArray, List.set_cons_zero, List.set_cons_succ]
    refine takeHQ (f := 12) (i := 1) (.slice (some ⟨g, 0, none⟩) nl kv1) ⟨rfl, rfl⟩ (by kernel_rfl) rfl (HCD.out) ?r1 ?_
    case r1 => intro v hv; have c0 := (cell_row hv.1 1 _ rfl).1; go_simp
    simp only [Act.put, List.setIfInBounds_toArray, List.set_cons_zero, List.set_cons_succ]
    refine takeHQ (f := 11) (i := 2) (.int .i64 k) ⟨rfl, rfl⟩ (by kernel_rfl) rfl (HCD.out) ?r2 ?_
    case r2 => intro v hv; go_simp
    simp only [Act.put, List.setIfInBounds_toArray, List.set_cons_zero, List.set_cons_succ]
    refine takeHQ (f := 10) (i := 3) (.pointer (some ⟨gx, 1, none⟩)) ⟨rfl, rfl⟩ (by kernel_rfl) rfl (HCD.out) ?r3 ?_
    case r3 => intro v hv; go_simp
    simp only [Act.put, List.setIfInBounds_toArray, List.set_cons_zero, List.set_cons_succ]
    refine takeHQ (f := 9) (i := 4) (.slice (some ⟨g, 0, none⟩) nl kv1) ⟨rfl, rfl⟩ (by kernel_rfl) rfl (HCD.out) ?r4 ?_
    case r4 => intro v hv; have c0 := (cell_row hv.1 1 _ rfl).1; go_simp
    simp only [Act.put, List.setIfInBounds_toArray, List.set_cons_zero, List.set_cons_succ]
    refine takeHQ (f := 8) (i := 5) (.int .i64 k) ⟨rfl, rfl⟩ (by kernel_rfl) rfl (HCD.out) ?r5 ?_
    case r5 => intro v hv; go_simp
    simp only [Act.put, List.setIfInBounds_toArray, List.set_cons_zero, List.set_cons_succ]
    refine takeHQ (f := 7) (i := 6) (.pointer (some ⟨g, k * 3, none⟩)) ⟨rfl, rfl⟩ (by kernel_rfl) rfl (HCD.out) ?r6 ?_
    case r6 => intro v hv; go_simp
    simp only [Act.put, List.setIfInBounds_toArray, List.set_cons_zero, List.set_cons_succ]
    refine takeHQ (f := 6) (i := 7) (.pointer (some ⟨g, k * 3 + 2, none⟩)) ⟨rfl, rfl⟩ (by kernel_rfl) rfl (HCD.out) ?r7 ?_
    case r7 => intro v hv; go_simp
    simp only [Act.put, List.setIfInBounds_toArray, List.set_cons_zero, List.set_cons_succ]
    refine takeHQ (f := 5) (i := 8) (.slice o2 m2 c2) ⟨rfl, rfl⟩ (by kernel_rfl) rfl (HCD.out) ?r8 ?_
    case r8 => intro v hv; have c0 := hv.2; go_simp
    simp only [Act.put, List.setIfInBounds_toArray, List.set_cons_zero, List.set_cons_succ]
    refine takeHQ (f := 4) (i := 9) (.pointer (some ⟨R, 0, none⟩)) ⟨rfl, rfl⟩ (by kernel_rfl) rfl (HCD.out) ?r9 ?_
    case r9 => intro v hv; go_simp
    simp only [Act.put, List.setIfInBounds_toArray, List.set_cons_zero, List.set_cons_succ]
    obtain ⟨V, hV⟩ : ∃ V, V = D1.alloc (.cells (([⟨#[]⟩, ⟨#[122, 122]⟩, ⟨#[107, 101, 103]⟩, ⟨#[119]⟩] : List ByteArray).map Value.string).toArray 9) := ⟨_, rfl⟩
    have bV : Below D1.heap.size D1 V := by rw [hV]; exact (Below.refl _ _).alloc (Nat.le_refl _) _
    have SV := SD.out.below bV
    refine oneHd (f := 3) (i := 10) (.slice (some ⟨D1.heap.size, 0, none⟩) 4 4) V ⟨rfl, rfl⟩ (by decide) (by kernel_rfl) rfl ?rb (HCW.out V q3 SV) ?_
    case rb => rw [hV]; go_simp
    simp only [Act.put, List.setIfInBounds_toArray, List.set_cons_zero, List.set_cons_succ]
    have hat : AtL (fun b => b = D1.heap.size) V ([⟨#[]⟩, ⟨#[122, 122]⟩, ⟨#[107, 101, 103]⟩, ⟨#[119]⟩] : List ByteArray) (.slice (some ⟨D1.heap.size, 0, none⟩) 4 4) := by rw [hV]; exact lit_at 9 D1 [⟨#[]⟩, ⟨#[122, 122]⟩, ⟨#[107, 101, 103]⟩, ⟨#[119]⟩] (by unfold maxLen; simp) (by intro s hs; simp at hs; rcases hs with rfl | rfl | rfl | rfl <;> (unfold maxLen; decide))
    have szV : D1.heap.size < V.heap.size := by rw [hV]; simp
    have loD := SD.out.lo
    refine callHd (f := 2) (i := 11) ⟨rfl, rfl⟩ (by decide) (by kernel_rfl) rfl ?rc ((of_rd R ob n cb f q3 (fun b => b = D1.heap.size) _ _ V SV.rd (by omega) hat (fun b hb => ⟨by omega, by omega⟩) (by decide) (by decide)).mono ?_)
    case rc => go_simp
    rintro e V2 ⟨s1, hs1, rfl, q2, hq2, rd2, bt2⟩
    have S2 : Hid (SJ R B gx gr w V2 ob n cb q2 f (.slice ov0 nt kv0) (.slice (some ⟨g, 0, none⟩) nl kv1) L) := SV.call bt2.out rd2.out
    have F2 : Hid (Fam B V2 FF) := (FD.out.below bV).but (by omega) bt2.out
    refine ⟨_, rfl, HCW.out V2 q2 S2.out, ?_⟩
    simp only [Act.put, List.setIfInBounds_toArray, List.set_cons_zero, List.set_cons_succ]
    have s1z : s1.size ≤ 16 := by simp at hs1; rcases hs1 with rfl | rfl | rfl | rfl <;> decide
    have HS1 : Hid (s1.size ≤ 16) := s1z
    clear hat szV bV hV SV SD FD rd2 bt2 hs1 s1z ED HCD loD
    obtain ⟨V3, hV3⟩ : ∃ X, X = V2.alloc (.cells #[.string s1] 9) := ⟨_, rfl⟩
    have b3 : Below V2.heap.size V2 V3 := by rw [hV3]; exact (Below.refl _ _).alloc (Nat.le_refl _) _
    have S3 := S2.out.below b3
    have F3 : Fam B V3 FF := F2.out.below b3
    refine oneHd (f := 1) (i := 12) (.slice (some ⟨V2.heap.size, 0, none⟩) 1 1) V3 ⟨rfl, rfl⟩ (by decide) (by kernel_rfl) rfl ?ro (HCW.out V3 q2 S3) ?_
    case ro => rw [hV3]; go_simp
    simp only [Act.put, List.setIfInBounds_toArray, List.set_cons_zero, List.set_cons_succ]
    have HSRC : Src V3 (.slice (some ⟨V2.heap.size, 0, none⟩) 1 1) 1 1 [.string s1] := by rw [hV3]; exact own_src4 (own_built (base := 0) (size := 1) (k := 1) (Nat.zero_le _) (by unfold maxLen; omega) rfl)
    rw [EFF.out] at F3
    have hrowv : Row V3 B 9 1 eS (.slice o2 m2 c2) nd := F3.head
    have hown : V3.ownsRow B 9 1 (.slice o2 m2 c2) m2 (enc 1 eS nd) := by have h1 := hrowv; rw [Row, HLN.out] at h1; exact h1
    obtain ⟨v', V4, hrun, ho4, hg4, hbk4⟩ := run_app (P := Tryz.prog) elS hown HSRC (by intro z hz; simp at hz; subst hz; rfl) (by unfold maxLen; omega) (by omega) (by have := S3.lo; omega) 23
    obtain ⟨ov, cv, rfl⟩ := row_shape4 ho4
    have hrow4 : Row V4 B 9 1 eS (.slice ov (m2 + 1) cv) (nd ++ [s1]) := by
      show World.ownsRow _ _ _ _ _ _ _
      rw [List.length_append, enc_append, HLN.out]
      exact ho4
    have S4 : Hid (SJ R B gx gr w V4 ob n cb q2 f (.slice ov0 nt kv0) (.slice (some ⟨g, 0, none⟩) nl kv1) L) := S3.gr_ hrowv hg4
    have F4 := F3.grow hg4 hrow4 hbk4
    have HF4 : Hid _ := F4
    refine oneHd (f := 0) (i := 13) (.slice ov (m2 + 1) cv) V4 ⟨rfl, rfl⟩ (by decide) (by kernel_rfl) rfl ?ra (HCW.out V4 q2 S4.out) ?_
    case ra => exact exec_runM rfl (by simp [Act.eval]) (by simp [Act.eval]) hrun
    simp only [Act.put, List.setIfInBounds_toArray, List.set_cons_zero, List.set_cons_succ]
    refine ⟨by kernel_rfl, ?_⟩
    simp only [List.drop_succ_cons, List.drop_zero]
    clear hown hrun ho4 hg4 hbk4 hrow4 hrowv F4 F3 S3 S2 F2 b3 hV3 HSRC
    have hz0 := CEL.out V4 q2 S4.out 2 (by omega)
    obtain ⟨zz, ff⟩ := hz0
    have S5 : Hid (SJ R B gx gr w (V4.setCell ⟨g, k * 3 + 2, none⟩ (.slice ov (m2 + 1) cv)) ob n cb q2 f (.slice ov0 nt kv0) (.slice (some ⟨g, 0, none⟩) nl kv1) (L.set k (L[k].1, L[k].2.1, (.slice ov (m2 + 1) cv, nd ++ [s1])))) := S4.out.el HLL0.out HKL.out (j := 2) (by omega) (.slice ov (m2 + 1) cv) (L[k].1, L[k].2.1, (.slice ov (m2 + 1) cv, nd ++ [s1])) (fun j hj => by rcases (show j = 0 ∨ j = 1 ∨ j = 2 by omega) with rfl | rfl | rfl <;> rfl)
    obtain ⟨cg, hcg⟩ := TYP.out V4 q2 S4.out
    have F5 : Hid (Fam B (V4.setCell ⟨g, k * 3 + 2, none⟩ (.slice ov (m2 + 1) cv)) (((.slice ov0 nt kv0, T) : Vl) :: flatH (L.set k (L[k].1, L[k].2.1, (.slice ov (m2 + 1) cv, nd ++ [s1]))))) := (HF4.out.perm ((List.perm_middle (l₁ := [((.slice ov0 nt kv0 : Value), T), L[k].2.1])).symm.trans (List.Perm.cons _ (flatH_at L HKL.out (L[k].1, L[k].2.1, (.slice ov (m2 + 1) cv, nd ++ [s1]))).symm))).box hcg (by decide) _ _
    have SZN : Hid (SzL 17 (nd ++ [s1])) := ⟨by rw [List.length_append]; have := HND.out.1; show nd.length + 1 ≤ 17; omega, fun x hx => by
      rcases List.mem_append.1 hx with hx | hx
      · have := HND.out.2 x hx; omega
      · rw [List.mem_singleton.1 hx]; have := HS1.out; omega⟩
    have SF5 : Hid _ := S5.out.sf F5.out.row (HTZ.out.mono (by omega)) (fun x hx => by
      rcases List.mem_or_eq_of_mem_set hx with hx | rfl
      · exact (HZL.out x hx).mono (by omega)
      · have h9 := HZL.out _ (List.getElem_mem HKL.out)
        exact ⟨Nat.le_trans h9.1 (by omega), h9.2.1.mono (by omega), SZN.out⟩) (by rw [List.length_set]; have := HLL.out; omega)
    clear S5 F5 hcg S4 HF4
    go_wp2_with fail
    exact REST20.out _ _ _ _ _ _ _ _ _ _ _ _ _ _ _ _ _ _ _ _ _ _ _ _ _ _ _ _ _ _ _ _ _ _ _ _ _ _ _ _ _ _ _ _ _ _ _ _ _ _ _ _ _ _ _ _ _ _ _ _ _ _ _ _ _ _ _ _ _ _ _ _ _ _ _ _ _ _ _ _ _ _ _ _ _ _ _ _ _ _ _ _ _ _ _ _ _ _ _ _ _ _ _ _ _ _ _ _ _ _ _ _ _ _ _ _ _ _ _ q2 (by omega) SF5.out
  by_cases hz32 : z3 = 2
  · subst hz32
    go_upto_region 17 with fail
    have hrw := F1.out.row _ (List.mem_cons_of_mem _ (flatH_mem (List.getElem_mem HKL.out)).1)
    obtain ⟨o2, c2, e2⟩ := Row.form hrw
    obtain ⟨nd, hnd⟩ : ∃ l, L[k].2.1.2 = l := ⟨_, rfl⟩
    obtain ⟨m2, em2⟩ : ∃ m, nd.length = m := ⟨_, rfl⟩
    have e8 : L[k].2.1.2.length = m2 := by rw [hnd]; exact em2
    have e2' : L[k].2.1.1 = .slice o2 m2 c2 := e2.trans (congrArg (fun m => Value.slice o2 m c2) e8)
    have HE : Hid (L[k].2.1 = (.slice o2 m2 c2, nd)) := Prod.ext e2' hnd
    have HLN : Hid (nd.length = m2) := em2
    have h16 := HZL.out _ (List.getElem_mem HKL.out)
    have HND : Hid (SzL 16 nd) := by rw [← hnd]; exact h16.2.1
    have hm2 : m2 ≤ 16 := by have := HND.out.1; omega
    obtain ⟨FF, eff⟩ : ∃ F, F = (((.slice o2 m2 c2, nd) : Vl) :: (.slice ov0 nt kv0, T) :: L[k].2.2 :: flatH (L.eraseIdx k)) := ⟨_, rfl⟩
    have EFF : Hid (FF = (((.slice o2 m2 c2, nd) : Vl) :: (.slice ov0 nt kv0, T) :: L[k].2.2 :: flatH (L.eraseIdx k))) := eff
    have F1' : Hid (Fam B u3 FF) := by
      show Fam B u3 FF
      rw [eff, ← HE.out]
      have p1 := flatH_at L HKL.out L[k]
      rw [HSELF.out] at p1
      exact F1.out.perm ((List.Perm.cons _ p1).trans (List.Perm.swap ..))
    clear F1
    have F1 := F1'
    have HCW : Hid (∀ (v : World) (q : Int), SJ R B gx gr w v ob n cb q f (.slice ov0 nt kv0) (.slice (some ⟨g, 0, none⟩) nl kv1) L → v.heap[gx]? = some (.cells #[.slice ov0 nt kv0, .slice (some ⟨g, 0, none⟩) nl kv1] 26 (0, 0)) ∧ v.cell? ⟨g, k * 3 + 1, none⟩ = some (.slice o2 m2 c2)) := fun v q h => ⟨h.bx, by
      have h9 := (CEL.out v q h 1 (by omega)).1
      have e9 : eH L[k] 1 = .slice o2 m2 c2 := (show eH L[k] 1 = L[k].2.1.1 from rfl).trans (congrArg Prod.fst HE.out)
      rw [e9] at h9
      exact h9⟩
    clear eff F1' hrw hnd em2 e2 e2' e8 h16
    have hdr : Below u3.heap.size u3 u3.drew := (Below.refl _ _).drew
    obtain ⟨D1, hD1⟩ : ∃ D, D = u3.drew := ⟨_, rfl⟩
    have ED : Hid (D1 = u3.drew) := hD1
    have SD : Hid (SJ R B gx gr w D1 ob n cb q3 f (.slice ov0 nt kv0) (.slice (some ⟨g, 0, none⟩) nl kv1) L) := by rw [hD1]; exact S1.out.below hdr
    have FD : Hid (Fam B D1 FF) := by rw [hD1]; exact F1.out.below hdr
    have HC := HCW.out D1 q3 SD.out
    have HCD : Hid _ := HC
    clear hdr hD1 S1 F1 HC
    refine wp_region_movesC (fun v => v.heap[gx]? = some (.cells #[.slice ov0 nt kv0, .slice (some ⟨g, 0, none⟩) nl kv1] 26 (0, 0)) ∧ v.cell? ⟨g, k * 3 + 1, none⟩ = some (.slice o2 m2 c2)) 14 [] (by kernel_rfl) (by kernel_rfl) (by rw [← ED.out]; exact HCD.out) ?_
    rw [← ED.out]
    simp only [List.filterMap_nil, movD]
    refine takeHQ (f := 13) (i := 0) (.pointer (some ⟨gx, 1, none⟩)) ⟨rfl, rfl⟩ (by kernel_rfl) rfl (HCD.out) ?r0 ?_
    case r0 => intro v hv; go_simp
    simp only [Act.put, List.setIfInBounds_toArray, List.set_cons_zero, List.set_cons_succ]
    refine takeHQ (f := 12) (i := 1) (.slice (some ⟨g, 0, none⟩) nl kv1) ⟨rfl, rfl⟩ (by kernel_rfl) rfl (HCD.out) ?r1 ?_
    case r1 => intro v hv; have c0 := (cell_row hv.1 1 _ rfl).1; go_simp
    simp only [Act.put, List.setIfInBounds_toArray, List.set_cons_zero, List.set_cons_succ]
    refine takeHQ (f := 11) (i := 2) (.int .i64 k) ⟨rfl, rfl⟩ (by kernel_rfl) rfl (HCD.out) ?r2 ?_
    case r2 => intro v hv; go_simp
    simp only [Act.put, List.setIfInBounds_toArray, List.set_cons_zero, List.set_cons_succ]
    refine takeHQ (f := 10) (i := 3) (.pointer (some ⟨gx, 1, none⟩)) ⟨rfl, rfl⟩ (by kernel_rfl) rfl (HCD.out) ?r3 ?_
    case r3 => intro v hv; go_simp
    simp only [Act.put, List.setIfInBounds_toArray, List.set_cons_zero, List.set_cons_succ]
    refine takeHQ (f := 9) (i := 4) (.slice (some ⟨g, 0, none⟩) nl kv1) ⟨rfl, rfl⟩ (by kernel_rfl) rfl (HCD.out) ?r4 ?_
    case r4 => intro v hv; have c0 := (cell_row hv.1 1 _ rfl).1; go_simp
    simp only [Act.put, List.setIfInBounds_toArray, List.set_cons_zero, List.set_cons_succ]
    refine takeHQ (f := 8) (i := 5) (.int .i64 k) ⟨rfl, rfl⟩ (by kernel_rfl) rfl (HCD.out) ?r5 ?_
    case r5 => intro v hv; go_simp
    simp only [Act.put, List.setIfInBounds_toArray, List.set_cons_zero, List.set_cons_succ]
    refine takeHQ (f := 7) (i := 6) (.pointer (some ⟨g, k * 3, none⟩)) ⟨rfl, rfl⟩ (by kernel_rfl) rfl (HCD.out) ?r6 ?_
    case r6 => intro v hv; go_simp
    simp only [Act.put, List.setIfInBounds_toArray, List.set_cons_zero, List.set_cons_succ]
    refine takeHQ (f := 6) (i := 7) (.pointer (some ⟨g, k * 3 + 1, none⟩)) ⟨rfl, rfl⟩ (by kernel_rfl) rfl (HCD.out) ?r7 ?_
    case r7 => intro v hv; go_simp
    simp only [Act.put, List.setIfInBounds_toArray, List.set_cons_zero, List.set_cons_succ]
    refine takeHQ (f := 5) (i := 8) (.slice o2 m2 c2) ⟨rfl, rfl⟩ (by kernel_rfl) rfl (HCD.out) ?r8 ?_
    case r8 => intro v hv; have c0 := hv.2; go_simp
    simp only [Act.put, List.setIfInBounds_toArray, List.set_cons_zero, List.set_cons_succ]
    refine takeHQ (f := 4) (i := 9) (.pointer (some ⟨R, 0, none⟩)) ⟨rfl, rfl⟩ (by kernel_rfl) rfl (HCD.out) ?r9 ?_
    case r9 => intro v hv; go_simp
    simp only [Act.put, List.setIfInBounds_toArray, List.set_cons_zero, List.set_cons_succ]
    obtain ⟨V, hV⟩ : ∃ V, V = D1.alloc (.cells (([⟨#[]⟩, ⟨#[122, 122]⟩, ⟨#[107, 101, 103]⟩, ⟨#[119]⟩] : List ByteArray).map Value.string).toArray 9) := ⟨_, rfl⟩
    have bV : Below D1.heap.size D1 V := by rw [hV]; exact (Below.refl _ _).alloc (Nat.le_refl _) _
    have SV := SD.out.below bV
    refine oneHd (f := 3) (i := 10) (.slice (some ⟨D1.heap.size, 0, none⟩) 4 4) V ⟨rfl, rfl⟩ (by decide) (by kernel_rfl) rfl ?rb (HCW.out V q3 SV) ?_
    case rb => rw [hV]; go_simp
    simp only [Act.put, List.setIfInBounds_toArray, List.set_cons_zero, List.set_cons_succ]
    have hat : AtL (fun b => b = D1.heap.size) V ([⟨#[]⟩, ⟨#[122, 122]⟩, ⟨#[107, 101, 103]⟩, ⟨#[119]⟩] : List ByteArray) (.slice (some ⟨D1.heap.size, 0, none⟩) 4 4) := by rw [hV]; exact lit_at 9 D1 [⟨#[]⟩, ⟨#[122, 122]⟩, ⟨#[107, 101, 103]⟩, ⟨#[119]⟩] (by unfold maxLen; simp) (by intro s hs; simp at hs; rcases hs with rfl | rfl | rfl | rfl <;> (unfold maxLen; decide))
    have szV : D1.heap.size < V.heap.size := by rw [hV]; simp
    have loD := SD.out.lo
    refine callHd (f := 2) (i := 11) ⟨rfl, rfl⟩ (by decide) (by kernel_rfl) rfl ?rc ((of_rd R ob n cb f q3 (fun b => b = D1.heap.size) _ _ V SV.rd (by omega) hat (fun b hb => ⟨by omega, by omega⟩) (by decide) (by decide)).mono ?_)
    case rc => go_simp
    rintro e V2 ⟨s1, hs1, rfl, q2, hq2, rd2, bt2⟩
    have S2 : Hid (SJ R B gx gr w V2 ob n cb q2 f (.slice ov0 nt kv0) (.slice (some ⟨g, 0, none⟩) nl kv1) L) := SV.call bt2.out rd2.out
    have F2 : Hid (Fam B V2 FF) := (FD.out.below bV).but (by omega) bt2.out
    refine ⟨_, rfl, HCW.out V2 q2 S2.out, ?_⟩
    simp only [Act.put, List.setIfInBounds_toArray, List.set_cons_zero, List.set_cons_succ]
    have s1z : s1.size ≤ 16 := by simp at hs1; rcases hs1 with rfl | rfl | rfl | rfl <;> decide
    have HS1 : Hid (s1.size ≤ 16) := s1z
    clear hat szV bV hV SV SD FD rd2 bt2 hs1 s1z ED HCD loD
    obtain ⟨V3, hV3⟩ : ∃ X, X = V2.alloc (.cells #[.string s1] 9) := ⟨_, rfl⟩
    have b3 : Below V2.heap.size V2 V3 := by rw [hV3]; exact (Below.refl _ _).alloc (Nat.le_refl _) _
    have S3 := S2.out.below b3
    have F3 : Fam B V3 FF := F2.out.below b3
    refine oneHd (f := 1) (i := 12) (.slice (some ⟨V2.heap.size, 0, none⟩) 1 1) V3 ⟨rfl, rfl⟩ (by decide) (by kernel_rfl) rfl ?ro (HCW.out V3 q2 S3) ?_
    case ro => rw [hV3]; go_simp
    simp only [Act.put, List.setIfInBounds_toArray, List.set_cons_zero, List.set_cons_succ]
    have HSRC : Src V3 (.slice (some ⟨V2.heap.size, 0, none⟩) 1 1) 1 1 [.string s1] := by rw [hV3]; exact own_src4 (own_built (base := 0) (size := 1) (k := 1) (Nat.zero_le _) (by unfold maxLen; omega) rfl)
    rw [EFF.out] at F3
    have hrowv : Row V3 B 9 1 eS (.slice o2 m2 c2) nd := F3.head
    have hown : V3.ownsRow B 9 1 (.slice o2 m2 c2) m2 (enc 1 eS nd) := by have h1 := hrowv; rw [Row, HLN.out] at h1; exact h1
    obtain ⟨v', V4, hrun, ho4, hg4, hbk4⟩ := run_app (P := Tryz.prog) elS hown HSRC (by intro z hz; simp at hz; subst hz; rfl) (by unfold maxLen; omega) (by omega) (by have := S3.lo; omega) 23
    obtain ⟨ov, cv, rfl⟩ := row_shape4 ho4
    have hrow4 : Row V4 B 9 1 eS (.slice ov (m2 + 1) cv) (nd ++ [s1]) := by
      show World.ownsRow _ _ _ _ _ _ _
      rw [List.length_append, enc_append, HLN.out]
      exact ho4
    have S4 : Hid (SJ R B gx gr w V4 ob n cb q2 f (.slice ov0 nt kv0) (.slice (some ⟨g, 0, none⟩) nl kv1) L) := S3.gr_ hrowv hg4
    have F4 := F3.grow hg4 hrow4 hbk4
    have HF4 : Hid _ := F4
    refine oneHd (f := 0) (i := 13) (.slice ov (m2 + 1) cv) V4 ⟨rfl, rfl⟩ (by decide) (by kernel_rfl) rfl ?ra (HCW.out V4 q2 S4.out) ?_
    case ra => exact exec_runM rfl (by simp [Act.eval]) (by simp [Act.eval]) hrun
    simp only [Act.put, List.setIfInBounds_toArray, List.set_cons_zero, List.set_cons_succ]
    refine ⟨by kernel_rfl, ?_⟩
    simp only [List.drop_succ_cons, List.drop_zero]
    clear hown hrun ho4 hg4 hbk4 hrow4 hrowv F4 F3 S3 S2 F2 b3 hV3 HSRC
    have hz0 := CEL.out V4 q2 S4.out 1 (by omega)
    obtain ⟨zz, ff⟩ := hz0
    have S5 : Hid (SJ R B gx gr w (V4.setCell ⟨g, k * 3 + 1, none⟩ (.slice ov (m2 + 1) cv)) ob n cb q2 f (.slice ov0 nt kv0) (.slice (some ⟨g, 0, none⟩) nl kv1) (L.set k (L[k].1, (.slice ov (m2 + 1) cv, nd ++ [s1]), L[k].2.2))) := S4.out.el HLL0.out HKL.out (j := 1) (by omega) (.slice ov (m2 + 1) cv) (L[k].1, (.slice ov (m2 + 1) cv, nd ++ [s1]), L[k].2.2) (fun j hj => by rcases (show j = 0 ∨ j = 1 ∨ j = 2 by omega) with rfl | rfl | rfl <;> rfl)
    obtain ⟨cg, hcg⟩ := TYP.out V4 q2 S4.out
    have F5 : Hid (Fam B (V4.setCell ⟨g, k * 3 + 1, none⟩ (.slice ov (m2 + 1) cv)) (((.slice ov0 nt kv0, T) : Vl) :: flatH (L.set k (L[k].1, (.slice ov (m2 + 1) cv, nd ++ [s1]), L[k].2.2)))) := (HF4.out.perm ((List.Perm.swap ..).trans (List.Perm.cons _ (flatH_at L HKL.out (L[k].1, (.slice ov (m2 + 1) cv, nd ++ [s1]), L[k].2.2)).symm))).box hcg (by decide) _ _
    have SZN : Hid (SzL 17 (nd ++ [s1])) := ⟨by rw [List.length_append]; have := HND.out.1; show nd.length + 1 ≤ 17; omega, fun x hx => by
      rcases List.mem_append.1 hx with hx | hx
      · have := HND.out.2 x hx; omega
      · rw [List.mem_singleton.1 hx]; have := HS1.out; omega⟩
    have SF5 : Hid _ := S5.out.sf F5.out.row (HTZ.out.mono (by omega)) (fun x hx => by
      rcases List.mem_or_eq_of_mem_set hx with hx | rfl
      · exact (HZL.out x hx).mono (by omega)
      · have h9 := HZL.out _ (List.getElem_mem HKL.out)
        exact ⟨Nat.le_trans h9.1 (by omega), SZN.out, h9.2.2.mono (by omega)⟩) (by rw [List.length_set]; have := HLL.out; omega)
    clear S5 F5 hcg S4 HF4
    go_wp2_with fail
    exact REST20.out _ _ _ _ _ _ _ _ _ _ _ _ _ _ _ _ _ _ _ _ _ _ _ _ _ _ _ _ _ _ _ _ _ _ _ _ _ _ _ _ _ _ _ _ _ _ _ _ _ _ _ _ _ _ _ _ _ _ _ _ _ _ _ _ _ _ _ _ _ _ _ _ _ _ _ _ _ _ _ _ _ _ _ _ _ _ _ _ _ _ _ _ _ _ _ _ _ _ _ _ _ _ _ _ _ _ _ _ _ _ _ _ _ _ _ _ _ _ _ q2 (by omega) SF5.out
  by_cases hz33 : z3 = 3
  · subst hz33
    go_upto_region 19 with fail
    have x1 := (cell_row S1.out.bx 1 (.slice (some ⟨g, 0, none⟩) nl kv1) rfl).1
    have c0 : u3.cell? ⟨g, k * 3, none⟩ = some (.string L[k].1) := (CEL.out u3 q3 S1.out 0 (by omega)).1
    have c1 : u3.cell? ⟨g, k * 3 + 1, none⟩ = some L[k].2.1.1 := (CEL.out u3 q3 S1.out 1 (by omega)).1
    have c2 : u3.cell? ⟨g, k * 3 + 2, none⟩ = some L[k].2.2.1 := (CEL.out u3 q3 S1.out 2 (by omega)).1
    have hr1 := F1.out.row _ (List.mem_cons_of_mem _ (flatH_mem (List.getElem_mem HKL.out)).1)
    have hr2 := F1.out.row _ (List.mem_cons_of_mem _ (flatH_mem (List.getElem_mem HKL.out)).2)
    obtain ⟨oh, ch, eh⟩ := Row.form hr1
    obtain ⟨oe, ce, ee⟩ := Row.form hr2
    obtain ⟨nh, enh⟩ : ∃ m, L[k].2.1.2.length = m := ⟨_, rfl⟩
    obtain ⟨ne, ene⟩ : ∃ m, L[k].2.2.2.length = m := ⟨_, rfl⟩
    have eh' : L[k].2.1.1 = .slice oh nh ch := eh.trans (congrArg (fun m => Value.slice oh m ch) enh)
    have ee' : L[k].2.2.1 = .slice oe ne ce := ee.trans (congrArg (fun m => Value.slice oe m ce) ene)
    rw [eh'] at c1
    rw [ee'] at c2
    have EH : Hid (L[k].2.1.1 = .slice oh nh ch) := eh'
    have EE : Hid (L[k].2.2.1 = .slice oe ne ce) := ee'
    obtain ⟨nm, enm⟩ : ∃ x, L[k].1 = x := ⟨_, rfl⟩
    have ENM : Hid (L[k].1 = nm) := enm
    rw [enm] at c0
    clear eh ee eh' ee' enh ene hr1 hr2 enm
    have r0 := fun d os => cell_regrown x1 d os
    have r1 := fun d os => cell_regrown c0 d os
    have r2 := fun d os => cell_regrown c1 d os
    have r3 := fun d os => cell_regrown c2 d os
    refine wp_region_mix 8 [0, 1, 2, 3, 4, 5, 6] (by kernel_rfl) (by kernel_rfl) ?_
    simp only [List.filterMap_cons, List.filterMap_nil, List.getElem?_cons_succ, List.getElem?_cons_zero]
    repeat (first | go_big_quiet_step (fail) | quiet_step (fail))
    refine wpQuiet_nil ?_
    clear r0 r1 r2 r3 x1 c0 c1 c2
    have hdr : Below u3.heap.size u3 u3.drew := (Below.refl _ _).drew
    refine anyC_step (f := 0) [7] (by kernel_rfl) (by simp) (one_list ⟨by decide, _, rfl, rfl, .slice (some ⟨u3.drew.heap.size, 0, none⟩) 1 1, u3.drew.alloc (.cells #[.string nm, .slice oh nh ch, .slice oe ne ce] 43), ?runb, regrown_of_below (hdr.alloc hdr.size _), ?_⟩)
    case runb => go_simp
    refine ⟨by kernel_rfl, ?_⟩
    simp only [List.drop_succ_cons, List.drop_zero]
    simp only [Act.put, List.setIfInBounds_toArray]
    obtain ⟨X3, hX3⟩ : ∃ X, X = u3.drew.alloc (.cells #[.string nm, .slice oh nh ch, .slice oe ne ce] 43) := ⟨_, rfl⟩
    have bX3 : Below u3.heap.size u3 X3 := by rw [hX3]; exact hdr.alloc hdr.size _
    have SX : Hid _ := S1.out.below bX3
    have FX : Hid _ := F1.out.below bX3
    have HSRC : Hid (Src X3 (.slice (some ⟨u3.drew.heap.size, 0, none⟩) 1 1) 1 3 [.string nm, .slice oh nh ch, .slice oe ne ce]) := by rw [hX3]; exact own_src4 (own_built (base := 0) (size := 3) (k := 1) (Nat.zero_le _) (by unfold maxLen; omega) rfl)
    have HOWN : Hid (X3.ownsRow B 43 3 (.slice (some ⟨g, 0, none⟩) nl kv1) nl (enc 3 eH L)) := by
      have h9 := SX.out.ro
      rw [Row, HLL0.out] at h9
      exact h9
    have HONE : Hid (∀ z ∈ ([.string nm, .slice oh nh ch, .slice oe ne ce] : List Value), z.oneCell' = true) := by intro z hz; simp at hz; rcases hz with rfl | rfl | rfl <;> rfl
    have HSZ : Hid (B ≤ X3.heap.size) := by have := SX.out.lo; show _ ≤ _; omega
    rw [← hX3]
    clear hX3 hdr bX3 S1 F1
    go_wp2_with (first
      | (at_builtin; refine wpList_app elB rfl _ _ rfl rfl rfl HOWN.out HSRC.out HONE.out (by unfold maxLen; omega) (by omega) HSZ.out ?_; intro v'' u9 hown hgr0 hbk0; obtain ⟨ow, kw, rfl⟩ := row_shape4 hown; have hgr : X3.grownBy u9 (Value.slice (some ⟨g, 0, none⟩) nl kv1).ownBlock := hgr0; have hpu := SX.out.push (x := L[k]) hgr (vb := .slice ow (nl + 1) kw) (by rw [HLL0.out, ENM.out, EH.out, EE.out]; exact hown); have F9 := FX.out.grown SX.out.ro (by decide) hgr; have hb9 := hpu.1; have S9 : Hid _ := hpu.2; have G9 : Hid _ := F9.box hb9 (by decide) 1 (.slice ow (nl + 1) kw); obtain ⟨zc9, zf9⟩ := cell_row hb9 1 _ rfl; clear hpu hb9 hgr hgr0 hown hbk0 F9))
    have SF9 : Hid _ := S9.out.sf (T := T) (fun x hx => by
      rcases List.mem_cons.1 hx with rfl | hx
      · exact G9.out.row _ (List.mem_cons_self ..)
      · refine G9.out.row x (List.mem_cons_of_mem _ ?_)
        obtain ⟨y, hy, hm⟩ := List.mem_flatMap.1 hx
        rcases List.mem_append.1 hy with hy | hy
        · exact List.mem_flatMap.2 ⟨y, hy, hm⟩
        · rw [List.mem_singleton.1 hy] at hm
          exact List.mem_flatMap.2 ⟨L[k], List.getElem_mem HKL.out, hm⟩) (HTZ.out.mono (by omega)) (fun x hx => by
      rcases List.mem_append.1 hx with hx | hx
      · exact (HZL.out x hx).mono (by omega)
      · rw [List.mem_singleton.1 hx]; exact (HZL.out _ (List.getElem_mem HKL.out)).mono (by omega)) (by rw [List.length_append]; have := HLL.out; show L.length + 1 ≤ 17; omega)
    exact REST20.out _ _ _ _ _ _ _ _ _ _ _ _ _ _ _ _ _ _ _ _ _ _ _ _ _ _ _ _ _ _ _ _ _ _ _ _ _ _ _ _ _ _ _ _ _ _ _ _ _ _ _ _ _ _ _ _ _ _ _ _ _ _ _ _ _ _ _ _ _ _ _ _ _ _ _ _ _ _ _ _ _ _ _ _ _ _ _ _ _ _ _ _ _ _ _ _ _ _ _ _ _ _ _ _ _ _ _ _ _ _ _ _ _ _ _ _ _ _ _ q3 (by omega) SF9.out
  go_wp2_with fail
  refine (pick_rd R ob n cb f q3 2 u3 S1.out.rd (by omega) (by omega) (by omega)).mono ?_
  rintro e u4 ⟨zn, rfl, hzn0, hzn1, q4, hq4, rdn, btn⟩
  have S2 : Hid (SJ R B gx gr w u4 ob n cb q4 f (.slice ov0 nt kv0) (.slice (some ⟨g, 0, none⟩) nl kv1) L) := S1.out.call btn.out rdn.out
  have F2 : Hid (Fam B u4 (((.slice ov0 nt kv0, T) : Vl) :: flatH L)) := F1.out.but (by have := S1.out.lo; omega) btn.out
  clear rdn btn S1 F1 CEL TYP
  go_wp2_with fail
  go_loopw [8] (fun i wr => ∃ (j : Nat) (ow : Option Addr) (m1 kw : Nat) (L2 : List HB), j ≤ 6 ∧ i = .int .i64 j ∧ m1 ≤ nl + j ∧ nl + j ≤ m1 ∧ (j = 0 ∨ m1 ≤ 6) ∧ Hid (L2.length = m1) ∧ Hid (∀ x ∈ L2, SzB 16 (dH x)) ∧ Hid (SJ R B gx gr w wr ob n cb q4 f (.slice ov0 nt kv0) (.slice ow m1 kw) L2) ∧ Hid (Fam B wr (((.slice ov0 nt kv0, T) : Vl) :: flatH L2))) (fun i _ => 6 - (intOf i).toNat)
  case atStart => exact ⟨0, some ⟨g, 0, none⟩, nl, kv1, L, by omega, rfl, Nat.le_refl _, Nat.le_refl _, .inl rfl, HLL0, HZL, S2, F2⟩
  case round =>
    clear S2 F2
    obtain ⟨j, ow, m1, kw, L2, hj, rfl, hm1, hm1', hm6, HL2, HZ2, HS, HF⟩ := hrel
    have x1 := (cell_row HS.out.bx 1 (.slice ow m1 kw) rfl).1
    have hm16 : m1 ≤ 16 := by omega
    by_cases hlt : (m1 : Int) < 5 + zn
    case neg =>
      have SF9 : Hid _ := HS.out.sf HF.out.row (HTZ.out.mono (by omega)) (fun x hx => (HZ2.out x hx).mono (by omega)) (by have := HL2.out; omega)
      go_wp2_with fail
      exact REST20.out _ _ _ _ _ _ _ _ _ _ _ _ _ _ _ _ _ _ _ _ _ _ _ _ _ _ _ _ _ _ _ _ _ _ _ _ _ _ _ _ _ _ _ _ _ _ _ _ _ _ _ _ _ _ _ _ _ _ _ _ _ _ _ _ _ _ _ _ _ _ _ _ _ _ _ _ _ _ _ _ _ _ _ _ _ _ _ _ _ _ _ _ _ _ _ _ _ _ _ _ _ _ _ _ _ _ _ _ _ _ _ _ _ _ _ _ _ _ _ q4 (by omega) SF9.out
    have hj6 : j < 6 := by omega
    go_upto_region 11 with fail
    clear x1
    have hdr : Below wr.heap.size wr wr.drew := (Below.refl _ _).drew
    obtain ⟨D1, hD1⟩ : ∃ D, D = wr.drew := ⟨_, rfl⟩
    have ED : Hid (D1 = wr.drew) := hD1
    have SD : Hid (SJ R B gx gr w D1 ob n cb q4 f (.slice ov0 nt kv0) (.slice ow m1 kw) L2) := by rw [hD1]; exact HS.out.below hdr
    have FD : Hid (Fam B D1 (((.slice ov0 nt kv0, T) : Vl) :: flatH L2)) := by rw [hD1]; exact HF.out.below hdr
    have HCD : Hid (D1.heap[gx]? = some (.cells #[.slice ov0 nt kv0, .slice ow m1 kw] 26 (0, 0))) := SD.out.bx
    clear hdr hD1 HS HF
    refine wp_region_movesC (fun v => v.heap[gx]? = some (.cells #[.slice ov0 nt kv0, .slice ow m1 kw] 26 (0, 0))) 8 [] (by kernel_rfl) (by kernel_rfl) (by rw [← ED.out]; exact HCD.out) ?_
    rw [← ED.out]
    simp only [List.filterMap_nil, movD]
    refine takeHQ (f := 7) (i := 0) (.pointer (some ⟨gx, 1, none⟩)) ⟨rfl, rfl⟩ (by kernel_rfl) rfl (HCD.out) ?r0 ?_
    case r0 => intro v hv; go_simp
    simp only [Act.put, List.setIfInBounds_toArray, List.set_cons_zero, List.set_cons_succ]
    refine takeHQ (f := 6) (i := 1) (.slice ow m1 kw) ⟨rfl, rfl⟩ (by kernel_rfl) rfl (HCD.out) ?r1 ?_
    case r1 => intro v hv; have c0 := (cell_row hv 1 _ rfl).1; go_simp
    simp only [Act.put, List.setIfInBounds_toArray, List.set_cons_zero, List.set_cons_succ]
    refine takeHQ (f := 5) (i := 2) (.int .i64 j) ⟨rfl, rfl⟩ (by kernel_rfl) rfl (HCD.out) ?r2 ?_
    case r2 => intro v hv; go_simp
    simp only [Act.put, List.setIfInBounds_toArray, List.set_cons_zero, List.set_cons_succ]
    refine callHd (f := 4) (i := 3) ⟨rfl, rfl⟩ (by decide) (by kernel_rfl) rfl ?rc ((dec5_any j D1 (by omega)).mono ?_)
    case rc => go_simp
    rintro e V2 ⟨sd, rfl, hsd, hb2⟩
    have S3 := SD.out.below hb2
    have F3 := FD.out.below hb2
    refine ⟨_, rfl, S3.bx, ?_⟩
    simp only [Act.put, List.setIfInBounds_toArray, List.set_cons_zero, List.set_cons_succ]
    refine oneHd (f := 3) (i := 4) (.string (⟨#[122]⟩ ++ sd)) V2 ⟨rfl, rfl⟩ (by decide) (by kernel_rfl) rfl ?r4 S3.bx ?_
    case r4 => (go_simp; omega)
    simp only [Act.put, List.setIfInBounds_toArray, List.set_cons_zero, List.set_cons_succ]
    have htz : ((⟨#[122]⟩ : ByteArray) ++ sd).size ≤ 16 := by rw [ByteArray.size_append]; have : (⟨#[122]⟩ : ByteArray).size = 1 := rfl; omega
    generalize (⟨#[122]⟩ : ByteArray) ++ sd = tz at htz ⊢
    refine oneHd (f := 2) (i := 5) (.agg #[.string tz, .slice none 0 0, .slice none 0 0]) V2 ⟨rfl, rfl⟩ (by decide) (by kernel_rfl) rfl ?r5 S3.bx ?_
    case r5 => go_simp
    simp only [Act.put, List.setIfInBounds_toArray, List.set_cons_zero, List.set_cons_succ]
    obtain ⟨V3, hV3⟩ : ∃ X, X = V2.alloc (.cells #[.string tz, .slice none 0 0, .slice none 0 0] 43) := ⟨_, rfl⟩
    have b3 : Below V2.heap.size V2 V3 := by rw [hV3]; exact (Below.refl _ _).alloc (Nat.le_refl _) _
    have S4 := S3.below b3
    have F4 := F3.below b3
    refine oneHd (f := 1) (i := 6) (.slice (some ⟨V2.heap.size, 0, none⟩) 1 1) V3 ⟨rfl, rfl⟩ (by decide) (by kernel_rfl) rfl ?r6 S4.bx ?_
    case r6 => rw [hV3]; go_simp
    simp only [Act.put, List.setIfInBounds_toArray, List.set_cons_zero, List.set_cons_succ]
    have HSRC : Src V3 (.slice (some ⟨V2.heap.size, 0, none⟩) 1 1) 1 3 [.string tz, .slice none 0 0, .slice none 0 0] := by rw [hV3]; exact own_src4 (own_built (base := 0) (size := 3) (k := 1) (Nat.zero_le _) (by unfold maxLen; omega) rfl)
    have hown : V3.ownsRow B 43 3 (.slice ow m1 kw) m1 (enc 3 eH L2) := by have h1 := S4.ro; rw [Row, HL2.out] at h1; exact h1
    obtain ⟨v', V4, hrun, ho4, hg4, hbk4⟩ := run_app (P := Tryz.prog) elB hown HSRC (by intro z hz; simp at hz; rcases hz with rfl | rfl <;> rfl) (by unfold maxLen; omega) (by omega) (by have := S4.lo; omega) 24
    obtain ⟨ov, cv, rfl⟩ := row_shape4 ho4
    have hpu := S4.push (x := (tz, ((.slice none 0 0 : Value), ([] : List ByteArray)), ((.slice none 0 0 : Value), ([] : List ByteArray)))) hg4 (vb := .slice ov (m1 + 1) cv) (by rw [HL2.out]; exact ho4)
    have F5 := (F4.grown S4.ro (by decide) hg4).box hpu.1 (by decide) 1 (.slice ov (m1 + 1) cv)
    have S5 : Hid _ := hpu.2
    have F6 : Hid (Fam B (V4.setCell ⟨gx, 1, none⟩ (.slice ov (m1 + 1) cv)) (((.slice ov0 nt kv0, T) : Vl) :: flatH (L2 ++ [(tz, ((.slice none 0 0 : Value), ([] : List ByteArray)), ((.slice none 0 0 : Value), ([] : List ByteArray)))]))) := by
      have a1 : Fam B (V4.setCell ⟨gx, 1, none⟩ (.slice ov (m1 + 1) cv)) (((.slice none 0 0, []) : Vl) :: (.slice none 0 0, []) :: (.slice ov0 nt kv0, T) :: flatH L2) := ⟨fun x hx => by
        rcases List.mem_cons.1 hx with rfl | hx
        · exact Row.nil _ _ _ _ _
        · rcases List.mem_cons.1 hx with rfl | hx
          · exact Row.nil _ _ _ _ _
          · exact F5.row x hx, List.pairwise_cons.2 ⟨fun x _ g hg => (by cases hg), List.pairwise_cons.2 ⟨fun x _ g hg => (by cases hg), F5.ap⟩⟩⟩
      exact a1.perm ((List.perm_middle (l₁ := [((.slice none 0 0 : Value), ([] : List ByteArray)), (.slice none 0 0, [])])).trans (List.Perm.cons _ (flatH_push L2 (tz, ((.slice none 0 0 : Value), ([] : List ByteArray)), ((.slice none 0 0 : Value), ([] : List ByteArray))))))
    refine oneHd (f := 0) (i := 7) (.slice ov (m1 + 1) cv) V4 ⟨rfl, rfl⟩ (by decide) (by kernel_rfl) rfl ?r7 hpu.1 ?_
    case r7 => exact exec_runM rfl (by simp [Act.eval]) (by simp [Act.eval]) hrun
    simp only [Act.put, List.setIfInBounds_toArray, List.set_cons_zero, List.set_cons_succ]
    refine ⟨by kernel_rfl, ?_⟩
    simp only [List.drop_succ_cons, List.drop_zero]
    obtain ⟨zz, ff⟩ := cell_row hpu.1 1 _ rfl
    have HTZN : Hid (tz.size ≤ 16) := htz
    clear hpu F5 hown hrun ho4 hg4 hbk4 S4 F4 S3 F3 b3 hV3 hb2 HSRC SD FD htz
    go_wp2_with fail
    go_roundw
    case rel => exact ⟨j + 1, ov, m1 + 1, cv, _, by omega, by go_num, by omega, by omega, .inr (by omega), (by show _ = _; rw [List.length_append, HL2.out]; rfl), (fun x hx => by
      rcases List.mem_append.1 hx with hx | hx
      · exact HZ2.out x hx
      · rw [List.mem_singleton.1 hx]; exact ⟨HTZN.out, SzL.nil 16, SzL.nil 16⟩), S5, F6⟩
    case measure => simp [intOf]; omega
end Go.Proofs.YtaejlcanccfmmaaGreatDoor
