import Derived.Test.YtaejlcanccfmmaaGreatDoorM36
import Derived.Test.YtaejlcanccfmmaaGreatDoorZrs
namespace Go.Proofs.YtaejlcanccfmmaaGreatDoor
open Go.RowKit Go.Sort
set_option maxRecDepth 100000 in
set_option maxHeartbeats 16000000 in
theorem freshP_any (S : Nat → Prop) (T : List ByteArray) (Bs : List DShareBatch) (o0 oa : Option Addr) (n0 k0 nb kb : Nat) (w : World) (h0 : AtL S w T (.slice o0 n0 k0)) (h1 : AtL S w Bs (.slice oa nb kb)) (hS : ∀ b, S b → b < w.heap.size) (hsm : SmD (T, Bs)) :
    Calls Tryz.prog 32 #[.agg #[.slice o0 n0 k0, .slice oa nb kb]] w fun e w' => ∃ r0 r1 L, e = .returned (.agg #[r0, r1]) ∧ PkO w.heap.size w' r0 r1 T L ∧ L.map dH = Bs ∧ Below w.heap.size w w' := by
  have H0 : Hid _ := h0.ups hS
  have H1 : Hid _ := h1.ups hS
  have HS : Hid _ := lt_up hS
  have enb : Bs.length = nb := by obtain ⟨_, _, e, _⟩ := h1; cases e; rfl
  have ENB : Hid (Bs.length ≤ nb ∧ nb ≤ Bs.length) := ⟨by omega, by omega⟩
  have hTl : T.length ≤ 1048576 := by have := hsm.1.1; simp only at this; omega
  have hnl : nb ≤ 64 := by have := hsm.2.1; simp only at this; omega
  have HTZ : Hid (∀ s ∈ T, s.size ≤ 1048576) := fun s hs => by have := hsm.1.2 s hs; omega
  have HEL : Hid (∀ i (hi : i < Bs.length), Bs[i].1.size ≤ 1048576 ∧ (Bs[i].2.1.length ≤ 1048576 ∧ ∀ s ∈ Bs[i].2.1, s.size ≤ 1048576) ∧ (Bs[i].2.2.length ≤ 1048576 ∧ ∀ s ∈ Bs[i].2.2, s.size ≤ 1048576)) := fun i hi => by
    obtain ⟨q0, q1, q2⟩ := hsm.2.2 Bs[i] (List.getElem_mem hi)
    exact ⟨by omega, ⟨by have := q1.1; omega, fun s hs => by have := q1.2 s hs; omega⟩, ⟨by have := q2.1; omega, fun s hs => by have := q2.2 s hs; omega⟩⟩
  have HZT : Hid (∀ s ∈ T, s.size ≤ maxLen) := flatS.ok_all h0
  clear h0 h1 enb hsm
  obtain ⟨W, hW⟩ : ∃ W, W = (w.alloc (.cells #[.slice o0 n0 k0, .slice oa nb kb] 26)).alloc (.cells #[.slice none 0 0, .slice none 0 0] 26) := ⟨_, rfl⟩
  have EW : Hid (W = (w.alloc (.cells #[.slice o0 n0 k0, .slice oa nb kb] 26)).alloc (.cells #[.slice none 0 0, .slice none 0 0] 26)) := hW
  have BW : Hid (Below w.heap.size w W) := by rw [hW]; exact ((Below.refl _ _).alloc (Nat.le_refl _) _).alloc (by simp) _
  have R1 : Hid (W.heap[w.heap.size]? = some (.cells #[.slice o0 n0 k0, .slice oa nb kb] 26 (0, 0))) := by rw [hW]; exact (Below.heap_alloc _ _ _ (by simp)).trans (heap_alloc_new w _)
  have R2 : Hid (W.heap[w.heap.size + 1]? = some (.cells #[.slice none 0 0, .slice none 0 0] 26 (0, 0))) := by
    rw [hW]; exact alloc_atR _ (by simp)
  have sW : w.heap.size + 2 ≤ W.heap.size := by rw [hW]; simp
  clear hW
  have y0 := (cell_row R1.out 0 (.slice o0 n0 k0) rfl).1
  have CN : Hid (Calls Tryz.prog 48 #[.slice o0 n0 k0] W fun e w' => ∃ r, e = .returned r ∧ Row w' W.heap.size 9 1 eS r T ∧ Below W.heap.size W w') := freshT_any S _ T W (H0.out W BW.out) (HS.out W BW.out) hTl HTZ.out
  go_enter Tryz.func32, Tryz.ntmps32
  go_upto_region 1 with fail
  rw [← EW.out]
  go_wp2_with fail
  refine Calls.mono CN.out ?_
  rintro e u1 ⟨r0, rfl, hr0, hb1⟩
  obtain ⟨ov0, kv0, rfl⟩ := Row.form hr0
  obtain ⟨nt, ent⟩ : ∃ n, T.length = n := ⟨_, rfl⟩
  rw [ent] at hr0
  rw [ent]
  have RR0 : Hid (Row u1 W.heap.size 9 1 eS (.slice ov0 nt kv0) T) := hr0
  have B1 : Hid (Below W.heap.size W u1) := hb1
  have s1 := hb1.size
  clear hr0 hb1 y0 CN ent
  obtain ⟨U, hU⟩ : ∃ U, U = u1.alloc (.cells #[.slice ov0 nt kv0, .slice none 0 0] 26) := ⟨_, rfl⟩
  have EU : Hid (U = u1.alloc (.cells #[.slice ov0 nt kv0, .slice none 0 0] 26)) := hU
  have BU1 : Hid (Below u1.heap.size u1 U) := by rw [hU]; exact (Below.refl _ _).alloc (Nat.le_refl _) _
  have XU : Hid (U.heap[u1.heap.size]? = some (.cells #[.slice ov0 nt kv0, .slice none 0 0] 26 (0, 0))) := by rw [hU]; exact heap_alloc_new u1 _
  have sU : u1.heap.size + 1 ≤ U.heap.size := by rw [hU]; simp
  have BU : Hid (Below W.heap.size W U) := B1.out.trans (BU1.out.mono s1)
  have RU0 : Hid (Row U W.heap.size 9 1 eS (.slice ov0 nt kv0) T) := Row.below RR0.out BU1.out
  clear hU RR0
  obtain ⟨gx, hgx⟩ : ∃ g, g = u1.heap.size := ⟨_, rfl⟩
  have EGX : Hid (gx = u1.heap.size) := hgx
  rw [← hgx] at XU
  have hgl : W.heap.size ≤ gx := by omega
  have hgu : gx < U.heap.size := by omega
  clear hgx
  go_upto_region 2 with fail
  rw [← EU.out]
  rw [← EGX.out]
  have y1U := (cell_row ((BU.out.block _ (by omega)).trans R1.out) 1 (.slice oa nb kb) rfl).1
  go_wp2_with fail
  clear y1U
  go_loopw [13] (fun i wr => ∃ k : Nat, k ≤ nb ∧ i = .int .i64 k ∧ Hid (∃ (v1 : Value) (L : List HB), wr.heap[gx]? = some (.cells #[.slice ov0 nt kv0, v1] 26 (0, 0)) ∧ BsO U.heap.size wr v1 L ∧ L.map dH = Bs.take k ∧ L.length = k ∧ (hdB L).Nodup) ∧ Hid (But (fun b => b = gx) U wr)) (fun i _ => nb - (intOf i).toNat)
  case atStart => exact ⟨0, Nat.zero_le _, rfl, ⟨.slice none 0 0, [], XU.out, ⟨Row.nil _ _ _ _ _, fun x hx => by cases hx⟩, by simp, rfl, List.nodup_nil⟩, But.refl _ _⟩
  case round =>
    obtain ⟨k, hk, rfl, hst, hbel⟩ := hrel
    have OLD : Hid (Below W.heap.size W wr) := BU.out.trans (hbel.out.below (fun b hb => by omega) (by omega))
    have bwr : Below w.heap.size w wr := BW.out.trans (OLD.out.mono (by omega))
    have R1r : wr.heap[w.heap.size]? = some (.cells #[.slice o0 n0 k0, .slice oa nb kb] 26 (0, 0)) := (OLD.out.block _ (by omega)).trans R1.out
    have y1 := (cell_row R1r 1 (.slice oa nb kb) rfl).1
    obtain ⟨v1, L, hx, hbs, hmap, hlen, hnd⟩ := hst.out
    have HND : Hid (hdB L).Nodup := hnd
    clear hnd
    by_cases hlt : k < nb
    case neg =>
      have x0 := (cell_row hx 0 (.slice ov0 nt kv0) rfl).1
      obtain ⟨ov1, kv1, hv1⟩ := Row.form hbs.ro
      rw [hlen] at hv1
      subst hv1
      have x1 := (cell_row hx 1 (.slice ov1 k kv1) rfl).1
      obtain ⟨z0, f0⟩ := cell_row ((OLD.out.block (w.heap.size + 1) (by omega)).trans R2.out) 0 (.slice none 0 0) rfl
      obtain ⟨z1, f1⟩ := cell_row ((OLD.out.block (w.heap.size + 1) (by omega)).trans R2.out) 1 (.slice none 0 0) rfl
      have FIN : Hid (((wr.setCell ⟨w.heap.size + 1, 0, none⟩ (.slice ov0 nt kv0)).setCell ⟨w.heap.size + 1, 1, none⟩ (.slice ov1 k kv1)).heap[w.heap.size + 1]? = some (.cells #[.slice ov0 nt kv0, .slice ov1 k kv1] 26 (0, 0))) := by
        have := set_row (set_row ((OLD.out.block (w.heap.size + 1) (by omega)).trans R2.out) 0 (.slice ov0 nt kv0)) 1 (.slice ov1 k kv1)
        show _ = _
        rw [this]; rfl
      have OTH : Hid (∀ q, q ≠ w.heap.size + 1 → ((wr.setCell ⟨w.heap.size + 1, 0, none⟩ (.slice ov0 nt kv0)).setCell ⟨w.heap.size + 1, 1, none⟩ (.slice ov1 k kv1)).heap[q]? = wr.heap[q]?) := fun q hq => (Below.heap_setCell _ _ _ _ hq).trans (Below.heap_setCell _ _ _ _ hq)
      have BF : Hid (Below w.heap.size w ((wr.setCell ⟨w.heap.size + 1, 0, none⟩ (.slice ov0 nt kv0)).setCell ⟨w.heap.size + 1, 1, none⟩ (.slice ov1 k kv1))) := (bwr.setCell (p := ⟨w.heap.size + 1, 0, none⟩) (Nat.le_succ _) _).setCell (p := ⟨w.heap.size + 1, 1, none⟩) (Nat.le_succ _) _
      have TK : Bs.take k = Bs := List.take_of_length_le (by have := ENB.out; omega)
      have HBS : Hid (BsO U.heap.size wr (.slice ov1 k kv1) L) := hbs
      have HMP : Hid (L.map dH = Bs) := hmap.trans TK
      have RWR0 : Hid (Row wr W.heap.size 9 1 eS (.slice ov0 nt kv0) T) := Row.block RU0.out fun q hq => by
        obtain ⟨c, hc⟩ := Row.typed RU0.out q hq
        exact hbel.out.block q (Array.getElem?_eq_some_iff.1 hc).1 (fun e => by
          subst e
          rw [XU.out] at hc
          injection hc with h1
          injection h1 with _ h2
          revert h2
          decide)
      clear hbs hmap TK hst hx
      go_wp2_with fail
      generalize ((wr.setCell ⟨w.heap.size + 1, 0, none⟩ (.slice ov0 nt kv0)).setCell ⟨w.heap.size + 1, 1, none⟩ (.slice ov1 k kv1)) = F at FIN OTH BF ⊢
      have g0 := (cell_row FIN.out 0 (.slice ov0 nt kv0) rfl).1
      have g1 := (cell_row FIN.out 1 (.slice ov1 k kv1) rfl).1
      refine bodyPost_ret (v := .agg #[.slice ov0 nt kv0, .slice ov1 k kv1]) (by simp [results, Tryz.results32, go_sem, g0, g1]) rfl ⟨_, _, L, rfl, ⟨?_, HZT.out, ⟨?_, ?_⟩, ?_⟩, HMP.out, BF.out⟩
      · exact Row.low (Row.block RWR0.out fun q hq => OTH.out q (by have := (World.ownsRow.lt RWR0.out q hq).1; omega)) (by omega)
      · exact Row.low (Row.block HBS.out.ro fun q hq => OTH.out q (by have := (World.ownsRow.lt HBS.out.ro q hq).1; omega)) (by omega)
      · intro x hx
        have he := HBS.out.el x hx
        exact HbO.low ⟨Row.block he.h fun q hq => OTH.out q (by have h9 := (World.ownsRow.lt he.h q hq).1; omega), Row.block he.n fun q hq => OTH.out q (by have h9 := (World.ownsRow.lt he.n q hq).1; omega), he.z, he.zh, he.zn⟩ (by omega)
      · unfold hdT
        rw [List.nodup_append]
        refine ⟨by cases (Value.slice ov0 nt kv0).ownBlock <;> simp, HND.out, fun a ha b hb e => ?_⟩
        rw [Option.mem_toList] at ha
        have h1 := (World.ownsRow.lt RU0.out a ha).2
        have h2 := (HBS.out.lt hb).1
        omega
    have hkb : k < Bs.length := by have := ENB.out; omega
    obtain ⟨bb, off, o1, n1, k1, o2, n2, k2, rfl, hbS, e0, e1, e2, a1, a2, zz0⟩ := bat_at (H1.out wr bwr) k hkb
    obtain ⟨nm, enm⟩ : ∃ x, Bs[k].1 = x := ⟨_, rfl⟩
    have ELK : Hid (Bs.take (k + 1) = Bs.take k ++ [(nm, Bs[k].2.1, Bs[k].2.2)]) := by
      show _ = _
      rw [List.take_succ_eq_append_getElem hkb, ← enm]
    have lh := HEL.out k hkb
    have zh : Hid (∀ s ∈ Bs[k].2.1, s.size ≤ maxLen) := flatS.ok_all a1
    have zn : Hid (∀ s ∈ Bs[k].2.2, s.size ≤ maxLen) := flatS.ok_all a2
    obtain ⟨lz, lh1, lh2⟩ := lh
    rw [enm] at lz
    have C1 : Hid (∀ u, Below wr.heap.size wr u → Calls Tryz.prog 48 #[.slice o1 n1 k1] u fun e w' => ∃ r, e = .returned r ∧ Row w' u.heap.size 9 1 eS r Bs[k].2.1 ∧ Below u.heap.size u w') := fun u hu => freshT_any S _ _ u (a1.same (Same.of_below hu (HS.out wr bwr))) (fun b hb => Nat.lt_of_lt_of_le (HS.out wr bwr b hb) hu.size) lh1.1 lh1.2
    have C2 : Hid (∀ u, Below wr.heap.size wr u → Calls Tryz.prog 48 #[.slice o2 n2 k2] u fun e w' => ∃ r, e = .returned r ∧ Row w' u.heap.size 9 1 eS r Bs[k].2.2 ∧ Below u.heap.size u w') := fun u hu => freshT_any S _ _ u (a2.same (Same.of_below hu (HS.out wr bwr))) (fun b hb => Nat.lt_of_lt_of_le (HS.out wr bwr b hb) hu.size) lh2.1 lh2.2
    rw [enm] at e0 zz0
    obtain ⟨ov1, kv1, hv1⟩ := Row.form hbs.ro
    rw [hlen] at hv1
    subst hv1
    have x1 := (cell_row hx 1 (.slice ov1 k kv1) rfl).1
    have HX : Hid (wr.heap[gx]? = some (.cells #[.slice ov0 nt kv0, .slice ov1 k kv1] 26 (0, 0))) := hx
    have HBS : Hid (BsO U.heap.size wr (.slice ov1 k kv1) L) := hbs
    have HMP : Hid (L.map dH = Bs.take k) := hmap
    have HLN : Hid (L.length = k) := hlen
    have hxl : gx < wr.heap.size := (Array.getElem?_eq_some_iff.1 hx).1
    have sUr := hbel.out.size
    clear a1 a2 enm hst hx hbs hmap hlen lh1 lh2
    go_upto_region 5 with fail
    obtain ⟨V, hV⟩ : ∃ V, V = wr.alloc (.cells #[.string nm, .slice o1 n1 k1, .slice o2 n2 k2] 43) := ⟨_, rfl⟩
    rw [← hV]
    have bV : Hid (Below wr.heap.size wr V) := by rw [hV]; exact (Below.refl _ _).alloc (Nat.le_refl _) _
    have RV : Hid (V.heap[wr.heap.size]? = some (.cells #[.string nm, .slice o1 n1 k1, .slice o2 n2 k2] 43 (0, 0))) := by rw [hV]; exact heap_alloc_new wr _
    clear hV e0 e1 e2 y1 x1
    have HXV : Hid (V.heap[gx]? = some (.cells #[.slice ov0 nt kv0, .slice ov1 k kv1] 26 (0, 0))) := (bV.out.block gx hxl).trans HX.out
    have HBSV : Hid (BsO U.heap.size V (.slice ov1 k kv1) L) := HBS.out.below bV.out
    have hbV : Hid (But (fun b => b = gx) U V) := hbel.out.trans (But.of_below bV.out)
    have sV := bV.out.size
    have hxV : gx < V.heap.size := by omega
    have sUV : U.heap.size ≤ V.heap.size := by omega
    have x1 := (cell_row HXV.out 1 (.slice ov1 k kv1) rfl).1
    have e0 := (cell_row RV.out 0 (.string nm) rfl).1
    have e1 := (cell_row RV.out 1 (.slice o1 n1 k1) rfl).1
    have e2 := (cell_row RV.out 2 (.slice o2 n2 k2) rfl).1
    have qx := fun d os => cell_regrown x1 d os
    have q0 := fun d os => cell_regrown e0 d os
    have q1 := fun d os => cell_regrown e1 d os
    have q2 := fun d os => cell_regrown e2 d os
    refine wp_region_mix 13 [0, 1, 2, 3, 5, 6, 8, 9] (by kernel_rfl) (by kernel_rfl) ?_
    simp only [List.filterMap_cons, List.filterMap_nil, List.getElem?_cons_succ, List.getElem?_cons_zero]
    repeat (first | go_big_quiet_step (fail) | quiet_step (fail))
    refine wpQuiet_nil ?_
    clear qx q0 q1 q2 x1 e0 e1 e2
    have hdr : Below V.heap.size V V.drew := (Below.refl _ _).drew
    refine call1 (md := .any) (f := 4) (i := 4) (dc := 21) (fn := 39) ⟨rfl, rfl, rfl, by decide⟩ (by kernel_rfl) ?run0 ((clones_any nm V.drew lz).mono ?_)
    case run0 => go_simp
    rintro e X0 ⟨rfl, hb0⟩
    have bX0 : Below V.heap.size V X0 := hdr.trans hb0
    clear hb0
    refine ⟨_, rfl, regrown_of_below bX0, ?_⟩
    refine call1 (md := .any) (f := 3) (i := 7) (dc := 24) (fn := 48) ⟨rfl, rfl, rfl, by decide⟩ (by kernel_rfl) ?run1 ((C1.out X0 (bV.out.trans (bX0.mono sV))).mono ?_)
    case run1 => simp only [Act.put, List.setIfInBounds_toArray, List.set_cons_zero, List.set_cons_succ]; go_simp
    rintro e X1 ⟨r1, rfl, hr1, hb1⟩
    have bX1 : Below V.heap.size V X1 := bX0.trans (hb1.mono bX0.size)
    have s01 := bX0.size
    obtain ⟨or1, kr1, er1⟩ := Row.form hr1
    have HR1 : Hid (Row X1 V.heap.size 9 1 eS r1 Bs[k].2.1) := Row.low hr1 s01
    obtain ⟨m1, em1⟩ : ∃ n, Bs[k].2.1.length = n := ⟨_, rfl⟩
    rw [em1] at er1
    subst er1
    clear hr1 hb1 em1
    refine ⟨_, rfl, regrown_of_below bX1, ?_⟩
    refine call1 (md := .any) (f := 2) (i := 10) (dc := 27) (fn := 48) ⟨rfl, rfl, rfl, by decide⟩ (by kernel_rfl) ?run2 ((C2.out X1 (bV.out.trans (bX1.mono sV))).mono ?_)
    case run2 => simp only [Act.put, List.setIfInBounds_toArray, List.set_cons_zero, List.set_cons_succ]; go_simp
    rintro e X2 ⟨r2, rfl, hr2, hb2⟩
    have bX2 : Below V.heap.size V X2 := bX1.trans (hb2.mono bX1.size)
    obtain ⟨or2, kr2, er2⟩ := Row.form hr2
    have HR2 : Hid (Row X2 X1.heap.size 9 1 eS r2 Bs[k].2.2) := hr2
    have HR12 : Hid (Row X2 V.heap.size 9 1 eS (.slice or1 m1 kr1) Bs[k].2.1) := Row.below HR1.out hb2
    have HN1 : Hid (∀ b, (Value.slice or1 m1 kr1).ownBlock = some b → V.heap.size ≤ b ∧ b < X1.heap.size) := fun b hb => World.ownsRow.lt HR1.out b hb
    obtain ⟨m2, em2⟩ : ∃ n, Bs[k].2.2.length = n := ⟨_, rfl⟩
    rw [em2] at er2
    subst er2
    have HN2 : Hid (∀ b, (Value.slice or2 m2 kr2).ownBlock = some b → X1.heap.size ≤ b) := fun b hb => (World.ownsRow.lt hr2 b hb).1
    have s12 := bX1.size
    have HNEW : Hid (hdB (L ++ [(nm, (.slice or1 m1 kr1, Bs[k].2.1), (.slice or2 m2 kr2, Bs[k].2.2))])).Nodup := by
      refine hdB_push (m := V.heap.size) HND.out (fun b hb => (HBSV.out.lt hb).2) (hdX_two (m := X1.heap.size) (fun b hb => (HN1.out b hb).2) (fun b hb => HN2.out b hb)) (fun b hb => ?_)
      rcases hdX_mem.1 hb with h | h
      · exact (HN1.out b h).1
      · have := HN2.out b h; omega
    clear hr2 hb2 em2 HR1
    refine ⟨_, rfl, regrown_of_below bX2, ?_⟩
    refine anyC_step (f := 1) [11] (by kernel_rfl) (by simp) (one_list ⟨by decide, _, rfl, rfl, .agg #[.string nm, .slice or1 m1 kr1, .slice or2 m2 kr2], X2, ?runa, regrown_of_below bX2, ?_⟩)
    case runa => simp only [Act.put, List.setIfInBounds_toArray, List.set_cons_zero, List.set_cons_succ]; go_simp
    refine anyC_step (f := 0) [12] (by kernel_rfl) (by simp) (one_list ⟨by decide, _, rfl, rfl, .slice (some ⟨X2.heap.size, 0, none⟩) 1 1, X2.alloc (.cells #[.string nm, .slice or1 m1 kr1, .slice or2 m2 kr2] 43), ?runb, regrown_of_below (bX2.alloc bX2.size _), ?_⟩)
    case runb => simp only [Act.put, List.setIfInBounds_toArray, List.set_cons_zero, List.set_cons_succ]; go_simp
    refine ⟨by kernel_rfl, ?_⟩
    simp only [List.drop_succ_cons, List.drop_zero]
    simp only [Act.put, List.setIfInBounds_toArray, List.set_cons_zero, List.set_cons_succ]
    obtain ⟨X3, hX3⟩ : ∃ X, X = X2.alloc (.cells #[.string nm, .slice or1 m1 kr1, .slice or2 m2 kr2] 43) := ⟨_, rfl⟩
    have bX3 : Hid (Below V.heap.size V X3) := by rw [hX3]; exact bX2.alloc bX2.size _
    have b23 : Below X2.heap.size X2 X3 := by rw [hX3]; exact (Below.refl _ _).alloc (Nat.le_refl _) _
    have HSRC : Hid (Src X3 (.slice (some ⟨X2.heap.size, 0, none⟩) 1 1) 1 3 [.string nm, .slice or1 m1 kr1, .slice or2 m2 kr2]) := by rw [hX3]; exact own_src4 (own_built (base := 0) (size := 3) (k := 1) (Nat.zero_le _) (by unfold maxLen; omega) rfl)
    have HELM : Hid (HbO U.heap.size X3 (nm, (.slice or1 m1 kr1, Bs[k].2.1), (.slice or2 m2 kr2, Bs[k].2.2))) := ⟨Row.low (Row.below HR12.out b23) (by omega), Row.low (Row.below HR2.out b23) (by omega), zz0, zh.out, zn.out⟩
    have HOWN : Hid (X3.ownsRow U.heap.size 43 3 (.slice ov1 k kv1) k (enc 3 eH L)) := by
      have := Row.below HBSV.out.ro bX3.out
      rw [Row, HLN.out] at this
      exact this
    have HONE : Hid (∀ z ∈ ([.string nm, .slice or1 m1 kr1, .slice or2 m2 kr2] : List Value), z.oneCell' = true) := by intro z hz; simp at hz; rcases hz with rfl | rfl | rfl <;> rfl
    have s3 := bX3.out.size
    rw [← hX3]
    clear hX3 HR12 HR2 b23
    go_wp2_with (first
      | (at_builtin; refine wpList_app elB rfl _ _ rfl rfl rfl HOWN.out HSRC.out HONE.out (by unfold maxLen; omega) (by omega) (by omega) ?_; intro v' u8 hown hgr0 _; obtain ⟨ov', kv', rfl⟩ := row_shape4 hown; have hgr : X3.grownBy u8 (Value.slice ov1 k kv1).ownBlock := hgr0; have apx : (Value.slice ov1 k kv1).ownBlock ≠ some gx := (fun e => by have := (World.ownsRow.lt HBSV.out.ro gx e).1; omega); have hb8 : u8.heap[gx]? = some (.cells #[.slice ov0 nt kv0, .slice ov1 k kv1] 26 (0, 0)) := (hgr.block gx (by omega) (fun e => apx e.symm)).trans ((bX3.out.block gx hxV).trans HXV.out); obtain ⟨zc8, zf8⟩ := cell_row hb8 1 _ rfl))
    have NEW : BsO U.heap.size u8 (.slice ov' (k + 1) kv') (L ++ [(nm, (.slice or1 m1 kr1, Bs[k].2.1), (.slice or2 m2 kr2, Bs[k].2.2))]) := HBSV.out.push bX3.out HELM.out hgr (by rw [HLN.out]; exact hown)
    have NEW2 : BsO U.heap.size (u8.setCell ⟨gx, 1, none⟩ (.slice ov' (k + 1) kv')) (.slice ov' (k + 1) kv') (L ++ [(nm, (.slice or1 m1 kr1, Bs[k].2.1), (.slice or2 m2 kr2, Bs[k].2.2))]) := by
      have oth : ∀ q, U.heap.size ≤ q → (u8.setCell ⟨gx, 1, none⟩ (.slice ov' (k + 1) kv')).heap[q]? = u8.heap[q]? := fun q hq => Below.heap_setCell _ _ _ _ (by show q ≠ gx; omega)
      exact ⟨Row.block NEW.ro fun q hq => oth q (World.ownsRow.lt NEW.ro q hq).1, fun x hx => ⟨Row.block (NEW.el x hx).h fun q hq => oth q (World.ownsRow.lt (NEW.el x hx).h q hq).1, Row.block (NEW.el x hx).n fun q hq => oth q (World.ownsRow.lt (NEW.el x hx).n q hq).1, (NEW.el x hx).z, (NEW.el x hx).zh, (NEW.el x hx).zn⟩⟩
    have BOX2 : (u8.setCell ⟨gx, 1, none⟩ (.slice ov' (k + 1) kv')).heap[gx]? = some (.cells #[.slice ov0 nt kv0, .slice ov' (k + 1) kv'] 26 (0, 0)) := by rw [set_row hb8 1 _]; rfl
    have BUT2 : But (fun b => b = gx) U (u8.setCell ⟨gx, 1, none⟩ (.slice ov' (k + 1) kv')) := by
      refine But.set (S := fun b => b = gx) ?_ rfl 1 _
      exact ⟨hgr.os.trans (bX3.out.os.trans hbV.out.os), hgr.tape.trans (bX3.out.tape.trans hbV.out.tape), hgr.output.trans (bX3.out.output.trans hbV.out.output), by have := hgr.size; omega, fun q hq hno => (hgr.block q (by omega) (fun e => by have := (World.ownsRow.lt HBSV.out.ro q e.symm).1; omega)).trans ((bX3.out.block q (by omega)).trans (hbV.out.block q hq hno))⟩
    go_roundw
    case rel => exact ⟨k + 1, by omega, by go_num, ⟨_, _, BOX2, NEW2, by rw [List.map_append, HMP.out, ELK.out]; rfl, by rw [List.length_append, HLN.out]; rfl, HNEW.out⟩, BUT2⟩
    case measure => simp [intOf]; omega
end Go.Proofs.YtaejlcanccfmmaaGreatDoor
