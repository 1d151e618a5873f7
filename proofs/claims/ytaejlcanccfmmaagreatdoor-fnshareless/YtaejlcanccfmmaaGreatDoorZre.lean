import Derived.Test.YtaejlcanccfmmaaGreatDoorZra
import Derived.Test.YtaejlcanccfmmaaGreatDoorM19
import Derived.Maps.AppendAt
namespace Go.Proofs.YtaejlcanccfmmaaGreatDoor
open Go.RowKit Go.Sort
set_option maxRecDepth 100000 in
set_option maxHeartbeats 16000000 in
theorem entZ_any (S : Nat → Prop) (T : List ByteArray) (Bs : List DShareBatch) (o0 oa : Option Addr) (n0 k0 nb kb : Nat) (x : ByteArray) (SN : Nat → Prop) (nd : List ByteArray) (on : Option Addr) (nn kn : Nat) (w : World) (h0 : AtL S w T (.slice o0 n0 k0)) (h1 : AtL S w Bs (.slice oa nb kb)) (hS : ∀ b, S b → b < w.heap.size) (hx : x.size ≤ maxLen) (hN : AtL SN w nd (.slice on nn kn)) (hSN : ∀ b, SN b → b < w.heap.size) :
    Calls Tryz.prog 13 #[.agg #[.slice o0 n0 k0, .slice oa nb kb], .string x, .slice on nn kn] w fun e w' => ∃ r0 r1, e = .returned (.tuple #[.agg #[r0, r1], .int .i64 (entS (T, Bs) x nd).2]) ∧ AtL (fun b => w.heap.size ≤ b ∧ b < w'.heap.size) w' (entS (T, Bs) x nd).1.1 r0 ∧ AtL (fun b => w.heap.size ≤ b ∧ b < w'.heap.size) w' (entS (T, Bs) x nd).1.2 r1 ∧ Below w.heap.size w w' := by
  have H0 : Hid _ := h0.ups hS
  have H1 : Hid _ := h1.ups hS
  have HS : Hid _ := lt_up hS
  have enb : Bs.length = nb := by obtain ⟨_, _, e, _⟩ := h1; cases e; rfl
  have ENB : Hid (Bs.length ≤ nb ∧ nb ≤ Bs.length) := ⟨by omega, by omega⟩
  have hmx : nb ≤ 9223372036854775807 := by obtain ⟨_, _, e, hf, _⟩ := id h1; cases e; have := hf.1; unfold maxLen at this; omega
  have HN : Hid _ := hN.ups hSN
  have HSN : Hid _ := lt_up hSN
  clear h0 h1 enb hN
  obtain ⟨RR, hRR⟩ : ∃ R, R = entS (T, Bs) x nd := ⟨_, rfl⟩
  have HRR : Hid (RR = entS (T, Bs) x nd) := hRR
  rw [← hRR]
  clear hRR
  obtain ⟨W, hW⟩ : ∃ W, W = (w.alloc (.cells #[.slice o0 n0 k0, .slice oa nb kb] 26)).alloc (.cells #[.slice none 0 0, .slice none 0 0] 26) := ⟨_, rfl⟩
  have EW : Hid (W = (w.alloc (.cells #[.slice o0 n0 k0, .slice oa nb kb] 26)).alloc (.cells #[.slice none 0 0, .slice none 0 0] 26)) := hW
  have BW : Hid (Below w.heap.size w W) := by rw [hW]; exact ((Below.refl _ _).alloc (Nat.le_refl _) _).alloc (by simp) _
  have R1 : Hid (W.heap[w.heap.size]? = some (.cells #[.slice o0 n0 k0, .slice oa nb kb] 26 (0, 0))) := by rw [hW]; exact (Below.heap_alloc _ _ _ (by simp)).trans (heap_alloc_new w _)
  have R2 : Hid (W.heap[w.heap.size + 1]? = some (.cells #[.slice none 0 0, .slice none 0 0] 26 (0, 0))) := by rw [hW]; exact alloc_atR _ (by simp)
  have sW : w.heap.size + 2 ≤ W.heap.size := by rw [hW]; simp
  clear hW
  have BOX : Hid (∀ u, Below W.heap.size W u → u.heap[w.heap.size]? = some (.cells #[.slice o0 n0 k0, .slice oa nb kb] 26 (0, 0)) ∧ u.heap[w.heap.size + 1]? = some (.cells #[.slice none 0 0, .slice none 0 0] 26 (0, 0)) ∧ Below w.heap.size w u) := fun u hu => ⟨(hu.block _ (by omega)).trans R1.out, (hu.block _ (by omega)).trans R2.out, BW.out.trans (hu.mono (by omega))⟩
  have y0 := (cell_row R1.out 0 (.slice o0 n0 k0) rfl).1
  have y1 := (cell_row R1.out 1 (.slice oa nb kb) rfl).1
  go_enter Tryz.func13, Tryz.ntmps13
  go_upto_region 1 with fail
  rw [← EW.out]
  go_wp2_with fail
  refine (bookZ_any S (T, Bs) _ _ W (H0.out W BW.out) (H1.out W BW.out) (HS.out W BW.out)).mono ?_; rintro e u1 ⟨rfl, hb1⟩
  have B1 : Hid (Below W.heap.size W u1) := hb1
  clear hb1 y0 y1
  cases hB : bokB (T, Bs)
  · have ER : Hid (RR = (([], []), 1)) := by show _ = _; rw [HRR.out]; unfold entS; rw [if_neg (by rw [hB]; simp)]
    obtain ⟨z0, f0⟩ := cell_row (BOX.out u1 B1.out).2.1 0 (.slice none 0 0) rfl
    obtain ⟨z1, f1⟩ := cell_row (BOX.out u1 B1.out).2.1 1 (.slice none 0 0) rfl
    have FA0 : Hid (AtL (fun b => W.heap.size ≤ b ∧ b < u1.heap.size) u1 RR.1.1 (.slice none 0 0)) := by rw [ER.out]; exact atl_noneM _ _
    have FA1 : Hid (AtL (fun b => W.heap.size ≤ b ∧ b < u1.heap.size) u1 RR.1.2 (.slice none 0 0)) := by rw [ER.out]; exact atl_noneM _ _
    have FC : Hid (RR.2 = 1) := by show _ = _; rw [ER.out]
    have FS : Hid (W.heap.size ≤ u1.heap.size) := (B1.out).size
    have FW : Hid (Below w.heap.size w u1) := (BOX.out u1 B1.out).2.2
    have FB : Hid (u1.heap[w.heap.size + 1]? = some (.cells #[.slice none 0 0, .slice none 0 0] 26 (0, 0))) := (BOX.out u1 B1.out).2.1
    go_wp2_with fail
    have FIN := set_row (set_row FB.out 0 (.slice none 0 0)) 1 (.slice none 0 0)
    have OTH : ∀ q, q ≠ w.heap.size + 1 → ((u1.setCell ⟨w.heap.size + 1, 0, none⟩ (.slice none 0 0)).setCell ⟨w.heap.size + 1, 1, none⟩ (.slice none 0 0)).heap[q]? = u1.heap[q]? := fun q hq => (Below.heap_setCell _ _ _ _ hq).trans (Below.heap_setCell _ _ _ _ hq)
    have BF : Below w.heap.size w ((u1.setCell ⟨w.heap.size + 1, 0, none⟩ (.slice none 0 0)).setCell ⟨w.heap.size + 1, 1, none⟩ (.slice none 0 0)) := (FW.out.setCell (p := ⟨w.heap.size + 1, 0, none⟩) (Nat.le_succ _) _).setCell (p := ⟨w.heap.size + 1, 1, none⟩) (Nat.le_succ _) _
    have SZ : ((u1.setCell ⟨w.heap.size + 1, 0, none⟩ (.slice none 0 0)).setCell ⟨w.heap.size + 1, 1, none⟩ (.slice none 0 0)).heap.size = u1.heap.size := by simp
    generalize (u1.setCell ⟨w.heap.size + 1, 0, none⟩ (.slice none 0 0)).setCell ⟨w.heap.size + 1, 1, none⟩ (.slice none 0 0) = F at FIN OTH BF SZ ⊢
    have g0 := (cell_row FIN 0 (.slice none 0 0) rfl).1
    have g1 := (cell_row FIN 1 (.slice none 0 0) rfl).1
    have fs := FS.out
    refine bodyPost_ret (v := .tuple #[.agg #[.slice none 0 0, .slice none 0 0], .int .i64 (1)]) (by simp [results, Tryz.results13, go_sem, g0, g1]) rfl ⟨_, _, by rw [FC.out], ?_, ?_, BF⟩
    · exact AtL.up (FA0.out.same (fun b hb => OTH b (by omega))) (fun b hb => ⟨by omega, by omega⟩)
    · exact AtL.up (FA1.out.same (fun b hb => OTH b (by omega))) (fun b hb => ⟨by omega, by omega⟩)
  have OK : Hid (BokP (T, Bs)) := bok_iff.1 hB
  have EB : Hid (bokB (T, Bs) = true) := hB
  clear hB
  have SM : Hid (Lay.tot (α := DShareBook) (T, Bs) ≤ 1048576) := (bok_small OK.out).1.tot
  have y0 := (cell_row (BOX.out u1 B1.out).1 0 (.slice o0 n0 k0) rfl).1
  have y1 := (cell_row (BOX.out u1 B1.out).1 1 (.slice oa nb kb) rfl).1
  go_wp2_with fail
  refine (copyZ_any S T Bs _ _ _ _ _ _ u1 (H0.out u1 (BOX.out u1 B1.out).2.2) (H1.out u1 (BOX.out u1 B1.out).2.2) (HS.out u1 (BOX.out u1 B1.out).2.2) SM.out).mono ?_
  rintro e u2 ⟨c0, c1, L, rfl, hbk, hmap, hb2⟩
  obtain ⟨oc0, kc0, rfl⟩ := Row.form hbk.th
  obtain ⟨oc1, kc1, rfl⟩ := Row.form hbk.bs.ro
  obtain ⟨mt, emt⟩ : ∃ n, T.length = n := ⟨_, rfl⟩
  have elb : L.length = nb := by have := congrArg List.length hmap; rw [List.length_map] at this; have := ENB.out; omega
  rw [emt, elb] at hbk
  rw [emt, elb]
  have BK2 : Hid (BkO u1.heap.size u2 (.slice oc0 mt kc0) (.slice oc1 nb kc1) T L) := hbk
  have HMP : Hid (L.map dH = Bs) := hmap
  have ELB : Hid (L.length = nb) := elb
  have B2 : Hid (Below W.heap.size W u2) := B1.out.trans (hb2.mono B1.out.size)
  have s12 := hb2.size
  have sW1 := B1.out.size
  clear hbk hmap hb2 emt elb y0 y1
  obtain ⟨X, hX⟩ : ∃ X, X = u2.alloc (.cells #[.slice oc0 mt kc0, .slice oc1 nb kc1] 26) := ⟨_, rfl⟩
  have EX : Hid (X = u2.alloc (.cells #[.slice oc0 mt kc0, .slice oc1 nb kc1] 26)) := hX
  have BX2 : Below u2.heap.size u2 X := by rw [hX]; exact (Below.refl _ _).alloc (Nat.le_refl _) _
  have RX : Hid (X.heap[u2.heap.size]? = some (.cells #[.slice oc0 mt kc0, .slice oc1 nb kc1] 26 (0, 0))) := by rw [hX]; exact heap_alloc_new u2 _
  have sX : u2.heap.size + 1 ≤ X.heap.size := by rw [hX]; simp
  have BX : Hid (Below W.heap.size W X) := B2.out.trans (BX2.mono B2.out.size)
  have BKX : Hid (BkO u1.heap.size X (.slice oc0 mt kc0) (.slice oc1 nb kc1) T L) := BK2.out.below BX2
  obtain ⟨gx, hgx⟩ : ∃ g, g = u2.heap.size := ⟨_, rfl⟩
  have EGX : Hid (gx = u2.heap.size) := hgx
  rw [← hgx] at RX
  have hgW : W.heap.size ≤ gx := by omega
  have hgX : gx < X.heap.size := by omega
  clear hX hgx BX2 BK2
  have KPX : Hid (∀ u, Below X.heap.size X u → u.heap[gx]? = some (.cells #[.slice oc0 mt kc0, .slice oc1 nb kc1] 26 (0, 0)) ∧ BkO u1.heap.size u (.slice oc0 mt kc0) (.slice oc1 nb kc1) T L ∧ Below W.heap.size W u) := fun u hu => ⟨(hu.block gx hgX).trans RX.out, BKX.out.below hu, BX.out.trans (hu.mono BX.out.size)⟩
  go_upto_region 4 with fail
  rw [← EX.out]
  rw [← EGX.out]
  have er2 : ∀ h : ¬ (nameB x = true ∧ subB T nd = true), RR = ((T, Bs), 2) := fun h => by rw [HRR.out]; unfold entS; rw [if_pos EB.out, if_neg h]
  have ER2 : Hid _ := er2
  clear er2
  cases c0 : nameB x
  · go_wp2_with fail
    refine (nameZ_any x X hx).mono ?_; rintro e u3 ⟨rfl, rfl⟩
    rw [c0]
    have ER : Hid (RR = ((T, Bs), 2)) := ER2.out (fun h => by rw [c0] at h; cases h.1)
    obtain ⟨g0x, _⟩ := cell_row (KPX.out u3 (Below.refl _ _)).1 0 (.slice oc0 mt kc0) rfl
    obtain ⟨g1x, _⟩ := cell_row (KPX.out u3 (Below.refl _ _)).1 1 (.slice oc1 nb kc1) rfl
    obtain ⟨z0, f0⟩ := cell_row (BOX.out u3 (KPX.out u3 (Below.refl _ _)).2.2).2.1 0 (.slice none 0 0) rfl
    obtain ⟨z1, f1⟩ := cell_row (BOX.out u3 (KPX.out u3 (Below.refl _ _)).2.2).2.1 1 (.slice none 0 0) rfl
    have FA0 : Hid (AtL (fun b => W.heap.size ≤ b ∧ b < u3.heap.size) u3 RR.1.1 (.slice oc0 mt kc0)) := by rw [ER.out]; exact (AtL.up (S := fun b => u1.heap.size ≤ b ∧ b < u3.heap.size) (KPX.out u3 (Below.refl _ _)).2.1.at_.1 (fun b hb => ⟨by omega, hb.2⟩))
    have FA1 : Hid (AtL (fun b => W.heap.size ≤ b ∧ b < u3.heap.size) u3 RR.1.2 (.slice oc1 nb kc1)) := by rw [ER.out]; exact (AtL.up (S := fun b => u1.heap.size ≤ b ∧ b < u3.heap.size) (HMP.out ▸ (KPX.out u3 (Below.refl _ _)).2.1.at_.2) (fun b hb => ⟨by omega, hb.2⟩))
    have FC : Hid (RR.2 = 2) := by show _ = _; rw [ER.out]
    have FS : Hid (W.heap.size ≤ u3.heap.size) := ((KPX.out u3 (Below.refl _ _)).2.2).size
    have FW : Hid (Below w.heap.size w u3) := (BOX.out u3 (KPX.out u3 (Below.refl _ _)).2.2).2.2
    have FB : Hid (u3.heap[w.heap.size + 1]? = some (.cells #[.slice none 0 0, .slice none 0 0] 26 (0, 0))) := (BOX.out u3 (KPX.out u3 (Below.refl _ _)).2.2).2.1
    go_wp2_with fail
    have FIN := set_row (set_row FB.out 0 (.slice oc0 mt kc0)) 1 (.slice oc1 nb kc1)
    have OTH : ∀ q, q ≠ w.heap.size + 1 → ((u3.setCell ⟨w.heap.size + 1, 0, none⟩ (.slice oc0 mt kc0)).setCell ⟨w.heap.size + 1, 1, none⟩ (.slice oc1 nb kc1)).heap[q]? = u3.heap[q]? := fun q hq => (Below.heap_setCell _ _ _ _ hq).trans (Below.heap_setCell _ _ _ _ hq)
    have BF : Below w.heap.size w ((u3.setCell ⟨w.heap.size + 1, 0, none⟩ (.slice oc0 mt kc0)).setCell ⟨w.heap.size + 1, 1, none⟩ (.slice oc1 nb kc1)) := (FW.out.setCell (p := ⟨w.heap.size + 1, 0, none⟩) (Nat.le_succ _) _).setCell (p := ⟨w.heap.size + 1, 1, none⟩) (Nat.le_succ _) _
    have SZ : ((u3.setCell ⟨w.heap.size + 1, 0, none⟩ (.slice oc0 mt kc0)).setCell ⟨w.heap.size + 1, 1, none⟩ (.slice oc1 nb kc1)).heap.size = u3.heap.size := by simp
    generalize (u3.setCell ⟨w.heap.size + 1, 0, none⟩ (.slice oc0 mt kc0)).setCell ⟨w.heap.size + 1, 1, none⟩ (.slice oc1 nb kc1) = F at FIN OTH BF SZ ⊢
    have g0 := (cell_row FIN 0 (.slice oc0 mt kc0) rfl).1
    have g1 := (cell_row FIN 1 (.slice oc1 nb kc1) rfl).1
    have fs := FS.out
    refine bodyPost_ret (v := .tuple #[.agg #[.slice oc0 mt kc0, .slice oc1 nb kc1], .int .i64 (2)]) (by simp [results, Tryz.results13, go_sem, g0, g1]) rfl ⟨_, _, by rw [FC.out], ?_, ?_, BF⟩
    · exact AtL.up (FA0.out.same (fun b hb => OTH b (by omega))) (fun b hb => ⟨by omega, by omega⟩)
    · exact AtL.up (FA1.out.same (fun b hb => OTH b (by omega))) (fun b hb => ⟨by omega, by omega⟩)
  have y0 := (cell_row (BOX.out X BX.out).1 0 (.slice o0 n0 k0) rfl).1
  go_wp2_with fail
  refine (nameZ_any x X hx).mono ?_; rintro e u3 ⟨rfl, hu3⟩
  subst hu3
  rw [c0]
  go_wp2_with fail
  refine (namesZ_any SN S _ _ nd T u3 (HN.out u3 (BOX.out u3 BX.out).2.2) (H0.out u3 (BOX.out u3 BX.out).2.2) (HSN.out u3 (BOX.out u3 BX.out).2.2) (HS.out u3 (BOX.out u3 BX.out).2.2)).mono ?_; rintro e u4 ⟨rfl, hb4⟩
  have B4 : Hid (Below u3.heap.size u3 u4) := hb4
  clear hb4 y0
  cases c1 : subB T nd
  · have ER : Hid (RR = ((T, Bs), 2)) := ER2.out (fun h => by rw [c1] at h; cases h.2)
    obtain ⟨g0x, _⟩ := cell_row (KPX.out u4 B4.out).1 0 (.slice oc0 mt kc0) rfl
    obtain ⟨g1x, _⟩ := cell_row (KPX.out u4 B4.out).1 1 (.slice oc1 nb kc1) rfl
    obtain ⟨z0, f0⟩ := cell_row (BOX.out u4 (KPX.out u4 B4.out).2.2).2.1 0 (.slice none 0 0) rfl
    obtain ⟨z1, f1⟩ := cell_row (BOX.out u4 (KPX.out u4 B4.out).2.2).2.1 1 (.slice none 0 0) rfl
    have FA0 : Hid (AtL (fun b => W.heap.size ≤ b ∧ b < u4.heap.size) u4 RR.1.1 (.slice oc0 mt kc0)) := by rw [ER.out]; exact (AtL.up (S := fun b => u1.heap.size ≤ b ∧ b < u4.heap.size) (KPX.out u4 B4.out).2.1.at_.1 (fun b hb => ⟨by omega, hb.2⟩))
    have FA1 : Hid (AtL (fun b => W.heap.size ≤ b ∧ b < u4.heap.size) u4 RR.1.2 (.slice oc1 nb kc1)) := by rw [ER.out]; exact (AtL.up (S := fun b => u1.heap.size ≤ b ∧ b < u4.heap.size) (HMP.out ▸ (KPX.out u4 B4.out).2.1.at_.2) (fun b hb => ⟨by omega, hb.2⟩))
    have FC : Hid (RR.2 = 2) := by show _ = _; rw [ER.out]
    have FS : Hid (W.heap.size ≤ u4.heap.size) := ((KPX.out u4 B4.out).2.2).size
    have FW : Hid (Below w.heap.size w u4) := (BOX.out u4 (KPX.out u4 B4.out).2.2).2.2
    have FB : Hid (u4.heap[w.heap.size + 1]? = some (.cells #[.slice none 0 0, .slice none 0 0] 26 (0, 0))) := (BOX.out u4 (KPX.out u4 B4.out).2.2).2.1
    go_wp2_with fail
    have FIN := set_row (set_row FB.out 0 (.slice oc0 mt kc0)) 1 (.slice oc1 nb kc1)
    have OTH : ∀ q, q ≠ w.heap.size + 1 → ((u4.setCell ⟨w.heap.size + 1, 0, none⟩ (.slice oc0 mt kc0)).setCell ⟨w.heap.size + 1, 1, none⟩ (.slice oc1 nb kc1)).heap[q]? = u4.heap[q]? := fun q hq => (Below.heap_setCell _ _ _ _ hq).trans (Below.heap_setCell _ _ _ _ hq)
    have BF : Below w.heap.size w ((u4.setCell ⟨w.heap.size + 1, 0, none⟩ (.slice oc0 mt kc0)).setCell ⟨w.heap.size + 1, 1, none⟩ (.slice oc1 nb kc1)) := (FW.out.setCell (p := ⟨w.heap.size + 1, 0, none⟩) (Nat.le_succ _) _).setCell (p := ⟨w.heap.size + 1, 1, none⟩) (Nat.le_succ _) _
    have SZ : ((u4.setCell ⟨w.heap.size + 1, 0, none⟩ (.slice oc0 mt kc0)).setCell ⟨w.heap.size + 1, 1, none⟩ (.slice oc1 nb kc1)).heap.size = u4.heap.size := by simp
    generalize (u4.setCell ⟨w.heap.size + 1, 0, none⟩ (.slice oc0 mt kc0)).setCell ⟨w.heap.size + 1, 1, none⟩ (.slice oc1 nb kc1) = F at FIN OTH BF SZ ⊢
    have g0 := (cell_row FIN 0 (.slice oc0 mt kc0) rfl).1
    have g1 := (cell_row FIN 1 (.slice oc1 nb kc1) rfl).1
    have fs := FS.out
    refine bodyPost_ret (v := .tuple #[.agg #[.slice oc0 mt kc0, .slice oc1 nb kc1], .int .i64 (2)]) (by simp [results, Tryz.results13, go_sem, g0, g1]) rfl ⟨_, _, by rw [FC.out], ?_, ?_, BF⟩
    · exact AtL.up (FA0.out.same (fun b hb => OTH b (by omega))) (fun b hb => ⟨by omega, by omega⟩)
    · exact AtL.up (FA1.out.same (fun b hb => OTH b (by omega))) (fun b hb => ⟨by omega, by omega⟩)
  have CC : Hid (nameB x = true ∧ subB T nd = true) := ⟨c0, c1⟩
  have SND : Hid (nd.length ≤ 8) := by have h1 := sub_lenM c1; have h2 := (bok_small OK.out).2.1; show _ ≤ _; exact Nat.le_trans h1 h2
  clear c0 c1 ER2
  have y0 := (cell_row (BOX.out u4 (KPX.out u4 B4.out).2.2).1 0 (.slice o0 n0 k0) rfl).1
  have y1 := (cell_row (BOX.out u4 (KPX.out u4 B4.out).2.2).1 1 (.slice oa nb kb) rfl).1
  have bw4 := (BOX.out u4 (KPX.out u4 B4.out).2.2).2.2
  have CA : Hid (Calls Tryz.prog 18 #[.agg #[.slice o0 n0 k0, .slice oa nb kb], .string x] u4 fun e w' => e = .returned (.int .i64 (atZI Bs x)) ∧ Below u4.heap.size u4 w') := atZ_any S T Bs _ _ _ _ _ _ x u4 (H0.out u4 bw4) (H1.out u4 bw4) (HS.out u4 bw4)
  go_wp2_with fail
  refine CA.out.mono ?_; rintro e u5 ⟨rfl, hb5⟩
  have B5 : Hid (Below u3.heap.size u3 u5) := B4.out.trans (hb5.mono B4.out.size)
  clear hb5 y0 y1 CA bw4
  by_cases hat : 0 ≤ atZI Bs x
  · have ER : Hid (RR = ((T, Bs), 3)) := by show _ = _; rw [HRR.out]; unfold entS; rw [if_pos EB.out, if_pos CC.out, if_pos hat]
    obtain ⟨g0x, _⟩ := cell_row (KPX.out u5 B5.out).1 0 (.slice oc0 mt kc0) rfl
    obtain ⟨g1x, _⟩ := cell_row (KPX.out u5 B5.out).1 1 (.slice oc1 nb kc1) rfl
    obtain ⟨z0, f0⟩ := cell_row (BOX.out u5 (KPX.out u5 B5.out).2.2).2.1 0 (.slice none 0 0) rfl
    obtain ⟨z1, f1⟩ := cell_row (BOX.out u5 (KPX.out u5 B5.out).2.2).2.1 1 (.slice none 0 0) rfl
    have FA0 : Hid (AtL (fun b => W.heap.size ≤ b ∧ b < u5.heap.size) u5 RR.1.1 (.slice oc0 mt kc0)) := by rw [ER.out]; exact (AtL.up (S := fun b => u1.heap.size ≤ b ∧ b < u5.heap.size) (KPX.out u5 B5.out).2.1.at_.1 (fun b hb => ⟨by omega, hb.2⟩))
    have FA1 : Hid (AtL (fun b => W.heap.size ≤ b ∧ b < u5.heap.size) u5 RR.1.2 (.slice oc1 nb kc1)) := by rw [ER.out]; exact (AtL.up (S := fun b => u1.heap.size ≤ b ∧ b < u5.heap.size) (HMP.out ▸ (KPX.out u5 B5.out).2.1.at_.2) (fun b hb => ⟨by omega, hb.2⟩))
    have FC : Hid (RR.2 = 3) := by show _ = _; rw [ER.out]
    have FS : Hid (W.heap.size ≤ u5.heap.size) := ((KPX.out u5 B5.out).2.2).size
    have FW : Hid (Below w.heap.size w u5) := (BOX.out u5 (KPX.out u5 B5.out).2.2).2.2
    have FB : Hid (u5.heap[w.heap.size + 1]? = some (.cells #[.slice none 0 0, .slice none 0 0] 26 (0, 0))) := (BOX.out u5 (KPX.out u5 B5.out).2.2).2.1
    go_wp2_with fail
    have FIN := set_row (set_row FB.out 0 (.slice oc0 mt kc0)) 1 (.slice oc1 nb kc1)
    have OTH : ∀ q, q ≠ w.heap.size + 1 → ((u5.setCell ⟨w.heap.size + 1, 0, none⟩ (.slice oc0 mt kc0)).setCell ⟨w.heap.size + 1, 1, none⟩ (.slice oc1 nb kc1)).heap[q]? = u5.heap[q]? := fun q hq => (Below.heap_setCell _ _ _ _ hq).trans (Below.heap_setCell _ _ _ _ hq)
    have BF : Below w.heap.size w ((u5.setCell ⟨w.heap.size + 1, 0, none⟩ (.slice oc0 mt kc0)).setCell ⟨w.heap.size + 1, 1, none⟩ (.slice oc1 nb kc1)) := (FW.out.setCell (p := ⟨w.heap.size + 1, 0, none⟩) (Nat.le_succ _) _).setCell (p := ⟨w.heap.size + 1, 1, none⟩) (Nat.le_succ _) _
    have SZ : ((u5.setCell ⟨w.heap.size + 1, 0, none⟩ (.slice oc0 mt kc0)).setCell ⟨w.heap.size + 1, 1, none⟩ (.slice oc1 nb kc1)).heap.size = u5.heap.size := by simp
    generalize (u5.setCell ⟨w.heap.size + 1, 0, none⟩ (.slice oc0 mt kc0)).setCell ⟨w.heap.size + 1, 1, none⟩ (.slice oc1 nb kc1) = F at FIN OTH BF SZ ⊢
    have g0 := (cell_row FIN 0 (.slice oc0 mt kc0) rfl).1
    have g1 := (cell_row FIN 1 (.slice oc1 nb kc1) rfl).1
    have fs := FS.out
    refine bodyPost_ret (v := .tuple #[.agg #[.slice oc0 mt kc0, .slice oc1 nb kc1], .int .i64 (3)]) (by simp [results, Tryz.results13, go_sem, g0, g1]) rfl ⟨_, _, by rw [FC.out], ?_, ?_, BF⟩
    · exact AtL.up (FA0.out.same (fun b hb => OTH b (by omega))) (fun b hb => ⟨by omega, by omega⟩)
    · exact AtL.up (FA1.out.same (fun b hb => OTH b (by omega))) (fun b hb => ⟨by omega, by omega⟩)
  have HAT : Hid (¬ 0 ≤ atZI Bs x) := hat
  have hat' : atZI Bs x < 0 := by omega
  have y1 := (cell_row (BOX.out u5 (KPX.out u5 B5.out).2.2).1 1 (.slice oa nb kb) rfl).1
  by_cases h5 : 5 ≤ nb
  · have d5 : (5 : Int) ≤ (nb : Int) := by omega
    have ER : Hid (RR = ((T, Bs), 4)) := by show _ = _; rw [HRR.out]; unfold entS; rw [if_pos EB.out, if_pos CC.out, if_neg HAT.out, if_pos (by have := ENB.out; simp only; omega)]
    obtain ⟨g0x, _⟩ := cell_row (KPX.out u5 B5.out).1 0 (.slice oc0 mt kc0) rfl
    obtain ⟨g1x, _⟩ := cell_row (KPX.out u5 B5.out).1 1 (.slice oc1 nb kc1) rfl
    obtain ⟨z0, f0⟩ := cell_row (BOX.out u5 (KPX.out u5 B5.out).2.2).2.1 0 (.slice none 0 0) rfl
    obtain ⟨z1, f1⟩ := cell_row (BOX.out u5 (KPX.out u5 B5.out).2.2).2.1 1 (.slice none 0 0) rfl
    have FA0 : Hid (AtL (fun b => W.heap.size ≤ b ∧ b < u5.heap.size) u5 RR.1.1 (.slice oc0 mt kc0)) := by rw [ER.out]; exact (AtL.up (S := fun b => u1.heap.size ≤ b ∧ b < u5.heap.size) (KPX.out u5 B5.out).2.1.at_.1 (fun b hb => ⟨by omega, hb.2⟩))
    have FA1 : Hid (AtL (fun b => W.heap.size ≤ b ∧ b < u5.heap.size) u5 RR.1.2 (.slice oc1 nb kc1)) := by rw [ER.out]; exact (AtL.up (S := fun b => u1.heap.size ≤ b ∧ b < u5.heap.size) (HMP.out ▸ (KPX.out u5 B5.out).2.1.at_.2) (fun b hb => ⟨by omega, hb.2⟩))
    have FC : Hid (RR.2 = 4) := by show _ = _; rw [ER.out]
    have FS : Hid (W.heap.size ≤ u5.heap.size) := ((KPX.out u5 B5.out).2.2).size
    have FW : Hid (Below w.heap.size w u5) := (BOX.out u5 (KPX.out u5 B5.out).2.2).2.2
    have FB : Hid (u5.heap[w.heap.size + 1]? = some (.cells #[.slice none 0 0, .slice none 0 0] 26 (0, 0))) := (BOX.out u5 (KPX.out u5 B5.out).2.2).2.1
    go_wp2_with fail
    have FIN := set_row (set_row FB.out 0 (.slice oc0 mt kc0)) 1 (.slice oc1 nb kc1)
    have OTH : ∀ q, q ≠ w.heap.size + 1 → ((u5.setCell ⟨w.heap.size + 1, 0, none⟩ (.slice oc0 mt kc0)).setCell ⟨w.heap.size + 1, 1, none⟩ (.slice oc1 nb kc1)).heap[q]? = u5.heap[q]? := fun q hq => (Below.heap_setCell _ _ _ _ hq).trans (Below.heap_setCell _ _ _ _ hq)
    have BF : Below w.heap.size w ((u5.setCell ⟨w.heap.size + 1, 0, none⟩ (.slice oc0 mt kc0)).setCell ⟨w.heap.size + 1, 1, none⟩ (.slice oc1 nb kc1)) := (FW.out.setCell (p := ⟨w.heap.size + 1, 0, none⟩) (Nat.le_succ _) _).setCell (p := ⟨w.heap.size + 1, 1, none⟩) (Nat.le_succ _) _
    have SZ : ((u5.setCell ⟨w.heap.size + 1, 0, none⟩ (.slice oc0 mt kc0)).setCell ⟨w.heap.size + 1, 1, none⟩ (.slice oc1 nb kc1)).heap.size = u5.heap.size := by simp
    generalize (u5.setCell ⟨w.heap.size + 1, 0, none⟩ (.slice oc0 mt kc0)).setCell ⟨w.heap.size + 1, 1, none⟩ (.slice oc1 nb kc1) = F at FIN OTH BF SZ ⊢
    have g0 := (cell_row FIN 0 (.slice oc0 mt kc0) rfl).1
    have g1 := (cell_row FIN 1 (.slice oc1 nb kc1) rfl).1
    have fs := FS.out
    refine bodyPost_ret (v := .tuple #[.agg #[.slice oc0 mt kc0, .slice oc1 nb kc1], .int .i64 (4)]) (by simp [results, Tryz.results13, go_sem, g0, g1]) rfl ⟨_, _, by rw [FC.out], ?_, ?_, BF⟩
    · exact AtL.up (FA0.out.same (fun b hb => OTH b (by omega))) (fun b hb => ⟨by omega, by omega⟩)
    · exact AtL.up (FA1.out.same (fun b hb => OTH b (by omega))) (fun b hb => ⟨by omega, by omega⟩)
  have d5 : ¬ ((5 : Int) ≤ (nb : Int)) := by omega
  have ERF : Hid (∀ k, posB Bs x = k → RR = ((T, Bs.take k ++ [(x, [], nd)] ++ Bs.drop k), 0)) := fun k hk => by rw [HRR.out]; unfold entS; rw [if_pos EB.out, if_pos CC.out, if_neg HAT.out, if_neg (by have := ENB.out; simp only; omega)]; simp only [hk]
  clear hat
  obtain ⟨kx, bkx, _⟩ := KPX.out u5 B5.out
  have s5 := B5.out.size
  have ZND : Hid (∀ s ∈ nd, s.size ≤ maxLen) := flatS.ok_all (HN.out w (Below.refl _ _))
  have HONE : Hid (∀ z ∈ enc 3 eH L, z.oneCell' = true) := fun z hz => by
    obtain ⟨a, ha, j, hj, rfl⟩ := enc_mem hz
    have he := bkx.bs.el a ha
    obtain ⟨p1, p2, e1⟩ := Row.form he.h
    obtain ⟨p3, p4, e2⟩ := Row.form he.n
    rcases (show j = 0 ∨ j = 1 ∨ j = 2 by omega) with rfl | rfl | rfl
    · rfl
    · show (a.2.1.1).oneCell' = true; rw [e1]; rfl
    · show (a.2.2.1).oneCell' = true; rw [e2]; rfl
  by_cases hn0 : nb = 0
  case pos =>
    have hL : L = [] := List.eq_nil_of_length_eq_zero (by rw [ELB.out]; exact hn0)
    have HL : Hid (L = []) := hL
    have hv := bkx.em hL
    clear hL
    cases hv
    have x1 := (cell_row kx 1 (.slice none 0 0) rfl).1
    have HPOS : Hid (posB Bs x = 0) := pos_at (Nat.zero_le _) (fun j hj h => by omega) (fun h => by have := ENB.out; omega)
    have hkle : 0 ≤ 0 := Nat.le_refl _
    clear kx bkx hn0
    go_wp2_with fail
    clear y1 hat'
    go_loop [9] (fun i => i = .int .i64 0) (fun _ => 0)
    case atStart => rfl
    case round =>
      subst hrel
      go_wp2_with fail
      have qx := fun d os => cell_regrown x1 d os
      have SA : Hid (Src u5 (.slice none 0 0) 0 3 (enc 3 eH (L.take 0))) := by rw [List.take_zero]; exact Src.none_ u5 3
      have SB : Hid (Src u5 (.slice none 0 0) (0) 3 (enc 3 eH (L.drop 0))) := by rw [HL.out]; exact Src.none_ u5 3
      have ER : Hid (RR = ((T, Bs.take 0 ++ [(x, [], nd)] ++ Bs.drop 0), 0)) := ERF.out 0 HPOS.out
      refine wp_region_mix 16 [1, 2, 3, 4, 6, 7, 12, 13, 14, 15] (by kernel_rfl) (by kernel_rfl) ?_
      simp only [List.filterMap_cons, List.filterMap_nil, List.getElem?_cons_succ, List.getElem?_cons_zero]
      repeat (first | go_big_quiet_step (fail) | quiet_step (fail))
      refine wpQuiet_nil ?_
      have SBG : Hid (Src u5 (.slice none 0 0) 0 3 (enc 3 eH (L.drop 0))) := SB
      clear x1 qx
      have hdr : Below u5.heap.size u5 u5.drew := (Below.refl _ _).drew
      obtain ⟨Y, hY⟩ : ∃ Y, Y = u5.drew.alloc (.cells #[] 43) := ⟨_, rfl⟩
      have bY : Below u5.heap.size u5 Y := by rw [hY]; exact hdr.alloc (Nat.le_refl _) _
      have rY : Row Y u5.heap.size 43 3 eH (.slice (some ⟨u5.heap.size, 0, none⟩) 0 0) [] := by rw [hY]; exact Row.made u5.drew 43 3 eH (Nat.le_refl _)
      obtain ⟨v5, w5, hr5, ho5, hb5⟩ := app_newM (P := Tryz.prog) elB (B := u5.heap.size) (g := u5.heap.size) (w := Y) rY (by have := bY.size; omega) (SA.out.below bY) (by unfold maxLen; omega) (by omega) 24
      have bw5 : Below u5.heap.size u5 w5 := bY.trans (hb5.mono bY.size)
      refine step1M (md := .any) (f := 5) (i := 0) (d := 54) (.slice (some ⟨u5.heap.size, 0, none⟩) 0 0) (u5.drew.alloc (.cells #[] 43)) ⟨rfl, rfl, rfl, by decide⟩ (by kernel_rfl) ?r0 (regrown_of_below (by rw [← hY]; exact bY)) ?_
      case r0 => go_simp
      rw [← hY]
      simp only [Act.put, List.setIfInBounds_toArray, List.set_cons_zero, List.set_cons_succ]
      refine step1M (md := .any) (f := 4) (i := 5) (d := 59) (v5) (w5) ⟨rfl, rfl, rfl, by decide⟩ (by kernel_rfl) ?r5 (regrown_of_below bw5) ?_
      case r5 => exact exec_runM (s := .tmp 54) (x := .tmp 58) rfl rfl rfl hr5
      simp only [Act.put, List.setIfInBounds_toArray, List.set_cons_zero, List.set_cons_succ]
      have bwW5 : Below w.heap.size w w5 := (BOX.out u5 (KPX.out u5 B5.out).2.2).2.2.trans (bw5.mono (BOX.out u5 (KPX.out u5 B5.out).2.2).2.2.size)
      refine call1 (md := .any) (f := 3) (i := 8) (dc := 62) (fn := 21) ⟨rfl, rfl, rfl, by decide⟩ (by kernel_rfl) ?rc ((namesC_any SN (.slice on nn kn) nd w5 (HN.out w5 bwW5) (by have := SND.out; omega) (HSN.out w5 bwW5)).mono ?_)
      case rc => go_simp
      rintro e w6 ⟨rn, rfl, hrn, _, hb6⟩
      have bw6 : Below u5.heap.size u5 w6 := bw5.trans (hb6.mono bw5.size)
      obtain ⟨orn, krn, ern⟩ := Row.form hrn
      obtain ⟨mn, emn⟩ : ∃ n, nd.length = n := ⟨_, rfl⟩
      rw [emn] at ern
      subst ern
      have HRN : Hid (Row w6 w5.heap.size 9 1 eS (.slice orn mn krn) nd) := hrn
      have RO5 : Row w5 u5.heap.size 43 3 eH v5 (L.take 0) := by show World.ownsRow _ _ _ _ _ _ _; rw [List.length_take, ELB.out, Nat.min_eq_left hkle]; exact ho5
      have RO6 : Hid (Row w6 u5.heap.size 43 3 eH v5 (L.take 0)) := Row.below RO5 hb6
      clear hrn emn ho5 hr5 RO5
      refine ⟨_, rfl, regrown_of_below bw6, ?_⟩
      simp only [Act.put, List.setIfInBounds_toArray, List.set_cons_zero, List.set_cons_succ]
      refine step1M (md := .any) (f := 2) (i := 9) (d := 63) (.agg #[.string x, .slice none 0 0, .slice orn mn krn]) (w6) ⟨rfl, rfl, rfl, by decide⟩ (by kernel_rfl) ?r9 (regrown_of_below bw6) ?_
      case r9 => go_simp
      simp only [Act.put, List.setIfInBounds_toArray, List.set_cons_zero, List.set_cons_succ]
      refine step1M (md := .any) (f := 1) (i := 10) (d := 64) (.slice (some ⟨w6.heap.size, 0, none⟩) 1 1) (w6.alloc (.cells #[.string x, .slice none 0 0, .slice orn mn krn] 43)) ⟨rfl, rfl, rfl, by decide⟩ (by kernel_rfl) ?r10 (regrown_of_below (bw6.alloc bw6.size _)) ?_
      case r10 => go_simp
      simp only [Act.put, List.setIfInBounds_toArray, List.set_cons_zero, List.set_cons_succ]
      obtain ⟨w7, hw7⟩ : ∃ X, X = w6.alloc (.cells #[.string x, .slice none 0 0, .slice orn mn krn] 43) := ⟨_, rfl⟩
      have bw7 : Below u5.heap.size u5 w7 := by rw [hw7]; exact bw6.alloc bw6.size _
      have b67 : Below w6.heap.size w6 w7 := by rw [hw7]; exact (Below.refl _ _).alloc (Nat.le_refl _) _
      have S1 : Src w7 (.slice (some ⟨w6.heap.size, 0, none⟩) 1 1) 1 3 [.string x, .slice none 0 0, .slice orn mn krn] := by rw [hw7]; exact own_src4 (own_built (base := 0) (size := 3) (k := 1) (Nat.zero_le _) (by unfold maxLen; omega) rfl)
      have RO7 : Row w7 u5.heap.size 43 3 eH v5 (L.take 0) := Row.below RO6.out b67
      have O57 : w7.ownsRow u5.heap.size 43 3 v5 0 (enc 3 eH (L.take 0)) := by
        have h := RO7
        rw [Row, List.length_take, ELB.out, Nat.min_eq_left hkle] at h
        exact h
      have s67 := bw6.size
      have s7 := b67.size
      obtain ⟨v11, w11, hr11, ho11, hg11, hk11⟩ := run_app (P := Tryz.prog) elB O57 S1 (by intro z hz; simp at hz; rcases hz with rfl | rfl | rfl <;> rfl) (by unfold maxLen; omega) (by omega) (by omega) 24
      have lt5 : ∀ g', v5.ownBlock = some g' → u5.heap.size ≤ g' := fun g' hg' => (World.ownsRow.lt O57 g' hg').1
      have bw11 : Below u5.heap.size u5 w11 := bw7.grown hg11 (by omega) (fun i hi => lt5 i hi)
      rw [← hw7]
      refine step1M (md := .any) (f := 0) (i := 11) (d := 65) (v11) (w11) ⟨rfl, rfl, rfl, by decide⟩ (by kernel_rfl) ?r11 (regrown_of_below bw11) ?_
      case r11 => exact exec_runM (s := .tmp 59) (x := .tmp 64) rfl rfl rfl hr11
      refine ⟨by kernel_rfl, ?_⟩
      simp only [List.drop_succ_cons, List.drop_zero]
      simp only [Act.put, List.setIfInBounds_toArray, List.set_cons_zero, List.set_cons_succ]
      have NEWN : Hid (Row w11 w5.heap.size 9 1 eS (.slice orn mn krn) nd) := strRow_kept (Row.below HRN.out b67) fun q' c hc => hg11.block q' (Array.getElem?_eq_some_iff.1 hc).1 (fun e => by
        obtain ⟨c', hc'⟩ := Row.typed RO7 q' e.symm
        rw [hc] at hc'
        injection hc' with h1
        injection h1 with _ h2
        revert h2
        decide)
      have SB11 : Hid (Src w11 (.slice none 0 0) (0) 3 (enc 3 eH (L.drop 0))) := SBG.out.below bw11
      have ONE2 : Hid (∀ z ∈ enc 3 eH (L.drop 0), z.oneCell' = true) := fun z hz => HONE.out z (by rw [← enc_drop 3 eH L 0] at hz; exact List.mem_of_mem_drop hz)
      have OWN11 : Hid (w11.ownsRow u5.heap.size 43 3 v11 (1) (enc 3 eH (L.take 0) ++ [.string x, .slice none 0 0, .slice orn mn krn])) := ho11
      have BW11 : Hid (Below u5.heap.size u5 w11) := bw11
      have s11 := bw11.size
      have s55 := bw5.size
      clear hr11 ho11 hg11 hk11 bw11 O57 RO6 RO7 S1 hw7 bw7 b67 lt5 hb6 bw6 bw5 hb5 rY bY hY hdr SA SB HRN bwW5
      go_upto_region 14 with (first
        | (at_builtin; refine wpList_app elB rfl _ _ rfl rfl rfl OWN11.out SB11.out ONE2.out (by unfold maxLen; omega) (by omega) (by omega) ?_; intro v8 u8 hown0 hgr0 _; have hown : u8.ownsRow u5.heap.size 43 3 v8 (1) (enc 3 eH (L.take 0) ++ [.string x, .slice none 0 0, .slice orn mn krn] ++ enc 3 eH (L.drop 0)) := hown0; clear hown0; obtain ⟨ov8, kv8, rfl⟩ := row_shape4 hown; have hgr : w11.grownBy u8 v11.ownBlock := hgr0; have lt11 : ∀ g', v11.ownBlock = some g' → u5.heap.size ≤ g' := (fun g' hg' => (World.ownsRow.lt OWN11.out g' hg').1); have hb8 : u8.heap[gx]? = some (.cells #[.slice oc0 mt kc0, .slice none 0 0] 26 (0, 0)) := (hgr.block gx (by omega) (fun e => by have := lt11 gx e.symm; omega)).trans ((BW11.out.block gx (by omega)).trans (KPX.out u5 B5.out).1); obtain ⟨zc8, zf8⟩ := cell_row hb8 1 _ rfl))
      have LOW : ∀ b, b < w11.heap.size → b ≠ gx → (∀ c, w11.heap[b]? ≠ some (.cells c 43 (0, 0))) → (u8.setCell ⟨gx, 1, none⟩ (.slice ov8 1 kv8)).heap[b]? = w11.heap[b]? := fun b hb hbx hty => (Below.heap_setCell _ _ _ _ hbx).trans (hgr.block b hb (fun e => by
        rcases OWN11.out.2 with ⟨h1, _⟩ | ⟨g', cap', cur', h1, _, hg', _⟩
        · rw [h1] at e; cases e
        · rw [h1] at e; cases e; exact hty _ hg'))
      have STR : ∀ (b : Nat) (c : Array Value), w11.heap[b]? = some (.cells c 9 (0, 0)) → (u8.setCell ⟨gx, 1, none⟩ (.slice ov8 1 kv8)).heap[b]? = w11.heap[b]? := fun b c hc => LOW b (Array.getElem?_eq_some_iff.1 hc).1 (fun e => by
        subst e
        rw [(BW11.out.block b (by omega)).trans (KPX.out u5 B5.out).1] at hc
        injection hc with h1
        injection h1 with _ h2
        revert h2
        decide) (fun c' h => by
        rw [hc] at h
        injection h with h1
        injection h1 with _ h2
        revert h2
        decide)
      have bk11 := (KPX.out u5 B5.out).2.1.below BW11.out
      have KZ : Hid (BsO u1.heap.size (u8.setCell ⟨gx, 1, none⟩ (.slice ov8 1 kv8)) (.slice ov8 1 kv8) (L.take 0 ++ [(x, (.slice none 0 0, []), (.slice orn mn krn, nd))] ++ L.drop 0)) := by
        refine ⟨Row.low (B := u5.heap.size) (Row.block (w := u8) ?_ (fun g' hg' => Below.heap_setCell _ _ _ _ (fun e => by
          have h1 : g' = gx := e
          have := (World.ownsRow.lt hown g' hg').1
          omega))) (by omega), fun y hy => ?_⟩
        · show World.ownsRow _ _ _ _ _ _ _
          rw [enc_append, enc_append, List.length_append, List.length_append, List.length_take, List.length_drop, ELB.out, Nat.min_eq_left hkle]
          exact hown
        · rcases List.mem_append.1 hy with hy | hy
          · rcases List.mem_append.1 hy with hy | hy
            · exact (bk11.bs.el y (List.mem_of_mem_take hy)).kept STR
            · rw [List.mem_singleton.1 hy]
              exact ⟨Row.nil _ _ _ _ _, Row.low (strRow_kept NEWN.out STR) (by omega), hx, (fun s hs => by cases hs), fun s hs => ZND.out s hs⟩
          · exact (bk11.bs.el y (List.mem_of_mem_drop hy)).kept STR
      have TZ : Hid (AtL (fun b => u1.heap.size ≤ b ∧ b < (u8.setCell ⟨gx, 1, none⟩ (.slice ov8 1 kv8)).heap.size) (u8.setCell ⟨gx, 1, none⟩ (.slice ov8 1 kv8)) T (.slice oc0 mt kc0)) := str_at (strRow_kept bk11.th STR) bk11.zt
      have BZ : Hid (Below W.heap.size W (u8.setCell ⟨gx, 1, none⟩ (.slice ov8 1 kv8))) := by
        have h1 : Below W.heap.size W w11 := (KPX.out u5 B5.out).2.2.trans (BW11.out.mono (by omega))
        exact (h1.grown hgr (by omega) (fun i hi => by have := lt11 i hi; omega)).setCell (p := ⟨gx, 1, none⟩) hgW _
      have RZ : Hid ((u8.setCell ⟨gx, 1, none⟩ (.slice ov8 1 kv8)).heap[gx]? = some (.cells #[.slice oc0 mt kc0, .slice ov8 1 kv8] 26 (0, 0))) := by show _ = _; rw [set_row hb8 1 _]; rfl
      clear hown hgr hgr0 hb8 zc8 zf8 LOW lt11 STR bk11
      generalize (u8.setCell ⟨gx, 1, none⟩ (.slice ov8 1 kv8)) = Z at KZ TZ BZ RZ ⊢
      have MZ : Hid (AtL (fun b => u1.heap.size ≤ b ∧ b < Z.heap.size) Z (Bs.take 0 ++ [(x, [], nd)] ++ Bs.drop 0) (.slice ov8 1 kv8)) := by
        have := KZ.out.at_
        rw [List.map_append, List.map_append, List.map_take, List.map_drop, HMP.out] at this
        exact this
      obtain ⟨g0x, _⟩ := cell_row RZ.out 0 (.slice oc0 mt kc0) rfl
      obtain ⟨g1x, _⟩ := cell_row RZ.out 1 (.slice ov8 1 kv8) rfl
      have TOT : Hid (Lay.tot (α := DShareBook) (T, Bs.take 0 ++ [(x, [], nd)] ++ Bs.drop 0) ≤ 1048576) := by
        have h1 : entS (T, Bs) x nd = ((T, Bs.take 0 ++ [(x, [], nd)] ++ Bs.drop 0), 0) := HRR.out.symm.trans ER.out
        have h2 := ent_small (x := x) (nd := nd) (bok_small OK.out).1 (SmL.of_sub (bok_small OK.out).1.1 CC.out.2 (by have := SND.out; omega)) (by have := name_smallM CC.out.1; omega)
        rw [h1] at h2
        exact h2.tot
      go_wp2_with fail
      refine (copyZ_any (fun b => u1.heap.size ≤ b ∧ b < Z.heap.size) T (Bs.take 0 ++ [(x, [], nd)] ++ Bs.drop 0) _ _ _ _ _ _ Z TZ.out MZ.out (fun b hb => hb.2) TOT.out).mono ?_
      rintro e Zf ⟨d0, d1, Lf, rfl, hbkf, hmapf, hbf⟩
      obtain ⟨of0, kf0, rfl⟩ := Row.form hbkf.th
      obtain ⟨of1, kf1, rfl⟩ := Row.form hbkf.bs.ro
      obtain ⟨mf0, ef0⟩ : ∃ n, T.length = n := ⟨_, rfl⟩
      obtain ⟨mf1, ef1⟩ : ∃ n, Lf.length = n := ⟨_, rfl⟩
      rw [ef0, ef1] at hbkf
      rw [ef0, ef1]
      have BKF : Hid (BkO Z.heap.size Zf (.slice of0 mf0 kf0) (.slice of1 mf1 kf1) T Lf) := hbkf
      have HMF : Hid (Lf.map dH = Bs.take 0 ++ [(x, [], nd)] ++ Bs.drop 0) := hmapf
      have BFF : Hid (Below W.heap.size W Zf) := BZ.out.trans (hbf.mono BZ.out.size)
      have sZf := BZ.out.size
      clear hbkf hmapf hbf ef0 ef1 g0x g1x
      obtain ⟨z0, f0⟩ := cell_row (BOX.out Zf BFF.out).2.1 0 (.slice none 0 0) rfl
      obtain ⟨z1, f1⟩ := cell_row (BOX.out Zf BFF.out).2.1 1 (.slice none 0 0) rfl
      have FA0 : Hid (AtL (fun b => W.heap.size ≤ b ∧ b < Zf.heap.size) Zf RR.1.1 (.slice of0 mf0 kf0)) := by rw [ER.out]; exact (AtL.up (S := fun b => Z.heap.size ≤ b ∧ b < Zf.heap.size) BKF.out.at_.1 (fun b hb => ⟨by omega, hb.2⟩))
      have FA1 : Hid (AtL (fun b => W.heap.size ≤ b ∧ b < Zf.heap.size) Zf RR.1.2 (.slice of1 mf1 kf1)) := by rw [ER.out]; exact (by have h9 := BKF.out.at_.2; rw [HMF.out] at h9; exact AtL.up h9 (fun b hb => ⟨by omega, hb.2⟩))
      have FC : Hid (RR.2 = 0) := by show _ = _; rw [ER.out]
      have FS : Hid (W.heap.size ≤ Zf.heap.size) := (BFF.out).size
      have FW : Hid (Below w.heap.size w Zf) := (BOX.out Zf BFF.out).2.2
      have FB : Hid (Zf.heap[w.heap.size + 1]? = some (.cells #[.slice none 0 0, .slice none 0 0] 26 (0, 0))) := (BOX.out Zf BFF.out).2.1
      go_wp2_with fail
      have FIN := set_row (set_row FB.out 0 (.slice of0 mf0 kf0)) 1 (.slice of1 mf1 kf1)
      have OTH : ∀ q, q ≠ w.heap.size + 1 → ((Zf.setCell ⟨w.heap.size + 1, 0, none⟩ (.slice of0 mf0 kf0)).setCell ⟨w.heap.size + 1, 1, none⟩ (.slice of1 mf1 kf1)).heap[q]? = Zf.heap[q]? := fun q hq => (Below.heap_setCell _ _ _ _ hq).trans (Below.heap_setCell _ _ _ _ hq)
      have BF : Below w.heap.size w ((Zf.setCell ⟨w.heap.size + 1, 0, none⟩ (.slice of0 mf0 kf0)).setCell ⟨w.heap.size + 1, 1, none⟩ (.slice of1 mf1 kf1)) := (FW.out.setCell (p := ⟨w.heap.size + 1, 0, none⟩) (Nat.le_succ _) _).setCell (p := ⟨w.heap.size + 1, 1, none⟩) (Nat.le_succ _) _
      have SZ : ((Zf.setCell ⟨w.heap.size + 1, 0, none⟩ (.slice of0 mf0 kf0)).setCell ⟨w.heap.size + 1, 1, none⟩ (.slice of1 mf1 kf1)).heap.size = Zf.heap.size := by simp
      generalize (Zf.setCell ⟨w.heap.size + 1, 0, none⟩ (.slice of0 mf0 kf0)).setCell ⟨w.heap.size + 1, 1, none⟩ (.slice of1 mf1 kf1) = F at FIN OTH BF SZ ⊢
      have g0 := (cell_row FIN 0 (.slice of0 mf0 kf0) rfl).1
      have g1 := (cell_row FIN 1 (.slice of1 mf1 kf1) rfl).1
      have fs := FS.out
      refine bodyPost_ret (v := .tuple #[.agg #[.slice of0 mf0 kf0, .slice of1 mf1 kf1], .int .i64 (0)]) (by simp [results, Tryz.results13, go_sem, g0, g1]) rfl ⟨_, _, by rw [FC.out], ?_, ?_, BF⟩
      · exact AtL.up (FA0.out.same (fun b hb => OTH b (by omega))) (fun b hb => ⟨by omega, by omega⟩)
      · exact AtL.up (FA1.out.same (fun b hb => OTH b (by omega))) (fun b hb => ⟨by omega, by omega⟩)
  obtain ⟨gr, ecap, hv, hgr0, hgr1, hce⟩ := Row.cell bkx.bs.ro (i := 0) (by rw [ELB.out]; omega)
  clear hce
  rw [ELB.out] at hv
  cases hv
  have hcap : nb ≤ kc1 := by
    rcases bkx.bs.ro.2 with ⟨h, _⟩ | ⟨g', cap', cur', h, _, _, hle, _⟩
    · cases h
    · cases h; rw [ELB.out] at hle; exact hle
  have SRC : Hid (Src u5 (.slice (some ⟨gr, 0, none⟩) nb kc1) nb 3 (enc 3 eH L)) := by
    have := own_src4 bkx.bs.ro
    rw [ELB.out] at this
    exact this
  have NAM : Hid (∀ i (hi : i < Bs.length), u5.cell? ⟨gr, i * 3, none⟩ = some (.string Bs[i].1)) := fun i hi => by
    have hiL : i < L.length := by rw [ELB.out]; have := ENB.out; omega
    obtain ⟨g2, c2, h2, _, _, h3⟩ := Row.cell bkx.bs.ro hiL
    cases h2
    have h4 := (h3 0 (by omega)).1
    rw [Nat.add_zero] at h4
    have h5 : Bs[i].1 = L[i].1 := by
      have := congrArg (fun l => l[i]?) HMP.out
      simp only [List.getElem?_map, List.getElem?_eq_getElem hiL, List.getElem?_eq_getElem hi, Option.map_some, Option.some.injEq] at this
      rw [← this]; rfl
    rw [h5]
    exact h4
  have x1 := (cell_row kx 1 (.slice (some ⟨gr, 0, none⟩) nb kc1) rfl).1
  clear kx bkx hn0
  go_wp2_with fail
  clear y1 hat'
  go_loop [9] (fun i => ∃ k : Nat, k ≤ nb ∧ i = .int .i64 k ∧ Hid (∀ j (hj : j < Bs.length), j < k → ltB Bs[j].1 x = true)) (fun i => nb - (intOf i).toNat)
  case atStart => exact ⟨0, Nat.zero_le _, rfl, fun _ _ h => by omega⟩
  case round =>
    obtain ⟨k, hkle, rfl, hall⟩ := hrel
    have hkc : (k : Int) ≤ (kc1 : Int) := by omega
    have hkn : (k : Int) ≤ (nb : Int) := by omega
    by_cases hlt : k < nb
    · have hkb : k < Bs.length := by have := ENB.out; omega
      have e0 := NAM.out k hkb
      obtain ⟨y, ey⟩ : ∃ y, Bs[k].1 = y := ⟨_, rfl⟩
      rw [ey] at e0
      cases hlb : Op.bytesLess y.toList x.toList
      · have HPOS : Hid (posB Bs x = k) := pos_at (by have := ENB.out; omega) hall.out (fun h => by rw [ey]; exact hlb)
        go_wp2_with fail
        clear e0 ey hlb hall
        have qx := fun d os => cell_regrown x1 d os
        have SA : Hid (Src u5 (.slice (some ⟨gr, 0, none⟩) k kc1) k 3 (enc 3 eH (L.take k))) := by have := SRC.out.take_ hkle kc1; rw [enc_take] at this; exact this
        have SB : Hid (Src u5 (.slice (if kc1 = k then some ⟨gr, 0, none⟩ else some ⟨gr, k * 3, none⟩) (nb - k) (kc1 - k)) (nb - k) 3 (enc 3 eH (L.drop k))) := by have := SRC.out.drop_ hkle hcap; rw [enc_drop] at this; show Src _ _ _ _ _; simpa using this
        have ER : Hid (RR = ((T, Bs.take k ++ [(x, [], nd)] ++ Bs.drop k), 0)) := ERF.out k HPOS.out
        refine wp_region_mix 16 [1, 2, 3, 4, 6, 7, 12, 13, 14, 15] (by kernel_rfl) (by kernel_rfl) ?_
        simp only [List.filterMap_cons, List.filterMap_nil, List.getElem?_cons_succ, List.getElem?_cons_zero]
        repeat (first | go_big_quiet_step (fail) | quiet_step (fail))
        refine wpQuiet_nil ?_
        generalize (if kc1 = k then some (⟨gr, 0, none⟩ : Addr) else some ⟨gr, k * 3, none⟩) = ad8 at SB ⊢
        generalize kc1 - k = cd8 at SB ⊢
        have SBG : Hid (Src u5 (.slice ad8 (nb - k) cd8) (nb - k) 3 (enc 3 eH (L.drop k))) := SB
        clear x1 qx hkc hkn
        have hdr : Below u5.heap.size u5 u5.drew := (Below.refl _ _).drew
        obtain ⟨Y, hY⟩ : ∃ Y, Y = u5.drew.alloc (.cells #[] 43) := ⟨_, rfl⟩
        have bY : Below u5.heap.size u5 Y := by rw [hY]; exact hdr.alloc (Nat.le_refl _) _
        have rY : Row Y u5.heap.size 43 3 eH (.slice (some ⟨u5.heap.size, 0, none⟩) 0 0) [] := by rw [hY]; exact Row.made u5.drew 43 3 eH (Nat.le_refl _)
        obtain ⟨v5, w5, hr5, ho5, hb5⟩ := app_newM (P := Tryz.prog) elB (B := u5.heap.size) (g := u5.heap.size) (w := Y) rY (by have := bY.size; omega) (SA.out.below bY) (by unfold maxLen; omega) (by omega) 24
        have bw5 : Below u5.heap.size u5 w5 := bY.trans (hb5.mono bY.size)
        refine step1M (md := .any) (f := 5) (i := 0) (d := 54) (.slice (some ⟨u5.heap.size, 0, none⟩) 0 0) (u5.drew.alloc (.cells #[] 43)) ⟨rfl, rfl, rfl, by decide⟩ (by kernel_rfl) ?r0 (regrown_of_below (by rw [← hY]; exact bY)) ?_
        case r0 => go_simp
        rw [← hY]
        simp only [Act.put, List.setIfInBounds_toArray, List.set_cons_zero, List.set_cons_succ]
        refine step1M (md := .any) (f := 4) (i := 5) (d := 59) (v5) (w5) ⟨rfl, rfl, rfl, by decide⟩ (by kernel_rfl) ?r5 (regrown_of_below bw5) ?_
        case r5 => exact exec_runM (s := .tmp 54) (x := .tmp 58) rfl rfl rfl hr5
        simp only [Act.put, List.setIfInBounds_toArray, List.set_cons_zero, List.set_cons_succ]
        have bwW5 : Below w.heap.size w w5 := (BOX.out u5 (KPX.out u5 B5.out).2.2).2.2.trans (bw5.mono (BOX.out u5 (KPX.out u5 B5.out).2.2).2.2.size)
        refine call1 (md := .any) (f := 3) (i := 8) (dc := 62) (fn := 21) ⟨rfl, rfl, rfl, by decide⟩ (by kernel_rfl) ?rc ((namesC_any SN (.slice on nn kn) nd w5 (HN.out w5 bwW5) (by have := SND.out; omega) (HSN.out w5 bwW5)).mono ?_)
        case rc => go_simp
        rintro e w6 ⟨rn, rfl, hrn, _, hb6⟩
        have bw6 : Below u5.heap.size u5 w6 := bw5.trans (hb6.mono bw5.size)
        obtain ⟨orn, krn, ern⟩ := Row.form hrn
        obtain ⟨mn, emn⟩ : ∃ n, nd.length = n := ⟨_, rfl⟩
        rw [emn] at ern
        subst ern
        have HRN : Hid (Row w6 w5.heap.size 9 1 eS (.slice orn mn krn) nd) := hrn
        have RO5 : Row w5 u5.heap.size 43 3 eH v5 (L.take k) := by show World.ownsRow _ _ _ _ _ _ _; rw [List.length_take, ELB.out, Nat.min_eq_left hkle]; exact ho5
        have RO6 : Hid (Row w6 u5.heap.size 43 3 eH v5 (L.take k)) := Row.below RO5 hb6
        clear hrn emn ho5 hr5 RO5
        refine ⟨_, rfl, regrown_of_below bw6, ?_⟩
        simp only [Act.put, List.setIfInBounds_toArray, List.set_cons_zero, List.set_cons_succ]
        refine step1M (md := .any) (f := 2) (i := 9) (d := 63) (.agg #[.string x, .slice none 0 0, .slice orn mn krn]) (w6) ⟨rfl, rfl, rfl, by decide⟩ (by kernel_rfl) ?r9 (regrown_of_below bw6) ?_
        case r9 => go_simp
        simp only [Act.put, List.setIfInBounds_toArray, List.set_cons_zero, List.set_cons_succ]
        refine step1M (md := .any) (f := 1) (i := 10) (d := 64) (.slice (some ⟨w6.heap.size, 0, none⟩) 1 1) (w6.alloc (.cells #[.string x, .slice none 0 0, .slice orn mn krn] 43)) ⟨rfl, rfl, rfl, by decide⟩ (by kernel_rfl) ?r10 (regrown_of_below (bw6.alloc bw6.size _)) ?_
        case r10 => go_simp
        simp only [Act.put, List.setIfInBounds_toArray, List.set_cons_zero, List.set_cons_succ]
        obtain ⟨w7, hw7⟩ : ∃ X, X = w6.alloc (.cells #[.string x, .slice none 0 0, .slice orn mn krn] 43) := ⟨_, rfl⟩
        have bw7 : Below u5.heap.size u5 w7 := by rw [hw7]; exact bw6.alloc bw6.size _
        have b67 : Below w6.heap.size w6 w7 := by rw [hw7]; exact (Below.refl _ _).alloc (Nat.le_refl _) _
        have S1 : Src w7 (.slice (some ⟨w6.heap.size, 0, none⟩) 1 1) 1 3 [.string x, .slice none 0 0, .slice orn mn krn] := by rw [hw7]; exact own_src4 (own_built (base := 0) (size := 3) (k := 1) (Nat.zero_le _) (by unfold maxLen; omega) rfl)
        have RO7 : Row w7 u5.heap.size 43 3 eH v5 (L.take k) := Row.below RO6.out b67
        have O57 : w7.ownsRow u5.heap.size 43 3 v5 k (enc 3 eH (L.take k)) := by
          have h := RO7
          rw [Row, List.length_take, ELB.out, Nat.min_eq_left hkle] at h
          exact h
        have s67 := bw6.size
        have s7 := b67.size
        obtain ⟨v11, w11, hr11, ho11, hg11, hk11⟩ := run_app (P := Tryz.prog) elB O57 S1 (by intro z hz; simp at hz; rcases hz with rfl | rfl | rfl <;> rfl) (by unfold maxLen; omega) (by omega) (by omega) 24
        have lt5 : ∀ g', v5.ownBlock = some g' → u5.heap.size ≤ g' := fun g' hg' => (World.ownsRow.lt O57 g' hg').1
        have bw11 : Below u5.heap.size u5 w11 := bw7.grown hg11 (by omega) (fun i hi => lt5 i hi)
        rw [← hw7]
        refine step1M (md := .any) (f := 0) (i := 11) (d := 65) (v11) (w11) ⟨rfl, rfl, rfl, by decide⟩ (by kernel_rfl) ?r11 (regrown_of_below bw11) ?_
        case r11 => exact exec_runM (s := .tmp 59) (x := .tmp 64) rfl rfl rfl hr11
        refine ⟨by kernel_rfl, ?_⟩
        simp only [List.drop_succ_cons, List.drop_zero]
        simp only [Act.put, List.setIfInBounds_toArray, List.set_cons_zero, List.set_cons_succ]
        have NEWN : Hid (Row w11 w5.heap.size 9 1 eS (.slice orn mn krn) nd) := strRow_kept (Row.below HRN.out b67) fun q' c hc => hg11.block q' (Array.getElem?_eq_some_iff.1 hc).1 (fun e => by
          obtain ⟨c', hc'⟩ := Row.typed RO7 q' e.symm
          rw [hc] at hc'
          injection hc' with h1
          injection h1 with _ h2
          revert h2
          decide)
        have SB11 : Hid (Src w11 (.slice ad8 (nb - k) cd8) (nb - k) 3 (enc 3 eH (L.drop k))) := SBG.out.below bw11
        have ONE2 : Hid (∀ z ∈ enc 3 eH (L.drop k), z.oneCell' = true) := fun z hz => HONE.out z (by rw [← enc_drop 3 eH L k] at hz; exact List.mem_of_mem_drop hz)
        have OWN11 : Hid (w11.ownsRow u5.heap.size 43 3 v11 (k + 1) (enc 3 eH (L.take k) ++ [.string x, .slice none 0 0, .slice orn mn krn])) := ho11
        have BW11 : Hid (Below u5.heap.size u5 w11) := bw11
        have s11 := bw11.size
        have s55 := bw5.size
        clear hr11 ho11 hg11 hk11 bw11 O57 RO6 RO7 S1 hw7 bw7 b67 lt5 hb6 bw6 bw5 hb5 rY bY hY hdr SA SB HRN bwW5
        go_upto_region 14 with (first
          | (at_builtin; refine wpList_app elB rfl _ _ rfl rfl rfl OWN11.out SB11.out ONE2.out (by unfold maxLen; omega) (by omega) (by omega) ?_; intro v8 u8 hown0 hgr0 _; have hown : u8.ownsRow u5.heap.size 43 3 v8 (k + 1 + (nb - k)) (enc 3 eH (L.take k) ++ [.string x, .slice none 0 0, .slice orn mn krn] ++ enc 3 eH (L.drop k)) := hown0; clear hown0; obtain ⟨ov8, kv8, rfl⟩ := row_shape4 hown; have hgr : w11.grownBy u8 v11.ownBlock := hgr0; have lt11 : ∀ g', v11.ownBlock = some g' → u5.heap.size ≤ g' := (fun g' hg' => (World.ownsRow.lt OWN11.out g' hg').1); have hb8 : u8.heap[gx]? = some (.cells #[.slice oc0 mt kc0, .slice (some ⟨gr, 0, none⟩) nb kc1] 26 (0, 0)) := (hgr.block gx (by omega) (fun e => by have := lt11 gx e.symm; omega)).trans ((BW11.out.block gx (by omega)).trans (KPX.out u5 B5.out).1); obtain ⟨zc8, zf8⟩ := cell_row hb8 1 _ rfl))
        have LOW : ∀ b, b < w11.heap.size → b ≠ gx → (∀ c, w11.heap[b]? ≠ some (.cells c 43 (0, 0))) → (u8.setCell ⟨gx, 1, none⟩ (.slice ov8 (k + 1 + (nb - k)) kv8)).heap[b]? = w11.heap[b]? := fun b hb hbx hty => (Below.heap_setCell _ _ _ _ hbx).trans (hgr.block b hb (fun e => by
          rcases OWN11.out.2 with ⟨h1, _⟩ | ⟨g', cap', cur', h1, _, hg', _⟩
          · rw [h1] at e; cases e
          · rw [h1] at e; cases e; exact hty _ hg'))
        have STR : ∀ (b : Nat) (c : Array Value), w11.heap[b]? = some (.cells c 9 (0, 0)) → (u8.setCell ⟨gx, 1, none⟩ (.slice ov8 (k + 1 + (nb - k)) kv8)).heap[b]? = w11.heap[b]? := fun b c hc => LOW b (Array.getElem?_eq_some_iff.1 hc).1 (fun e => by
          subst e
          rw [(BW11.out.block b (by omega)).trans (KPX.out u5 B5.out).1] at hc
          injection hc with h1
          injection h1 with _ h2
          revert h2
          decide) (fun c' h => by
          rw [hc] at h
          injection h with h1
          injection h1 with _ h2
          revert h2
          decide)
        have bk11 := (KPX.out u5 B5.out).2.1.below BW11.out
        have KZ : Hid (BsO u1.heap.size (u8.setCell ⟨gx, 1, none⟩ (.slice ov8 (k + 1 + (nb - k)) kv8)) (.slice ov8 (k + 1 + (nb - k)) kv8) (L.take k ++ [(x, (.slice none 0 0, []), (.slice orn mn krn, nd))] ++ L.drop k)) := by
          refine ⟨Row.low (B := u5.heap.size) (Row.block (w := u8) ?_ (fun g' hg' => Below.heap_setCell _ _ _ _ (fun e => by
            have h1 : g' = gx := e
            have := (World.ownsRow.lt hown g' hg').1
            omega))) (by omega), fun y hy => ?_⟩
          · show World.ownsRow _ _ _ _ _ _ _
            rw [enc_append, enc_append, List.length_append, List.length_append, List.length_take, List.length_drop, ELB.out, Nat.min_eq_left hkle]
            exact hown
          · rcases List.mem_append.1 hy with hy | hy
            · rcases List.mem_append.1 hy with hy | hy
              · exact (bk11.bs.el y (List.mem_of_mem_take hy)).kept STR
              · rw [List.mem_singleton.1 hy]
                exact ⟨Row.nil _ _ _ _ _, Row.low (strRow_kept NEWN.out STR) (by omega), hx, (fun s hs => by cases hs), fun s hs => ZND.out s hs⟩
            · exact (bk11.bs.el y (List.mem_of_mem_drop hy)).kept STR
        have TZ : Hid (AtL (fun b => u1.heap.size ≤ b ∧ b < (u8.setCell ⟨gx, 1, none⟩ (.slice ov8 (k + 1 + (nb - k)) kv8)).heap.size) (u8.setCell ⟨gx, 1, none⟩ (.slice ov8 (k + 1 + (nb - k)) kv8)) T (.slice oc0 mt kc0)) := str_at (strRow_kept bk11.th STR) bk11.zt
        have BZ : Hid (Below W.heap.size W (u8.setCell ⟨gx, 1, none⟩ (.slice ov8 (k + 1 + (nb - k)) kv8))) := by
          have h1 : Below W.heap.size W w11 := (KPX.out u5 B5.out).2.2.trans (BW11.out.mono (by omega))
          exact (h1.grown hgr (by omega) (fun i hi => by have := lt11 i hi; omega)).setCell (p := ⟨gx, 1, none⟩) hgW _
        have RZ : Hid ((u8.setCell ⟨gx, 1, none⟩ (.slice ov8 (k + 1 + (nb - k)) kv8)).heap[gx]? = some (.cells #[.slice oc0 mt kc0, .slice ov8 (k + 1 + (nb - k)) kv8] 26 (0, 0))) := by show _ = _; rw [set_row hb8 1 _]; rfl
        clear hown hgr hgr0 hb8 zc8 zf8 LOW lt11 STR bk11
        generalize (u8.setCell ⟨gx, 1, none⟩ (.slice ov8 (k + 1 + (nb - k)) kv8)) = Z at KZ TZ BZ RZ ⊢
        generalize k + 1 + (nb - k) = m8 at KZ RZ ⊢
        have MZ : Hid (AtL (fun b => u1.heap.size ≤ b ∧ b < Z.heap.size) Z (Bs.take k ++ [(x, [], nd)] ++ Bs.drop k) (.slice ov8 m8 kv8)) := by
          have := KZ.out.at_
          rw [List.map_append, List.map_append, List.map_take, List.map_drop, HMP.out] at this
          exact this
        obtain ⟨g0x, _⟩ := cell_row RZ.out 0 (.slice oc0 mt kc0) rfl
        obtain ⟨g1x, _⟩ := cell_row RZ.out 1 (.slice ov8 m8 kv8) rfl
        have TOT : Hid (Lay.tot (α := DShareBook) (T, Bs.take k ++ [(x, [], nd)] ++ Bs.drop k) ≤ 1048576) := by
          have h1 : entS (T, Bs) x nd = ((T, Bs.take k ++ [(x, [], nd)] ++ Bs.drop k), 0) := HRR.out.symm.trans ER.out
          have h2 := ent_small (x := x) (nd := nd) (bok_small OK.out).1 (SmL.of_sub (bok_small OK.out).1.1 CC.out.2 (by have := SND.out; omega)) (by have := name_smallM CC.out.1; omega)
          rw [h1] at h2
          exact h2.tot
        go_wp2_with fail
        refine (copyZ_any (fun b => u1.heap.size ≤ b ∧ b < Z.heap.size) T (Bs.take k ++ [(x, [], nd)] ++ Bs.drop k) _ _ _ _ _ _ Z TZ.out MZ.out (fun b hb => hb.2) TOT.out).mono ?_
        rintro e Zf ⟨d0, d1, Lf, rfl, hbkf, hmapf, hbf⟩
        obtain ⟨of0, kf0, rfl⟩ := Row.form hbkf.th
        obtain ⟨of1, kf1, rfl⟩ := Row.form hbkf.bs.ro
        obtain ⟨mf0, ef0⟩ : ∃ n, T.length = n := ⟨_, rfl⟩
        obtain ⟨mf1, ef1⟩ : ∃ n, Lf.length = n := ⟨_, rfl⟩
        rw [ef0, ef1] at hbkf
        rw [ef0, ef1]
        have BKF : Hid (BkO Z.heap.size Zf (.slice of0 mf0 kf0) (.slice of1 mf1 kf1) T Lf) := hbkf
        have HMF : Hid (Lf.map dH = Bs.take k ++ [(x, [], nd)] ++ Bs.drop k) := hmapf
        have BFF : Hid (Below W.heap.size W Zf) := BZ.out.trans (hbf.mono BZ.out.size)
        have sZf := BZ.out.size
        clear hbkf hmapf hbf ef0 ef1 g0x g1x
        obtain ⟨z0, f0⟩ := cell_row (BOX.out Zf BFF.out).2.1 0 (.slice none 0 0) rfl
        obtain ⟨z1, f1⟩ := cell_row (BOX.out Zf BFF.out).2.1 1 (.slice none 0 0) rfl
        have FA0 : Hid (AtL (fun b => W.heap.size ≤ b ∧ b < Zf.heap.size) Zf RR.1.1 (.slice of0 mf0 kf0)) := by rw [ER.out]; exact (AtL.up (S := fun b => Z.heap.size ≤ b ∧ b < Zf.heap.size) BKF.out.at_.1 (fun b hb => ⟨by omega, hb.2⟩))
        have FA1 : Hid (AtL (fun b => W.heap.size ≤ b ∧ b < Zf.heap.size) Zf RR.1.2 (.slice of1 mf1 kf1)) := by rw [ER.out]; exact (by have h9 := BKF.out.at_.2; rw [HMF.out] at h9; exact AtL.up h9 (fun b hb => ⟨by omega, hb.2⟩))
        have FC : Hid (RR.2 = 0) := by show _ = _; rw [ER.out]
        have FS : Hid (W.heap.size ≤ Zf.heap.size) := (BFF.out).size
        have FW : Hid (Below w.heap.size w Zf) := (BOX.out Zf BFF.out).2.2
        have FB : Hid (Zf.heap[w.heap.size + 1]? = some (.cells #[.slice none 0 0, .slice none 0 0] 26 (0, 0))) := (BOX.out Zf BFF.out).2.1
        go_wp2_with fail
        have FIN := set_row (set_row FB.out 0 (.slice of0 mf0 kf0)) 1 (.slice of1 mf1 kf1)
        have OTH : ∀ q, q ≠ w.heap.size + 1 → ((Zf.setCell ⟨w.heap.size + 1, 0, none⟩ (.slice of0 mf0 kf0)).setCell ⟨w.heap.size + 1, 1, none⟩ (.slice of1 mf1 kf1)).heap[q]? = Zf.heap[q]? := fun q hq => (Below.heap_setCell _ _ _ _ hq).trans (Below.heap_setCell _ _ _ _ hq)
        have BF : Below w.heap.size w ((Zf.setCell ⟨w.heap.size + 1, 0, none⟩ (.slice of0 mf0 kf0)).setCell ⟨w.heap.size + 1, 1, none⟩ (.slice of1 mf1 kf1)) := (FW.out.setCell (p := ⟨w.heap.size + 1, 0, none⟩) (Nat.le_succ _) _).setCell (p := ⟨w.heap.size + 1, 1, none⟩) (Nat.le_succ _) _
        have SZ : ((Zf.setCell ⟨w.heap.size + 1, 0, none⟩ (.slice of0 mf0 kf0)).setCell ⟨w.heap.size + 1, 1, none⟩ (.slice of1 mf1 kf1)).heap.size = Zf.heap.size := by simp
        generalize (Zf.setCell ⟨w.heap.size + 1, 0, none⟩ (.slice of0 mf0 kf0)).setCell ⟨w.heap.size + 1, 1, none⟩ (.slice of1 mf1 kf1) = F at FIN OTH BF SZ ⊢
        have g0 := (cell_row FIN 0 (.slice of0 mf0 kf0) rfl).1
        have g1 := (cell_row FIN 1 (.slice of1 mf1 kf1) rfl).1
        have fs := FS.out
        refine bodyPost_ret (v := .tuple #[.agg #[.slice of0 mf0 kf0, .slice of1 mf1 kf1], .int .i64 (0)]) (by simp [results, Tryz.results13, go_sem, g0, g1]) rfl ⟨_, _, by rw [FC.out], ?_, ?_, BF⟩
        · exact AtL.up (FA0.out.same (fun b hb => OTH b (by omega))) (fun b hb => ⟨by omega, by omega⟩)
        · exact AtL.up (FA1.out.same (fun b hb => OTH b (by omega))) (fun b hb => ⟨by omega, by omega⟩)
      · go_wp2_with fail
        go_round
        case rel => exact ⟨k + 1, by omega, by go_num, fun j hj hjk => by
          by_cases e : j = k
          · subst e; rw [ey]; exact hlb
          · exact hall.out j hj (by omega)⟩
        case measure => simp [intOf]; omega
    · have HPOS : Hid (posB Bs x = k) := pos_at (by have := ENB.out; omega) hall.out (fun h => by have := ENB.out; omega)
      go_wp2_with fail
      clear hall
      have qx := fun d os => cell_regrown x1 d os
      have SA : Hid (Src u5 (.slice (some ⟨gr, 0, none⟩) k kc1) k 3 (enc 3 eH (L.take k))) := by have := SRC.out.take_ hkle kc1; rw [enc_take] at this; exact this
      have SB : Hid (Src u5 (.slice (if kc1 = k then some ⟨gr, 0, none⟩ else some ⟨gr, k * 3, none⟩) (nb - k) (kc1 - k)) (nb - k) 3 (enc 3 eH (L.drop k))) := by have := SRC.out.drop_ hkle hcap; rw [enc_drop] at this; show Src _ _ _ _ _; simpa using this
      have ER : Hid (RR = ((T, Bs.take k ++ [(x, [], nd)] ++ Bs.drop k), 0)) := ERF.out k HPOS.out
      refine wp_region_mix 16 [1, 2, 3, 4, 6, 7, 12, 13, 14, 15] (by kernel_rfl) (by kernel_rfl) ?_
      simp only [List.filterMap_cons, List.filterMap_nil, List.getElem?_cons_succ, List.getElem?_cons_zero]
      repeat (first | go_big_quiet_step (fail) | quiet_step (fail))
      refine wpQuiet_nil ?_
      generalize (if kc1 = k then some (⟨gr, 0, none⟩ : Addr) else some ⟨gr, k * 3, none⟩) = ad8 at SB ⊢
      generalize kc1 - k = cd8 at SB ⊢
      have SBG : Hid (Src u5 (.slice ad8 (nb - k) cd8) (nb - k) 3 (enc 3 eH (L.drop k))) := SB
      clear x1 qx hkc hkn
      have hdr : Below u5.heap.size u5 u5.drew := (Below.refl _ _).drew
      obtain ⟨Y, hY⟩ : ∃ Y, Y = u5.drew.alloc (.cells #[] 43) := ⟨_, rfl⟩
      have bY : Below u5.heap.size u5 Y := by rw [hY]; exact hdr.alloc (Nat.le_refl _) _
      have rY : Row Y u5.heap.size 43 3 eH (.slice (some ⟨u5.heap.size, 0, none⟩) 0 0) [] := by rw [hY]; exact Row.made u5.drew 43 3 eH (Nat.le_refl _)
      obtain ⟨v5, w5, hr5, ho5, hb5⟩ := app_newM (P := Tryz.prog) elB (B := u5.heap.size) (g := u5.heap.size) (w := Y) rY (by have := bY.size; omega) (SA.out.below bY) (by unfold maxLen; omega) (by omega) 24
      have bw5 : Below u5.heap.size u5 w5 := bY.trans (hb5.mono bY.size)
      refine step1M (md := .any) (f := 5) (i := 0) (d := 54) (.slice (some ⟨u5.heap.size, 0, none⟩) 0 0) (u5.drew.alloc (.cells #[] 43)) ⟨rfl, rfl, rfl, by decide⟩ (by kernel_rfl) ?r0 (regrown_of_below (by rw [← hY]; exact bY)) ?_
      case r0 => go_simp
      rw [← hY]
      simp only [Act.put, List.setIfInBounds_toArray, List.set_cons_zero, List.set_cons_succ]
      refine step1M (md := .any) (f := 4) (i := 5) (d := 59) (v5) (w5) ⟨rfl, rfl, rfl, by decide⟩ (by kernel_rfl) ?r5 (regrown_of_below bw5) ?_
      case r5 => exact exec_runM (s := .tmp 54) (x := .tmp 58) rfl rfl rfl hr5
      simp only [Act.put, List.setIfInBounds_toArray, List.set_cons_zero, List.set_cons_succ]
      have bwW5 : Below w.heap.size w w5 := (BOX.out u5 (KPX.out u5 B5.out).2.2).2.2.trans (bw5.mono (BOX.out u5 (KPX.out u5 B5.out).2.2).2.2.size)
      refine call1 (md := .any) (f := 3) (i := 8) (dc := 62) (fn := 21) ⟨rfl, rfl, rfl, by decide⟩ (by kernel_rfl) ?rc ((namesC_any SN (.slice on nn kn) nd w5 (HN.out w5 bwW5) (by have := SND.out; omega) (HSN.out w5 bwW5)).mono ?_)
      case rc => go_simp
      rintro e w6 ⟨rn, rfl, hrn, _, hb6⟩
      have bw6 : Below u5.heap.size u5 w6 := bw5.trans (hb6.mono bw5.size)
      obtain ⟨orn, krn, ern⟩ := Row.form hrn
      obtain ⟨mn, emn⟩ : ∃ n, nd.length = n := ⟨_, rfl⟩
      rw [emn] at ern
      subst ern
      have HRN : Hid (Row w6 w5.heap.size 9 1 eS (.slice orn mn krn) nd) := hrn
      have RO5 : Row w5 u5.heap.size 43 3 eH v5 (L.take k) := by show World.ownsRow _ _ _ _ _ _ _; rw [List.length_take, ELB.out, Nat.min_eq_left hkle]; exact ho5
      have RO6 : Hid (Row w6 u5.heap.size 43 3 eH v5 (L.take k)) := Row.below RO5 hb6
      clear hrn emn ho5 hr5 RO5
      refine ⟨_, rfl, regrown_of_below bw6, ?_⟩
      simp only [Act.put, List.setIfInBounds_toArray, List.set_cons_zero, List.set_cons_succ]
      refine step1M (md := .any) (f := 2) (i := 9) (d := 63) (.agg #[.string x, .slice none 0 0, .slice orn mn krn]) (w6) ⟨rfl, rfl, rfl, by decide⟩ (by kernel_rfl) ?r9 (regrown_of_below bw6) ?_
      case r9 => go_simp
      simp only [Act.put, List.setIfInBounds_toArray, List.set_cons_zero, List.set_cons_succ]
      refine step1M (md := .any) (f := 1) (i := 10) (d := 64) (.slice (some ⟨w6.heap.size, 0, none⟩) 1 1) (w6.alloc (.cells #[.string x, .slice none 0 0, .slice orn mn krn] 43)) ⟨rfl, rfl, rfl, by decide⟩ (by kernel_rfl) ?r10 (regrown_of_below (bw6.alloc bw6.size _)) ?_
      case r10 => go_simp
      simp only [Act.put, List.setIfInBounds_toArray, List.set_cons_zero, List.set_cons_succ]
      obtain ⟨w7, hw7⟩ : ∃ X, X = w6.alloc (.cells #[.string x, .slice none 0 0, .slice orn mn krn] 43) := ⟨_, rfl⟩
      have bw7 : Below u5.heap.size u5 w7 := by rw [hw7]; exact bw6.alloc bw6.size _
      have b67 : Below w6.heap.size w6 w7 := by rw [hw7]; exact (Below.refl _ _).alloc (Nat.le_refl _) _
      have S1 : Src w7 (.slice (some ⟨w6.heap.size, 0, none⟩) 1 1) 1 3 [.string x, .slice none 0 0, .slice orn mn krn] := by rw [hw7]; exact own_src4 (own_built (base := 0) (size := 3) (k := 1) (Nat.zero_le _) (by unfold maxLen; omega) rfl)
      have RO7 : Row w7 u5.heap.size 43 3 eH v5 (L.take k) := Row.below RO6.out b67
      have O57 : w7.ownsRow u5.heap.size 43 3 v5 k (enc 3 eH (L.take k)) := by
        have h := RO7
        rw [Row, List.length_take, ELB.out, Nat.min_eq_left hkle] at h
        exact h
      have s67 := bw6.size
      have s7 := b67.size
      obtain ⟨v11, w11, hr11, ho11, hg11, hk11⟩ := run_app (P := Tryz.prog) elB O57 S1 (by intro z hz; simp at hz; rcases hz with rfl | rfl | rfl <;> rfl) (by unfold maxLen; omega) (by omega) (by omega) 24
      have lt5 : ∀ g', v5.ownBlock = some g' → u5.heap.size ≤ g' := fun g' hg' => (World.ownsRow.lt O57 g' hg').1
      have bw11 : Below u5.heap.size u5 w11 := bw7.grown hg11 (by omega) (fun i hi => lt5 i hi)
      rw [← hw7]
      refine step1M (md := .any) (f := 0) (i := 11) (d := 65) (v11) (w11) ⟨rfl, rfl, rfl, by decide⟩ (by kernel_rfl) ?r11 (regrown_of_below bw11) ?_
      case r11 => exact exec_runM (s := .tmp 59) (x := .tmp 64) rfl rfl rfl hr11
      refine ⟨by kernel_rfl, ?_⟩
      simp only [List.drop_succ_cons, List.drop_zero]
      simp only [Act.put, List.setIfInBounds_toArray, List.set_cons_zero, List.set_cons_succ]
      have NEWN : Hid (Row w11 w5.heap.size 9 1 eS (.slice orn mn krn) nd) := strRow_kept (Row.below HRN.out b67) fun q' c hc => hg11.block q' (Array.getElem?_eq_some_iff.1 hc).1 (fun e => by
        obtain ⟨c', hc'⟩ := Row.typed RO7 q' e.symm
        rw [hc] at hc'
        injection hc' with h1
        injection h1 with _ h2
        revert h2
        decide)
      have SB11 : Hid (Src w11 (.slice ad8 (nb - k) cd8) (nb - k) 3 (enc 3 eH (L.drop k))) := SBG.out.below bw11
      have ONE2 : Hid (∀ z ∈ enc 3 eH (L.drop k), z.oneCell' = true) := fun z hz => HONE.out z (by rw [← enc_drop 3 eH L k] at hz; exact List.mem_of_mem_drop hz)
      have OWN11 : Hid (w11.ownsRow u5.heap.size 43 3 v11 (k + 1) (enc 3 eH (L.take k) ++ [.string x, .slice none 0 0, .slice orn mn krn])) := ho11
      have BW11 : Hid (Below u5.heap.size u5 w11) := bw11
      have s11 := bw11.size
      have s55 := bw5.size
      clear hr11 ho11 hg11 hk11 bw11 O57 RO6 RO7 S1 hw7 bw7 b67 lt5 hb6 bw6 bw5 hb5 rY bY hY hdr SA SB HRN bwW5
      go_upto_region 14 with (first
        | (at_builtin; refine wpList_app elB rfl _ _ rfl rfl rfl OWN11.out SB11.out ONE2.out (by unfold maxLen; omega) (by omega) (by omega) ?_; intro v8 u8 hown0 hgr0 _; have hown : u8.ownsRow u5.heap.size 43 3 v8 (k + 1 + (nb - k)) (enc 3 eH (L.take k) ++ [.string x, .slice none 0 0, .slice orn mn krn] ++ enc 3 eH (L.drop k)) := hown0; clear hown0; obtain ⟨ov8, kv8, rfl⟩ := row_shape4 hown; have hgr : w11.grownBy u8 v11.ownBlock := hgr0; have lt11 : ∀ g', v11.ownBlock = some g' → u5.heap.size ≤ g' := (fun g' hg' => (World.ownsRow.lt OWN11.out g' hg').1); have hb8 : u8.heap[gx]? = some (.cells #[.slice oc0 mt kc0, .slice (some ⟨gr, 0, none⟩) nb kc1] 26 (0, 0)) := (hgr.block gx (by omega) (fun e => by have := lt11 gx e.symm; omega)).trans ((BW11.out.block gx (by omega)).trans (KPX.out u5 B5.out).1); obtain ⟨zc8, zf8⟩ := cell_row hb8 1 _ rfl))
      have LOW : ∀ b, b < w11.heap.size → b ≠ gx → (∀ c, w11.heap[b]? ≠ some (.cells c 43 (0, 0))) → (u8.setCell ⟨gx, 1, none⟩ (.slice ov8 (k + 1 + (nb - k)) kv8)).heap[b]? = w11.heap[b]? := fun b hb hbx hty => (Below.heap_setCell _ _ _ _ hbx).trans (hgr.block b hb (fun e => by
        rcases OWN11.out.2 with ⟨h1, _⟩ | ⟨g', cap', cur', h1, _, hg', _⟩
        · rw [h1] at e; cases e
        · rw [h1] at e; cases e; exact hty _ hg'))
      have STR : ∀ (b : Nat) (c : Array Value), w11.heap[b]? = some (.cells c 9 (0, 0)) → (u8.setCell ⟨gx, 1, none⟩ (.slice ov8 (k + 1 + (nb - k)) kv8)).heap[b]? = w11.heap[b]? := fun b c hc => LOW b (Array.getElem?_eq_some_iff.1 hc).1 (fun e => by
        subst e
        rw [(BW11.out.block b (by omega)).trans (KPX.out u5 B5.out).1] at hc
        injection hc with h1
        injection h1 with _ h2
        revert h2
        decide) (fun c' h => by
        rw [hc] at h
        injection h with h1
        injection h1 with _ h2
        revert h2
        decide)
      have bk11 := (KPX.out u5 B5.out).2.1.below BW11.out
      have KZ : Hid (BsO u1.heap.size (u8.setCell ⟨gx, 1, none⟩ (.slice ov8 (k + 1 + (nb - k)) kv8)) (.slice ov8 (k + 1 + (nb - k)) kv8) (L.take k ++ [(x, (.slice none 0 0, []), (.slice orn mn krn, nd))] ++ L.drop k)) := by
        refine ⟨Row.low (B := u5.heap.size) (Row.block (w := u8) ?_ (fun g' hg' => Below.heap_setCell _ _ _ _ (fun e => by
          have h1 : g' = gx := e
          have := (World.ownsRow.lt hown g' hg').1
          omega))) (by omega), fun y hy => ?_⟩
        · show World.ownsRow _ _ _ _ _ _ _
          rw [enc_append, enc_append, List.length_append, List.length_append, List.length_take, List.length_drop, ELB.out, Nat.min_eq_left hkle]
          exact hown
        · rcases List.mem_append.1 hy with hy | hy
          · rcases List.mem_append.1 hy with hy | hy
            · exact (bk11.bs.el y (List.mem_of_mem_take hy)).kept STR
            · rw [List.mem_singleton.1 hy]
              exact ⟨Row.nil _ _ _ _ _, Row.low (strRow_kept NEWN.out STR) (by omega), hx, (fun s hs => by cases hs), fun s hs => ZND.out s hs⟩
          · exact (bk11.bs.el y (List.mem_of_mem_drop hy)).kept STR
      have TZ : Hid (AtL (fun b => u1.heap.size ≤ b ∧ b < (u8.setCell ⟨gx, 1, none⟩ (.slice ov8 (k + 1 + (nb - k)) kv8)).heap.size) (u8.setCell ⟨gx, 1, none⟩ (.slice ov8 (k + 1 + (nb - k)) kv8)) T (.slice oc0 mt kc0)) := str_at (strRow_kept bk11.th STR) bk11.zt
      have BZ : Hid (Below W.heap.size W (u8.setCell ⟨gx, 1, none⟩ (.slice ov8 (k + 1 + (nb - k)) kv8))) := by
        have h1 : Below W.heap.size W w11 := (KPX.out u5 B5.out).2.2.trans (BW11.out.mono (by omega))
        exact (h1.grown hgr (by omega) (fun i hi => by have := lt11 i hi; omega)).setCell (p := ⟨gx, 1, none⟩) hgW _
      have RZ : Hid ((u8.setCell ⟨gx, 1, none⟩ (.slice ov8 (k + 1 + (nb - k)) kv8)).heap[gx]? = some (.cells #[.slice oc0 mt kc0, .slice ov8 (k + 1 + (nb - k)) kv8] 26 (0, 0))) := by show _ = _; rw [set_row hb8 1 _]; rfl
      clear hown hgr hgr0 hb8 zc8 zf8 LOW lt11 STR bk11
      generalize (u8.setCell ⟨gx, 1, none⟩ (.slice ov8 (k + 1 + (nb - k)) kv8)) = Z at KZ TZ BZ RZ ⊢
      generalize k + 1 + (nb - k) = m8 at KZ RZ ⊢
      have MZ : Hid (AtL (fun b => u1.heap.size ≤ b ∧ b < Z.heap.size) Z (Bs.take k ++ [(x, [], nd)] ++ Bs.drop k) (.slice ov8 m8 kv8)) := by
        have := KZ.out.at_
        rw [List.map_append, List.map_append, List.map_take, List.map_drop, HMP.out] at this
        exact this
      obtain ⟨g0x, _⟩ := cell_row RZ.out 0 (.slice oc0 mt kc0) rfl
      obtain ⟨g1x, _⟩ := cell_row RZ.out 1 (.slice ov8 m8 kv8) rfl
      have TOT : Hid (Lay.tot (α := DShareBook) (T, Bs.take k ++ [(x, [], nd)] ++ Bs.drop k) ≤ 1048576) := by
        have h1 : entS (T, Bs) x nd = ((T, Bs.take k ++ [(x, [], nd)] ++ Bs.drop k), 0) := HRR.out.symm.trans ER.out
        have h2 := ent_small (x := x) (nd := nd) (bok_small OK.out).1 (SmL.of_sub (bok_small OK.out).1.1 CC.out.2 (by have := SND.out; omega)) (by have := name_smallM CC.out.1; omega)
        rw [h1] at h2
        exact h2.tot
      go_wp2_with fail
      refine (copyZ_any (fun b => u1.heap.size ≤ b ∧ b < Z.heap.size) T (Bs.take k ++ [(x, [], nd)] ++ Bs.drop k) _ _ _ _ _ _ Z TZ.out MZ.out (fun b hb => hb.2) TOT.out).mono ?_
      rintro e Zf ⟨d0, d1, Lf, rfl, hbkf, hmapf, hbf⟩
      obtain ⟨of0, kf0, rfl⟩ := Row.form hbkf.th
      obtain ⟨of1, kf1, rfl⟩ := Row.form hbkf.bs.ro
      obtain ⟨mf0, ef0⟩ : ∃ n, T.length = n := ⟨_, rfl⟩
      obtain ⟨mf1, ef1⟩ : ∃ n, Lf.length = n := ⟨_, rfl⟩
      rw [ef0, ef1] at hbkf
      rw [ef0, ef1]
      have BKF : Hid (BkO Z.heap.size Zf (.slice of0 mf0 kf0) (.slice of1 mf1 kf1) T Lf) := hbkf
      have HMF : Hid (Lf.map dH = Bs.take k ++ [(x, [], nd)] ++ Bs.drop k) := hmapf
      have BFF : Hid (Below W.heap.size W Zf) := BZ.out.trans (hbf.mono BZ.out.size)
      have sZf := BZ.out.size
      clear hbkf hmapf hbf ef0 ef1 g0x g1x
      obtain ⟨z0, f0⟩ := cell_row (BOX.out Zf BFF.out).2.1 0 (.slice none 0 0) rfl
      obtain ⟨z1, f1⟩ := cell_row (BOX.out Zf BFF.out).2.1 1 (.slice none 0 0) rfl
      have FA0 : Hid (AtL (fun b => W.heap.size ≤ b ∧ b < Zf.heap.size) Zf RR.1.1 (.slice of0 mf0 kf0)) := by rw [ER.out]; exact (AtL.up (S := fun b => Z.heap.size ≤ b ∧ b < Zf.heap.size) BKF.out.at_.1 (fun b hb => ⟨by omega, hb.2⟩))
      have FA1 : Hid (AtL (fun b => W.heap.size ≤ b ∧ b < Zf.heap.size) Zf RR.1.2 (.slice of1 mf1 kf1)) := by rw [ER.out]; exact (by have h9 := BKF.out.at_.2; rw [HMF.out] at h9; exact AtL.up h9 (fun b hb => ⟨by omega, hb.2⟩))
      have FC : Hid (RR.2 = 0) := by show _ = _; rw [ER.out]
      have FS : Hid (W.heap.size ≤ Zf.heap.size) := (BFF.out).size
      have FW : Hid (Below w.heap.size w Zf) := (BOX.out Zf BFF.out).2.2
      have FB : Hid (Zf.heap[w.heap.size + 1]? = some (.cells #[.slice none 0 0, .slice none 0 0] 26 (0, 0))) := (BOX.out Zf BFF.out).2.1
      go_wp2_with fail
      have FIN := set_row (set_row FB.out 0 (.slice of0 mf0 kf0)) 1 (.slice of1 mf1 kf1)
      have OTH : ∀ q, q ≠ w.heap.size + 1 → ((Zf.setCell ⟨w.heap.size + 1, 0, none⟩ (.slice of0 mf0 kf0)).setCell ⟨w.heap.size + 1, 1, none⟩ (.slice of1 mf1 kf1)).heap[q]? = Zf.heap[q]? := fun q hq => (Below.heap_setCell _ _ _ _ hq).trans (Below.heap_setCell _ _ _ _ hq)
      have BF : Below w.heap.size w ((Zf.setCell ⟨w.heap.size + 1, 0, none⟩ (.slice of0 mf0 kf0)).setCell ⟨w.heap.size + 1, 1, none⟩ (.slice of1 mf1 kf1)) := (FW.out.setCell (p := ⟨w.heap.size + 1, 0, none⟩) (Nat.le_succ _) _).setCell (p := ⟨w.heap.size + 1, 1, none⟩) (Nat.le_succ _) _
      have SZ : ((Zf.setCell ⟨w.heap.size + 1, 0, none⟩ (.slice of0 mf0 kf0)).setCell ⟨w.heap.size + 1, 1, none⟩ (.slice of1 mf1 kf1)).heap.size = Zf.heap.size := by simp
      generalize (Zf.setCell ⟨w.heap.size + 1, 0, none⟩ (.slice of0 mf0 kf0)).setCell ⟨w.heap.size + 1, 1, none⟩ (.slice of1 mf1 kf1) = F at FIN OTH BF SZ ⊢
      have g0 := (cell_row FIN 0 (.slice of0 mf0 kf0) rfl).1
      have g1 := (cell_row FIN 1 (.slice of1 mf1 kf1) rfl).1
      have fs := FS.out
      refine bodyPost_ret (v := .tuple #[.agg #[.slice of0 mf0 kf0, .slice of1 mf1 kf1], .int .i64 (0)]) (by simp [results, Tryz.results13, go_sem, g0, g1]) rfl ⟨_, _, by rw [FC.out], ?_, ?_, BF⟩
      · exact AtL.up (FA0.out.same (fun b hb => OTH b (by omega))) (fun b hb => ⟨by omega, by omega⟩)
      · exact AtL.up (FA1.out.same (fun b hb => OTH b (by omega))) (fun b hb => ⟨by omega, by omega⟩)
end Go.Proofs.YtaejlcanccfmmaaGreatDoor
