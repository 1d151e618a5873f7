import Derived.Test.YtaejlcanccfmmaaGreatDoorZra
import Derived.Test.YtaejlcanccfmmaaGreatDoorM24
import Derived.Maps.AppendAt
namespace Go.Proofs.YtaejlcanccfmmaaGreatDoor
open Go.RowKit Go.Sort
theorem atl_strN {S : Nat → Prop} {w : World} {l : List ByteArray} {oa : Option Addr} {n cap : Nat} (h : AtL S w l (.slice oa n cap)) (i : Nat) (hi : i < l.length) : ∃ b off, oa = some ⟨b, off, none⟩ ∧ S b ∧ w.cell? ⟨b, off + i, none⟩ = some (.string l[i]) := by
  obtain ⟨oa', cap', e, _, hc⟩ := h
  cases e
  obtain ⟨b, off, g1, g2, c, g3, g4⟩ := hc i hi
  rw [width_str] at g3
  rw [at_str] at g4
  refine ⟨b, off, g1, g2, ?_⟩
  have e0 : w.cell? ⟨b, off + i, none⟩ = some (c 0) := by simpa using g3 0 (by omega)
  rw [e0, g4.1]
set_option maxRecDepth 100000 in
set_option maxHeartbeats 16000000 in
theorem askZ_any (S : Nat → Prop) (T : List ByteArray) (Bs : List DShareBatch) (o0 oa : Option Addr) (n0 k0 nb kb : Nat) (x : ByteArray) (SN : Nat → Prop) (nd : List ByteArray) (on : Option Addr) (nn kn : Nat) (w : World) (h0 : AtL S w T (.slice o0 n0 k0)) (h1 : AtL S w Bs (.slice oa nb kb)) (hS : ∀ b, S b → b < w.heap.size) (hN : AtL SN w nd (.slice on nn kn)) (hSN : ∀ b, SN b → b < w.heap.size) :
    Calls Tryz.prog 85 #[.agg #[.slice o0 n0 k0, .slice oa nb kb], .string x, .slice on nn kn] w fun e w' => ∃ r0 r1, e = .returned (.tuple #[.agg #[r0, r1], .int .i64 (askS (T, Bs) x nd).2]) ∧ AtL (fun b => w.heap.size ≤ b ∧ b < w'.heap.size) w' (askS (T, Bs) x nd).1.1 r0 ∧ AtL (fun b => w.heap.size ≤ b ∧ b < w'.heap.size) w' (askS (T, Bs) x nd).1.2 r1 ∧ Below w.heap.size w w' := by
  have H0 : Hid _ := h0.ups hS
  have H1 : Hid _ := h1.ups hS
  have HS : Hid _ := lt_up hS
  have enb : Bs.length = nb := by obtain ⟨_, _, e, _⟩ := h1; cases e; rfl
  have ENB : Hid (Bs.length ≤ nb ∧ nb ≤ Bs.length) := ⟨by omega, by omega⟩
  have hmx : nb ≤ 9223372036854775807 := by obtain ⟨_, _, e, hf, _⟩ := id h1; cases e; have := hf.1; unfold maxLen at this; omega
  have HN : Hid _ := hN.ups hSN
  have HSN : Hid _ := lt_up hSN
  clear h0 h1 enb hN
  obtain ⟨RR, hRR⟩ : ∃ R, R = askS (T, Bs) x nd := ⟨_, rfl⟩
  have HRR : Hid (RR = askS (T, Bs) x nd) := hRR
  rw [← hRR]
  clear hRR
  obtain ⟨W, hW⟩ : ∃ W, W = (w.alloc (.cells #[.slice o0 n0 k0, .slice oa nb kb] 26)).alloc (.cells #[.slice none 0 0, .slice none 0 0] 26) := ⟨_, rfl⟩
  have EW : Hid (W = (w.alloc (.cells #[.slice o0 n0 k0, .slice oa nb kb] 26)).alloc (.cells #[.slice none 0 0, .slice none 0 0] 26)) := hW
  have BW : Hid (Below w.heap.size w W) := by rw [hW]; exact ((Below.refl _ _).alloc (Nat.le_refl _) _).alloc (by simp) _
  have R1 : Hid (W.heap[w.heap.size]? = some (.cells #[.slice o0 n0 k0, .slice oa nb kb] 26 (0, 0))) := by rw [hW]; exact (Below.heap_alloc _ _ _ (by simp)).trans (heap_alloc_new w _)
  have R2 : Hid (W.heap[w.heap.size + 1]? = some (.cells #[.slice none 0 0, .slice none 0 0] 26 (0, 0))) := by rw [hW]; exact alloc_atR _ (by simp)
  have sW : w.heap.size + 2 ≤ W.heap.size := by rw [hW]; simp
  clear hW
  have BOX : Hid (∀ u, Below W.heap.size W u → u.heap[w.heap.size]? = some (.cells #[.slice o0 n0 k0, .slice oa nb kb] 26 (0, 0)) ∧ u.heap[w.heap.size + 1]? = some (.cells #[.slice none 0 0, .slice none 0 0] 26 (0, 0)) ∧ Below w.heap.size w u) := fun u hu => ⟨(hu.block _ (by omega)).trans R1.out, (hu.block _ (by omega)).trans R2.out, BW.out.trans (hu.mono (by omega))⟩
  have y0 := (cell_row R1.out 0 (.slice o0 n0 k0) rfl).1
  have y1 := (cell_row R1.out 1 (.slice oa nb kb) rfl).1
  go_enter Tryz.func85, Tryz.ntmps85
  go_upto_region 1 with fail
  rw [← EW.out]
  go_wp2_with fail
  refine (bookZ_any S (T, Bs) _ _ W (H0.out W BW.out) (H1.out W BW.out) (HS.out W BW.out)).mono ?_; rintro e u1 ⟨rfl, hb1⟩
  have B1 : Hid (Below W.heap.size W u1) := hb1
  clear hb1 y0 y1
  cases hB : bokB (T, Bs)
  · have ER : Hid (RR = (([], []), 1)) := by show _ = _; rw [HRR.out]; unfold askS; rw [if_neg (by rw [hB]; simp)]
    obtain ⟨z0, f0⟩ := cell_row (BOX.out u1 B1.out).2.1 0 (.slice none 0 0) rfl
    obtain ⟨z1, f1⟩ := cell_row (BOX.out u1 B1.out).2.1 1 (.slice none 0 0) rfl
    have FA0 : Hid (AtL (fun b => W.heap.size ≤ b ∧ b < u1.heap.size) u1 RR.1.1 (.slice none 0 0)) := by rw [ER.out]; exact atl_noneM _ _
    have FA1 : Hid (AtL (fun b => W.heap.size ≤ b ∧ b < u1.heap.size) u1 RR.1.2 (.slice none 0 0)) := by rw [ER.out]; exact atl_noneM _ _
    have FC : Hid (RR.2 = 1) := by show _ = _; rw [ER.out]
    have FS : Hid (W.heap.size ≤ u1.heap.size) := (B1.out).size
    have FW : Hid (Below w.heap.size w u1) := (BOX.out u1 B1.out).2.2
    have FB : Hid (u1.heap[w.heap.size + 1]? = some (.cells #[.slice none 0 0, .slice none 0 0] 26 (0, 0))) := (BOX.out u1 B1.out).2.1
    go_wp2_with fail
    have FIN := set_row (set_row FB.out 0 (.slice none 0 0)) 1 (.slice none 0 0)
    have OTH : ∀ q, q ≠ w.heap.size + 1 → ((u1.setCell ⟨w.heap.size + 1, 0, none⟩ (.slice none 0 0)).setCell ⟨w.heap.size + 1, 1, none⟩ (.slice none 0 0)).heap[q]? = u1.heap[q]? := fun q hq => (Below.heap_setCell _ _ _ _ hq).trans (Below.heap_setCell _ _ _ _ hq)
    have BF : Below w.heap.size w ((u1.setCell ⟨w.heap.size + 1, 0, none⟩ (.slice none 0 0)).setCell ⟨w.heap.size + 1, 1, none⟩ (.slice none 0 0)) := (FW.out.setCell (p := ⟨w.heap.size + 1, 0, none⟩) (Nat.le_succ _) _).setCell (p := ⟨w.heap.size + 1, 1, none⟩) (Nat.le_succ _) _
    have SZ : ((u1.setCell ⟨w.heap.size + 1, 0, none⟩ (.slice none 0 0)).setCell ⟨w.heap.size + 1, 1, none⟩ (.slice none 0 0)).heap.size = u1.heap.size := by simp
    generalize (u1.setCell ⟨w.heap.size + 1, 0, none⟩ (.slice none 0 0)).setCell ⟨w.heap.size + 1, 1, none⟩ (.slice none 0 0) = F at FIN OTH BF SZ ⊢
    have g0 := (cell_row FIN 0 (.slice none 0 0) rfl).1
    have g1 := (cell_row FIN 1 (.slice none 0 0) rfl).1
    have fs := FS.out
    refine bodyPost_ret (v := .tuple #[.agg #[.slice none 0 0, .slice none 0 0], .int .i64 (1)]) (by simp [results, Tryz.results85, go_sem, g0, g1]) rfl ⟨_, _, by rw [FC.out], ?_, ?_, BF⟩
    · exact AtL.up (FA0.out.same (fun b hb => OTH b (by omega))) (fun b hb => ⟨by omega, by omega⟩)
    · exact AtL.up (FA1.out.same (fun b hb => OTH b (by omega))) (fun b hb => ⟨by omega, by omega⟩)
  have OK : Hid (BokP (T, Bs)) := bok_iff.1 hB
  have EB : Hid (bokB (T, Bs) = true) := hB
  clear hB
  have SM : Hid (Lay.tot (α := DShareBook) (T, Bs) ≤ 1048576) := (bok_small OK.out).1.tot
  have y0 := (cell_row (BOX.out u1 B1.out).1 0 (.slice o0 n0 k0) rfl).1
  have y1 := (cell_row (BOX.out u1 B1.out).1 1 (.slice oa nb kb) rfl).1
  go_wp2_with fail
  refine (copyZ_any S T Bs _ _ _ _ _ _ u1 (H0.out u1 (BOX.out u1 B1.out).2.2) (H1.out u1 (BOX.out u1 B1.out).2.2) (HS.out u1 (BOX.out u1 B1.out).2.2) SM.out).mono ?_
  rintro e u2 ⟨c0, c1, L, rfl, hbk, hmap, hb2⟩
  obtain ⟨oc0, kc0, rfl⟩ := Row.form hbk.th
  obtain ⟨oc1, kc1, rfl⟩ := Row.form hbk.bs.ro
  obtain ⟨mt, emt⟩ : ∃ n, T.length = n := ⟨_, rfl⟩
  have elb : L.length = nb := by have := congrArg List.length hmap; rw [List.length_map] at this; have := ENB.out; omega
  rw [emt, elb] at hbk
  rw [emt, elb]
  have BK2 : Hid (BkO u1.heap.size u2 (.slice oc0 mt kc0) (.slice oc1 nb kc1) T L) := hbk
  have HMP : Hid (L.map dH = Bs) := hmap
  have ELB : Hid (L.length = nb) := elb
  have B2 : Hid (Below W.heap.size W u2) := B1.out.trans (hb2.mono B1.out.size)
  have s12 := hb2.size
  have sW1 := B1.out.size
  clear hbk hmap hb2 emt elb y0 y1
  obtain ⟨X, hX⟩ : ∃ X, X = u2.alloc (.cells #[.slice oc0 mt kc0, .slice oc1 nb kc1] 26) := ⟨_, rfl⟩
  have EX : Hid (X = u2.alloc (.cells #[.slice oc0 mt kc0, .slice oc1 nb kc1] 26)) := hX
  have BX2 : Below u2.heap.size u2 X := by rw [hX]; exact (Below.refl _ _).alloc (Nat.le_refl _) _
  have RX : Hid (X.heap[u2.heap.size]? = some (.cells #[.slice oc0 mt kc0, .slice oc1 nb kc1] 26 (0, 0))) := by rw [hX]; exact heap_alloc_new u2 _
  have sX : u2.heap.size + 1 ≤ X.heap.size := by rw [hX]; simp
  have BX : Hid (Below W.heap.size W X) := B2.out.trans (BX2.mono B2.out.size)
  have BKX : Hid (BkO u1.heap.size X (.slice oc0 mt kc0) (.slice oc1 nb kc1) T L) := BK2.out.below BX2
  obtain ⟨gx, hgx⟩ : ∃ g, g = u2.heap.size := ⟨_, rfl⟩
  have EGX : Hid (gx = u2.heap.size) := hgx
  rw [← hgx] at RX
  have hgW : W.heap.size ≤ gx := by omega
  have hgX : gx < X.heap.size := by omega
  clear hX hgx BX2 BK2
  have KPX : Hid (∀ u, Below X.heap.size X u → u.heap[gx]? = some (.cells #[.slice oc0 mt kc0, .slice oc1 nb kc1] 26 (0, 0)) ∧ BkO u1.heap.size u (.slice oc0 mt kc0) (.slice oc1 nb kc1) T L ∧ Below W.heap.size W u) := fun u hu => ⟨(hu.block gx hgX).trans RX.out, BKX.out.below hu, BX.out.trans (hu.mono BX.out.size)⟩
  go_upto_region 4 with fail
  rw [← EX.out]
  rw [← EGX.out]
  have y0 := (cell_row (BOX.out X BX.out).1 0 (.slice o0 n0 k0) rfl).1
  have y1 := (cell_row (BOX.out X BX.out).1 1 (.slice oa nb kb) rfl).1
  have CA : Hid (Calls Tryz.prog 18 #[.agg #[.slice o0 n0 k0, .slice oa nb kb], .string x] X fun e w' => e = .returned (.int .i64 (atZI Bs x)) ∧ Below X.heap.size X w') := atZ_any S T Bs _ _ _ _ _ _ x X (H0.out X (BOX.out X BX.out).2.2) (H1.out X (BOX.out X BX.out).2.2) (HS.out X (BOX.out X BX.out).2.2)
  go_wp2_with fail
  refine CA.out.mono ?_; rintro e u3 ⟨rfl, hb3⟩
  have B3 : Hid (Below X.heap.size X u3) := hb3
  clear hb3 y0 y1 CA
  by_cases hneg : atZI Bs x < 0
  · have ER : Hid (RR = ((T, Bs), 3)) := by show _ = _; rw [HRR.out]; unfold askS; rw [if_pos EB.out, if_pos hneg]
    obtain ⟨g0x, _⟩ := cell_row (KPX.out u3 B3.out).1 0 (.slice oc0 mt kc0) rfl
    obtain ⟨g1x, _⟩ := cell_row (KPX.out u3 B3.out).1 1 (.slice oc1 nb kc1) rfl
    obtain ⟨z0, f0⟩ := cell_row (BOX.out u3 (KPX.out u3 B3.out).2.2).2.1 0 (.slice none 0 0) rfl
    obtain ⟨z1, f1⟩ := cell_row (BOX.out u3 (KPX.out u3 B3.out).2.2).2.1 1 (.slice none 0 0) rfl
    have FA0 : Hid (AtL (fun b => W.heap.size ≤ b ∧ b < u3.heap.size) u3 RR.1.1 (.slice oc0 mt kc0)) := by rw [ER.out]; exact (AtL.up (S := fun b => u1.heap.size ≤ b ∧ b < u3.heap.size) (KPX.out u3 B3.out).2.1.at_.1 (fun b hb => ⟨by omega, hb.2⟩))
    have FA1 : Hid (AtL (fun b => W.heap.size ≤ b ∧ b < u3.heap.size) u3 RR.1.2 (.slice oc1 nb kc1)) := by rw [ER.out]; exact (AtL.up (S := fun b => u1.heap.size ≤ b ∧ b < u3.heap.size) (HMP.out ▸ (KPX.out u3 B3.out).2.1.at_.2) (fun b hb => ⟨by omega, hb.2⟩))
    have FC : Hid (RR.2 = 3) := by show _ = _; rw [ER.out]
    have FS : Hid (W.heap.size ≤ u3.heap.size) := ((KPX.out u3 B3.out).2.2).size
    have FW : Hid (Below w.heap.size w u3) := (BOX.out u3 (KPX.out u3 B3.out).2.2).2.2
    have FB : Hid (u3.heap[w.heap.size + 1]? = some (.cells #[.slice none 0 0, .slice none 0 0] 26 (0, 0))) := (BOX.out u3 (KPX.out u3 B3.out).2.2).2.1
    go_wp2_with fail
    have FIN := set_row (set_row FB.out 0 (.slice oc0 mt kc0)) 1 (.slice oc1 nb kc1)
    have OTH : ∀ q, q ≠ w.heap.size + 1 → ((u3.setCell ⟨w.heap.size + 1, 0, none⟩ (.slice oc0 mt kc0)).setCell ⟨w.heap.size + 1, 1, none⟩ (.slice oc1 nb kc1)).heap[q]? = u3.heap[q]? := fun q hq => (Below.heap_setCell _ _ _ _ hq).trans (Below.heap_setCell _ _ _ _ hq)
    have BF : Below w.heap.size w ((u3.setCell ⟨w.heap.size + 1, 0, none⟩ (.slice oc0 mt kc0)).setCell ⟨w.heap.size + 1, 1, none⟩ (.slice oc1 nb kc1)) := (FW.out.setCell (p := ⟨w.heap.size + 1, 0, none⟩) (Nat.le_succ _) _).setCell (p := ⟨w.heap.size + 1, 1, none⟩) (Nat.le_succ _) _
    have SZ : ((u3.setCell ⟨w.heap.size + 1, 0, none⟩ (.slice oc0 mt kc0)).setCell ⟨w.heap.size + 1, 1, none⟩ (.slice oc1 nb kc1)).heap.size = u3.heap.size := by simp
    generalize (u3.setCell ⟨w.heap.size + 1, 0, none⟩ (.slice oc0 mt kc0)).setCell ⟨w.heap.size + 1, 1, none⟩ (.slice oc1 nb kc1) = F at FIN OTH BF SZ ⊢
    have g0 := (cell_row FIN 0 (.slice oc0 mt kc0) rfl).1
    have g1 := (cell_row FIN 1 (.slice oc1 nb kc1) rfl).1
    have fs := FS.out
    refine bodyPost_ret (v := .tuple #[.agg #[.slice oc0 mt kc0, .slice oc1 nb kc1], .int .i64 (3)]) (by simp [results, Tryz.results85, go_sem, g0, g1]) rfl ⟨_, _, by rw [FC.out], ?_, ?_, BF⟩
    · exact AtL.up (FA0.out.same (fun b hb => OTH b (by omega))) (fun b hb => ⟨by omega, by omega⟩)
    · exact AtL.up (FA1.out.same (fun b hb => OTH b (by omega))) (fun b hb => ⟨by omega, by omega⟩)
  obtain ⟨q, eq, hqb⟩ := at_lt hneg
  have hqn : q < nb := by have := ENB.out; omega
  have EQ : Hid (atZI Bs x = (q : Int)) := eq
  have er2 : ∀ h : ¬ (subB (btN Bs q).2.2 nd = true), RR = ((T, Bs), 2) := fun h => by rw [HRR.out]; unfold askS; rw [if_pos EB.out, if_neg hneg]; simp only [eq, Int.toNat_natCast]; rw [if_neg h]
  have er0 : ∀ h : (subB (btN Bs q).2.2 nd = true), RR = (if takB Bs q nd = true then ((T, Bs), 5) else if (ordS (T, Bs)).2 = true ∧ (ordS (T, Bs.set q (askB (btN Bs q) nd))).2 = false then ((T, Bs), 6) else ((T, Bs.set q (askB (btN Bs q) nd)), 0)) := fun h => by rw [HRR.out]; unfold askS; rw [if_pos EB.out, if_neg hneg]; simp only [eq, Int.toNat_natCast]; rw [if_pos h]
  have SMA : Hid (∀ h : (subB (btN Bs q).2.2 nd = true), SmD (T, Bs.set q (askB (btN Bs q) nd))) := fun h => ask_small OK.out hqb h
  have EIG : Hid ((btN Bs q).2.1.length ≤ 8) := by rw [btN_at hqb]; exact (bok_eight OK.out hqb).1
  rw [eq]
  have hng0 : ¬ ((q : Int) < 0) := by omega
  have bw3 := (BOX.out u3 (KPX.out u3 B3.out).2.2).2.2
  have BW3 : Hid (Below w.heap.size w u3) := bw3
  have HSM : Hid (SmL (btN Bs q).2.1) := by rw [btN_at hqb]; exact ((bok_small OK.out).1.2.2 _ (List.getElem_mem hqb)).2.1
  have HSN8 : Hid (∀ h : subB (btN Bs q).2.2 nd = true, SmL nd) := fun h => by
    rw [btN_at hqb] at h
    have h1 := ((bok_small OK.out).1.2.2 _ (List.getElem_mem hqb)).2.2
    exact SmL.of_sub h1 h (Nat.le_trans (sub_lenM h) h1.1)
  obtain ⟨bb, off, o1, n1, k1, o2, n2, k2, rfl, hbS, e0, e1, e2, a1, a2, z0⟩ := bat_at (H1.out u3 bw3) q hqb
  rw [← btN_at hqb] at a1 a2
  have A1 : Hid (∀ u, Below u3.heap.size u3 u → u.cell? ⟨bb, off + q * 3 + 1, none⟩ = some (.slice o1 n1 k1) ∧ AtL S u (btN Bs q).2.1 (.slice o1 n1 k1)) := fun u hu => ⟨(hu.cell (HS.out u3 bw3 bb hbS)).trans e1, a1.same (Same.of_below hu (HS.out u3 bw3))⟩
  have NF1 : Hid (Bs[q].1 = (btN Bs q).1) := by show _ = _; rw [btN_at hqb]
  obtain ⟨f, ef⟩ : ∃ f, btN Bs q = f := ⟨_, rfl⟩
  have y1 := (cell_row (BOX.out u3 (KPX.out u3 B3.out).2.2).1 1 (.slice (some ⟨bb, off, none⟩) nb kb) rfl).1
  rw [ef] at er2 er0 A1 a1 a2 HSM HSN8 NF1 SMA EIG
  have en1 : f.2.1.length = n1 := by obtain ⟨_, _, e, _⟩ := a1; cases e; rfl
  have EN1 : Hid (f.2.1.length ≤ n1 ∧ n1 ≤ f.2.1.length) := ⟨by omega, by omega⟩
  have hn64 : n1 ≤ 64 := by have := HSM.out.1; omega
  have ZH : Hid (∀ s ∈ f.2.1, s.size ≤ maxLen) := flatS.ok_all a1
  have ZN : Hid (∀ s ∈ nd, s.size ≤ maxLen) := flatS.ok_all (HN.out u3 bw3)
  have CNM : Hid (Calls Tryz.prog 19 #[.slice on nn kn, .slice o2 n2 k2] u3 fun e w' => e = .returned (.bool (subB f.2.2 nd)) ∧ Below u3.heap.size u3 w') := namesZ_any SN S _ _ nd f.2.2 u3 (HN.out u3 bw3) a2 (HSN.out u3 bw3) (HS.out u3 bw3)
  have ER0 : Hid _ := er0
  have ER2 : Hid _ := er2
  have s3 := B3.out.size
  have BBL : Hid (bb < u3.heap.size) := HS.out u3 bw3 bb hbS
  have EFQ : Hid (Bs[q] = f) := by show _ = _; rw [← btN_at hqb, ef]
  clear er0 er2 a1 a2 z0 bw3 ef en1 eq hneg e0 e1
  go_wp2_with fail
  refine CNM.out.mono ?_; rintro e u4 ⟨rfl, hb4⟩
  have B34 : Hid (Below u3.heap.size u3 u4) := hb4
  have B4 : Hid (Below X.heap.size X u4) := B3.out.trans (hb4.mono B3.out.size)
  clear hb4 y1 CNM e2
  cases c1 : subB f.2.2 nd
  · have ER : Hid (RR = ((T, Bs), 2)) := ER2.out (by rw [c1]; simp)
    obtain ⟨g0x, _⟩ := cell_row (KPX.out u4 B4.out).1 0 (.slice oc0 mt kc0) rfl
    obtain ⟨g1x, _⟩ := cell_row (KPX.out u4 B4.out).1 1 (.slice oc1 nb kc1) rfl
    obtain ⟨z0, f0⟩ := cell_row (BOX.out u4 (KPX.out u4 B4.out).2.2).2.1 0 (.slice none 0 0) rfl
    obtain ⟨z1, f1⟩ := cell_row (BOX.out u4 (KPX.out u4 B4.out).2.2).2.1 1 (.slice none 0 0) rfl
    have FA0 : Hid (AtL (fun b => W.heap.size ≤ b ∧ b < u4.heap.size) u4 RR.1.1 (.slice oc0 mt kc0)) := by rw [ER.out]; exact (AtL.up (S := fun b => u1.heap.size ≤ b ∧ b < u4.heap.size) (KPX.out u4 B4.out).2.1.at_.1 (fun b hb => ⟨by omega, hb.2⟩))
    have FA1 : Hid (AtL (fun b => W.heap.size ≤ b ∧ b < u4.heap.size) u4 RR.1.2 (.slice oc1 nb kc1)) := by rw [ER.out]; exact (AtL.up (S := fun b => u1.heap.size ≤ b ∧ b < u4.heap.size) (HMP.out ▸ (KPX.out u4 B4.out).2.1.at_.2) (fun b hb => ⟨by omega, hb.2⟩))
    have FC : Hid (RR.2 = 2) := by show _ = _; rw [ER.out]
    have FS : Hid (W.heap.size ≤ u4.heap.size) := ((KPX.out u4 B4.out).2.2).size
    have FW : Hid (Below w.heap.size w u4) := (BOX.out u4 (KPX.out u4 B4.out).2.2).2.2
    have FB : Hid (u4.heap[w.heap.size + 1]? = some (.cells #[.slice none 0 0, .slice none 0 0] 26 (0, 0))) := (BOX.out u4 (KPX.out u4 B4.out).2.2).2.1
    go_wp2_with fail
    have FIN := set_row (set_row FB.out 0 (.slice oc0 mt kc0)) 1 (.slice oc1 nb kc1)
    have OTH : ∀ q, q ≠ w.heap.size + 1 → ((u4.setCell ⟨w.heap.size + 1, 0, none⟩ (.slice oc0 mt kc0)).setCell ⟨w.heap.size + 1, 1, none⟩ (.slice oc1 nb kc1)).heap[q]? = u4.heap[q]? := fun q hq => (Below.heap_setCell _ _ _ _ hq).trans (Below.heap_setCell _ _ _ _ hq)
    have BF : Below w.heap.size w ((u4.setCell ⟨w.heap.size + 1, 0, none⟩ (.slice oc0 mt kc0)).setCell ⟨w.heap.size + 1, 1, none⟩ (.slice oc1 nb kc1)) := (FW.out.setCell (p := ⟨w.heap.size + 1, 0, none⟩) (Nat.le_succ _) _).setCell (p := ⟨w.heap.size + 1, 1, none⟩) (Nat.le_succ _) _
    have SZ : ((u4.setCell ⟨w.heap.size + 1, 0, none⟩ (.slice oc0 mt kc0)).setCell ⟨w.heap.size + 1, 1, none⟩ (.slice oc1 nb kc1)).heap.size = u4.heap.size := by simp
    generalize (u4.setCell ⟨w.heap.size + 1, 0, none⟩ (.slice oc0 mt kc0)).setCell ⟨w.heap.size + 1, 1, none⟩ (.slice oc1 nb kc1) = F at FIN OTH BF SZ ⊢
    have g0 := (cell_row FIN 0 (.slice oc0 mt kc0) rfl).1
    have g1 := (cell_row FIN 1 (.slice oc1 nb kc1) rfl).1
    have fs := FS.out
    refine bodyPost_ret (v := .tuple #[.agg #[.slice oc0 mt kc0, .slice oc1 nb kc1], .int .i64 (2)]) (by simp [results, Tryz.results85, go_sem, g0, g1]) rfl ⟨_, _, by rw [FC.out], ?_, ?_, BF⟩
    · exact AtL.up (FA0.out.same (fun b hb => OTH b (by omega))) (fun b hb => ⟨by omega, by omega⟩)
    · exact AtL.up (FA1.out.same (fun b hb => OTH b (by omega))) (fun b hb => ⟨by omega, by omega⟩)
  have ERT : Hid _ := ER0.out c1
  have SND : Hid (SmL nd) := HSN8.out c1
  have SMF : Hid (SmD (T, Bs.set q (askB f nd))) := SMA.out c1
  have s4 := B4.out.size
  clear ER0 ER2 HSN8 SMA c1
  have bw4 := (BOX.out u4 (KPX.out u4 B4.out).2.2).2.2
  have y0 := (cell_row (BOX.out u4 (KPX.out u4 B4.out).2.2).1 0 (.slice o0 n0 k0) rfl).1
  have y1 := (cell_row (BOX.out u4 (KPX.out u4 B4.out).2.2).1 1 (.slice (some ⟨bb, off, none⟩) nb kb) rfl).1
  have CT : Hid (Calls Tryz.prog 101 #[.agg #[.slice o0 n0 k0, .slice (some ⟨bb, off, none⟩) nb kb], .int .i64 q, .slice on nn kn] u4 fun e w' => e = .returned (.bool (takB Bs q nd)) ∧ Below u4.heap.size u4 w') := takZ_any S Bs _ _ _ _ _ _ SN nd _ _ _ q u4 (H1.out u4 bw4) (HS.out u4 bw4) (HN.out u4 bw4) (HSN.out u4 bw4) hqb
  clear bw4
  go_wp2_with fail
  refine CT.out.mono ?_; rintro e u5 ⟨rfl, hb5⟩
  have B5 : Hid (Below X.heap.size X u5) := B4.out.trans (hb5.mono B4.out.size)
  clear hb5 y0 y1 CT
  cases c2 : takB Bs q nd
  case true =>
    have ER : Hid (RR = ((T, Bs), 5)) := by show _ = _; rw [ERT.out, if_pos c2]
    obtain ⟨g0x, _⟩ := cell_row (KPX.out u5 B5.out).1 0 (.slice oc0 mt kc0) rfl
    obtain ⟨g1x, _⟩ := cell_row (KPX.out u5 B5.out).1 1 (.slice oc1 nb kc1) rfl
    obtain ⟨z0, f0⟩ := cell_row (BOX.out u5 (KPX.out u5 B5.out).2.2).2.1 0 (.slice none 0 0) rfl
    obtain ⟨z1, f1⟩ := cell_row (BOX.out u5 (KPX.out u5 B5.out).2.2).2.1 1 (.slice none 0 0) rfl
    have FA0 : Hid (AtL (fun b => W.heap.size ≤ b ∧ b < u5.heap.size) u5 RR.1.1 (.slice oc0 mt kc0)) := by rw [ER.out]; exact (AtL.up (S := fun b => u1.heap.size ≤ b ∧ b < u5.heap.size) (KPX.out u5 B5.out).2.1.at_.1 (fun b hb => ⟨by omega, hb.2⟩))
    have FA1 : Hid (AtL (fun b => W.heap.size ≤ b ∧ b < u5.heap.size) u5 RR.1.2 (.slice oc1 nb kc1)) := by rw [ER.out]; exact (AtL.up (S := fun b => u1.heap.size ≤ b ∧ b < u5.heap.size) (HMP.out ▸ (KPX.out u5 B5.out).2.1.at_.2) (fun b hb => ⟨by omega, hb.2⟩))
    have FC : Hid (RR.2 = 5) := by show _ = _; rw [ER.out]
    have FS : Hid (W.heap.size ≤ u5.heap.size) := ((KPX.out u5 B5.out).2.2).size
    have FW : Hid (Below w.heap.size w u5) := (BOX.out u5 (KPX.out u5 B5.out).2.2).2.2
    have FB : Hid (u5.heap[w.heap.size + 1]? = some (.cells #[.slice none 0 0, .slice none 0 0] 26 (0, 0))) := (BOX.out u5 (KPX.out u5 B5.out).2.2).2.1
    go_wp2_with fail
    have FIN := set_row (set_row FB.out 0 (.slice oc0 mt kc0)) 1 (.slice oc1 nb kc1)
    have OTH : ∀ q, q ≠ w.heap.size + 1 → ((u5.setCell ⟨w.heap.size + 1, 0, none⟩ (.slice oc0 mt kc0)).setCell ⟨w.heap.size + 1, 1, none⟩ (.slice oc1 nb kc1)).heap[q]? = u5.heap[q]? := fun q hq => (Below.heap_setCell _ _ _ _ hq).trans (Below.heap_setCell _ _ _ _ hq)
    have BF : Below w.heap.size w ((u5.setCell ⟨w.heap.size + 1, 0, none⟩ (.slice oc0 mt kc0)).setCell ⟨w.heap.size + 1, 1, none⟩ (.slice oc1 nb kc1)) := (FW.out.setCell (p := ⟨w.heap.size + 1, 0, none⟩) (Nat.le_succ _) _).setCell (p := ⟨w.heap.size + 1, 1, none⟩) (Nat.le_succ _) _
    have SZ : ((u5.setCell ⟨w.heap.size + 1, 0, none⟩ (.slice oc0 mt kc0)).setCell ⟨w.heap.size + 1, 1, none⟩ (.slice oc1 nb kc1)).heap.size = u5.heap.size := by simp
    generalize (u5.setCell ⟨w.heap.size + 1, 0, none⟩ (.slice oc0 mt kc0)).setCell ⟨w.heap.size + 1, 1, none⟩ (.slice oc1 nb kc1) = F at FIN OTH BF SZ ⊢
    have g0 := (cell_row FIN 0 (.slice oc0 mt kc0) rfl).1
    have g1 := (cell_row FIN 1 (.slice oc1 nb kc1) rfl).1
    have fs := FS.out
    refine bodyPost_ret (v := .tuple #[.agg #[.slice oc0 mt kc0, .slice oc1 nb kc1], .int .i64 (5)]) (by simp [results, Tryz.results85, go_sem, g0, g1]) rfl ⟨_, _, by rw [FC.out], ?_, ?_, BF⟩
    · exact AtL.up (FA0.out.same (fun b hb => OTH b (by omega))) (fun b hb => ⟨by omega, by omega⟩)
    · exact AtL.up (FA1.out.same (fun b hb => OTH b (by omega))) (fun b hb => ⟨by omega, by omega⟩)
  have ERU : Hid (RR = if (ordS (T, Bs)).2 = true ∧ (ordS (T, Bs.set q (askB f nd))).2 = false then ((T, Bs), 6) else ((T, Bs.set q (askB f nd)), 0)) := by show _ = _; rw [ERT.out, if_neg (by rw [c2]; simp)]
  clear ERT c2
  have s5 := B5.out.size
  have bw5 := (BOX.out u5 (KPX.out u5 B5.out).2.2).2.2
  have y0 := (cell_row (BOX.out u5 (KPX.out u5 B5.out).2.2).1 0 (.slice o0 n0 k0) rfl).1
  have y1 := (cell_row (BOX.out u5 (KPX.out u5 B5.out).2.2).1 1 (.slice (some ⟨bb, off, none⟩) nb kb) rfl).1
  go_wp2_with fail
  refine (copyZ_any S T Bs _ _ _ _ _ _ u5 (H0.out u5 bw5) (H1.out u5 bw5) (HS.out u5 bw5) SM.out).mono ?_
  rintro e u6 ⟨d0, d1, L2, rfl, hbk, hmap, hb6⟩
  obtain ⟨od0, kd0, rfl⟩ := Row.form hbk.th
  obtain ⟨od1, kd1, rfl⟩ := Row.form hbk.bs.ro
  obtain ⟨md, emd⟩ : ∃ n, T.length = n := ⟨_, rfl⟩
  have el2 : L2.length = nb := by have := congrArg List.length hmap; rw [List.length_map] at this; have := ENB.out; omega
  rw [emd, el2] at hbk
  rw [emd, el2]
  have HMP2 : Hid (L2.map dH = Bs) := hmap
  have EL2 : Hid (L2.length = nb) := el2
  have s56 := hb6.size
  obtain ⟨gr, ecap, hv, hgr0, hgr1, hcl⟩ := Row.cell hbk.bs.ro (i := q) (by rw [el2]; exact hqn)
  injection hv with hv hj1 hj2
  clear hj1 hj2 hcl
  subst hv
  obtain ⟨Y, hY⟩ : ∃ X, X = u6.alloc (.cells #[.slice od0 md kd0, .slice (some ⟨gr, 0, none⟩) nb kd1] 26) := ⟨_, rfl⟩
  have EY : Hid (Y = u6.alloc (.cells #[.slice od0 md kd0, .slice (some ⟨gr, 0, none⟩) nb kd1] 26)) := hY
  have BY6 : Below u6.heap.size u6 Y := by rw [hY]; exact (Below.refl _ _).alloc (Nat.le_refl _) _
  obtain ⟨gy, hgy⟩ : ∃ g, g = u6.heap.size := ⟨_, rfl⟩
  have EGY : Hid (gy = u6.heap.size) := hgy
  have RY : Hid (Y.heap[gy]? = some (.cells #[.slice od0 md kd0, .slice (some ⟨gr, 0, none⟩) nb kd1] 26 (0, 0))) := by rw [hY, hgy]; exact heap_alloc_new u6 _
  have sY : u6.heap.size + 1 ≤ Y.heap.size := by rw [hY]; simp
  have BKY : Hid (BkO u5.heap.size Y (.slice od0 md kd0) (.slice (some ⟨gr, 0, none⟩) nb kd1) T L2) := hbk.below BY6
  have B5Y : Hid (Below u5.heap.size u5 Y) := hb6.trans (BY6.mono hb6.size)
  have hgg : gy ≠ gr := by omega
  have hgy5 : u5.heap.size ≤ gy := by omega
  have hqL : q < L2.length := by rw [el2]; exact hqn
  have NLQ : Hid (dH L2[q] = f) := by
    have h1 : (L2.map dH)[q]'(by rw [List.length_map]; exact hqL) = Bs[q] := by simp only [HMP2.out]
    rw [List.getElem_map] at h1
    exact h1.trans EFQ.out
  have enn : nd.length = nn := by obtain ⟨_, _, e, _⟩ := HN.out u5 bw5; cases e; rfl
  have ENN : Hid (nd.length ≤ nn ∧ nn ≤ nd.length) := ⟨by omega, by omega⟩
  have hnn : nn ≤ 64 := by have := SND.out.1; omega
  clear hbk hmap hb6 emd el2 y0 y1 hY hgy BY6 bw5 enn
  go_upto_region 12 with fail
  rw [← EY.out]
  rw [← EGY.out]
  go_wp2_with fail
  obtain ⟨e2, ee2⟩ : ∃ e, L2[q] = e := ⟨_, rfl⟩
  have E2 : Hid (L2[q] = e2) := ee2
  rw [ee2] at NLQ
  clear ee2
  go_loopw [11] (fun i wr => ∃ (k : Nat) (hv : Value), k ≤ nn ∧ i = .int .i64 k ∧ Hid (BkO u5.heap.size wr (.slice od0 md kd0) (.slice (some ⟨gr, 0, none⟩) nb kd1) T (L2.set q (e2.1, (hv, insF f.2.1 (nd.take k)), e2.2.2))) ∧ Hid (wr.heap[gy]? = some (.cells #[.slice od0 md kd0, .slice (some ⟨gr, 0, none⟩) nb kd1] 26 (0, 0))) ∧ Hid (Below u5.heap.size u5 wr)) (fun i _ => nn - (intOf i).toNat)
  case atStart =>
    refine ⟨0, e2.2.1.1, Nat.zero_le _, rfl, ?_, RY, B5Y⟩
    have h1 : L2.set q (e2.1, (e2.2.1.1, insF f.2.1 (nd.take 0)), e2.2.2) = L2 := by
      rw [← NLQ.out]
      show L2.set q e2 = L2
      rw [← E2.out]
      exact List.set_getElem_self hqL
    rw [h1]
    exact BKY
  case round =>
    obtain ⟨k, hv, hkn, rfl, hbk, hbox, hbel⟩ := hrel
    have HB := hbel.out
    have hsz := HB.size
    have BXr : Hid (Below X.heap.size X wr) := B5.out.trans (HB.mono s5)
    have bwr := (BOX.out wr (KPX.out wr BXr.out).2.2).2.2
    by_cases hlt : k < nn
    · have hkl : k < nd.length := by have := ENN.out; omega
      have NXT : Hid (insF f.2.1 (nd.take (k + 1)) = insR (insF f.2.1 (nd.take k)) nd[k]) := insF_next _ hkl
      have ZY : Hid (nd[k].size ≤ maxLen) := ZN.out _ (List.getElem_mem hkl)
      have LEN : Hid ((insF f.2.1 (nd.take k)).length ≤ 72) := by
        have h1 := insF_len (nd.take k) f.2.1
        have h2 := EIG.out
        rw [List.length_take] at h1
        show _ ≤ _
        omega
      obtain ⟨b1, f1, e9, _, c1⟩ := atl_strN (HN.out wr bwr) k hkl
      subst e9
      obtain ⟨y, ey⟩ : ∃ y, nd[k] = y := ⟨_, rfl⟩
      rw [ey] at c1 NXT ZY
      obtain ⟨l, el⟩ : ∃ l, insF f.2.1 (nd.take k) = l := ⟨_, rfl⟩
      rw [el] at NXT LEN hbk
      have hqM : q < (L2.set q (e2.1, (hv, l), e2.2.2)).length := by rw [List.length_set]; exact hqL
      have hmem : (e2.1, (hv, l), e2.2.2) ∈ L2.set q (e2.1, (hv, l), e2.2.2) := by
        have := List.getElem_mem hqM
        rw [List.getElem_set_self] at this
        exact this
      have hel := hbk.out.bs.el _ hmem
      obtain ⟨gh, hgh⟩ := hbk.out.nh _ hmem
      have hrow : Row wr u5.heap.size 9 1 eS hv l := hel.h
      obtain ⟨gh', ch, hvv⟩ : ∃ g c, hv = .slice (some ⟨g, 0, none⟩) l.length c := by
        rcases hrow.2 with ⟨h, _⟩ | ⟨g', cap', cur', h, _⟩
        · have h9 : hv.ownBlock = some gh := hgh
          rw [h] at h9
          cases h9
        · exact ⟨g', cap', h⟩
      clear hgh hmem hel
      subst hvv
      have ZL : Hid (∀ s ∈ l, s.size ≤ maxLen) := fun s hs => by
        rw [← el] at hs
        rcases insF_mem hs with hs | hs
        · exact ZH.out s hs
        · exact ZN.out s (List.mem_of_mem_take hs)
      have OWNH : Hid (wr.ownsRow u5.heap.size 9 1 (.slice (some ⟨gh', 0, none⟩) l.length ch) l.length (l.map .string)) := by
        have h := hrow
        rw [Row, enc_SM] at h
        exact h
      have x1 := (cell_row hbox.out 1 (.slice (some ⟨gr, 0, none⟩) nb kd1) rfl).1
      obtain ⟨_, _, hv2, _, _, hcd⟩ := Row.cell hbk.out.bs.ro (i := q) hqM
      injection hv2 with hv2 hj1 hj2
      clear hj1 hj2
      cases hv2
      have e1 : wr.cell? ⟨gr, q * 3 + 1, none⟩ = some (.slice (some ⟨gh', 0, none⟩) l.length ch) := by
        have h := (hcd 1 (by omega)).1
        rw [List.getElem_set_self] at h
        exact h
      clear hcd hrow el ey
      go_wp2_with fail
      have qx := fun d os => cell_regrown x1 d os
      have qe := fun d os => cell_regrown e1 d os
      have qc := fun d os => cell_regrown c1 d os
      refine wp_region_mix 14 [0, 1, 2, 3, 4, 5, 6, 7, 8, 9, 10, 11, 12] (by kernel_rfl) (by kernel_rfl) ?_
      simp only [List.filterMap_cons, List.filterMap_nil, List.getElem?_cons_succ, List.getElem?_cons_zero]
      repeat (first | go_big_quiet_step (fail) | quiet_step (fail))
      refine wpQuiet_nil ?_
      have hdr : Below wr.heap.size wr wr.drew := (Below.refl _ _).drew
      refine call1 (md := .any) (f := 0) (i := 13) (dc := 60) (fn := 102) ⟨rfl, rfl, rfl, by decide⟩ (by kernel_rfl) ?rc ((insZ_any u5.heap.size gh' ch l y wr.drew (own_belowR OWNH.out hdr) (by have := LEN.out; omega) (by have := hdr.size; omega)).mono ?_)
      case rc => go_simp
      rintro e w6 ⟨g7, c7, rfl, hown7, hb6⟩
      have bw6 : Below wr.heap.size wr w6 := hdr.trans (hb6.mono hdr.size)
      have s6 := bw6.size
      refine ⟨_, rfl, regrown_of_below bw6, ?_⟩
      simp only [Act.put, List.setIfInBounds_toArray, List.set_cons_zero, List.set_cons_succ]
      refine ⟨by kernel_rfl, ?_⟩
      simp only [List.drop_succ_cons, List.drop_zero]
      have R7 : Row w6 u5.heap.size 9 1 eS (.slice (some ⟨g7, 0, none⟩) (insR l y).length c7) (insR l y) := by
        rw [Row, enc_SM]
        exact hown7
      have BK6 := hbk.out.below bw6
      have SET := BkO.set1 BK6 (by rw [List.length_set]; exact EL2.out) hqM R7 (fun s hs => by
        rcases insR_memM hs with hs | hs
        · exact ZL.out s hs
        · rw [hs]; exact ZY.out) ⟨g7, rfl⟩
      rw [List.getElem_set_self, List.set_set] at SET
      have KZ : Hid (BkO u5.heap.size (w6.setCell ⟨gr, q * 3 + 1, none⟩ (.slice (some ⟨g7, 0, none⟩) (insR l y).length c7)) (.slice od0 md kd0) (.slice (some ⟨gr, 0, none⟩) nb kd1) T (L2.set q (e2.1, (.slice (some ⟨g7, 0, none⟩) (insR l y).length c7, insF f.2.1 (nd.take (k + 1))), e2.2.2))) := by rw [NXT.out]; exact SET
      have RZ : Hid ((w6.setCell ⟨gr, q * 3 + 1, none⟩ (.slice (some ⟨g7, 0, none⟩) (insR l y).length c7)).heap[gy]? = some (.cells #[.slice od0 md kd0, .slice (some ⟨gr, 0, none⟩) nb kd1] 26 (0, 0))) := (Below.heap_setCell _ _ _ _ hgg).trans ((bw6.block gy (Array.getElem?_eq_some_iff.1 hbox.out).1).trans hbox.out)
      have BZ : Hid (Below u5.heap.size u5 (w6.setCell ⟨gr, q * 3 + 1, none⟩ (.slice (some ⟨g7, 0, none⟩) (insR l y).length c7))) := (HB.trans (bw6.mono hsz)).setCell (p := ⟨gr, q * 3 + 1, none⟩) hgr0 _
      obtain ⟨_, _, hv3, _, _, hce⟩ := Row.cell BK6.bs.ro (i := q) hqM
      injection hv3 with hv3 hj1 hj2
      clear hj1 hj2
      cases hv3
      obtain ⟨zc1, zf1⟩ := hce 1 (by omega)
      clear hce BK6 R7 SET hown7 hb6 hdr qx qe qc x1 e1 c1 bwr
      go_upto_region 14 with fail
      generalize (w6.setCell ⟨gr, q * 3 + 1, none⟩ (.slice (some ⟨g7, 0, none⟩) (insR l y).length c7)) = Z at KZ RZ BZ ⊢
      clear zc1 zf1
      go_wp2_with fail
      go_roundw
      case rel => exact ⟨k + 1, _, by omega, by go_num, KZ, RZ, BZ⟩
      case measure => simp [intOf]; omega
    · have TKA : nd.take k = nd := List.take_of_length_le (by have := ENN.out; omega)
      rw [TKA] at hbk
      have TD : Hid (AtL (fun b => u5.heap.size ≤ b ∧ b < wr.heap.size) wr T (.slice od0 md kd0)) := hbk.out.at_.1
      have MD : Hid (AtL (fun b => u5.heap.size ≤ b ∧ b < wr.heap.size) wr (Bs.set q (askB f nd)) (.slice (some ⟨gr, 0, none⟩) nb kd1)) := by
        have h1 := hbk.out.at_.2
        rw [List.map_set, HMP2.out] at h1
        have h9 : dH (e2.1, (hv, insF f.2.1 nd), e2.2.2) = askB f nd := by unfold askB; rw [← NLQ.out]; rfl
        rw [h9] at h1
        exact h1
      have hgyr : gy < wr.heap.size := (Array.getElem?_eq_some_iff.1 hbox.out).1
      clear TKA
      have y0 := (cell_row (BOX.out wr (KPX.out wr BXr.out).2.2).1 0 (.slice o0 n0 k0) rfl).1
      have y1 := (cell_row (BOX.out wr (KPX.out wr BXr.out).2.2).1 1 (.slice (some ⟨bb, off, none⟩) nb kb) rfl).1
      have CS1 : Hid (Calls Tryz.prog 103 #[.agg #[.slice o0 n0 k0, .slice (some ⟨bb, off, none⟩) nb kb]] wr fun e w' => e = .returned (.bool (ordS (T, Bs)).2) ∧ Below wr.heap.size wr w') := safeZ_any S T Bs _ _ _ _ _ _ wr (H0.out wr bwr) (H1.out wr bwr) (HS.out wr bwr)
      clear bwr hbk
      go_wp2_with fail
      refine CS1.out.mono ?_; rintro e v1 ⟨rfl, hb1⟩
      have BV : Hid (Below wr.heap.size wr v1) := hb1
      have sv1 := hb1.size
      clear hb1 y0 y1 CS1
      cases s1 : (ordS (T, Bs)).2
      case false =>
        have ER : Hid (RR = ((T, Bs.set q (askB f nd)), 0)) := by show _ = _; rw [ERU.out, if_neg (by rw [s1]; simp)]
        clear s1
        obtain ⟨g0x, _⟩ := cell_row ((BV.out.block gy hgyr).trans hbox.out) 0 (.slice od0 md kd0) rfl
        obtain ⟨g1x, _⟩ := cell_row ((BV.out.block gy hgyr).trans hbox.out) 1 (.slice (some ⟨gr, 0, none⟩) nb kd1) rfl
        have BWV : Hid (Below W.heap.size W v1) := (KPX.out v1 (BXr.out.trans (BV.out.mono BXr.out.size))).2.2
        go_wp2_with fail
        refine (copyZ_any (fun b => u5.heap.size ≤ b ∧ b < wr.heap.size) T (Bs.set q (askB f nd)) _ _ _ _ _ _ v1 (TD.out.same (Same.of_below BV.out (fun b hb => hb.2))) (MD.out.same (Same.of_below BV.out (fun b hb => hb.2))) (fun b hb => Nat.lt_of_lt_of_le hb.2 BV.out.size) SMF.out.tot).mono ?_
        rintro e Zf ⟨d0, d1, Lf, rfl, hbkf, hmapf, hbf⟩
        obtain ⟨of0, kf0, rfl⟩ := Row.form hbkf.th
        obtain ⟨of1, kf1, rfl⟩ := Row.form hbkf.bs.ro
        obtain ⟨mf0, ef0⟩ : ∃ n, T.length = n := ⟨_, rfl⟩
        obtain ⟨mf1, ef1⟩ : ∃ n, Lf.length = n := ⟨_, rfl⟩
        rw [ef0, ef1] at hbkf
        rw [ef0, ef1]
        have BKF : Hid (BkO v1.heap.size Zf (.slice of0 mf0 kf0) (.slice of1 mf1 kf1) T Lf) := hbkf
        have HMF : Hid (Lf.map dH = Bs.set q (askB f nd)) := hmapf
        have BFF : Hid (Below W.heap.size W Zf) := BWV.out.trans (hbf.mono BWV.out.size)
        have sZf := BWV.out.size
        clear hbkf hmapf hbf ef0 ef1 g0x g1x
        obtain ⟨z0, f0⟩ := cell_row (BOX.out Zf BFF.out).2.1 0 (.slice none 0 0) rfl
        obtain ⟨z1, f1⟩ := cell_row (BOX.out Zf BFF.out).2.1 1 (.slice none 0 0) rfl
        have FA0 : Hid (AtL (fun b => W.heap.size ≤ b ∧ b < Zf.heap.size) Zf RR.1.1 (.slice of0 mf0 kf0)) := by rw [ER.out]; exact (AtL.up (S := fun b => v1.heap.size ≤ b ∧ b < Zf.heap.size) BKF.out.at_.1 (fun b hb => ⟨by omega, hb.2⟩))
        have FA1 : Hid (AtL (fun b => W.heap.size ≤ b ∧ b < Zf.heap.size) Zf RR.1.2 (.slice of1 mf1 kf1)) := by rw [ER.out]; exact (by have h9 := BKF.out.at_.2; rw [HMF.out] at h9; exact AtL.up h9 (fun b hb => ⟨by omega, hb.2⟩))
        have FC : Hid (RR.2 = 0) := by show _ = _; rw [ER.out]
        have FS : Hid (W.heap.size ≤ Zf.heap.size) := (BFF.out).size
        have FW : Hid (Below w.heap.size w Zf) := (BOX.out Zf BFF.out).2.2
        have FB : Hid (Zf.heap[w.heap.size + 1]? = some (.cells #[.slice none 0 0, .slice none 0 0] 26 (0, 0))) := (BOX.out Zf BFF.out).2.1
        go_wp2_with fail
        have FIN := set_row (set_row FB.out 0 (.slice of0 mf0 kf0)) 1 (.slice of1 mf1 kf1)
        have OTH : ∀ q, q ≠ w.heap.size + 1 → ((Zf.setCell ⟨w.heap.size + 1, 0, none⟩ (.slice of0 mf0 kf0)).setCell ⟨w.heap.size + 1, 1, none⟩ (.slice of1 mf1 kf1)).heap[q]? = Zf.heap[q]? := fun q hq => (Below.heap_setCell _ _ _ _ hq).trans (Below.heap_setCell _ _ _ _ hq)
        have BF : Below w.heap.size w ((Zf.setCell ⟨w.heap.size + 1, 0, none⟩ (.slice of0 mf0 kf0)).setCell ⟨w.heap.size + 1, 1, none⟩ (.slice of1 mf1 kf1)) := (FW.out.setCell (p := ⟨w.heap.size + 1, 0, none⟩) (Nat.le_succ _) _).setCell (p := ⟨w.heap.size + 1, 1, none⟩) (Nat.le_succ _) _
        have SZ : ((Zf.setCell ⟨w.heap.size + 1, 0, none⟩ (.slice of0 mf0 kf0)).setCell ⟨w.heap.size + 1, 1, none⟩ (.slice of1 mf1 kf1)).heap.size = Zf.heap.size := by simp
        generalize (Zf.setCell ⟨w.heap.size + 1, 0, none⟩ (.slice of0 mf0 kf0)).setCell ⟨w.heap.size + 1, 1, none⟩ (.slice of1 mf1 kf1) = F at FIN OTH BF SZ ⊢
        have g0 := (cell_row FIN 0 (.slice of0 mf0 kf0) rfl).1
        have g1 := (cell_row FIN 1 (.slice of1 mf1 kf1) rfl).1
        have fs := FS.out
        refine bodyPost_ret (v := .tuple #[.agg #[.slice of0 mf0 kf0, .slice of1 mf1 kf1], .int .i64 (0)]) (by simp [results, Tryz.results85, go_sem, g0, g1]) rfl ⟨_, _, by rw [FC.out], ?_, ?_, BF⟩
        · exact AtL.up (FA0.out.same (fun b hb => OTH b (by omega))) (fun b hb => ⟨by omega, by omega⟩)
        · exact AtL.up (FA1.out.same (fun b hb => OTH b (by omega))) (fun b hb => ⟨by omega, by omega⟩)
      have z0 := (cell_row ((BV.out.block gy hgyr).trans hbox.out) 0 (.slice od0 md kd0) rfl).1
      have z1 := (cell_row ((BV.out.block gy hgyr).trans hbox.out) 1 (.slice (some ⟨gr, 0, none⟩) nb kd1) rfl).1
      have CS2 : Hid (Calls Tryz.prog 103 #[.agg #[.slice od0 md kd0, .slice (some ⟨gr, 0, none⟩) nb kd1]] v1 fun e w' => e = .returned (.bool (ordS (T, Bs.set q (askB f nd))).2) ∧ Below v1.heap.size v1 w') := safeZ_any (fun b => u5.heap.size ≤ b ∧ b < wr.heap.size) T (Bs.set q (askB f nd)) _ _ _ _ _ _ v1 (TD.out.same (Same.of_below BV.out (fun b hb => hb.2))) (MD.out.same (Same.of_below BV.out (fun b hb => hb.2))) (fun b hb => Nat.lt_of_lt_of_le hb.2 BV.out.size)
      have S1 : Hid ((ordS (T, Bs)).2 = true) := s1
      clear s1
      go_wp2_with fail
      refine CS2.out.mono ?_; rintro e v2 ⟨rfl, hb2⟩
      have BV0 : Hid (Below wr.heap.size wr v2) := BV.out.trans (hb2.mono BV.out.size)
      clear BV
      have BV : Hid (Below wr.heap.size wr v2) := BV0.out
      have sv2 := hb2.size
      clear hb2 z0 z1 CS2 BV0
      have BXv : Hid (Below X.heap.size X v2) := BXr.out.trans (BV.out.mono BXr.out.size)
      cases s2 : (ordS (T, Bs.set q (askB f nd))).2
      case false =>
        have ER : Hid (RR = ((T, Bs), 6)) := by show _ = _; rw [ERU.out, if_pos ⟨S1.out, s2⟩]
        clear s2
        obtain ⟨g0x, _⟩ := cell_row (KPX.out v2 BXv.out).1 0 (.slice oc0 mt kc0) rfl
        obtain ⟨g1x, _⟩ := cell_row (KPX.out v2 BXv.out).1 1 (.slice oc1 nb kc1) rfl
        obtain ⟨z0, f0⟩ := cell_row (BOX.out v2 (KPX.out v2 BXv.out).2.2).2.1 0 (.slice none 0 0) rfl
        obtain ⟨z1, f1⟩ := cell_row (BOX.out v2 (KPX.out v2 BXv.out).2.2).2.1 1 (.slice none 0 0) rfl
        have FA0 : Hid (AtL (fun b => W.heap.size ≤ b ∧ b < v2.heap.size) v2 RR.1.1 (.slice oc0 mt kc0)) := by rw [ER.out]; exact (AtL.up (S := fun b => u1.heap.size ≤ b ∧ b < v2.heap.size) (KPX.out v2 BXv.out).2.1.at_.1 (fun b hb => ⟨by omega, hb.2⟩))
        have FA1 : Hid (AtL (fun b => W.heap.size ≤ b ∧ b < v2.heap.size) v2 RR.1.2 (.slice oc1 nb kc1)) := by rw [ER.out]; exact (AtL.up (S := fun b => u1.heap.size ≤ b ∧ b < v2.heap.size) (HMP.out ▸ (KPX.out v2 BXv.out).2.1.at_.2) (fun b hb => ⟨by omega, hb.2⟩))
        have FC : Hid (RR.2 = 6) := by show _ = _; rw [ER.out]
        have FS : Hid (W.heap.size ≤ v2.heap.size) := ((KPX.out v2 BXv.out).2.2).size
        have FW : Hid (Below w.heap.size w v2) := (BOX.out v2 (KPX.out v2 BXv.out).2.2).2.2
        have FB : Hid (v2.heap[w.heap.size + 1]? = some (.cells #[.slice none 0 0, .slice none 0 0] 26 (0, 0))) := (BOX.out v2 (KPX.out v2 BXv.out).2.2).2.1
        go_wp2_with fail
        have FIN := set_row (set_row FB.out 0 (.slice oc0 mt kc0)) 1 (.slice oc1 nb kc1)
        have OTH : ∀ q, q ≠ w.heap.size + 1 → ((v2.setCell ⟨w.heap.size + 1, 0, none⟩ (.slice oc0 mt kc0)).setCell ⟨w.heap.size + 1, 1, none⟩ (.slice oc1 nb kc1)).heap[q]? = v2.heap[q]? := fun q hq => (Below.heap_setCell _ _ _ _ hq).trans (Below.heap_setCell _ _ _ _ hq)
        have BF : Below w.heap.size w ((v2.setCell ⟨w.heap.size + 1, 0, none⟩ (.slice oc0 mt kc0)).setCell ⟨w.heap.size + 1, 1, none⟩ (.slice oc1 nb kc1)) := (FW.out.setCell (p := ⟨w.heap.size + 1, 0, none⟩) (Nat.le_succ _) _).setCell (p := ⟨w.heap.size + 1, 1, none⟩) (Nat.le_succ _) _
        have SZ : ((v2.setCell ⟨w.heap.size + 1, 0, none⟩ (.slice oc0 mt kc0)).setCell ⟨w.heap.size + 1, 1, none⟩ (.slice oc1 nb kc1)).heap.size = v2.heap.size := by simp
        generalize (v2.setCell ⟨w.heap.size + 1, 0, none⟩ (.slice oc0 mt kc0)).setCell ⟨w.heap.size + 1, 1, none⟩ (.slice oc1 nb kc1) = F at FIN OTH BF SZ ⊢
        have g0 := (cell_row FIN 0 (.slice oc0 mt kc0) rfl).1
        have g1 := (cell_row FIN 1 (.slice oc1 nb kc1) rfl).1
        have fs := FS.out
        refine bodyPost_ret (v := .tuple #[.agg #[.slice oc0 mt kc0, .slice oc1 nb kc1], .int .i64 (6)]) (by simp [results, Tryz.results85, go_sem, g0, g1]) rfl ⟨_, _, by rw [FC.out], ?_, ?_, BF⟩
        · exact AtL.up (FA0.out.same (fun b hb => OTH b (by omega))) (fun b hb => ⟨by omega, by omega⟩)
        · exact AtL.up (FA1.out.same (fun b hb => OTH b (by omega))) (fun b hb => ⟨by omega, by omega⟩)
      have ER : Hid (RR = ((T, Bs.set q (askB f nd)), 0)) := by show _ = _; rw [ERU.out, if_neg (by rw [s2]; simp)]
      clear s2
      obtain ⟨g0x, _⟩ := cell_row ((BV.out.block gy hgyr).trans hbox.out) 0 (.slice od0 md kd0) rfl
      obtain ⟨g1x, _⟩ := cell_row ((BV.out.block gy hgyr).trans hbox.out) 1 (.slice (some ⟨gr, 0, none⟩) nb kd1) rfl
      have BWV : Hid (Below W.heap.size W v2) := (KPX.out v2 (BXr.out.trans (BV.out.mono BXr.out.size))).2.2
      go_wp2_with fail
      refine (copyZ_any (fun b => u5.heap.size ≤ b ∧ b < wr.heap.size) T (Bs.set q (askB f nd)) _ _ _ _ _ _ v2 (TD.out.same (Same.of_below BV.out (fun b hb => hb.2))) (MD.out.same (Same.of_below BV.out (fun b hb => hb.2))) (fun b hb => Nat.lt_of_lt_of_le hb.2 BV.out.size) SMF.out.tot).mono ?_
      rintro e Zf ⟨d0, d1, Lf, rfl, hbkf, hmapf, hbf⟩
      obtain ⟨of0, kf0, rfl⟩ := Row.form hbkf.th
      obtain ⟨of1, kf1, rfl⟩ := Row.form hbkf.bs.ro
      obtain ⟨mf0, ef0⟩ : ∃ n, T.length = n := ⟨_, rfl⟩
      obtain ⟨mf1, ef1⟩ : ∃ n, Lf.length = n := ⟨_, rfl⟩
      rw [ef0, ef1] at hbkf
      rw [ef0, ef1]
      have BKF : Hid (BkO v2.heap.size Zf (.slice of0 mf0 kf0) (.slice of1 mf1 kf1) T Lf) := hbkf
      have HMF : Hid (Lf.map dH = Bs.set q (askB f nd)) := hmapf
      have BFF : Hid (Below W.heap.size W Zf) := BWV.out.trans (hbf.mono BWV.out.size)
      have sZf := BWV.out.size
      clear hbkf hmapf hbf ef0 ef1 g0x g1x
      obtain ⟨z0, f0⟩ := cell_row (BOX.out Zf BFF.out).2.1 0 (.slice none 0 0) rfl
      obtain ⟨z1, f1⟩ := cell_row (BOX.out Zf BFF.out).2.1 1 (.slice none 0 0) rfl
      have FA0 : Hid (AtL (fun b => W.heap.size ≤ b ∧ b < Zf.heap.size) Zf RR.1.1 (.slice of0 mf0 kf0)) := by rw [ER.out]; exact (AtL.up (S := fun b => v2.heap.size ≤ b ∧ b < Zf.heap.size) BKF.out.at_.1 (fun b hb => ⟨by omega, hb.2⟩))
      have FA1 : Hid (AtL (fun b => W.heap.size ≤ b ∧ b < Zf.heap.size) Zf RR.1.2 (.slice of1 mf1 kf1)) := by rw [ER.out]; exact (by have h9 := BKF.out.at_.2; rw [HMF.out] at h9; exact AtL.up h9 (fun b hb => ⟨by omega, hb.2⟩))
      have FC : Hid (RR.2 = 0) := by show _ = _; rw [ER.out]
      have FS : Hid (W.heap.size ≤ Zf.heap.size) := (BFF.out).size
      have FW : Hid (Below w.heap.size w Zf) := (BOX.out Zf BFF.out).2.2
      have FB : Hid (Zf.heap[w.heap.size + 1]? = some (.cells #[.slice none 0 0, .slice none 0 0] 26 (0, 0))) := (BOX.out Zf BFF.out).2.1
      go_wp2_with fail
      have FIN := set_row (set_row FB.out 0 (.slice of0 mf0 kf0)) 1 (.slice of1 mf1 kf1)
      have OTH : ∀ q, q ≠ w.heap.size + 1 → ((Zf.setCell ⟨w.heap.size + 1, 0, none⟩ (.slice of0 mf0 kf0)).setCell ⟨w.heap.size + 1, 1, none⟩ (.slice of1 mf1 kf1)).heap[q]? = Zf.heap[q]? := fun q hq => (Below.heap_setCell _ _ _ _ hq).trans (Below.heap_setCell _ _ _ _ hq)
      have BF : Below w.heap.size w ((Zf.setCell ⟨w.heap.size + 1, 0, none⟩ (.slice of0 mf0 kf0)).setCell ⟨w.heap.size + 1, 1, none⟩ (.slice of1 mf1 kf1)) := (FW.out.setCell (p := ⟨w.heap.size + 1, 0, none⟩) (Nat.le_succ _) _).setCell (p := ⟨w.heap.size + 1, 1, none⟩) (Nat.le_succ _) _
      have SZ : ((Zf.setCell ⟨w.heap.size + 1, 0, none⟩ (.slice of0 mf0 kf0)).setCell ⟨w.heap.size + 1, 1, none⟩ (.slice of1 mf1 kf1)).heap.size = Zf.heap.size := by simp
      generalize (Zf.setCell ⟨w.heap.size + 1, 0, none⟩ (.slice of0 mf0 kf0)).setCell ⟨w.heap.size + 1, 1, none⟩ (.slice of1 mf1 kf1) = F at FIN OTH BF SZ ⊢
      have g0 := (cell_row FIN 0 (.slice of0 mf0 kf0) rfl).1
      have g1 := (cell_row FIN 1 (.slice of1 mf1 kf1) rfl).1
      have fs := FS.out
      refine bodyPost_ret (v := .tuple #[.agg #[.slice of0 mf0 kf0, .slice of1 mf1 kf1], .int .i64 (0)]) (by simp [results, Tryz.results85, go_sem, g0, g1]) rfl ⟨_, _, by rw [FC.out], ?_, ?_, BF⟩
      · exact AtL.up (FA0.out.same (fun b hb => OTH b (by omega))) (fun b hb => ⟨by omega, by omega⟩)
      · exact AtL.up (FA1.out.same (fun b hb => OTH b (by omega))) (fun b hb => ⟨by omega, by omega⟩)
end Go.Proofs.YtaejlcanccfmmaaGreatDoor
