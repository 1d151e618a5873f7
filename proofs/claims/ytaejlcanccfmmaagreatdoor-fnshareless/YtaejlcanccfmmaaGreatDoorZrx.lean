import Derived.Test.YtaejlcanccfmmaaGreatDoorZra
import Derived.Test.YtaejlcanccfmmaaGreatDoorM19
import Derived.Maps.AppendAt
namespace Go.Proofs.YtaejlcanccfmmaaGreatDoor
open Go.RowKit Go.Sort
theorem atl_strM {S : Nat → Prop} {w : World} {l : List ByteArray} {oa : Option Addr} {n cap : Nat} (h : AtL S w l (.slice oa n cap)) (i : Nat) (hi : i < l.length) : ∃ b off, oa = some ⟨b, off, none⟩ ∧ S b ∧ w.cell? ⟨b, off + i, none⟩ = some (.string l[i]) := by
  obtain ⟨oa', cap', e, _, hc⟩ := h
  cases e
  obtain ⟨b, off, g1, g2, c, g3, g4⟩ := hc i hi
  rw [width_str] at g3
  rw [at_str] at g4
  refine ⟨b, off, g1, g2, ?_⟩
  have e0 : w.cell? ⟨b, off + i, none⟩ = some (c 0) := by simpa using g3 0 (by omega)
  rw [e0, g4.1]
theorem set2_kept {B : Nat} {w : World} {g cap nb q : Nat} {hv nv : Value} {L : List HB} (h : BsO B w (.slice (some ⟨g, 0, none⟩) nb cap) L) : ∀ (b : Nat) (c : Array Value), w.heap[b]? = some (.cells c 9 (0, 0)) → ((w.setCell ⟨g, q * 3 + 2, none⟩ nv).setCell ⟨g, q * 3 + 1, none⟩ hv).heap[b]? = w.heap[b]? := fun b c hc => by
  have hb : b ≠ g := fun e => by
    obtain ⟨c', hc'⟩ := Row.typed h.ro g rfl
    rw [← e, hc] at hc'
    injection hc' with h1
    injection h1 with _ h2
    revert h2
    decide
  exact (Below.heap_setCell _ _ _ _ hb).trans (Below.heap_setCell _ _ _ _ hb)
theorem BsO.set2 {B : Nat} {w : World} {g cap nb : Nat} {L : List HB} (h : BsO B w (.slice (some ⟨g, 0, none⟩) nb cap) L) (hl : L.length = nb) {q : Nat} (hq : q < L.length) {hv nv : Value} {hs nd : List ByteArray} (hh : Row w B 9 1 eS hv hs) (hn : Row w B 9 1 eS nv nd) (zh : ∀ s ∈ hs, s.size ≤ maxLen) (zn : ∀ s ∈ nd, s.size ≤ maxLen) :
    BsO B ((w.setCell ⟨g, q * 3 + 2, none⟩ nv).setCell ⟨g, q * 3 + 1, none⟩ hv) (.slice (some ⟨g, 0, none⟩) nb cap) (L.set q (L[q].1, (hv, hs), (nv, nd))) := by
  subst hl
  have h1 := (Row.put h.ro hq (j := 2) (by omega) nv (L[q].1, L[q].2.1, (nv, nd)) (fun j hj => by rcases (show j = 0 ∨ j = 1 ∨ j = 2 by omega) with rfl | rfl | rfl <;> rfl)).1
  have h1' : Row (w.setCell ⟨g, q * 3 + 2, none⟩ nv) B 43 3 eH (.slice (some ⟨g, 0, none⟩) (L.set q (L[q].1, L[q].2.1, (nv, nd))).length cap) (L.set q (L[q].1, L[q].2.1, (nv, nd))) := by rw [List.length_set]; exact h1
  have h2 := (Row.put h1' (i := q) (by rw [List.length_set]; exact hq) (j := 1) (by omega) hv (L[q].1, (hv, hs), (nv, nd)) (fun j hj => by rw [List.getElem_set_self]; rcases (show j = 0 ∨ j = 1 ∨ j = 2 by omega) with rfl | rfl | rfl <;> rfl)).1
  rw [List.length_set, List.set_set] at h2
  have KP : ∀ (b : Nat) (c : Array Value), w.heap[b]? = some (.cells c 9 (0, 0)) → ((w.setCell ⟨g, q * 3 + 2, none⟩ nv).setCell ⟨g, q * 3 + 1, none⟩ hv).heap[b]? = w.heap[b]? := fun b c hc => by
    have hb : b ≠ g := fun e => by
      obtain ⟨c', hc'⟩ := Row.typed h.ro g rfl
      rw [← e, hc] at hc'
      injection hc' with h1
      injection h1 with _ h2
      revert h2
      decide
    exact (Below.heap_setCell _ _ _ _ hb).trans (Below.heap_setCell _ _ _ _ hb)
  refine ⟨h2, fun y hy => ?_⟩
  rcases List.mem_or_eq_of_mem_set hy with hy | rfl
  · exact (h.el y hy).kept KP
  · exact ⟨strRow_kept hh KP, strRow_kept hn KP, (h.el _ (List.getElem_mem hq)).z, zh, zn⟩
set_option maxRecDepth 100000 in
set_option maxHeartbeats 16000000 in
theorem lesZ_any (S : Nat → Prop) (T : List ByteArray) (Bs : List DShareBatch) (o0 oa : Option Addr) (n0 k0 nb kb : Nat) (x : ByteArray) (SN : Nat → Prop) (nd : List ByteArray) (on : Option Addr) (nn kn : Nat) (w : World) (h0 : AtL S w T (.slice o0 n0 k0)) (h1 : AtL S w Bs (.slice oa nb kb)) (hS : ∀ b, S b → b < w.heap.size) (hN : AtL SN w nd (.slice on nn kn)) (hSN : ∀ b, SN b → b < w.heap.size) :
    Calls Tryz.prog 6 #[.agg #[.slice o0 n0 k0, .slice oa nb kb], .string x, .slice on nn kn] w fun e w' => ∃ r0 r1, e = .returned (.tuple #[.agg #[r0, r1], .int .i64 (lesS (T, Bs) x nd).2]) ∧ AtL (fun b => w.heap.size ≤ b ∧ b < w'.heap.size) w' (lesS (T, Bs) x nd).1.1 r0 ∧ AtL (fun b => w.heap.size ≤ b ∧ b < w'.heap.size) w' (lesS (T, Bs) x nd).1.2 r1 ∧ Below w.heap.size w w' := by
  have H0 : Hid _ := h0.ups hS
  have H1 : Hid _ := h1.ups hS
  have HS : Hid _ := lt_up hS
  have enb : Bs.length = nb := by obtain ⟨_, _, e, _⟩ := h1; cases e; rfl
  have ENB : Hid (Bs.length ≤ nb ∧ nb ≤ Bs.length) := ⟨by omega, by omega⟩
  have hmx : nb ≤ 9223372036854775807 := by obtain ⟨_, _, e, hf, _⟩ := id h1; cases e; have := hf.1; unfold maxLen at this; omega
  have HN : Hid _ := hN.ups hSN
  have HSN : Hid _ := lt_up hSN
  clear h0 h1 enb hN
  obtain ⟨RR, hRR⟩ : ∃ R, R = lesS (T, Bs) x nd := ⟨_, rfl⟩
  have HRR : Hid (RR = lesS (T, Bs) x nd) := hRR
  rw [← hRR]
  clear hRR
  obtain ⟨W, hW⟩ : ∃ W, W = (w.alloc (.cells #[.slice o0 n0 k0, .slice oa nb kb] 26)).alloc (.cells #[.slice none 0 0, .slice none 0 0] 26) := ⟨_, rfl⟩
  have EW : Hid (W = (w.alloc (.cells #[.slice o0 n0 k0, .slice oa nb kb] 26)).alloc (.cells #[.slice none 0 0, .slice none 0 0] 26)) := hW
  have BW : Hid (Below w.heap.size w W) := by rw [hW]; exact ((Below.refl _ _).alloc (Nat.le_refl _) _).alloc (by simp) _
  have R1 : Hid (W.heap[w.heap.size]? = some (.cells #[.slice o0 n0 k0, .slice oa nb kb] 26 (0, 0))) := by rw [hW]; exact (Below.heap_alloc _ _ _ (by simp)).trans (heap_alloc_new w _)
  have R2 : Hid (W.heap[w.heap.size + 1]? = some (.cells #[.slice none 0 0, .slice none 0 0] 26 (0, 0))) := by rw [hW]; exact alloc_atR _ (by simp)
  have sW : w.heap.size + 2 ≤ W.heap.size := by rw [hW]; simp
  clear hW
  have BOX : Hid (∀ u, Below W.heap.size W u → u.heap[w.heap.size]? = some (.cells #[.slice o0 n0 k0, .slice oa nb kb] 26 (0, 0)) ∧ u.heap[w.heap.size + 1]? = some (.cells #[.slice none 0 0, .slice none 0 0] 26 (0, 0)) ∧ Below w.heap.size w u) := fun u hu => ⟨(hu.block _ (by omega)).trans R1.out, (hu.block _ (by omega)).trans R2.out, BW.out.trans (hu.mono (by omega))⟩
  have y0 := (cell_row R1.out 0 (.slice o0 n0 k0) rfl).1
  have y1 := (cell_row R1.out 1 (.slice oa nb kb) rfl).1
  go_enter Tryz.func6, Tryz.ntmps6
  go_upto_region 1 with fail
  rw [← EW.out]
  go_wp2_with fail
  refine (bookZ_any S (T, Bs) _ _ W (H0.out W BW.out) (H1.out W BW.out) (HS.out W BW.out)).mono ?_; rintro e u1 ⟨rfl, hb1⟩
  have B1 : Hid (Below W.heap.size W u1) := hb1
  clear hb1 y0 y1
  cases hB : bokB (T, Bs)
  · have ER : Hid (RR = (([], []), 1)) := by show _ = _; rw [HRR.out]; unfold lesS; rw [if_neg (by rw [hB]; simp)]
    obtain ⟨z0, f0⟩ := cell_row (BOX.out u1 B1.out).2.1 0 (.slice none 0 0) rfl
    obtain ⟨z1, f1⟩ := cell_row (BOX.out u1 B1.out).2.1 1 (.slice none 0 0) rfl
    have FA0 : Hid (AtL (fun b => W.heap.size ≤ b ∧ b < u1.heap.size) u1 RR.1.1 (.slice none 0 0)) := by rw [ER.out]; exact atl_noneM _ _
    have FA1 : Hid (AtL (fun b => W.heap.size ≤ b ∧ b < u1.heap.size) u1 RR.1.2 (.slice none 0 0)) := by rw [ER.out]; exact atl_noneM _ _
    have FC : Hid (RR.2 = 1) := by show _ = _; rw [ER.out]
    have FS : Hid (W.heap.size ≤ u1.heap.size) := (B1.out).size
    have FW : Hid (Below w.heap.size w u1) := (BOX.out u1 B1.out).2.2
    have FB : Hid (u1.heap[w.heap.size + 1]? = some (.cells #[.slice none 0 0, .slice none 0 0] 26 (0, 0))) := (BOX.out u1 B1.out).2.1
    go_wp2_with fail
    have FIN := set_row (set_row FB.out 0 (.slice none 0 0)) 1 (.slice none 0 0)
    have OTH : ∀ q, q ≠ w.heap.size + 1 → ((u1.setCell ⟨w.heap.size + 1, 0, none⟩ (.slice none 0 0)).setCell ⟨w.heap.size + 1, 1, none⟩ (.slice none 0 0)).heap[q]? = u1.heap[q]? := fun q hq => (Below.heap_setCell _ _ _ _ hq).trans (Below.heap_setCell _ _ _ _ hq)
    have BF : Below w.heap.size w ((u1.setCell ⟨w.heap.size + 1, 0, none⟩ (.slice none 0 0)).setCell ⟨w.heap.size + 1, 1, none⟩ (.slice none 0 0)) := (FW.out.setCell (p := ⟨w.heap.size + 1, 0, none⟩) (Nat.le_succ _) _).setCell (p := ⟨w.heap.size + 1, 1, none⟩) (Nat.le_succ _) _
    have SZ : ((u1.setCell ⟨w.heap.size + 1, 0, none⟩ (.slice none 0 0)).setCell ⟨w.heap.size + 1, 1, none⟩ (.slice none 0 0)).heap.size = u1.heap.size := by simp
    generalize (u1.setCell ⟨w.heap.size + 1, 0, none⟩ (.slice none 0 0)).setCell ⟨w.heap.size + 1, 1, none⟩ (.slice none 0 0) = F at FIN OTH BF SZ ⊢
    have g0 := (cell_row FIN 0 (.slice none 0 0) rfl).1
    have g1 := (cell_row FIN 1 (.slice none 0 0) rfl).1
    have fs := FS.out
    refine bodyPost_ret (v := .tuple #[.agg #[.slice none 0 0, .slice none 0 0], .int .i64 (1)]) (by simp [results, Tryz.results6, go_sem, g0, g1]) rfl ⟨_, _, by rw [FC.out], ?_, ?_, BF⟩
    · exact AtL.up (FA0.out.same (fun b hb => OTH b (by omega))) (fun b hb => ⟨by omega, by omega⟩)
    · exact AtL.up (FA1.out.same (fun b hb => OTH b (by omega))) (fun b hb => ⟨by omega, by omega⟩)
  have OK : Hid (BokP (T, Bs)) := bok_iff.1 hB
  have EB : Hid (bokB (T, Bs) = true) := hB
  clear hB
  have SM : Hid (Lay.tot (α := DShareBook) (T, Bs) ≤ 1048576) := (bok_small OK.out).1.tot
  have y0 := (cell_row (BOX.out u1 B1.out).1 0 (.slice o0 n0 k0) rfl).1
  have y1 := (cell_row (BOX.out u1 B1.out).1 1 (.slice oa nb kb) rfl).1
  go_wp2_with fail
  refine (copyZ_any S T Bs _ _ _ _ _ _ u1 (H0.out u1 (BOX.out u1 B1.out).2.2) (H1.out u1 (BOX.out u1 B1.out).2.2) (HS.out u1 (BOX.out u1 B1.out).2.2) SM.out).mono ?_
  rintro e u2 ⟨c0, c1, L, rfl, hbk, hmap, hb2⟩
  obtain ⟨oc0, kc0, rfl⟩ := Row.form hbk.th
  obtain ⟨oc1, kc1, rfl⟩ := Row.form hbk.bs.ro
  obtain ⟨mt, emt⟩ : ∃ n, T.length = n := ⟨_, rfl⟩
  have elb : L.length = nb := by have := congrArg List.length hmap; rw [List.length_map] at this; have := ENB.out; omega
  rw [emt, elb] at hbk
  rw [emt, elb]
  have BK2 : Hid (BkO u1.heap.size u2 (.slice oc0 mt kc0) (.slice oc1 nb kc1) T L) := hbk
  have HMP : Hid (L.map dH = Bs) := hmap
  have ELB : Hid (L.length = nb) := elb
  have B2 : Hid (Below W.heap.size W u2) := B1.out.trans (hb2.mono B1.out.size)
  have s12 := hb2.size
  have sW1 := B1.out.size
  clear hbk hmap hb2 emt elb y0 y1
  obtain ⟨X, hX⟩ : ∃ X, X = u2.alloc (.cells #[.slice oc0 mt kc0, .slice oc1 nb kc1] 26) := ⟨_, rfl⟩
  have EX : Hid (X = u2.alloc (.cells #[.slice oc0 mt kc0, .slice oc1 nb kc1] 26)) := hX
  have BX2 : Below u2.heap.size u2 X := by rw [hX]; exact (Below.refl _ _).alloc (Nat.le_refl _) _
  have RX : Hid (X.heap[u2.heap.size]? = some (.cells #[.slice oc0 mt kc0, .slice oc1 nb kc1] 26 (0, 0))) := by rw [hX]; exact heap_alloc_new u2 _
  have sX : u2.heap.size + 1 ≤ X.heap.size := by rw [hX]; simp
  have BX : Hid (Below W.heap.size W X) := B2.out.trans (BX2.mono B2.out.size)
  have BKX : Hid (BkO u1.heap.size X (.slice oc0 mt kc0) (.slice oc1 nb kc1) T L) := BK2.out.below BX2
  obtain ⟨gx, hgx⟩ : ∃ g, g = u2.heap.size := ⟨_, rfl⟩
  have EGX : Hid (gx = u2.heap.size) := hgx
  rw [← hgx] at RX
  have hgW : W.heap.size ≤ gx := by omega
  have hgX : gx < X.heap.size := by omega
  clear hX hgx BX2 BK2
  have KPX : Hid (∀ u, Below X.heap.size X u → u.heap[gx]? = some (.cells #[.slice oc0 mt kc0, .slice oc1 nb kc1] 26 (0, 0)) ∧ BkO u1.heap.size u (.slice oc0 mt kc0) (.slice oc1 nb kc1) T L ∧ Below W.heap.size W u) := fun u hu => ⟨(hu.block gx hgX).trans RX.out, BKX.out.below hu, BX.out.trans (hu.mono BX.out.size)⟩
  go_upto_region 4 with fail
  rw [← EX.out]
  rw [← EGX.out]
  have y0 := (cell_row (BOX.out X BX.out).1 0 (.slice o0 n0 k0) rfl).1
  have y1 := (cell_row (BOX.out X BX.out).1 1 (.slice oa nb kb) rfl).1
  have CA : Hid (Calls Tryz.prog 18 #[.agg #[.slice o0 n0 k0, .slice oa nb kb], .string x] X fun e w' => e = .returned (.int .i64 (atZI Bs x)) ∧ Below X.heap.size X w') := atZ_any S T Bs _ _ _ _ _ _ x X (H0.out X (BOX.out X BX.out).2.2) (H1.out X (BOX.out X BX.out).2.2) (HS.out X (BOX.out X BX.out).2.2)
  go_wp2_with fail
  refine CA.out.mono ?_; rintro e u3 ⟨rfl, hb3⟩
  have B3 : Hid (Below X.heap.size X u3) := hb3
  clear hb3 y0 y1 CA
  by_cases hneg : atZI Bs x < 0
  · have ER : Hid (RR = ((T, Bs), 3)) := by show _ = _; rw [HRR.out]; unfold lesS; rw [if_pos EB.out, if_pos hneg]
    obtain ⟨g0x, _⟩ := cell_row (KPX.out u3 B3.out).1 0 (.slice oc0 mt kc0) rfl
    obtain ⟨g1x, _⟩ := cell_row (KPX.out u3 B3.out).1 1 (.slice oc1 nb kc1) rfl
    obtain ⟨z0, f0⟩ := cell_row (BOX.out u3 (KPX.out u3 B3.out).2.2).2.1 0 (.slice none 0 0) rfl
    obtain ⟨z1, f1⟩ := cell_row (BOX.out u3 (KPX.out u3 B3.out).2.2).2.1 1 (.slice none 0 0) rfl
    have FA0 : Hid (AtL (fun b => W.heap.size ≤ b ∧ b < u3.heap.size) u3 RR.1.1 (.slice oc0 mt kc0)) := by rw [ER.out]; exact (AtL.up (S := fun b => u1.heap.size ≤ b ∧ b < u3.heap.size) (KPX.out u3 B3.out).2.1.at_.1 (fun b hb => ⟨by omega, hb.2⟩))
    have FA1 : Hid (AtL (fun b => W.heap.size ≤ b ∧ b < u3.heap.size) u3 RR.1.2 (.slice oc1 nb kc1)) := by rw [ER.out]; exact (AtL.up (S := fun b => u1.heap.size ≤ b ∧ b < u3.heap.size) (HMP.out ▸ (KPX.out u3 B3.out).2.1.at_.2) (fun b hb => ⟨by omega, hb.2⟩))
    have FC : Hid (RR.2 = 3) := by show _ = _; rw [ER.out]
    have FS : Hid (W.heap.size ≤ u3.heap.size) := ((KPX.out u3 B3.out).2.2).size
    have FW : Hid (Below w.heap.size w u3) := (BOX.out u3 (KPX.out u3 B3.out).2.2).2.2
    have FB : Hid (u3.heap[w.heap.size + 1]? = some (.cells #[.slice none 0 0, .slice none 0 0] 26 (0, 0))) := (BOX.out u3 (KPX.out u3 B3.out).2.2).2.1
    go_wp2_with fail
    have FIN := set_row (set_row FB.out 0 (.slice oc0 mt kc0)) 1 (.slice oc1 nb kc1)
    have OTH : ∀ q, q ≠ w.heap.size + 1 → ((u3.setCell ⟨w.heap.size + 1, 0, none⟩ (.slice oc0 mt kc0)).setCell ⟨w.heap.size + 1, 1, none⟩ (.slice oc1 nb kc1)).heap[q]? = u3.heap[q]? := fun q hq => (Below.heap_setCell _ _ _ _ hq).trans (Below.heap_setCell _ _ _ _ hq)
    have BF : Below w.heap.size w ((u3.setCell ⟨w.heap.size + 1, 0, none⟩ (.slice oc0 mt kc0)).setCell ⟨w.heap.size + 1, 1, none⟩ (.slice oc1 nb kc1)) := (FW.out.setCell (p := ⟨w.heap.size + 1, 0, none⟩) (Nat.le_succ _) _).setCell (p := ⟨w.heap.size + 1, 1, none⟩) (Nat.le_succ _) _
    have SZ : ((u3.setCell ⟨w.heap.size + 1, 0, none⟩ (.slice oc0 mt kc0)).setCell ⟨w.heap.size + 1, 1, none⟩ (.slice oc1 nb kc1)).heap.size = u3.heap.size := by simp
    generalize (u3.setCell ⟨w.heap.size + 1, 0, none⟩ (.slice oc0 mt kc0)).setCell ⟨w.heap.size + 1, 1, none⟩ (.slice oc1 nb kc1) = F at FIN OTH BF SZ ⊢
    have g0 := (cell_row FIN 0 (.slice oc0 mt kc0) rfl).1
    have g1 := (cell_row FIN 1 (.slice oc1 nb kc1) rfl).1
    have fs := FS.out
    refine bodyPost_ret (v := .tuple #[.agg #[.slice oc0 mt kc0, .slice oc1 nb kc1], .int .i64 (3)]) (by simp [results, Tryz.results6, go_sem, g0, g1]) rfl ⟨_, _, by rw [FC.out], ?_, ?_, BF⟩
    · exact AtL.up (FA0.out.same (fun b hb => OTH b (by omega))) (fun b hb => ⟨by omega, by omega⟩)
    · exact AtL.up (FA1.out.same (fun b hb => OTH b (by omega))) (fun b hb => ⟨by omega, by omega⟩)
  obtain ⟨q, eq, hqb⟩ := at_lt hneg
  have hqn : q < nb := by have := ENB.out; omega
  have EQ : Hid (atZI Bs x = (q : Int)) := eq
  have er2 : ∀ h : ¬ (subB (btN Bs q).2.2 nd = true), RR = ((T, Bs), 2) := fun h => by rw [HRR.out]; unfold lesS; rw [if_pos EB.out, if_neg hneg]; simp only [eq, Int.toNat_natCast]; rw [if_neg h]
  have er0 : ∀ h : (subB (btN Bs q).2.2 nd = true), RR = ((T, Bs.set q (lesB (btN Bs q) nd)), 0) := fun h => by rw [HRR.out]; unfold lesS; rw [if_pos EB.out, if_neg hneg]; simp only [eq, Int.toNat_natCast]; rw [if_pos h]
  rw [eq]
  have hng0 : ¬ ((q : Int) < 0) := by omega
  have bw3 := (BOX.out u3 (KPX.out u3 B3.out).2.2).2.2
  have BW3 : Hid (Below w.heap.size w u3) := bw3
  have HSM : Hid (SmL (btN Bs q).2.1) := by rw [btN_at hqb]; exact ((bok_small OK.out).1.2.2 _ (List.getElem_mem hqb)).2.1
  have HSN8 : Hid (∀ h : subB (btN Bs q).2.2 nd = true, SmL nd) := fun h => by
    rw [btN_at hqb] at h
    have h1 := ((bok_small OK.out).1.2.2 _ (List.getElem_mem hqb)).2.2
    exact SmL.of_sub h1 h (Nat.le_trans (sub_lenM h) h1.1)
  obtain ⟨bb, off, o1, n1, k1, o2, n2, k2, rfl, hbS, e0, e1, e2, a1, a2, z0⟩ := bat_at (H1.out u3 bw3) q hqb
  rw [← btN_at hqb] at a1 a2
  have A1 : Hid (∀ u, Below u3.heap.size u3 u → u.cell? ⟨bb, off + q * 3 + 1, none⟩ = some (.slice o1 n1 k1) ∧ AtL S u (btN Bs q).2.1 (.slice o1 n1 k1)) := fun u hu => ⟨(hu.cell (HS.out u3 bw3 bb hbS)).trans e1, a1.same (Same.of_below hu (HS.out u3 bw3))⟩
  have NF1 : Hid (Bs[q].1 = (btN Bs q).1) := by show _ = _; rw [btN_at hqb]
  obtain ⟨f, ef⟩ : ∃ f, btN Bs q = f := ⟨_, rfl⟩
  have y1 := (cell_row (BOX.out u3 (KPX.out u3 B3.out).2.2).1 1 (.slice (some ⟨bb, off, none⟩) nb kb) rfl).1
  rw [ef] at er2 er0 A1 a1 a2 HSM HSN8 NF1
  have en1 : f.2.1.length = n1 := by obtain ⟨_, _, e, _⟩ := a1; cases e; rfl
  have EN1 : Hid (f.2.1.length ≤ n1 ∧ n1 ≤ f.2.1.length) := ⟨by omega, by omega⟩
  have hn64 : n1 ≤ 64 := by have := HSM.out.1; omega
  have ZH : Hid (∀ s ∈ f.2.1, s.size ≤ maxLen) := flatS.ok_all a1
  have ZN : Hid (∀ s ∈ nd, s.size ≤ maxLen) := flatS.ok_all (HN.out u3 bw3)
  have CNM : Hid (Calls Tryz.prog 19 #[.slice on nn kn, .slice o2 n2 k2] u3 fun e w' => e = .returned (.bool (subB f.2.2 nd)) ∧ Below u3.heap.size u3 w') := namesZ_any SN S _ _ nd f.2.2 u3 (HN.out u3 bw3) a2 (HSN.out u3 bw3) (HS.out u3 bw3)
  have ER0 : Hid _ := er0
  have ER2 : Hid _ := er2
  have s3 := B3.out.size
  have BBL : Hid (bb < u3.heap.size) := HS.out u3 bw3 bb hbS
  clear er0 er2 a1 a2 z0 bw3 ef en1 eq hneg e0 e1
  go_wp2_with fail
  refine CNM.out.mono ?_; rintro e u4 ⟨rfl, hb4⟩
  have B34 : Hid (Below u3.heap.size u3 u4) := hb4
  have B4 : Hid (Below X.heap.size X u4) := B3.out.trans (hb4.mono B3.out.size)
  clear hb4 y1 CNM e2
  cases c1 : subB f.2.2 nd
  · have ER : Hid (RR = ((T, Bs), 2)) := ER2.out (by rw [c1]; simp)
    obtain ⟨g0x, _⟩ := cell_row (KPX.out u4 B4.out).1 0 (.slice oc0 mt kc0) rfl
    obtain ⟨g1x, _⟩ := cell_row (KPX.out u4 B4.out).1 1 (.slice oc1 nb kc1) rfl
    obtain ⟨z0, f0⟩ := cell_row (BOX.out u4 (KPX.out u4 B4.out).2.2).2.1 0 (.slice none 0 0) rfl
    obtain ⟨z1, f1⟩ := cell_row (BOX.out u4 (KPX.out u4 B4.out).2.2).2.1 1 (.slice none 0 0) rfl
    have FA0 : Hid (AtL (fun b => W.heap.size ≤ b ∧ b < u4.heap.size) u4 RR.1.1 (.slice oc0 mt kc0)) := by rw [ER.out]; exact (AtL.up (S := fun b => u1.heap.size ≤ b ∧ b < u4.heap.size) (KPX.out u4 B4.out).2.1.at_.1 (fun b hb => ⟨by omega, hb.2⟩))
    have FA1 : Hid (AtL (fun b => W.heap.size ≤ b ∧ b < u4.heap.size) u4 RR.1.2 (.slice oc1 nb kc1)) := by rw [ER.out]; exact (AtL.up (S := fun b => u1.heap.size ≤ b ∧ b < u4.heap.size) (HMP.out ▸ (KPX.out u4 B4.out).2.1.at_.2) (fun b hb => ⟨by omega, hb.2⟩))
    have FC : Hid (RR.2 = 2) := by show _ = _; rw [ER.out]
    have FS : Hid (W.heap.size ≤ u4.heap.size) := ((KPX.out u4 B4.out).2.2).size
    have FW : Hid (Below w.heap.size w u4) := (BOX.out u4 (KPX.out u4 B4.out).2.2).2.2
    have FB : Hid (u4.heap[w.heap.size + 1]? = some (.cells #[.slice none 0 0, .slice none 0 0] 26 (0, 0))) := (BOX.out u4 (KPX.out u4 B4.out).2.2).2.1
    go_wp2_with fail
    have FIN := set_row (set_row FB.out 0 (.slice oc0 mt kc0)) 1 (.slice oc1 nb kc1)
    have OTH : ∀ q, q ≠ w.heap.size + 1 → ((u4.setCell ⟨w.heap.size + 1, 0, none⟩ (.slice oc0 mt kc0)).setCell ⟨w.heap.size + 1, 1, none⟩ (.slice oc1 nb kc1)).heap[q]? = u4.heap[q]? := fun q hq => (Below.heap_setCell _ _ _ _ hq).trans (Below.heap_setCell _ _ _ _ hq)
    have BF : Below w.heap.size w ((u4.setCell ⟨w.heap.size + 1, 0, none⟩ (.slice oc0 mt kc0)).setCell ⟨w.heap.size + 1, 1, none⟩ (.slice oc1 nb kc1)) := (FW.out.setCell (p := ⟨w.heap.size + 1, 0, none⟩) (Nat.le_succ _) _).setCell (p := ⟨w.heap.size + 1, 1, none⟩) (Nat.le_succ _) _
    have SZ : ((u4.setCell ⟨w.heap.size + 1, 0, none⟩ (.slice oc0 mt kc0)).setCell ⟨w.heap.size + 1, 1, none⟩ (.slice oc1 nb kc1)).heap.size = u4.heap.size := by simp
    generalize (u4.setCell ⟨w.heap.size + 1, 0, none⟩ (.slice oc0 mt kc0)).setCell ⟨w.heap.size + 1, 1, none⟩ (.slice oc1 nb kc1) = F at FIN OTH BF SZ ⊢
    have g0 := (cell_row FIN 0 (.slice oc0 mt kc0) rfl).1
    have g1 := (cell_row FIN 1 (.slice oc1 nb kc1) rfl).1
    have fs := FS.out
    refine bodyPost_ret (v := .tuple #[.agg #[.slice oc0 mt kc0, .slice oc1 nb kc1], .int .i64 (2)]) (by simp [results, Tryz.results6, go_sem, g0, g1]) rfl ⟨_, _, by rw [FC.out], ?_, ?_, BF⟩
    · exact AtL.up (FA0.out.same (fun b hb => OTH b (by omega))) (fun b hb => ⟨by omega, by omega⟩)
    · exact AtL.up (FA1.out.same (fun b hb => OTH b (by omega))) (fun b hb => ⟨by omega, by omega⟩)
  have ER : Hid (RR = ((T, Bs.set q (lesB f nd)), 0)) := ER0.out c1
  have SND : Hid (SmL nd) := HSN8.out c1
  have s4 := B4.out.size
  have s34 := B34.out.size
  clear ER0 ER2 HSN8 c1
  have G4 : Hid (Row (u4.alloc (.cells #[] 9)) u3.heap.size 9 1 eS (.slice (some ⟨u4.heap.size, 0, none⟩) 0 0) []) := Row.made u4 9 1 eS (by omega)
  have BA4 : Hid (Below u3.heap.size u3 (u4.alloc (.cells #[] 9))) := B34.out.alloc (by omega) _
  obtain ⟨i0, zz, hi, hz0, hz1, hz2, hz3⟩ := elS.info
  go_wp2_with fail
  go_loopw [10, 11] (fun v i wr => ∃ (k : Nat) (og : Option Addr) (ng kg : Nat), k ≤ n1 ∧ i = .int .i64 k ∧ v = .slice og ng kg ∧ ng ≤ k ∧ Hid (((f.2.1.take k).filter (fun y => hasB nd y)).length ≤ ng ∧ ng ≤ ((f.2.1.take k).filter (fun y => hasB nd y)).length) ∧ Hid (Row wr u3.heap.size 9 1 eS (.slice og ng kg) ((f.2.1.take k).filter (fun y => hasB nd y))) ∧ Hid (Below u3.heap.size u3 wr)) (fun _ i _ => n1 - (intOf i).toNat)
  case atStart => exact ⟨0, _, 0, _, Nat.zero_le _, rfl, rfl, Nat.le_refl _, ⟨by simp, by simp⟩, by simpa using G4, BA4⟩
  case round =>
    obtain ⟨k, og, ng, kg, hkn, rfl, rfl, hngk, hgl, hrow, hbel⟩ := hrel
    have HB := hbel.out
    have hsz := HB.size
    have BXr : Hid (Below X.heap.size X wr) := B3.out.trans (HB.mono s3)
    have y1 := (cell_row (BOX.out wr (KPX.out wr BXr.out).2.2).1 1 (.slice (some ⟨bb, off, none⟩) nb kb) rfl).1
    have e1 := (A1.out wr HB).1
    by_cases hlt : k < n1
    · have hkl : k < f.2.1.length := by have := EN1.out; omega
      obtain ⟨b1, f1, e9, hb1S, c1⟩ := atl_strM (A1.out wr HB).2 k hkl
      subst e9
      obtain ⟨y, ey⟩ : ∃ y, f.2.1[k] = y := ⟨_, rfl⟩
      rw [ey] at c1
      have zy : y.size ≤ maxLen := by rw [← ey]; exact ZH.out _ (List.getElem_mem hkl)
      have TK : Hid ((f.2.1.take (k + 1)).filter (fun y => hasB nd y) = (f.2.1.take k).filter (fun y => hasB nd y) ++ (if hasB nd y then [y] else [])) := by
        show _ = _
        rw [List.take_add_one, List.getElem?_eq_getElem hkl, ey, List.filter_append]
        cases hc : hasB nd y <;> simp [hc]
      have bwr := (BOX.out wr (KPX.out wr BXr.out).2.2).2.2
      have CH : Hid (Calls Tryz.prog 20 #[.slice on nn kn, .string y] wr fun e w' => e = .returned (.bool (hasB nd y)) ∧ Below wr.heap.size wr w') := hasZ_any SN _ nd y wr (HN.out wr bwr)
      have EY : Hid (f.2.1[k] = y) := ey
      clear bwr ey
      go_wp2_with fail
      refine CH.out.mono ?_; rintro e u ⟨rfl, hbu⟩
      have BU : Hid (Below u3.heap.size u3 u) := HB.trans (hbu.mono hsz)
      have GU : Hid (Row u u3.heap.size 9 1 eS (.slice og ng kg) ((f.2.1.take k).filter (fun y => hasB nd y))) := Row.below hrow.out hbu
      have su := BU.out.size
      have BXu : Hid (Below X.heap.size X u) := B3.out.trans (BU.out.mono s3)
      clear hbu y1 e1 c1 CH HB hbel hrow
      cases hc : hasB nd y
      · rw [hc, if_neg (by simp), List.append_nil] at TK
        go_wp2_with fail
        go_roundw
        case rel => exact ⟨k + 1, og, ng, kg, by omega, by go_num, rfl, by omega, by rw [TK.out]; exact hgl, by rw [TK.out]; exact GU, BU⟩
        case measure => simp [intOf]; omega
      · rw [hc, if_pos rfl] at TK
        have y1 := (cell_row (BOX.out u (KPX.out u BXu.out).2.2).1 1 (.slice (some ⟨bb, off, none⟩) nb kb) rfl).1
        have e1 := (A1.out u BU.out).1
        obtain ⟨b1', f1', e9, _, c1⟩ := atl_strM (A1.out u BU.out).2 k hkl
        cases e9
        rw [EY.out] at c1
        have OWN : Hid ((u.alloc (.cells #[.string y] 9)).ownsRow u3.heap.size 9 1 (.slice og ng kg) ng (enc 1 eS ((f.2.1.take k).filter (fun y => hasB nd y)))) := by
          have h1 := Row.below GU.out ((Below.refl _ _).alloc (Nat.le_refl _) (.cells #[.string y] 9))
          have h2 : ((f.2.1.take k).filter (fun y => hasB nd y)).length = ng := by have := hgl.out; omega
          rw [Row, h2] at h1
          exact h1
        have hlow : Hid (∀ qq, (Value.slice og ng kg).ownBlock = some qq → u3.heap.size ≤ qq) := fun qq hq => (World.ownsRow.lt GU.out qq hq).1
        go_wp2_with (at_builtin; refine wpList_append_own_at _ rfl _ _ 23 rfl u3.heap.size 9 i0 zz 1 16 elS.ht hi hz0 hz1 hz2 hz3 (by decide) _ _ _ rfl OWN.out ⟨u.heap.size, 0, none⟩ 1 1 [.string y] rfl rfl (cell_one_new _ _ _) (by simp [Value.oneCell']) (by unfold maxLen; omega) (by omega) (by simp; omega) ?_; intro v' u8 hown hgr _ hbk'; have ROW : Row u8 u3.heap.size 9 1 eS v' ((f.2.1.take k).filter (fun y => hasB nd y) ++ [y]) := (by show World.ownsRow _ _ _ _ _ _ _; rw [List.length_append, enc_append, show ((f.2.1.take k).filter (fun y => hasB nd y)).length = ng by have := hgl.out; omega]; exact hown); have B8 : Below u3.heap.size u3 u8 := (BU.out.alloc su _).grown hgr (by simp; omega) (fun qq hq => by have := hlow.out qq hq; omega); obtain ⟨ov', kv', hv'⟩ := Row.form ROW; subst hv'; have ROWH : Hid (Row u8 u3.heap.size 9 1 eS (.slice ov' ((f.2.1.take k).filter (fun y => hasB nd y) ++ [y]).length kv') ((f.2.1.take k).filter (fun y => hasB nd y) ++ [y])) := ROW; have B8H : Hid _ := B8; clear ROW hgr hbk' hown B8; rw [← TK.out] at ROWH ⊢)
        go_roundw
        case rel => exact ⟨k + 1, ov', _, kv', by omega, by go_num, rfl, (by rw [TK.out, List.length_append]; have := hgl.out; simp only [List.length_cons, List.length_nil]; omega), ⟨Nat.le_refl _, Nat.le_refl _⟩, ROWH, B8H⟩
        case measure => simp [intOf]; omega
    · have TKA : (f.2.1.take k).filter (fun y => hasB nd y) = f.2.1.filter (fun y => hasB nd y) := by rw [List.take_of_length_le (by have := EN1.out; omega)]
      rw [TKA] at hrow
      obtain ⟨FL, eFL⟩ : ∃ FL, f.2.1.filter (fun y => hasB nd y) = FL := ⟨_, rfl⟩
      rw [eFL] at hrow
      have EFL : Hid (lesB f nd = (f.1, FL, nd)) := by show _ = _; unfold lesB; rw [eFL]
      have ZF : Hid (∀ s ∈ FL, s.size ≤ maxLen) := fun s hs => by rw [← eFL] at hs; exact ZH.out s (List.mem_filter.1 hs).1
      clear TKA eFL hgl
      obtain ⟨kx, bkx, _⟩ := KPX.out wr BXr.out
      obtain ⟨gr, ecap, hv, hgr0, hgr1, _⟩ := Row.cell bkx.bs.ro (i := q) (by rw [ELB.out]; exact hqn)
      rw [ELB.out] at hv
      cases hv
      have x1 := (cell_row kx 1 (.slice (some ⟨gr, 0, none⟩) nb kc1) rfl).1
      clear kx bkx
      go_wp2_with fail
      have qx := fun d os => cell_regrown x1 d os
      refine wp_region_mix 5 [0, 1, 2, 3] (by kernel_rfl) (by kernel_rfl) ?_
      simp only [List.filterMap_cons, List.filterMap_nil, List.getElem?_cons_succ, List.getElem?_cons_zero]
      repeat (first | go_big_quiet_step (fail) | quiet_step (fail))
      refine wpQuiet_nil ?_
      have hdr : Below wr.heap.size wr wr.drew := (Below.refl _ _).drew
      have bwd : Below w.heap.size w wr.drew := (BOX.out wr (KPX.out wr BXr.out).2.2).2.2.drew
      refine call1 (md := .any) (f := 0) (i := 4) (dc := 73) (fn := 21) ⟨rfl, rfl, rfl, by decide⟩ (by kernel_rfl) ?rc ((namesC_any SN (.slice on nn kn) nd wr.drew (HN.out wr.drew bwd) (by have := SND.out.1; omega) (HSN.out wr.drew bwd)).mono ?_)
      case rc => go_simp
      rintro e w6 ⟨rn, rfl, hrn, _, hb6⟩
      have bw6 : Below wr.heap.size wr w6 := hdr.trans (hb6.mono hdr.size)
      obtain ⟨orn, krn, ern⟩ := Row.form hrn
      obtain ⟨mn, emn⟩ : ∃ n, nd.length = n := ⟨_, rfl⟩
      rw [emn] at ern
      subst ern
      have HRN : Hid (Row w6 u1.heap.size 9 1 eS (.slice orn mn krn) nd) := Row.low hrn (by have := hdr.size; omega)
      have HRH : Hid (Row w6 u1.heap.size 9 1 eS (.slice og ng kg) FL) := Row.low (Row.below hrow.out bw6) (by omega)
      have BX6 : Hid (Below X.heap.size X w6) := BXr.out.trans (bw6.mono BXr.out.size)
      refine ⟨_, rfl, regrown_of_below bw6, ?_⟩
      simp only [Act.put, List.setIfInBounds_toArray, List.set_cons_zero, List.set_cons_succ]
      refine ⟨by kernel_rfl, ?_⟩
      simp only [List.drop_succ_cons, List.drop_zero]
      clear hrn emn hb6 bw6 hdr bwd qx x1 y1 e1 HB hbel hrow
      have hqL : q < L.length := by rw [ELB.out]; exact hqn
      obtain ⟨kx, bkx, _⟩ := KPX.out w6 BX6.out
      have KP6 : Hid _ := set2_kept (w := w6) (hv := .slice og ng kg) (nv := .slice orn mn krn) (q := q) bkx.bs
      have KZ0 : Hid (BsO u1.heap.size _ (.slice (some ⟨gr, 0, none⟩) nb kc1) _) := BsO.set2 bkx.bs ELB.out hqL HRH.out HRN.out ZF.out ZN.out
      have RO1 := (Row.put (by have h := bkx.bs.ro; rw [← ELB.out] at h; exact h) hqL (j := 2) (by omega) (.slice orn mn krn) (L[q].1, L[q].2.1, (.slice orn mn krn, nd)) (fun j hj => by rcases (show j = 0 ∨ j = 1 ∨ j = 2 by omega) with rfl | rfl | rfl <;> rfl)).1
      obtain ⟨_, _, hv1, _, _, hcc⟩ := Row.cell RO1 (i := q) (by rw [List.length_set]; exact hqL)
      injection hv1 with hv1 hj1 hj2
      clear hj1 hj2
      cases hv1
      obtain ⟨zc1, zf1⟩ := hcc 1 (by omega)
      obtain ⟨_, _, hv2, _, _, hcd⟩ := Row.cell bkx.bs.ro (i := q) hqL
      injection hv2 with hv2 hj1 hj2
      clear hj1 hj2
      cases hv2
      obtain ⟨zc2, zf2⟩ := hcd 2 (by omega)
      have hgg : gx ≠ gr := fun e => by
        obtain ⟨c', hc'⟩ := Row.typed bkx.bs.ro gr rfl
        rw [← e, kx] at hc'
        injection hc' with h1
        injection h1 with _ h2
        revert h2
        decide
      have x6 := (cell_row ((Below.heap_setCell w6 ⟨gr, q * 3 + 2, none⟩ (.slice orn mn krn) gx hgg).trans kx) 1 (.slice (some ⟨gr, 0, none⟩) nb kc1) rfl).1
      have RZ0 : Hid (((w6.setCell ⟨gr, q * 3 + 2, none⟩ (.slice orn mn krn)).setCell ⟨gr, q * 3 + 1, none⟩ (.slice og ng kg)).heap[gx]? = some (.cells #[.slice oc0 mt kc0, .slice (some ⟨gr, 0, none⟩) nb kc1] 26 (0, 0))) := (Below.heap_setCell _ ⟨gr, q * 3 + 1, none⟩ _ gx hgg).trans ((Below.heap_setCell w6 ⟨gr, q * 3 + 2, none⟩ (.slice orn mn krn) gx hgg).trans kx)
      have TZ0 : Hid (AtL (fun b => u1.heap.size ≤ b ∧ b < ((w6.setCell ⟨gr, q * 3 + 2, none⟩ (.slice orn mn krn)).setCell ⟨gr, q * 3 + 1, none⟩ (.slice og ng kg)).heap.size) ((w6.setCell ⟨gr, q * 3 + 2, none⟩ (.slice orn mn krn)).setCell ⟨gr, q * 3 + 1, none⟩ (.slice og ng kg)) T (.slice oc0 mt kc0)) := str_at (strRow_kept bkx.th KP6.out) bkx.zt
      have BZ0 : Hid (Below W.heap.size W ((w6.setCell ⟨gr, q * 3 + 2, none⟩ (.slice orn mn krn)).setCell ⟨gr, q * 3 + 1, none⟩ (.slice og ng kg))) := ((KPX.out w6 BX6.out).2.2.setCell (p := ⟨gr, q * 3 + 2, none⟩) (show W.heap.size ≤ gr by omega) _).setCell (p := ⟨gr, q * 3 + 1, none⟩) (show W.heap.size ≤ gr by omega) _
      have NLQ : Hid (L[q].1 = f.1) := by
        have h1 : (L.map dH)[q]'(by rw [List.length_map]; exact hqL) = Bs[q] := by simp only [HMP.out]
        rw [List.getElem_map] at h1
        have h2 := congrArg Prod.fst h1
        exact h2.trans NF1.out
      clear RO1 hcc hcd KP6 kx bkx HRN HRH
      go_upto_region 16 with fail
      obtain ⟨Z1, hZ1⟩ : ∃ Z, Z = w6.setCell ⟨gr, q * 3 + 2, none⟩ (.slice orn mn krn) := ⟨_, rfl⟩
      rw [← hZ1] at x6 zc1 zf1 RZ0 TZ0 BZ0 KZ0 ⊢
      clear zc2 zf2 hZ1
      go_upto_region 17 with fail
      generalize (Z1.setCell ⟨gr, q * 3 + 1, none⟩ (.slice og ng kg)) = Z at RZ0 TZ0 BZ0 KZ0 ⊢
      clear x6 zc1 zf1
      have MZ : Hid (AtL (fun b => u1.heap.size ≤ b ∧ b < Z.heap.size) Z (Bs.set q (lesB f nd)) (.slice (some ⟨gr, 0, none⟩) nb kc1)) := by
        have := KZ0.out.at_
        rw [List.map_set, HMP.out] at this
        rw [EFL.out, ← NLQ.out]
        exact this
      obtain ⟨g0x, _⟩ := cell_row RZ0.out 0 (.slice oc0 mt kc0) rfl
      obtain ⟨g1x, _⟩ := cell_row RZ0.out 1 (.slice (some ⟨gr, 0, none⟩) nb kc1) rfl
      have TOT : Hid (Lay.tot (α := DShareBook) (T, Bs.set q (lesB f nd)) ≤ 1048576) := by
        have h1 : lesS (T, Bs) x nd = ((T, Bs.set q (lesB f nd)), 0) := HRR.out.symm.trans ER.out
        have h2 := les_small (x := x) (nd := nd) (bok_small OK.out).1 SND.out
        rw [h1] at h2
        exact h2.tot
      go_wp2_with fail
      refine (copyZ_any (fun b => u1.heap.size ≤ b ∧ b < Z.heap.size) T (Bs.set q (lesB f nd)) _ _ _ _ _ _ Z TZ0.out MZ.out (fun b hb => hb.2) TOT.out).mono ?_
      rintro e Zf ⟨d0, d1, Lf, rfl, hbkf, hmapf, hbf⟩
      obtain ⟨of0, kf0, rfl⟩ := Row.form hbkf.th
      obtain ⟨of1, kf1, rfl⟩ := Row.form hbkf.bs.ro
      obtain ⟨mf0, ef0⟩ : ∃ n, T.length = n := ⟨_, rfl⟩
      obtain ⟨mf1, ef1⟩ : ∃ n, Lf.length = n := ⟨_, rfl⟩
      rw [ef0, ef1] at hbkf
      rw [ef0, ef1]
      have BKF : Hid (BkO Z.heap.size Zf (.slice of0 mf0 kf0) (.slice of1 mf1 kf1) T Lf) := hbkf
      have HMF : Hid (Lf.map dH = Bs.set q (lesB f nd)) := hmapf
      have BFF : Hid (Below W.heap.size W Zf) := BZ0.out.trans (hbf.mono BZ0.out.size)
      have sZf := BZ0.out.size
      clear hbkf hmapf hbf ef0 ef1 g0x g1x
      obtain ⟨z0, f0⟩ := cell_row (BOX.out Zf BFF.out).2.1 0 (.slice none 0 0) rfl
      obtain ⟨z1, f1⟩ := cell_row (BOX.out Zf BFF.out).2.1 1 (.slice none 0 0) rfl
      have FA0 : Hid (AtL (fun b => W.heap.size ≤ b ∧ b < Zf.heap.size) Zf RR.1.1 (.slice of0 mf0 kf0)) := by rw [ER.out]; exact (AtL.up (S := fun b => Z.heap.size ≤ b ∧ b < Zf.heap.size) BKF.out.at_.1 (fun b hb => ⟨by omega, hb.2⟩))
      have FA1 : Hid (AtL (fun b => W.heap.size ≤ b ∧ b < Zf.heap.size) Zf RR.1.2 (.slice of1 mf1 kf1)) := by rw [ER.out]; exact (by have h9 := BKF.out.at_.2; rw [HMF.out] at h9; exact AtL.up h9 (fun b hb => ⟨by omega, hb.2⟩))
      have FC : Hid (RR.2 = 0) := by show _ = _; rw [ER.out]
      have FS : Hid (W.heap.size ≤ Zf.heap.size) := (BFF.out).size
      have FW : Hid (Below w.heap.size w Zf) := (BOX.out Zf BFF.out).2.2
      have FB : Hid (Zf.heap[w.heap.size + 1]? = some (.cells #[.slice none 0 0, .slice none 0 0] 26 (0, 0))) := (BOX.out Zf BFF.out).2.1
      go_wp2_with fail
      have FIN := set_row (set_row FB.out 0 (.slice of0 mf0 kf0)) 1 (.slice of1 mf1 kf1)
      have OTH : ∀ q, q ≠ w.heap.size + 1 → ((Zf.setCell ⟨w.heap.size + 1, 0, none⟩ (.slice of0 mf0 kf0)).setCell ⟨w.heap.size + 1, 1, none⟩ (.slice of1 mf1 kf1)).heap[q]? = Zf.heap[q]? := fun q hq => (Below.heap_setCell _ _ _ _ hq).trans (Below.heap_setCell _ _ _ _ hq)
      have BF : Below w.heap.size w ((Zf.setCell ⟨w.heap.size + 1, 0, none⟩ (.slice of0 mf0 kf0)).setCell ⟨w.heap.size + 1, 1, none⟩ (.slice of1 mf1 kf1)) := (FW.out.setCell (p := ⟨w.heap.size + 1, 0, none⟩) (Nat.le_succ _) _).setCell (p := ⟨w.heap.size + 1, 1, none⟩) (Nat.le_succ _) _
      have SZ : ((Zf.setCell ⟨w.heap.size + 1, 0, none⟩ (.slice of0 mf0 kf0)).setCell ⟨w.heap.size + 1, 1, none⟩ (.slice of1 mf1 kf1)).heap.size = Zf.heap.size := by simp
      generalize (Zf.setCell ⟨w.heap.size + 1, 0, none⟩ (.slice of0 mf0 kf0)).setCell ⟨w.heap.size + 1, 1, none⟩ (.slice of1 mf1 kf1) = F at FIN OTH BF SZ ⊢
      have g0 := (cell_row FIN 0 (.slice of0 mf0 kf0) rfl).1
      have g1 := (cell_row FIN 1 (.slice of1 mf1 kf1) rfl).1
      have fs := FS.out
      refine bodyPost_ret (v := .tuple #[.agg #[.slice of0 mf0 kf0, .slice of1 mf1 kf1], .int .i64 (0)]) (by simp [results, Tryz.results6, go_sem, g0, g1]) rfl ⟨_, _, by rw [FC.out], ?_, ?_, BF⟩
      · exact AtL.up (FA0.out.same (fun b hb => OTH b (by omega))) (fun b hb => ⟨by omega, by omega⟩)
      · exact AtL.up (FA1.out.same (fun b hb => OTH b (by omega))) (fun b hb => ⟨by omega, by omega⟩)
end Go.Proofs.YtaejlcanccfmmaaGreatDoor
