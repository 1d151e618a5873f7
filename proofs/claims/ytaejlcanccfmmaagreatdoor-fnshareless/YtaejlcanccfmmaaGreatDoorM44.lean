/-
  Several texts in one.
-/
import Derived.Test.YtaejlcanccfmmaaGreatDoorM38
namespace Go.Proofs.YtaejlcanccfmmaaGreatDoor
open Go.RowKit Go.Sort
set_option maxRecDepth 100000 in
set_option maxHeartbeats 16000000 in
theorem ansW_E (x : ByteArray) (os : Option Addr) (ns ks : Nat) (code : Int) (R : DShareBook) (S : Nat → Prop) (T : List ByteArray) (Bs : List DShareBatch) (o0 oa : Option Addr) (n0 k0 nb kb : Nat) (w : World) (h0 : AtL S w T (.slice o0 n0 k0)) (h1 : AtL S w Bs (.slice oa nb kb)) (hS : ∀ b, S b → b < w.heap.size) (hl : Laid0 w)
    (hR : bokB (T, Bs) = true → ∀ u, Below w.heap.size w u → Calls Tryz.prog 141 #[.agg #[.string x, .slice os ns ks], .agg #[.slice o0 n0 k0, .slice oa nb kb]] u fun e w' => e = .returned (errW x code) ∧ Below u.heap.size u w')
    (hB : bokB (T, Bs) = true → code = 0 → ∀ u, Below w.heap.size w u → Calls Tryz.prog 34 #[.agg #[.slice o0 n0 k0, .slice oa nb kb], .iface 56 (.agg #[.string x, .slice os ns ks])] u (BehW u R))
    (hN : code ≠ 0 → R = (T, Bs)) :
    Calls Tryz.prog 15 #[.agg #[.slice o0 n0 k0, .slice oa nb kb], .iface 56 (.agg #[.string x, .slice os ns ks])] w (AnsW w (if bokB (T, Bs) = true then R else ([], [])) (if bokB (T, Bs) = true then code else 1)) := by
  have H0 : Hid _ := h0.ups hS
  have H1 : Hid _ := h1.ups hS
  have HS : Hid _ := lt_up hS
  have HL : Hid (∀ u, Below w.heap.size w u → Laid0 u) := fun u hu => hl.below hu
  have HR : Hid (bokB (T, Bs) = true → ∀ u, Below w.heap.size w u → Calls Tryz.prog 141 #[.agg #[.string x, .slice os ns ks], .agg #[.slice o0 n0 k0, .slice oa nb kb]] u fun e w' => e = .returned (errW x code) ∧ Below u.heap.size u w') := hR
  have HBH : Hid (bokB (T, Bs) = true → code = 0 → ∀ u, Below w.heap.size w u → Calls Tryz.prog 34 #[.agg #[.slice o0 n0 k0, .slice oa nb kb], .iface 56 (.agg #[.string x, .slice os ns ks])] u (BehW u R)) := hB
  have HN : Hid (code ≠ 0 → R = (T, Bs)) := hN
  clear h0 h1 hR hB hN hl
  obtain ⟨RR, eRR⟩ : ∃ r : DShareBook, (if bokB (T, Bs) = true then R else ([], [])) = r := ⟨_, rfl⟩
  obtain ⟨RC, eRC⟩ : ∃ r : Int, (if bokB (T, Bs) = true then code else 1) = r := ⟨_, rfl⟩
  rw [eRR, eRC]
  have YES : Hid (bokB (T, Bs) = true → RR = R ∧ RC = code) := fun h => ⟨by rw [← eRR, if_pos h], by rw [← eRC, if_pos h]⟩
  have NOT : Hid (bokB (T, Bs) = false → RR = ([], []) ∧ RC = 1) := fun h => ⟨by rw [← eRR, if_neg (by rw [h]; decide)], by rw [← eRC, if_neg (by rw [h]; decide)]⟩
  clear eRR eRC
  have hm : ∀ W, (Go.method 312 56 (.agg #[.string x, .slice os ns ks]) "loop.example/malthouse/impl.refused").run Tryz.prog W = .ok (141, .agg #[.string x, .slice os ns ks]) W := fun W => by kernel_rfl
  obtain ⟨W, hW⟩ : ∃ W, W = (w.alloc (.cells #[.slice o0 n0 k0, .slice oa nb kb] 26)).alloc (.cells #[.slice none 0 0, .slice none 0 0] 26) := ⟨_, rfl⟩
  have EW : Hid (W = (w.alloc (.cells #[.slice o0 n0 k0, .slice oa nb kb] 26)).alloc (.cells #[.slice none 0 0, .slice none 0 0] 26)) := hW
  have BW : Hid (Below w.heap.size w W) := by rw [hW]; exact ((Below.refl _ _).alloc (Nat.le_refl _) _).alloc (by simp) _
  have R1 : Hid (W.heap[w.heap.size]? = some (.cells #[.slice o0 n0 k0, .slice oa nb kb] 26 (0, 0))) := by rw [hW]; exact (Below.heap_alloc _ _ _ (by simp)).trans (heap_alloc_new w _)
  have R2 : Hid (W.heap[w.heap.size + 1]? = some (.cells #[.slice none 0 0, .slice none 0 0] 26 (0, 0))) := by
    rw [hW]; exact alloc_atR _ (by simp)
  have sW : w.heap.size + 2 ≤ W.heap.size := by rw [hW]; simp
  clear hW
  have y0 := (cell_row R1.out 0 (.slice o0 n0 k0) rfl).1
  have y1 := (cell_row R1.out 1 (.slice oa nb kb) rfl).1
  go_enter Tryz.func15, Tryz.ntmps15
  go_upto_region 1 with fail
  rw [← EW.out]
  go_wp2_with fail
  refine (bookP_any S T Bs o0 oa n0 k0 nb kb W (H0.out W BW.out) (H1.out W BW.out) (HS.out W BW.out)).mono ?_
  rintro e w1 ⟨rfl, hb1⟩
  clear y0 y1
  have B1 : Hid (Below W.heap.size W w1) := hb1
  have s1 := hb1.size
  have BW1 : Hid (Below w.heap.size w w1) := BW.out.trans (hb1.mono BW.out.size)
  have Y1 : Hid (w1.heap[w.heap.size]? = some (.cells #[.slice o0 n0 k0, .slice oa nb kb] 26 (0, 0))) := (hb1.block _ (by omega)).trans R1.out
  have Y2 : Hid (w1.heap[w.heap.size + 1]? = some (.cells #[.slice none 0 0, .slice none 0 0] 26 (0, 0))) := (hb1.block _ (by omega)).trans R2.out
  clear hb1 R1 R2
  cases hok : bokB (T, Bs)
  · obtain ⟨z0, f0⟩ := cell_row Y2.out 0 (.slice none 0 0) rfl
    obtain ⟨z1, f1⟩ := cell_row Y2.out 1 (.slice none 0 0) rfl
    have P2 : Hid _ := box2_put (a := .slice none 0 0) (b := .slice none 0 0) Y2.out
    go_wp2_with fail
    generalize ((w1.setCell ⟨w.heap.size + 1, 0, none⟩ (.slice none 0 0)).setCell ⟨w.heap.size + 1, 1, none⟩ (.slice none 0 0)) = F at P2 ⊢
    have g0 := (cell_row P2.out.1 0 (.slice none 0 0) rfl).1
    have g1 := (cell_row P2.out.1 1 (.slice none 0 0) rfl).1
    refine bodyPost_ret (v := .tuple #[.agg #[.slice none 0 0, .slice none 0 0], .int .i64 1]) (by simp [results, Tryz.results15, go_sem, g0, g1]) rfl ?_
    rw [(NOT.out hok).1, (NOT.out hok).2]
    exact ⟨_, _, [], rfl, PkO.nil _ _, rfl, BW1.out.trans (P2.out.2.2.mono (by omega))⟩
  have y0 := (cell_row Y1.out 0 (.slice o0 n0 k0) rfl).1
  have y1 := (cell_row Y1.out 1 (.slice oa nb kb) rfl).1
  go_wp2_with fail
  refine (HR.out hok w1 BW1.out).mono ?_
  rintro e w2 ⟨rfl, hb2⟩
  clear y0 y1
  have s2 := hb2.size
  have BW2 : Hid (Below w.heap.size w w2) := BW1.out.trans (hb2.mono (by omega))
  have Z1 : Hid (w2.heap[w.heap.size]? = some (.cells #[.slice o0 n0 k0, .slice oa nb kb] 26 (0, 0))) := (hb2.block _ (by omega)).trans Y1.out
  have Z2 : Hid (w2.heap[w.heap.size + 1]? = some (.cells #[.slice none 0 0, .slice none 0 0] 26 (0, 0))) := (hb2.block _ (by omega)).trans Y2.out
  clear hb2 Y1 Y2 B1
  have y0 := (cell_row Z1.out 0 (.slice o0 n0 k0) rfl).1
  have y1 := (cell_row Z1.out 1 (.slice oa nb kb) rfl).1
  by_cases hc : code = 0
  · have HC : Hid (code = 0) := hc
    rw [hc, errW_no]
    clear hc
    go_wp2_with fail
    refine (HBH.out hok HC.out w2 BW2.out).mono ?_
    rintro e w3 ⟨r0, r1, L, rfl, hp, hmap, hb3⟩
    obtain ⟨p0, j0, e0⟩ := Row.form hp.th
    obtain ⟨p1, j1, e1⟩ := Row.form hp.bs.ro
    obtain ⟨m0, em0⟩ : ∃ n, R.1.length = n := ⟨_, rfl⟩
    obtain ⟨m1, em1⟩ : ∃ n, L.length = n := ⟨_, rfl⟩
    rw [em0] at e0
    rw [em1] at e1
    subst e0
    subst e1
    have HP : Hid (PkO w2.heap.size w3 (.slice p0 m0 j0) (.slice p1 m1 j1) R.1 L) := hp
    have HMP : Hid (L.map dH = R.2) := hmap
    have X2 : Hid (w3.heap[w.heap.size + 1]? = some (.cells #[.slice none 0 0, .slice none 0 0] 26 (0, 0))) := (hb3.block _ (by omega)).trans Z2.out
    have BW3 : Hid (Below w.heap.size w w3) := BW2.out.trans (hb3.mono (by omega))
    clear hp hmap hb3 em0 em1 y0 y1
    obtain ⟨z0, f0⟩ := cell_row X2.out 0 (.slice none 0 0) rfl
    obtain ⟨z1, f1⟩ := cell_row X2.out 1 (.slice none 0 0) rfl
    have P2 : Hid _ := box2_put (a := .slice p0 m0 j0) (b := .slice p1 m1 j1) X2.out
    go_wp2_with fail
    generalize ((w3.setCell ⟨w.heap.size + 1, 0, none⟩ (.slice p0 m0 j0)).setCell ⟨w.heap.size + 1, 1, none⟩ (.slice p1 m1 j1)) = F at P2 ⊢
    have g0 := (cell_row P2.out.1 0 (.slice p0 m0 j0) rfl).1
    have g1 := (cell_row P2.out.1 1 (.slice p1 m1 j1) rfl).1
    refine bodyPost_ret (v := .tuple #[.agg #[.slice p0 m0 j0, .slice p1 m1 j1], .int .i64 0]) (by simp [results, Tryz.results15, go_sem, g0, g1]) rfl ?_
    rw [(YES.out hok).1, (YES.out hok).2, HC.out]
    exact ⟨_, _, L, rfl, (HP.out.box (gx := w.heap.size + 1) (by omega) P2.out.2.1).low (by omega), HMP.out, BW3.out.trans (P2.out.2.2.mono (by omega))⟩
  · rw [errW_yes x hc]
    have HC : Hid (code ≠ 0) := hc
    have hsm : SmD (T, Bs) := (bok_small (bok_iff.1 hok)).1
    have HSM : Hid (SmD (T, Bs)) := hsm
    clear hsm hc
    go_wp2_with fail
    refine (freshP_any S T Bs o0 oa n0 k0 nb kb w2 (H0.out w2 BW2.out) (H1.out w2 BW2.out) (HS.out w2 BW2.out) HSM.out).mono ?_
    rintro e w3 ⟨r0, r1, L, rfl, hp, hmap, hb3⟩
    have HP : Hid (PkO w2.heap.size w3 r0 r1 T L) := hp
    have HMP : Hid (L.map dH = Bs) := hmap
    have s3 := hb3.size
    have X2 : Hid (w3.heap[w.heap.size + 1]? = some (.cells #[.slice none 0 0, .slice none 0 0] 26 (0, 0))) := (hb3.block _ (by omega)).trans Z2.out
    have BW3 : Hid (Below w.heap.size w w3) := BW2.out.trans (hb3.mono (by omega))
    clear hp hmap hb3 y0 y1
    have CC : Hid (Calls Tryz.prog 33 #[.iface 194 (.agg #[.string x, .iface 88 (.agg #[.int .i64 code])])] w3 fun e w' => e = .returned (.int .i64 code) ∧ Below w3.heap.size w3 w') := codeW_any x code w3 (HL.out w3 BW3.out)
    go_wp2_with fail
    refine Calls.mono CC.out ?_
    rintro e w4 ⟨rfl, hb4⟩
    obtain ⟨p0, j0, e0⟩ := Row.form HP.out.th
    obtain ⟨p1, j1, e1⟩ := Row.form HP.out.bs.ro
    obtain ⟨m0, em0⟩ : ∃ n, T.length = n := ⟨_, rfl⟩
    obtain ⟨m1, em1⟩ : ∃ n, L.length = n := ⟨_, rfl⟩
    rw [em0] at e0
    rw [em1] at e1
    subst e0
    subst e1
    have HP4 : Hid (PkO w2.heap.size w4 (.slice p0 m0 j0) (.slice p1 m1 j1) T L) := HP.out.below hb4
    have X4 : Hid (w4.heap[w.heap.size + 1]? = some (.cells #[.slice none 0 0, .slice none 0 0] 26 (0, 0))) := (hb4.block _ (by omega)).trans X2.out
    have BW4 : Hid (Below w.heap.size w w4) := BW3.out.trans (hb4.mono (by omega))
    clear HP X2 hb4 em0 em1
    obtain ⟨z0, f0⟩ := cell_row X4.out 0 (.slice none 0 0) rfl
    obtain ⟨z1, f1⟩ := cell_row X4.out 1 (.slice none 0 0) rfl
    have P2 : Hid _ := box2_put (a := .slice p0 m0 j0) (b := .slice p1 m1 j1) X4.out
    go_wp2_with fail
    generalize ((w4.setCell ⟨w.heap.size + 1, 0, none⟩ (.slice p0 m0 j0)).setCell ⟨w.heap.size + 1, 1, none⟩ (.slice p1 m1 j1)) = F at P2 ⊢
    have g0 := (cell_row P2.out.1 0 (.slice p0 m0 j0) rfl).1
    have g1 := (cell_row P2.out.1 1 (.slice p1 m1 j1) rfl).1
    refine bodyPost_ret (v := .tuple #[.agg #[.slice p0 m0 j0, .slice p1 m1 j1], .int .i64 code]) (by simp [results, Tryz.results15, go_sem, g0, g1]) rfl ?_
    rw [(YES.out hok).1, (YES.out hok).2, HN.out HC.out]
    exact ⟨_, _, L, rfl, (HP4.out.box (gx := w.heap.size + 1) (by omega) P2.out.2.1).low (by omega), HMP.out, BW4.out.trans (P2.out.2.2.mono (by omega))⟩
end Go.Proofs.YtaejlcanccfmmaaGreatDoor

namespace Go.Proofs.YtaejlcanccfmmaaGreatDoor
open Go.RowKit Go.Sort
set_option maxRecDepth 100000 in
set_option maxHeartbeats 16000000 in
theorem behW_E (x : ByteArray) (os : Option Addr) (ns ks : Nat) (R : DShareBook) (S : Nat → Prop) (T : List ByteArray) (Bs : List DShareBatch) (o0 oa : Option Addr) (n0 k0 nb kb : Nat) (w : World) (h0 : AtL S w T (.slice o0 n0 k0)) (h1 : AtL S w Bs (.slice oa nb kb)) (hS : ∀ b, S b → b < w.heap.size) (hsm : SmD (T, Bs))
    (hLet : ∀ (B gb : Nat) (v0 v1 : Value) (L : List HB) (u : World), Below w.heap.size w u → w.heap.size ≤ B → B ≤ gb → u.heap[gb]? = some (.cells #[v0, v1] 26 (0, 0)) → PkO B u v0 v1 T L → L.map dH = Bs → Calls Tryz.prog 50 #[.pointer (some ⟨gb, 0, none⟩), .agg #[.string x, .slice os ns ks]] u fun e w' => e = .returned (.tuple #[]) ∧ ∃ v0' v1' L', w'.heap[gb]? = some (.cells #[v0', v1'] 26 (0, 0)) ∧ PkO B w' v0' v1' R.1 L' ∧ L'.map dH = R.2 ∧ Below B u w') :
    Calls Tryz.prog 34 #[.agg #[.slice o0 n0 k0, .slice oa nb kb], .iface 56 (.agg #[.string x, .slice os ns ks])] w (BehW w R) := by
  have H0 : Hid _ := h0.ups hS
  have H1 : Hid _ := h1.ups hS
  have HS : Hid _ := lt_up hS
  have HLET : Hid (∀ (B gb : Nat) (v0 v1 : Value) (L : List HB) (u : World), Below w.heap.size w u → w.heap.size ≤ B → B ≤ gb → u.heap[gb]? = some (.cells #[v0, v1] 26 (0, 0)) → PkO B u v0 v1 T L → L.map dH = Bs → Calls Tryz.prog 50 #[.pointer (some ⟨gb, 0, none⟩), .agg #[.string x, .slice os ns ks]] u fun e w' => e = .returned (.tuple #[]) ∧ ∃ v0' v1' L', w'.heap[gb]? = some (.cells #[v0', v1'] 26 (0, 0)) ∧ PkO B w' v0' v1' R.1 L' ∧ L'.map dH = R.2 ∧ Below B u w') := hLet
  clear h0 h1 hLet
  have ta_y : ∀ W, (Instr.typeAssert (.iface 56 (.agg #[.string x, .slice os ns ks])) 62 56 true).run Tryz.prog W = .ok (.tuple #[.agg #[.string x, .slice os ns ks], .bool true]) W := fun W => by kernel_rfl
  obtain ⟨W, hW⟩ : ∃ W, W = (w.alloc (.cells #[.slice o0 n0 k0, .slice oa nb kb] 26)).alloc (.cells #[.slice none 0 0, .slice none 0 0] 26) := ⟨_, rfl⟩
  have EW : Hid (W = (w.alloc (.cells #[.slice o0 n0 k0, .slice oa nb kb] 26)).alloc (.cells #[.slice none 0 0, .slice none 0 0] 26)) := hW
  have BW : Hid (Below w.heap.size w W) := by rw [hW]; exact ((Below.refl _ _).alloc (Nat.le_refl _) _).alloc (by simp) _
  have R1 : Hid (W.heap[w.heap.size]? = some (.cells #[.slice o0 n0 k0, .slice oa nb kb] 26 (0, 0))) := by rw [hW]; exact (Below.heap_alloc _ _ _ (by simp)).trans (heap_alloc_new w _)
  have R2 : Hid (W.heap[w.heap.size + 1]? = some (.cells #[.slice none 0 0, .slice none 0 0] 26 (0, 0))) := by
    rw [hW]; exact alloc_atR _ (by simp)
  have sW : w.heap.size + 2 ≤ W.heap.size := by rw [hW]; simp
  clear hW
  have y0 := (cell_row R1.out 0 (.slice o0 n0 k0) rfl).1
  have y1 := (cell_row R1.out 1 (.slice oa nb kb) rfl).1
  go_enter Tryz.func34, Tryz.ntmps34
  go_upto_region 1 with fail
  rw [← EW.out]
  go_wp2_with fail
  refine (freshP_any S T Bs o0 oa n0 k0 nb kb W (H0.out W BW.out) (H1.out W BW.out) (HS.out W BW.out) hsm).mono ?_
  rintro e w1 ⟨r0, r1, L, rfl, hp, hmap, hb1⟩
  clear y0 y1
  obtain ⟨p0, j0, e0⟩ := Row.form hp.th
  obtain ⟨p1, j1, e1⟩ := Row.form hp.bs.ro
  obtain ⟨m0, em0⟩ : ∃ n, T.length = n := ⟨_, rfl⟩
  obtain ⟨m1, em1⟩ : ∃ n, L.length = n := ⟨_, rfl⟩
  rw [em0] at e0
  rw [em1] at e1
  subst e0
  subst e1
  have HMP : Hid (L.map dH = Bs) := hmap
  have s1 := hb1.size
  obtain ⟨V, hV⟩ : ∃ V, V = w1.alloc (.cells #[.slice p0 m0 j0, .slice p1 m1 j1] 26) := ⟨_, rfl⟩
  have EV : Hid (V = w1.alloc (.cells #[.slice p0 m0 j0, .slice p1 m1 j1] 26)) := hV
  have bV : Below w1.heap.size w1 V := by rw [hV]; exact (Below.refl _ _).alloc (Nat.le_refl _) _
  have XV : Hid (V.heap[w1.heap.size]? = some (.cells #[.slice p0 m0 j0, .slice p1 m1 j1] 26 (0, 0))) := by rw [hV]; exact heap_alloc_new w1 _
  have sV : w1.heap.size + 1 ≤ V.heap.size ∧ V.heap.size ≤ w1.heap.size + 1 := by rw [hV]; simp
  have SV : Hid (w1.heap.size + 1 ≤ V.heap.size ∧ V.heap.size ≤ w1.heap.size + 1) := sV
  have sV1 := sV.1
  have BV : Hid (Below W.heap.size W V) := hb1.trans (bV.mono s1)
  have HP : Hid (PkO W.heap.size V (.slice p0 m0 j0) (.slice p1 m1 j1) T L) := hp.below bV
  clear hV bV hp hmap hb1 em0 em1 sV
  obtain ⟨gb, hgb⟩ : ∃ g, g = w1.heap.size := ⟨_, rfl⟩
  have EGB : Hid (gb = w1.heap.size) := hgb
  rw [← hgb] at XV
  have hgl : W.heap.size ≤ gb := by omega
  have hgu : gb < V.heap.size := by omega
  clear hgb
  go_upto_region 2 with fail
  rw [← EV.out, ← EGB.out]
  go_upto_region 5 with fail
  obtain ⟨U, hU⟩ : ∃ U, U = V.alloc (.cells #[.string x, .slice os ns ks] 56) := ⟨_, rfl⟩
  rw [← hU]
  have bU : Below V.heap.size V U := by rw [hU]; exact (Below.refl _ _).alloc (Nat.le_refl _) _
  have RU : Hid (U.heap[V.heap.size]? = some (.cells #[.string x, .slice os ns ks] 56 (0, 0))) := by rw [hU]; exact heap_alloc_new V _
  have XU : Hid (U.heap[gb]? = some (.cells #[.slice p0 m0 j0, .slice p1 m1 j1] 26 (0, 0))) := (bU.block gb hgu).trans XV.out
  have HPU : Hid (PkO W.heap.size U (.slice p0 m0 j0) (.slice p1 m1 j1) T L) := HP.out.below bU
  have BU : Hid (Below W.heap.size W U) := BV.out.trans (bU.mono (by omega))
  have CU : Hid (Calls Tryz.prog 50 #[.pointer (some ⟨gb, 0, none⟩), .agg #[.string x, .slice os ns ks]] U fun e w' => e = .returned (.tuple #[]) ∧ ∃ v0' v1' L', w'.heap[gb]? = some (.cells #[v0', v1'] 26 (0, 0)) ∧ PkO W.heap.size w' v0' v1' R.1 L' ∧ L'.map dH = R.2 ∧ Below W.heap.size U w') := HLET.out W.heap.size gb _ _ L U (BW.out.trans (BU.out.mono BW.out.size)) (by omega) hgl XU.out HPU.out HMP.out
  have u0 := (cell_row RU.out 0 (.string x) rfl).1
  have u1 := (cell_row RU.out 1 (.slice os ns ks) rfl).1
  clear hU bU
  go_wp2_with fail
  refine Calls.mono CU.out ?_
  rintro e w2 ⟨rfl, v0', v1', L', hx2, hp2, hm2, hb2⟩
  clear HP XV XU HPU EV CU RU u0 u1
  obtain ⟨q0, i0, ee0⟩ := Row.form hp2.th
  obtain ⟨q1, i1, ee1⟩ := Row.form hp2.bs.ro
  obtain ⟨t0, em0⟩ : ∃ n, R.1.length = n := ⟨_, rfl⟩
  obtain ⟨t1, em1⟩ : ∃ n, L'.length = n := ⟨_, rfl⟩
  rw [em0] at ee0
  rw [em1] at ee1
  subst ee0
  subst ee1
  have X2 : Hid (w2.heap[gb]? = some (.cells #[.slice q0 t0 i0, .slice q1 t1 i1] 26 (0, 0))) := hx2
  have HP2 : Hid (PkO W.heap.size w2 (.slice q0 t0 i0) (.slice q1 t1 i1) R.1 L') := hp2
  have HM2 : Hid (L'.map dH = R.2) := hm2
  have BU2 : Hid (Below W.heap.size W w2) := BU.out.trans hb2
  have A2 : Hid (w2.heap[w.heap.size + 1]? = some (.cells #[.slice none 0 0, .slice none 0 0] 26 (0, 0))) := (BU2.out.block _ (by omega)).trans R2.out
  clear hx2 hp2 hm2 hb2 em0 em1
  have c0 := (cell_row X2.out 0 (.slice q0 t0 i0) rfl).1
  have c1 := (cell_row X2.out 1 (.slice q1 t1 i1) rfl).1
  obtain ⟨z0, f0⟩ := cell_row A2.out 0 (.slice none 0 0) rfl
  obtain ⟨z1, f1⟩ := cell_row A2.out 1 (.slice none 0 0) rfl
  have P2 : Hid _ := box2_put (a := .slice q0 t0 i0) (b := .slice q1 t1 i1) A2.out
  go_wp2_with fail
  generalize ((w2.setCell ⟨w.heap.size + 1, 0, none⟩ (.slice q0 t0 i0)).setCell ⟨w.heap.size + 1, 1, none⟩ (.slice q1 t1 i1)) = F at P2 ⊢
  have g0 := (cell_row P2.out.1 0 (.slice q0 t0 i0) rfl).1
  have g1 := (cell_row P2.out.1 1 (.slice q1 t1 i1) rfl).1
  refine bodyPost_ret (v := .agg #[.slice q0 t0 i0, .slice q1 t1 i1]) (by simp [results, Tryz.results34, go_sem, g0, g1]) rfl ?_
  exact ⟨_, _, L', rfl, (HP2.out.box (gx := w.heap.size + 1) (by omega) P2.out.2.1).low (by omega), HM2.out, (BW.out.trans (BU2.out.mono BW.out.size)).trans (P2.out.2.2.mono (by omega))⟩
set_option maxRecDepth 100000 in
set_option maxHeartbeats 16000000 in
theorem topW_E (x : ByteArray) (os : Option Addr) (ns ks : Nat) (R : DShareBook) (code : Int) (o0 oa : Option Addr) (n0 k0 nb kb : Nat) (w : World) (hA : ∀ u, Below w.heap.size w u → Calls Tryz.prog 15 #[.agg #[.slice o0 n0 k0, .slice oa nb kb], .iface 56 (.agg #[.string x, .slice os ns ks])] u (AnsW u R code)) :
    Calls Tryz.prog 12 #[.agg #[.slice o0 n0 k0, .slice oa nb kb], .string x, .slice os ns ks] w (AnsW w R code) := by
  have HA : Hid (∀ u, Below w.heap.size w u → Calls Tryz.prog 15 #[.agg #[.slice o0 n0 k0, .slice oa nb kb], .iface 56 (.agg #[.string x, .slice os ns ks])] u (AnsW u R code)) := hA
  clear hA
  obtain ⟨W, hW⟩ : ∃ W, W = (w.alloc (.cells #[.slice o0 n0 k0, .slice oa nb kb] 26)).alloc (.cells #[.slice none 0 0, .slice none 0 0] 26) := ⟨_, rfl⟩
  have EW : Hid (W = (w.alloc (.cells #[.slice o0 n0 k0, .slice oa nb kb] 26)).alloc (.cells #[.slice none 0 0, .slice none 0 0] 26)) := hW
  have BW : Hid (Below w.heap.size w W) := by rw [hW]; exact ((Below.refl _ _).alloc (Nat.le_refl _) _).alloc (by simp) _
  have R1 : Hid (W.heap[w.heap.size]? = some (.cells #[.slice o0 n0 k0, .slice oa nb kb] 26 (0, 0))) := by rw [hW]; exact (Below.heap_alloc _ _ _ (by simp)).trans (heap_alloc_new w _)
  have R2 : Hid (W.heap[w.heap.size + 1]? = some (.cells #[.slice none 0 0, .slice none 0 0] 26 (0, 0))) := by
    rw [hW]; exact alloc_atR _ (by simp)
  have sW : w.heap.size + 2 ≤ W.heap.size := by rw [hW]; simp
  clear hW
  have y0 := (cell_row R1.out 0 (.slice o0 n0 k0) rfl).1
  have y1 := (cell_row R1.out 1 (.slice oa nb kb) rfl).1
  go_enter Tryz.func12, Tryz.ntmps12
  go_upto_region 1 with fail
  rw [← EW.out]
  go_wp2_with fail
  refine (HA.out W BW.out).mono ?_
  rintro e w1 ⟨r0, r1, L, rfl, hp, hmap, hb1⟩
  clear y0 y1
  obtain ⟨p0, j0, e0⟩ := Row.form hp.th
  obtain ⟨p1, j1, e1⟩ := Row.form hp.bs.ro
  obtain ⟨m0, em0⟩ : ∃ n, R.1.length = n := ⟨_, rfl⟩
  obtain ⟨m1, em1⟩ : ∃ n, L.length = n := ⟨_, rfl⟩
  rw [em0] at e0
  rw [em1] at e1
  subst e0
  subst e1
  have HP : Hid (PkO W.heap.size w1 (.slice p0 m0 j0) (.slice p1 m1 j1) R.1 L) := hp
  have HMP : Hid (L.map dH = R.2) := hmap
  have B1 : Hid (Below w.heap.size w w1) := BW.out.trans (hb1.mono BW.out.size)
  have A2 : Hid (w1.heap[w.heap.size + 1]? = some (.cells #[.slice none 0 0, .slice none 0 0] 26 (0, 0))) := (hb1.block _ (by omega)).trans R2.out
  clear hp hmap hb1 em0 em1
  obtain ⟨z0, f0⟩ := cell_row A2.out 0 (.slice none 0 0) rfl
  obtain ⟨z1, f1⟩ := cell_row A2.out 1 (.slice none 0 0) rfl
  have P2 : Hid _ := box2_put (a := .slice p0 m0 j0) (b := .slice p1 m1 j1) A2.out
  go_wp2_with fail
  generalize ((w1.setCell ⟨w.heap.size + 1, 0, none⟩ (.slice p0 m0 j0)).setCell ⟨w.heap.size + 1, 1, none⟩ (.slice p1 m1 j1)) = F at P2 ⊢
  have g0 := (cell_row P2.out.1 0 (.slice p0 m0 j0) rfl).1
  have g1 := (cell_row P2.out.1 1 (.slice p1 m1 j1) rfl).1
  refine bodyPost_ret (v := .tuple #[.agg #[.slice p0 m0 j0, .slice p1 m1 j1], .int .i64 code]) (by simp [results, Tryz.results12, go_sem, g0, g1]) rfl ?_
  exact ⟨_, _, L, rfl, (HP.out.box (gx := w.heap.size + 1) (by omega) P2.out.2.1).low (by omega), HMP.out, B1.out.trans (P2.out.2.2.mono (by omega))⟩
end Go.Proofs.YtaejlcanccfmmaaGreatDoor
