/-
  What is answered to somebody who shares: the program's answer to impl.toEnter.
-/
import Derived.Test.YtidojjecjjochacGreatDoorM30
namespace Go.Proofs.YtidojjecjjochacGreatDoor
open Go.RowKit Go.Sort

set_option maxRecDepth 100000 in
set_option maxHeartbeats 16000000 in
theorem ansW_E (x : ByteArray) (os : Option Addr) (ns ks : Nat) (code : Int) (R : DShareBook) (S : Nat → Prop) (T : List ByteArray) (Bs : List DShareBatch) (o0 oa : Option Addr) (n0 k0 nb kb : Nat) (w : World) (h0 : AtL S w T (.slice o0 n0 k0)) (h1 : AtL S w Bs (.slice oa nb kb)) (hS : ∀ b, S b → b < w.heap.size) (hl : Laid0 w)
    (hR : bokB (T, Bs) = true → ∀ u, Below w.heap.size w u → Calls Tryz.prog 113 #[.agg #[.string x, .slice os ns ks], .agg #[.slice o0 n0 k0, .slice oa nb kb]] u fun e w' => e = .returned (errW x code) ∧ Below u.heap.size u w')
    (hB : bokB (T, Bs) = true → code = 0 → ∀ u, Below w.heap.size w u → Calls Tryz.prog 38 #[.agg #[.slice o0 n0 k0, .slice oa nb kb], .iface 50 (.agg #[.string x, .slice os ns ks])] u (BehW u R))
    (hN : code ≠ 0 → R = (T, Bs)) :
    Calls Tryz.prog 23 #[.agg #[.slice o0 n0 k0, .slice oa nb kb], .iface 50 (.agg #[.string x, .slice os ns ks])] w (AnsW w (if bokB (T, Bs) = true then R else ([], [])) (if bokB (T, Bs) = true then code else 1)) := by
  have H0 : Hid (∀ u, Below w.heap.size w u → AtL S u T (.slice o0 n0 k0)) := fun u hu => h0.same (Same.of_below hu hS)
  have H1 : Hid (∀ u, Below w.heap.size w u → AtL S u Bs (.slice oa nb kb)) := fun u hu => h1.same (Same.of_below hu hS)
  have HS : Hid (∀ u, Below w.heap.size w u → ∀ b, S b → b < u.heap.size) := fun u hu b hb => Nat.lt_of_lt_of_le (hS b hb) hu.size
  have HL : Hid (∀ u, Below w.heap.size w u → Laid0 u) := fun u hu => hl.below hu
  have HR : Hid (bokB (T, Bs) = true → ∀ u, Below w.heap.size w u → Calls Tryz.prog 113 #[.agg #[.string x, .slice os ns ks], .agg #[.slice o0 n0 k0, .slice oa nb kb]] u fun e w' => e = .returned (errW x code) ∧ Below u.heap.size u w') := hR
  have HBH : Hid (bokB (T, Bs) = true → code = 0 → ∀ u, Below w.heap.size w u → Calls Tryz.prog 38 #[.agg #[.slice o0 n0 k0, .slice oa nb kb], .iface 50 (.agg #[.string x, .slice os ns ks])] u (BehW u R)) := hB
  have HN : Hid (code ≠ 0 → R = (T, Bs)) := hN
  clear h0 h1 hR hB hN hl
  obtain ⟨RR, eRR⟩ : ∃ r : DShareBook, (if bokB (T, Bs) = true then R else ([], [])) = r := ⟨_, rfl⟩
  obtain ⟨RC, eRC⟩ : ∃ r : Int, (if bokB (T, Bs) = true then code else 1) = r := ⟨_, rfl⟩
  rw [eRR, eRC]
  have YES : Hid (bokB (T, Bs) = true → RR = R ∧ RC = code) := fun h => ⟨by rw [← eRR, if_pos h], by rw [← eRC, if_pos h]⟩
  have NOT : Hid (bokB (T, Bs) = false → RR = ([], []) ∧ RC = 1) := fun h => ⟨by rw [← eRR, if_neg (by rw [h]; decide)], by rw [← eRC, if_neg (by rw [h]; decide)]⟩
  clear eRR eRC
  have hm : ∀ W, (Go.method 306 50 (.agg #[.string x, .slice os ns ks]) "loop.example/malthouse/impl.refused").run Tryz.prog W = .ok (113, .agg #[.string x, .slice os ns ks]) W := fun W => by kernel_rfl
  obtain ⟨W, hW⟩ : ∃ W, W = (w.alloc (.cells #[.slice o0 n0 k0, .slice oa nb kb] 30)).alloc (.cells #[.slice none 0 0, .slice none 0 0] 30) := ⟨_, rfl⟩
  have EW : Hid (W = (w.alloc (.cells #[.slice o0 n0 k0, .slice oa nb kb] 30)).alloc (.cells #[.slice none 0 0, .slice none 0 0] 30)) := hW
  have BW : Hid (Below w.heap.size w W) := by rw [hW]; exact ((Below.refl _ _).alloc (Nat.le_refl _) _).alloc (by simp) _
  have R1 : Hid (W.heap[w.heap.size]? = some (.cells #[.slice o0 n0 k0, .slice oa nb kb] 30 (0, 0))) := by rw [hW]; exact (Below.heap_alloc _ _ _ (by simp)).trans (heap_alloc_new w _)
  have R2 : Hid (W.heap[w.heap.size + 1]? = some (.cells #[.slice none 0 0, .slice none 0 0] 30 (0, 0))) := by
    rw [hW]; exact alloc_atR _ (by simp)
  have sW : w.heap.size + 2 ≤ W.heap.size := by rw [hW]; simp
  clear hW
  have y0 := (cell_row R1.out 0 (.slice o0 n0 k0) rfl).1
  have y1 := (cell_row R1.out 1 (.slice oa nb kb) rfl).1
  go_enter Tryz.func23, Tryz.ntmps23
  go_upto_region 1 with fail
  rw [← EW.out]
  go_wp2_with fail
  refine (bookP_any S T Bs o0 oa n0 k0 nb kb W (H0.out W BW.out) (H1.out W BW.out) (HS.out W BW.out)).mono ?_
  rintro e w1 ⟨rfl, hb1⟩
  clear y0 y1
  have B1 : Hid (Below W.heap.size W w1) := hb1
  have s1 := hb1.size
  have BW1 : Hid (Below w.heap.size w w1) := BW.out.trans (hb1.mono BW.out.size)
  have Y1 : Hid (w1.heap[w.heap.size]? = some (.cells #[.slice o0 n0 k0, .slice oa nb kb] 30 (0, 0))) := (hb1.block _ (by omega)).trans R1.out
  have Y2 : Hid (w1.heap[w.heap.size + 1]? = some (.cells #[.slice none 0 0, .slice none 0 0] 30 (0, 0))) := (hb1.block _ (by omega)).trans R2.out
  clear hb1 R1 R2
  cases hok : bokB (T, Bs)
  · obtain ⟨z0, f0⟩ := cell_row Y2.out 0 (.slice none 0 0) rfl
    obtain ⟨z1, f1⟩ := cell_row Y2.out 1 (.slice none 0 0) rfl
    have P2 : Hid _ := box2_put (a := .slice none 0 0) (b := .slice none 0 0) Y2.out
    go_wp2_with fail
    generalize ((w1.setCell ⟨w.heap.size + 1, 0, none⟩ (.slice none 0 0)).setCell ⟨w.heap.size + 1, 1, none⟩ (.slice none 0 0)) = F at P2 ⊢
    have g0 := (cell_row P2.out.1 0 (.slice none 0 0) rfl).1
    have g1 := (cell_row P2.out.1 1 (.slice none 0 0) rfl).1
    refine bodyPost_ret (v := .tuple #[.agg #[.slice none 0 0, .slice none 0 0], .int .i64 1]) (by simp [results, Tryz.results23, go_sem, g0, g1]) rfl ?_
    rw [(NOT.out hok).1, (NOT.out hok).2]
    exact ⟨_, _, [], rfl, PkO.nil _ _, rfl, BW1.out.trans (P2.out.2.2.mono (by omega))⟩
  have y0 := (cell_row Y1.out 0 (.slice o0 n0 k0) rfl).1
  have y1 := (cell_row Y1.out 1 (.slice oa nb kb) rfl).1
  go_wp2_with fail
  refine (HR.out hok w1 BW1.out).mono ?_
  rintro e w2 ⟨rfl, hb2⟩
  clear y0 y1
  have s2 := hb2.size
  have BW2 : Hid (Below w.heap.size w w2) := BW1.out.trans (hb2.mono (by omega))
  have Z1 : Hid (w2.heap[w.heap.size]? = some (.cells #[.slice o0 n0 k0, .slice oa nb kb] 30 (0, 0))) := (hb2.block _ (by omega)).trans Y1.out
  have Z2 : Hid (w2.heap[w.heap.size + 1]? = some (.cells #[.slice none 0 0, .slice none 0 0] 30 (0, 0))) := (hb2.block _ (by omega)).trans Y2.out
  clear hb2 Y1 Y2 B1
  have y0 := (cell_row Z1.out 0 (.slice o0 n0 k0) rfl).1
  have y1 := (cell_row Z1.out 1 (.slice oa nb kb) rfl).1
  by_cases hc : code = 0
  · have HC : Hid (code = 0) := hc
    rw [hc, errW_no]
    clear hc
    go_wp2_with fail
    refine (HBH.out hok HC.out w2 BW2.out).mono ?_
    rintro e w3 ⟨r0, r1, L, rfl, hp, hmap, hb3⟩
    obtain ⟨p0, j0, e0⟩ := Row.form hp.th
    obtain ⟨p1, j1, e1⟩ := Row.form hp.bs.ro
    obtain ⟨m0, em0⟩ : ∃ n, R.1.length = n := ⟨_, rfl⟩
    obtain ⟨m1, em1⟩ : ∃ n, L.length = n := ⟨_, rfl⟩
    rw [em0] at e0
    rw [em1] at e1
    subst e0
    subst e1
    have HP : Hid (PkO w2.heap.size w3 (.slice p0 m0 j0) (.slice p1 m1 j1) R.1 L) := hp
    have HMP : Hid (L.map dH = R.2) := hmap
    have X2 : Hid (w3.heap[w.heap.size + 1]? = some (.cells #[.slice none 0 0, .slice none 0 0] 30 (0, 0))) := (hb3.block _ (by omega)).trans Z2.out
    have BW3 : Hid (Below w.heap.size w w3) := BW2.out.trans (hb3.mono (by omega))
    clear hp hmap hb3 em0 em1 y0 y1
    obtain ⟨z0, f0⟩ := cell_row X2.out 0 (.slice none 0 0) rfl
    obtain ⟨z1, f1⟩ := cell_row X2.out 1 (.slice none 0 0) rfl
    have P2 : Hid _ := box2_put (a := .slice p0 m0 j0) (b := .slice p1 m1 j1) X2.out
    go_wp2_with fail
    generalize ((w3.setCell ⟨w.heap.size + 1, 0, none⟩ (.slice p0 m0 j0)).setCell ⟨w.heap.size + 1, 1, none⟩ (.slice p1 m1 j1)) = F at P2 ⊢
    have g0 := (cell_row P2.out.1 0 (.slice p0 m0 j0) rfl).1
    have g1 := (cell_row P2.out.1 1 (.slice p1 m1 j1) rfl).1
    refine bodyPost_ret (v := .tuple #[.agg #[.slice p0 m0 j0, .slice p1 m1 j1], .int .i64 0]) (by simp [results, Tryz.results23, go_sem, g0, g1]) rfl ?_
    rw [(YES.out hok).1, (YES.out hok).2, HC.out]
    exact ⟨_, _, L, rfl, (HP.out.box (gx := w.heap.size + 1) (by omega) P2.out.2.1).low (by omega), HMP.out, BW3.out.trans (P2.out.2.2.mono (by omega))⟩
  · rw [errW_yes x hc]
    have HC : Hid (code ≠ 0) := hc
    have hsm : SmD (T, Bs) := (bok_small (bok_iff.1 hok)).1
    have HSM : Hid (SmD (T, Bs)) := hsm
    clear hsm hc
    go_wp2_with fail
    refine (freshP_any S T Bs o0 oa n0 k0 nb kb w2 (H0.out w2 BW2.out) (H1.out w2 BW2.out) (HS.out w2 BW2.out) HSM.out).mono ?_
    rintro e w3 ⟨r0, r1, L, rfl, hp, hmap, hb3⟩
    have HP : Hid (PkO w2.heap.size w3 r0 r1 T L) := hp
    have HMP : Hid (L.map dH = Bs) := hmap
    have s3 := hb3.size
    have X2 : Hid (w3.heap[w.heap.size + 1]? = some (.cells #[.slice none 0 0, .slice none 0 0] 30 (0, 0))) := (hb3.block _ (by omega)).trans Z2.out
    have BW3 : Hid (Below w.heap.size w w3) := BW2.out.trans (hb3.mono (by omega))
    clear hp hmap hb3 y0 y1
    have CC : Hid (Calls Tryz.prog 37 #[.iface 168 (.agg #[.string x, .iface 78 (.agg #[.int .i64 code])])] w3 fun e w' => e = .returned (.int .i64 code) ∧ Below w3.heap.size w3 w') := codeW_any x code w3 (HL.out w3 BW3.out)
    go_wp2_with fail
    refine Calls.mono CC.out ?_
    rintro e w4 ⟨rfl, hb4⟩
    obtain ⟨p0, j0, e0⟩ := Row.form HP.out.th
    obtain ⟨p1, j1, e1⟩ := Row.form HP.out.bs.ro
    obtain ⟨m0, em0⟩ : ∃ n, T.length = n := ⟨_, rfl⟩
    obtain ⟨m1, em1⟩ : ∃ n, L.length = n := ⟨_, rfl⟩
    rw [em0] at e0
    rw [em1] at e1
    subst e0
    subst e1
    have HP4 : Hid (PkO w2.heap.size w4 (.slice p0 m0 j0) (.slice p1 m1 j1) T L) := HP.out.below hb4
    have X4 : Hid (w4.heap[w.heap.size + 1]? = some (.cells #[.slice none 0 0, .slice none 0 0] 30 (0, 0))) := (hb4.block _ (by omega)).trans X2.out
    have BW4 : Hid (Below w.heap.size w w4) := BW3.out.trans (hb4.mono (by omega))
    clear HP X2 hb4 em0 em1
    obtain ⟨z0, f0⟩ := cell_row X4.out 0 (.slice none 0 0) rfl
    obtain ⟨z1, f1⟩ := cell_row X4.out 1 (.slice none 0 0) rfl
    have P2 : Hid _ := box2_put (a := .slice p0 m0 j0) (b := .slice p1 m1 j1) X4.out
    go_wp2_with fail
    generalize ((w4.setCell ⟨w.heap.size + 1, 0, none⟩ (.slice p0 m0 j0)).setCell ⟨w.heap.size + 1, 1, none⟩ (.slice p1 m1 j1)) = F at P2 ⊢
    have g0 := (cell_row P2.out.1 0 (.slice p0 m0 j0) rfl).1
    have g1 := (cell_row P2.out.1 1 (.slice p1 m1 j1) rfl).1
    refine bodyPost_ret (v := .tuple #[.agg #[.slice p0 m0 j0, .slice p1 m1 j1], .int .i64 code]) (by simp [results, Tryz.results23, go_sem, g0, g1]) rfl ?_
    rw [(YES.out hok).1, (YES.out hok).2, HN.out HC.out]
    exact ⟨_, _, L, rfl, (HP4.out.box (gx := w.heap.size + 1) (by omega) P2.out.2.1).low (by omega), HMP.out, BW4.out.trans (P2.out.2.2.mono (by omega))⟩

end Go.Proofs.YtidojjecjjochacGreatDoor
