/-
  The program's behind and ShareEnter, by what is refused and what is let.
-/
import Derived.Test.YtidojjecjjochacGreatDoorZqgE
namespace Go.Proofs.YtidojjecjjochacGreatDoor
open Go.RowKit Go.Sort

set_option maxRecDepth 100000 in
set_option maxHeartbeats 16000000 in
theorem behW_E (x : ByteArray) (os : Option Addr) (ns ks : Nat) (R : DShareBook) (S : Nat → Prop) (T : List ByteArray) (Bs : List DShareBatch) (o0 oa : Option Addr) (n0 k0 nb kb : Nat) (w : World) (h0 : AtL S w T (.slice o0 n0 k0)) (h1 : AtL S w Bs (.slice oa nb kb)) (hS : ∀ b, S b → b < w.heap.size) (hsm : SmD (T, Bs))
    (hLet : ∀ (B gb : Nat) (v0 v1 : Value) (L : List HB) (u : World), Below w.heap.size w u → w.heap.size ≤ B → B ≤ gb → u.heap[gb]? = some (.cells #[v0, v1] 30 (0, 0)) → PkO B u v0 v1 T L → L.map dH = Bs → Calls Tryz.prog 46 #[.pointer (some ⟨gb, 0, none⟩), .agg #[.string x, .slice os ns ks]] u fun e w' => e = .returned (.tuple #[]) ∧ ∃ v0' v1' L', w'.heap[gb]? = some (.cells #[v0', v1'] 30 (0, 0)) ∧ PkO B w' v0' v1' R.1 L' ∧ L'.map dH = R.2 ∧ Below B u w') :
    Calls Tryz.prog 38 #[.agg #[.slice o0 n0 k0, .slice oa nb kb], .iface 50 (.agg #[.string x, .slice os ns ks])] w (BehW w R) := by
  have H0 : Hid (∀ u, Below w.heap.size w u → AtL S u T (.slice o0 n0 k0)) := fun u hu => h0.same (Same.of_below hu hS)
  have H1 : Hid (∀ u, Below w.heap.size w u → AtL S u Bs (.slice oa nb kb)) := fun u hu => h1.same (Same.of_below hu hS)
  have HS : Hid (∀ u, Below w.heap.size w u → ∀ b, S b → b < u.heap.size) := fun u hu b hb => Nat.lt_of_lt_of_le (hS b hb) hu.size
  have HLET : Hid (∀ (B gb : Nat) (v0 v1 : Value) (L : List HB) (u : World), Below w.heap.size w u → w.heap.size ≤ B → B ≤ gb → u.heap[gb]? = some (.cells #[v0, v1] 30 (0, 0)) → PkO B u v0 v1 T L → L.map dH = Bs → Calls Tryz.prog 46 #[.pointer (some ⟨gb, 0, none⟩), .agg #[.string x, .slice os ns ks]] u fun e w' => e = .returned (.tuple #[]) ∧ ∃ v0' v1' L', w'.heap[gb]? = some (.cells #[v0', v1'] 30 (0, 0)) ∧ PkO B w' v0' v1' R.1 L' ∧ L'.map dH = R.2 ∧ Below B u w') := hLet
  clear h0 h1 hLet
  have ta_y : ∀ W, (Instr.typeAssert (.iface 50 (.agg #[.string x, .slice os ns ks])) 61 50 true).run Tryz.prog W = .ok (.tuple #[.agg #[.string x, .slice os ns ks], .bool true]) W := fun W => by kernel_rfl
  obtain ⟨W, hW⟩ : ∃ W, W = (w.alloc (.cells #[.slice o0 n0 k0, .slice oa nb kb] 30)).alloc (.cells #[.slice none 0 0, .slice none 0 0] 30) := ⟨_, rfl⟩
  have EW : Hid (W = (w.alloc (.cells #[.slice o0 n0 k0, .slice oa nb kb] 30)).alloc (.cells #[.slice none 0 0, .slice none 0 0] 30)) := hW
  have BW : Hid (Below w.heap.size w W) := by rw [hW]; exact ((Below.refl _ _).alloc (Nat.le_refl _) _).alloc (by simp) _
  have R1 : Hid (W.heap[w.heap.size]? = some (.cells #[.slice o0 n0 k0, .slice oa nb kb] 30 (0, 0))) := by rw [hW]; exact (Below.heap_alloc _ _ _ (by simp)).trans (heap_alloc_new w _)
  have R2 : Hid (W.heap[w.heap.size + 1]? = some (.cells #[.slice none 0 0, .slice none 0 0] 30 (0, 0))) := by
    rw [hW]; exact alloc_atR _ (by simp)
  have sW : w.heap.size + 2 ≤ W.heap.size := by rw [hW]; simp
  clear hW
  have y0 := (cell_row R1.out 0 (.slice o0 n0 k0) rfl).1
  have y1 := (cell_row R1.out 1 (.slice oa nb kb) rfl).1
  go_enter Tryz.func38, Tryz.ntmps38
  go_upto_region 1 with fail
  rw [← EW.out]
  go_wp2_with fail
  refine (freshP_any S T Bs o0 oa n0 k0 nb kb W (H0.out W BW.out) (H1.out W BW.out) (HS.out W BW.out) hsm).mono ?_
  rintro e w1 ⟨r0, r1, L, rfl, hp, hmap, hb1⟩
  clear y0 y1
  obtain ⟨p0, j0, e0⟩ := Row.form hp.th
  obtain ⟨p1, j1, e1⟩ := Row.form hp.bs.ro
  obtain ⟨m0, em0⟩ : ∃ n, T.length = n := ⟨_, rfl⟩
  obtain ⟨m1, em1⟩ : ∃ n, L.length = n := ⟨_, rfl⟩
  rw [em0] at e0
  rw [em1] at e1
  subst e0
  subst e1
  have HMP : Hid (L.map dH = Bs) := hmap
  have s1 := hb1.size
  obtain ⟨V, hV⟩ : ∃ V, V = w1.alloc (.cells #[.slice p0 m0 j0, .slice p1 m1 j1] 30) := ⟨_, rfl⟩
  have EV : Hid (V = w1.alloc (.cells #[.slice p0 m0 j0, .slice p1 m1 j1] 30)) := hV
  have bV : Below w1.heap.size w1 V := by rw [hV]; exact (Below.refl _ _).alloc (Nat.le_refl _) _
  have XV : Hid (V.heap[w1.heap.size]? = some (.cells #[.slice p0 m0 j0, .slice p1 m1 j1] 30 (0, 0))) := by rw [hV]; exact heap_alloc_new w1 _
  have sV : w1.heap.size + 1 ≤ V.heap.size ∧ V.heap.size ≤ w1.heap.size + 1 := by rw [hV]; simp
  have SV : Hid (w1.heap.size + 1 ≤ V.heap.size ∧ V.heap.size ≤ w1.heap.size + 1) := sV
  have sV1 := sV.1
  have BV : Hid (Below W.heap.size W V) := hb1.trans (bV.mono s1)
  have HP : Hid (PkO W.heap.size V (.slice p0 m0 j0) (.slice p1 m1 j1) T L) := hp.below bV
  clear hV bV hp hmap hb1 em0 em1 sV
  obtain ⟨gb, hgb⟩ : ∃ g, g = w1.heap.size := ⟨_, rfl⟩
  have EGB : Hid (gb = w1.heap.size) := hgb
  rw [← hgb] at XV
  have hgl : W.heap.size ≤ gb := by omega
  have hgu : gb < V.heap.size := by omega
  clear hgb
  go_upto_region 2 with fail
  rw [← EV.out, ← EGB.out]
  go_upto_region 5 with fail
  obtain ⟨U, hU⟩ : ∃ U, U = V.alloc (.cells #[.string x, .slice os ns ks] 50) := ⟨_, rfl⟩
  rw [← hU]
  have bU : Below V.heap.size V U := by rw [hU]; exact (Below.refl _ _).alloc (Nat.le_refl _) _
  have RU : Hid (U.heap[V.heap.size]? = some (.cells #[.string x, .slice os ns ks] 50 (0, 0))) := by rw [hU]; exact heap_alloc_new V _
  have XU : Hid (U.heap[gb]? = some (.cells #[.slice p0 m0 j0, .slice p1 m1 j1] 30 (0, 0))) := (bU.block gb hgu).trans XV.out
  have HPU : Hid (PkO W.heap.size U (.slice p0 m0 j0) (.slice p1 m1 j1) T L) := HP.out.below bU
  have BU : Hid (Below W.heap.size W U) := BV.out.trans (bU.mono (by omega))
  have CU : Hid (Calls Tryz.prog 46 #[.pointer (some ⟨gb, 0, none⟩), .agg #[.string x, .slice os ns ks]] U fun e w' => e = .returned (.tuple #[]) ∧ ∃ v0' v1' L', w'.heap[gb]? = some (.cells #[v0', v1'] 30 (0, 0)) ∧ PkO W.heap.size w' v0' v1' R.1 L' ∧ L'.map dH = R.2 ∧ Below W.heap.size U w') := HLET.out W.heap.size gb _ _ L U (BW.out.trans (BU.out.mono BW.out.size)) (by omega) hgl XU.out HPU.out HMP.out
  have u0 := (cell_row RU.out 0 (.string x) rfl).1
  have u1 := (cell_row RU.out 1 (.slice os ns ks) rfl).1
  clear hU bU
  go_wp2_with fail
  refine Calls.mono CU.out ?_
  rintro e w2 ⟨rfl, v0', v1', L', hx2, hp2, hm2, hb2⟩
  clear HP XV XU HPU EV CU RU u0 u1
  obtain ⟨q0, i0, ee0⟩ := Row.form hp2.th
  obtain ⟨q1, i1, ee1⟩ := Row.form hp2.bs.ro
  obtain ⟨t0, em0⟩ : ∃ n, R.1.length = n := ⟨_, rfl⟩
  obtain ⟨t1, em1⟩ : ∃ n, L'.length = n := ⟨_, rfl⟩
  rw [em0] at ee0
  rw [em1] at ee1
  subst ee0
  subst ee1
  have X2 : Hid (w2.heap[gb]? = some (.cells #[.slice q0 t0 i0, .slice q1 t1 i1] 30 (0, 0))) := hx2
  have HP2 : Hid (PkO W.heap.size w2 (.slice q0 t0 i0) (.slice q1 t1 i1) R.1 L') := hp2
  have HM2 : Hid (L'.map dH = R.2) := hm2
  have BU2 : Hid (Below W.heap.size W w2) := BU.out.trans hb2
  have A2 : Hid (w2.heap[w.heap.size + 1]? = some (.cells #[.slice none 0 0, .slice none 0 0] 30 (0, 0))) := (BU2.out.block _ (by omega)).trans R2.out
  clear hx2 hp2 hm2 hb2 em0 em1
  have c0 := (cell_row X2.out 0 (.slice q0 t0 i0) rfl).1
  have c1 := (cell_row X2.out 1 (.slice q1 t1 i1) rfl).1
  obtain ⟨z0, f0⟩ := cell_row A2.out 0 (.slice none 0 0) rfl
  obtain ⟨z1, f1⟩ := cell_row A2.out 1 (.slice none 0 0) rfl
  have P2 : Hid _ := box2_put (a := .slice q0 t0 i0) (b := .slice q1 t1 i1) A2.out
  go_wp2_with fail
  generalize ((w2.setCell ⟨w.heap.size + 1, 0, none⟩ (.slice q0 t0 i0)).setCell ⟨w.heap.size + 1, 1, none⟩ (.slice q1 t1 i1)) = F at P2 ⊢
  have g0 := (cell_row P2.out.1 0 (.slice q0 t0 i0) rfl).1
  have g1 := (cell_row P2.out.1 1 (.slice q1 t1 i1) rfl).1
  refine bodyPost_ret (v := .agg #[.slice q0 t0 i0, .slice q1 t1 i1]) (by simp [results, Tryz.results38, go_sem, g0, g1]) rfl ?_
  exact ⟨_, _, L', rfl, (HP2.out.box (gx := w.heap.size + 1) (by omega) P2.out.2.1).low (by omega), HM2.out, (BW.out.trans (BU2.out.mono BW.out.size)).trans (P2.out.2.2.mono (by omega))⟩

set_option maxRecDepth 100000 in
set_option maxHeartbeats 16000000 in
theorem topW_E (x : ByteArray) (os : Option Addr) (ns ks : Nat) (R : DShareBook) (code : Int) (o0 oa : Option Addr) (n0 k0 nb kb : Nat) (w : World) (hA : ∀ u, Below w.heap.size w u → Calls Tryz.prog 23 #[.agg #[.slice o0 n0 k0, .slice oa nb kb], .iface 50 (.agg #[.string x, .slice os ns ks])] u (AnsW u R code)) :
    Calls Tryz.prog 9 #[.agg #[.slice o0 n0 k0, .slice oa nb kb], .string x, .slice os ns ks] w (AnsW w R code) := by
  have HA : Hid (∀ u, Below w.heap.size w u → Calls Tryz.prog 23 #[.agg #[.slice o0 n0 k0, .slice oa nb kb], .iface 50 (.agg #[.string x, .slice os ns ks])] u (AnsW u R code)) := hA
  clear hA
  obtain ⟨W, hW⟩ : ∃ W, W = (w.alloc (.cells #[.slice o0 n0 k0, .slice oa nb kb] 30)).alloc (.cells #[.slice none 0 0, .slice none 0 0] 30) := ⟨_, rfl⟩
  have EW : Hid (W = (w.alloc (.cells #[.slice o0 n0 k0, .slice oa nb kb] 30)).alloc (.cells #[.slice none 0 0, .slice none 0 0] 30)) := hW
  have BW : Hid (Below w.heap.size w W) := by rw [hW]; exact ((Below.refl _ _).alloc (Nat.le_refl _) _).alloc (by simp) _
  have R1 : Hid (W.heap[w.heap.size]? = some (.cells #[.slice o0 n0 k0, .slice oa nb kb] 30 (0, 0))) := by rw [hW]; exact (Below.heap_alloc _ _ _ (by simp)).trans (heap_alloc_new w _)
  have R2 : Hid (W.heap[w.heap.size + 1]? = some (.cells #[.slice none 0 0, .slice none 0 0] 30 (0, 0))) := by
    rw [hW]; exact alloc_atR _ (by simp)
  have sW : w.heap.size + 2 ≤ W.heap.size := by rw [hW]; simp
  clear hW
  have y0 := (cell_row R1.out 0 (.slice o0 n0 k0) rfl).1
  have y1 := (cell_row R1.out 1 (.slice oa nb kb) rfl).1
  go_enter Tryz.func9, Tryz.ntmps9
  go_upto_region 1 with fail
  rw [← EW.out]
  go_wp2_with fail
  refine (HA.out W BW.out).mono ?_
  rintro e w1 ⟨r0, r1, L, rfl, hp, hmap, hb1⟩
  clear y0 y1
  obtain ⟨p0, j0, e0⟩ := Row.form hp.th
  obtain ⟨p1, j1, e1⟩ := Row.form hp.bs.ro
  obtain ⟨m0, em0⟩ : ∃ n, R.1.length = n := ⟨_, rfl⟩
  obtain ⟨m1, em1⟩ : ∃ n, L.length = n := ⟨_, rfl⟩
  rw [em0] at e0
  rw [em1] at e1
  subst e0
  subst e1
  have HP : Hid (PkO W.heap.size w1 (.slice p0 m0 j0) (.slice p1 m1 j1) R.1 L) := hp
  have HMP : Hid (L.map dH = R.2) := hmap
  have B1 : Hid (Below w.heap.size w w1) := BW.out.trans (hb1.mono BW.out.size)
  have A2 : Hid (w1.heap[w.heap.size + 1]? = some (.cells #[.slice none 0 0, .slice none 0 0] 30 (0, 0))) := (hb1.block _ (by omega)).trans R2.out
  clear hp hmap hb1 em0 em1
  obtain ⟨z0, f0⟩ := cell_row A2.out 0 (.slice none 0 0) rfl
  obtain ⟨z1, f1⟩ := cell_row A2.out 1 (.slice none 0 0) rfl
  have P2 : Hid _ := box2_put (a := .slice p0 m0 j0) (b := .slice p1 m1 j1) A2.out
  go_wp2_with fail
  generalize ((w1.setCell ⟨w.heap.size + 1, 0, none⟩ (.slice p0 m0 j0)).setCell ⟨w.heap.size + 1, 1, none⟩ (.slice p1 m1 j1)) = F at P2 ⊢
  have g0 := (cell_row P2.out.1 0 (.slice p0 m0 j0) rfl).1
  have g1 := (cell_row P2.out.1 1 (.slice p1 m1 j1) rfl).1
  refine bodyPost_ret (v := .tuple #[.agg #[.slice p0 m0 j0, .slice p1 m1 j1], .int .i64 code]) (by simp [results, Tryz.results9, go_sem, g0, g1]) rfl ?_
  exact ⟨_, _, L, rfl, (HP.out.box (gx := w.heap.size + 1) (by omega) P2.out.2.1).low (by omega), HMP.out, B1.out.trans (P2.out.2.2.mono (by omega))⟩

end Go.Proofs.YtidojjecjjochacGreatDoor
