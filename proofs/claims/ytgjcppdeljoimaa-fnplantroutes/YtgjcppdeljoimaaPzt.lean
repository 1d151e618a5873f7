import Derived.Test.YtgjcppdeljoimaaPzn
import Derived.Test.YtgjcppdeljoimaaPzs
import Derived.Test.YtgjcppdeljoimaaM14
namespace Go.Proofs.Ytgjcppdeljoimaa
open Go.RowKit Go.Sort
theorem spo_store {R Q : Nat} {w : World} {ob : Option Addr} {n cb : Nat} {f : Nat → Int} {v0 v1 v2 v3 : Value} {X : PlL} {c : Int} {u : World} (hQ : u.heap[Q]? = some (.cells #[.slice none 0 0, .slice none 0 0, .slice none 0 0, .slice none 0 0] 28 (0, 0))) (hq : w.heap.size ≤ Q) (hR : R < w.heap.size) (pl : PlR w.heap.size u v0 v1 v2 v3 X) (ok : PlL.OkN 20 X) (rd : ∃ q, q ≤ c ∧ Rd R u ob n cb q f) (bt : But (fun b => b = R) w u) :
    SpoP R ob n cb f c w (.returned (.agg #[v0, v1, v2, v3])) ((((u.setCell ⟨Q, 0, none⟩ v0).setCell ⟨Q, 1, none⟩ v1).setCell ⟨Q, 2, none⟩ v2).setCell ⟨Q, 3, none⟩ v3) := by
  obtain ⟨r1, r2, r3, r4⟩ := ret4 hQ v0 v1 v2 v3
  obtain ⟨q, hq', hrd⟩ := rd
  exact ⟨v0, v1, v2, v3, X, q, rfl, ⟨pl.s.block fun g hg => r2 g (row_ne pl.s hQ (by decide) g hg), pl.f.block fun g hg => r2 g (row_ne pl.f hQ (by decide) g hg), pl.p.block fun g hg => r2 g (row_ne pl.p hQ (by decide) g hg), pl.v.block fun g hg => r2 g (row_ne pl.v hQ (by decide) g hg)⟩, ok, hq', hrd.but (fun b hb => r2 b (by omega)), ⟨r4.os.trans bt.os, r4.tape.trans bt.tape, r4.output.trans bt.output, Nat.le_trans bt.size r4.size, fun b hb hno => (r2 b (by omega)).trans (bt.block b hb hno)⟩⟩
set_option maxRecDepth 100000 in
set_option maxHeartbeats 4000000 in
theorem any_dr (R : Nat) (ob : Option Addr) (n cb : Nat) (f : Nat → Int) (p : Int) (w : World) (hr : Rd R w ob n cb p f) (hp : p ≤ 60000) :
    Calls Try.prog 13 #[.pointer (some ⟨R, 0, none⟩)] w fun e w' => SpoP R ob n cb f (p + 261) w e w' := by
  have rlt := hr.lt
  obtain ⟨W, hW⟩ : ∃ W, W = w.alloc (.cells #[.slice none 0 0, .slice none 0 0, .slice none 0 0, .slice none 0 0] 28) := ⟨_, rfl⟩
  have EW : Hid (W = w.alloc (.cells #[.slice none 0 0, .slice none 0 0, .slice none 0 0, .slice none 0 0] 28)) := hW
  have BW : Hid (Below w.heap.size w W) := by rw [hW]; exact (Below.refl _ _).alloc (Nat.le_refl _) _
  have R1 : Hid (W.heap[w.heap.size]? = some (.cells #[.slice none 0 0, .slice none 0 0, .slice none 0 0, .slice none 0 0] 28 (0, 0))) := by rw [hW]; exact heap_alloc_new w _
  have sW : W.heap.size = w.heap.size + 1 := by rw [hW]; simp
  have RD0 : Hid (Rd R W ob n cb p f) := hr.but fun b hb => BW.out.block b (by omega)
  clear hW hr
  go_enter Try.func13, Try.ntmps13
  go_upto_region 1 with fail
  rw [← EW.out]
  go_wp2_with fail
  refine (draw_dr R ob n cb f p W RD0.out (by omega)).mono ?_
  rintro e V ⟨u0, u1, u2, u3, X, q, rfl, hp1, hX, hq, hrd, hbt⟩
  obtain ⟨o0, c0, rfl⟩ := Row.form hp1.s
  obtain ⟨o1, c1, rfl⟩ := Row.form hp1.f
  obtain ⟨o2, c2, rfl⟩ := Row.form hp1.p
  obtain ⟨o3, c3, rfl⟩ := Row.form hp1.v
  obtain ⟨n0, en0⟩ : ∃ m, X.ss.length = m := ⟨_, rfl⟩
  obtain ⟨n1, en1⟩ : ∃ m, X.ff.length = m := ⟨_, rfl⟩
  obtain ⟨n2, en2⟩ : ∃ m, X.pp.length = m := ⟨_, rfl⟩
  obtain ⟨n3, en3⟩ : ∃ m, X.vv.length = m := ⟨_, rfl⟩
  rw [en0, en1, en2, en3] at hp1 ⊢
  have HX : Hid (PlL.OkN 18 X) := hX
  have HP1 : Hid (PlR W.heap.size V (.slice o0 n0 c0) (.slice o1 n1 c1) (.slice o2 n2 c2) (.slice o3 n3 c3) X) := hp1
  have RDV : Hid (Rd R V ob n cb q f) := hrd
  have BTV : Hid (But (fun b => b = R) W V) := hbt
  clear hp1 hrd hbt hX
  have sV := BTV.out.size
  obtain ⟨V2, hV2⟩ : ∃ V2, V2 = V.alloc (.cells #[.slice o0 n0 c0, .slice o1 n1 c1, .slice o2 n2 c2, .slice o3 n3 c3] 28) := ⟨_, rfl⟩
  have EV2 : Hid (V2 = V.alloc (.cells #[.slice o0 n0 c0, .slice o1 n1 c1, .slice o2 n2 c2, .slice o3 n3 c3] 28)) := hV2
  have B2 : Hid (Below V.heap.size V V2) := by rw [hV2]; exact (Below.refl _ _).alloc (Nat.le_refl _) _
  have RP : Hid (V2.heap[V.heap.size]? = some (.cells #[.slice o0 n0 c0, .slice o1 n1 c1, .slice o2 n2 c2, .slice o3 n3 c3] 28 (0, 0))) := by rw [hV2]; exact heap_alloc_new _ _
  clear hV2
  have lV2 := (Array.getElem?_eq_some_iff.1 RP.out).1
  have RDV2 : Hid (Rd R V2 ob n cb q f) := RDV.out.but fun b hb => B2.out.block b (by omega)
  go_upto_region 2 with fail
  rw [← EV2.out]
  go_wp2_with fail
  refine (pick_rd R ob n cb f q 20 V2 RDV2.out (by omega) (by decide) (by decide)).mono ?_
  rintro e U ⟨x, rfl, hx0, hx1, p', hp', rd2, bt2⟩
  have sU := bt2.out.size
  have PU : Hid (PlR w.heap.size U (.slice o0 n0 c0) (.slice o1 n1 c1) (.slice o2 n2 c2) (.slice o3 n3 c3) X) := by
    have h1 := (HP1.out.below B2.out).block (w' := U) fun g hg hlt => bt2.out.block g hlt (by omega)
    exact ⟨h1.s.low (by omega), h1.f.low (by omega), h1.p.low (by omega), h1.v.low (by omega)⟩
  have RU : Hid (U.heap[V.heap.size]? = some (.cells #[.slice o0 n0 c0, .slice o1 n1 c1, .slice o2 n2 c2, .slice o3 n3 c3] 28 (0, 0))) := (bt2.out.block _ lV2 (by omega)).trans RP.out
  have QU : Hid (U.heap[w.heap.size]? = some (.cells #[.slice none 0 0, .slice none 0 0, .slice none 0 0, .slice none 0 0] 28 (0, 0))) := (bt2.out.block _ (by omega) (by omega)).trans ((B2.out.block _ (by omega)).trans ((BTV.out.block _ (by omega) (by omega)).trans R1.out))
  have BU : Hid (But (fun b => b = R) w U) := (But.of_below BW.out).trans (BTV.out.trans ((But.of_below B2.out).trans bt2.out))
  clear bt2 RDV RDV2 HP1 RP
  have xu0 := (cell_row RU.out 0 (.slice o0 n0 c0) rfl).1
  have xu1 := (cell_row RU.out 1 (.slice o1 n1 c1) rfl).1
  have xu2 := (cell_row RU.out 2 (.slice o2 n2 c2) rfl).1
  have xu3 := (cell_row RU.out 3 (.slice o3 n3 c3) rfl).1
  cases hxb : (x == 0)
  · obtain ⟨zr0, tzr0⟩ := cell_row QU.out 0 _ rfl
    obtain ⟨zr1, tzr1⟩ := cell_row QU.out 1 _ rfl
    obtain ⟨zr2, tzr2⟩ := cell_row QU.out 2 _ rfl
    obtain ⟨zr3, tzr3⟩ := cell_row QU.out 3 _ rfl
    simp only [List.getElem_toArray, List.getElem_cons_zero, List.getElem_cons_succ] at zr0 zr1 zr2 zr3
    have R4 := hidZ (ret4 QU.out (.slice o0 n0 c0) (.slice o1 n1 c1) (.slice o2 n2 c2) (.slice o3 n3 c3))
    have ff0 := hidZ (cell_row R4.out.1 0 _ rfl).1
    have ff1 := hidZ (cell_row R4.out.1 1 _ rfl).1
    have ff2 := hidZ (cell_row R4.out.1 2 _ rfl).1
    have ff3 := hidZ (cell_row R4.out.1 3 _ rfl).1
    have HN := hidZ (spo_store (c := p + 261) QU.out (Nat.le_refl _) rlt PU.out (HX.out.up (by decide)) ⟨p', by omega, rd2.out⟩ BU.out)
    go_wp2_with fail
    all_goals exact bodyPost_ret (v := .agg #[.slice o0 n0 c0, .slice o1 n1 c1, .slice o2 n2 c2, .slice o3 n3 c3]) (by simp [results, Try.results13, go_sem, ff0.out, ff1.out, ff2.out, ff3.out]) rfl HN.out
  · go_wp2_with fail
    refine (spoil_dr R ob n cb f p' w.heap.size _ _ _ _ X U rd2.out (by omega) PU.out HX.out).mono ?_
    rintro e T ⟨y0, y1, y2, y3, Y, r, rfl, hp3, hY, hr3, hrd3, hbt3⟩
    obtain ⟨q0, d0, rfl⟩ := Row.form hp3.s
    obtain ⟨q1, d1, rfl⟩ := Row.form hp3.f
    obtain ⟨q2, d2, rfl⟩ := Row.form hp3.p
    obtain ⟨q3, d3, rfl⟩ := Row.form hp3.v
    obtain ⟨m0, em0⟩ : ∃ m, Y.ss.length = m := ⟨_, rfl⟩
    obtain ⟨m1, em1⟩ : ∃ m, Y.ff.length = m := ⟨_, rfl⟩
    obtain ⟨m2, em2⟩ : ∃ m, Y.pp.length = m := ⟨_, rfl⟩
    obtain ⟨m3, em3⟩ : ∃ m, Y.vv.length = m := ⟨_, rfl⟩
    rw [em0, em1, em2, em3] at hp3 ⊢
    have HP3 : Hid (PlR U.heap.size T (.slice q0 m0 d0) (.slice q1 m1 d1) (.slice q2 m2 d2) (.slice q3 m3 d3) Y) := hp3
    have BT3 : Hid (But (fun b => b = R) U T) := hbt3
    have RD3 : Hid (Rd R T ob n cb r f) := hrd3
    clear hp3 hbt3 hrd3
    have QT : Hid (T.heap[w.heap.size]? = some (.cells #[.slice none 0 0, .slice none 0 0, .slice none 0 0, .slice none 0 0] 28 (0, 0))) := (BT3.out.block _ (by omega) (by omega)).trans QU.out
    have PT : Hid (PlR w.heap.size T (.slice q0 m0 d0) (.slice q1 m1 d1) (.slice q2 m2 d2) (.slice q3 m3 d3) Y) := ⟨HP3.out.s.low (by omega), HP3.out.f.low (by omega), HP3.out.p.low (by omega), HP3.out.v.low (by omega)⟩
    clear xu0 xu1 xu2 xu3
    obtain ⟨zr0, tzr0⟩ := cell_row QT.out 0 _ rfl
    obtain ⟨zr1, tzr1⟩ := cell_row QT.out 1 _ rfl
    obtain ⟨zr2, tzr2⟩ := cell_row QT.out 2 _ rfl
    obtain ⟨zr3, tzr3⟩ := cell_row QT.out 3 _ rfl
    simp only [List.getElem_toArray, List.getElem_cons_zero, List.getElem_cons_succ] at zr0 zr1 zr2 zr3
    have R4 := hidZ (ret4 QT.out (.slice q0 m0 d0) (.slice q1 m1 d1) (.slice q2 m2 d2) (.slice q3 m3 d3))
    have ff0 := hidZ (cell_row R4.out.1 0 _ rfl).1
    have ff1 := hidZ (cell_row R4.out.1 1 _ rfl).1
    have ff2 := hidZ (cell_row R4.out.1 2 _ rfl).1
    have ff3 := hidZ (cell_row R4.out.1 3 _ rfl).1
    have HN := hidZ (spo_store (c := p + 261) QT.out (Nat.le_refl _) rlt PT.out hY ⟨r, by omega, RD3.out⟩ (BU.out.trans BT3.out))
    go_wp2_with fail
    all_goals exact bodyPost_ret (v := .agg #[.slice q0 m0 d0, .slice q1 m1 d1, .slice q2 m2 d2, .slice q3 m3 d3]) (by simp [results, Try.results13, go_sem, ff0.out, ff1.out, ff2.out, ff3.out]) rfl HN.out
def DrB1 (w : World) (e : Ending) (w' : World) : Prop := ∃ u0 u1 u2 u3 X s1, s1.size ≤ maxLen ∧ e = .returned (.tuple #[.agg #[u0, u1, u2, u3], .string s1]) ∧ PlR w.heap.size w' u0 u1 u2 u3 X ∧ PlL.OkN 20 X ∧ Below w.heap.size w w'
def DrB2 (w : World) (e : Ending) (w' : World) : Prop := ∃ u0 u1 u2 u3 X s1 s2, (s1.size ≤ maxLen ∧ s2.size ≤ maxLen) ∧ e = .returned (.tuple #[.agg #[u0, u1, u2, u3], .string s1, .string s2]) ∧ PlR w.heap.size w' u0 u1 u2 u3 X ∧ PlL.OkN 20 X ∧ Below w.heap.size w w'
set_option maxRecDepth 100000 in
set_option maxHeartbeats 16000000 in
theorem beside_dr (ob : Option Addr) (n cb : Nat) (f : Nat → Int) (w : World) (hn : n ≤ maxLen) (hnc : n ≤ cb) (fb : ∀ i, 0 ≤ f i ∧ f i ≤ 255)
    (ce : ∀ i, i < n → ∃ b off, ob = some ⟨b, off, none⟩ ∧ b < w.heap.size ∧ w.cell? ⟨b, off + i, none⟩ = some (.int .u8 (f i))) :
    Calls Try.prog 9 #[.slice ob n cb] w fun e w' => DrB1 w e w' := by
  have HOP : Hid (1 ≤ n → ∃ a, ob = some a) := fun h => by
    obtain ⟨b, off, h1, _⟩ := ce 0 (by omega)
    exact ⟨_, h1⟩
  have HCE := hidZ ce
  have HFB := hidZ fb
  obtain ⟨W, hW⟩ : ∃ W, W = w.alloc (.cells #[.slice none 0 0, .slice none 0 0, .slice none 0 0, .slice none 0 0] 28) := ⟨_, rfl⟩
  have EW : Hid (W = w.alloc (.cells #[.slice none 0 0, .slice none 0 0, .slice none 0 0, .slice none 0 0] 28)) := hW
  have BW : Hid (Below w.heap.size w W) := by rw [hW]; exact (Below.refl _ _).alloc (Nat.le_refl _) _
  have R1 : Hid (W.heap[w.heap.size]? = some (.cells #[.slice none 0 0, .slice none 0 0, .slice none 0 0, .slice none 0 0] 28 (0, 0))) := by rw [hW]; exact heap_alloc_new w _
  have sW : W.heap.size = w.heap.size + 1 := by rw [hW]; simp
  clear hW ce fb
  go_enter Try.func9, Try.ntmps9
  go_upto_region 1 with fail
  rw [← EW.out]
  go_wp2_with fail
  refine (open_any ob n cb W hn hnc HOP.out).mono ?_
  rintro e W1 ⟨n', hn1, hn2, rfl, hW1⟩
  obtain ⟨R, hR⟩ : ∃ R, R = W.heap.size := ⟨_, rfl⟩
  have RD1 : Hid (Rd R W1 ob n' cb 0 f) := by
    rw [hW1, hR]
    refine ⟨heap_alloc_new W _, hn1, by omega, by omega, HFB.out, fun i hi => ?_⟩
    obtain ⟨b, off, h1, h2, h3⟩ := HCE.out i (by omega)
    exact ⟨b, off, h1, by omega, (World.cell?_of_block (w := w) (a := ⟨b, off + i, none⟩) ((Below.heap_alloc W _ b (by omega)).trans (BW.out.block b h2))).trans h3⟩
  have B1 : Hid (Below W.heap.size W W1) := by show Below W.heap.size W W1; rw [hW1]; exact (Below.refl _ _).alloc (Nat.le_refl _) _
  have s1 : w.heap.size + 2 ≤ W1.heap.size := by rw [hW1]; simp; omega
  have rlo : w.heap.size < R ∧ R < W1.heap.size ∧ R < w.heap.size + 2 := by omega
  have sW2 : w.heap.size < W.heap.size ∧ W.heap.size ≤ w.heap.size + 1 := by omega
  rw [← hR]
  clear hR hW1 hn2 hn hnc HCE HFB HOP sW
  go_wp2_with fail
  refine (any_dr R ob n' cb f 0 W1 RD1.out (by omega)).mono ?_
  rintro e V ⟨u0, u1, u2, u3, X, q, rfl, hp1, hX, hq, hrd, hbt⟩
  obtain ⟨o0, c0, rfl⟩ := Row.form hp1.s
  obtain ⟨o1, c1, rfl⟩ := Row.form hp1.f
  obtain ⟨o2, c2, rfl⟩ := Row.form hp1.p
  obtain ⟨o3, c3, rfl⟩ := Row.form hp1.v
  obtain ⟨n0, en0⟩ : ∃ m, X.ss.length = m := ⟨_, rfl⟩
  obtain ⟨n1, en1⟩ : ∃ m, X.ff.length = m := ⟨_, rfl⟩
  obtain ⟨n2, en2⟩ : ∃ m, X.pp.length = m := ⟨_, rfl⟩
  obtain ⟨n3, en3⟩ : ∃ m, X.vv.length = m := ⟨_, rfl⟩
  rw [en0, en1, en2, en3] at hp1 ⊢
  have HX : Hid (PlL.OkN 20 X) := hX
  have HP1 : Hid (PlR W1.heap.size V (.slice o0 n0 c0) (.slice o1 n1 c1) (.slice o2 n2 c2) (.slice o3 n3 c3) X) := hp1
  have RDV : Hid (Rd R V ob n' cb q f) := hrd
  have BTV : Hid (But (fun b => b = R) W1 V) := hbt
  clear hp1 hrd hbt hX
  have sV := BTV.out.size
  obtain ⟨P, hP⟩ : ∃ P, P = V.heap.size := ⟨_, rfl⟩
  obtain ⟨V2, hV2⟩ : ∃ V2, V2 = V.alloc (.cells #[.slice o0 n0 c0, .slice o1 n1 c1, .slice o2 n2 c2, .slice o3 n3 c3] 28) := ⟨_, rfl⟩
  have EV2 : Hid (V2 = V.alloc (.cells #[.slice o0 n0 c0, .slice o1 n1 c1, .slice o2 n2 c2, .slice o3 n3 c3] 28)) := hV2
  have B2 : Hid (Below V.heap.size V V2) := by rw [hV2]; exact (Below.refl _ _).alloc (Nat.le_refl _) _
  have RP : Hid (V2.heap[P]? = some (.cells #[.slice o0 n0 c0, .slice o1 n1 c1, .slice o2 n2 c2, .slice o3 n3 c3] 28 (0, 0))) := by rw [hV2, hP]; exact heap_alloc_new _ _
  clear hV2
  have lV2 := (Array.getElem?_eq_some_iff.1 RP.out).1
  have RDV2 : Hid (Rd R V2 ob n' cb q f) := RDV.out.but fun b hb => B2.out.block b (by omega)
  have PV2 : Hid (PlR W1.heap.size V2 (.slice o0 n0 c0) (.slice o1 n1 c1) (.slice o2 n2 c2) (.slice o3 n3 c3) X) := HP1.out.below B2.out
  have QV2 : Hid (V2.heap[w.heap.size]? = some (.cells #[.slice none 0 0, .slice none 0 0, .slice none 0 0, .slice none 0 0] 28 (0, 0))) := (B2.out.block _ (by omega)).trans ((BTV.out.block _ (by omega) (by omega)).trans ((B1.out.block _ (by omega)).trans R1.out))
  have BV2 : Hid (Below w.heap.size w V2) := BW.out.trans ((B1.out.mono (by omega)).trans ((But.below BTV.out (fun b e => by have e' : b = R := e; omega) (by omega)).trans (B2.out.mono (by omega))))
  go_upto_region 3 with fail
  rw [← EV2.out, ← hP]
  clear EV2 RDV HP1 B2 R1 BW B1 BTV
  have hPl : V.heap.size ≤ P := Nat.le_of_eq hP.symm
  clear hP
  refine wp_region_movesC (fun v => v.heap[P]? = some (.cells #[.slice o0 n0 c0, .slice o1 n1 c1, .slice o2 n2 c2, .slice o3 n3 c3] 28 (0, 0))) 4 [] (by kernel_rfl) (by kernel_rfl) RP.out ?_
  simp only [List.filterMap_nil, movD]
  refine takeHQ (f := 3) (i := 0) (.agg #[.slice o0 n0 c0, .slice o1 n1 c1, .slice o2 n2 c2, .slice o3 n3 c3]) ⟨rfl, rfl⟩ (by kernel_rfl) rfl RP.out ?ta ?_
  case ta => intro v hv; have c0_ := (cell_row hv 0 (.slice o0 n0 c0) rfl).1; have c1_ := (cell_row hv 1 (.slice o1 n1 c1) rfl).1; have c2_ := (cell_row hv 2 (.slice o2 n2 c2) rfl).1; have c3_ := (cell_row hv 3 (.slice o3 n3 c3) rfl).1; go_simp
  simp only [Act.put, List.setIfInBounds_toArray, List.set_cons_zero, List.set_cons_succ]
  refine takeHQ (f := 2) (i := 1) (.pointer (some ⟨R, 0, none⟩)) ⟨rfl, rfl⟩ (by kernel_rfl) rfl RP.out ?ta ?_
  case ta => intro v hv; go_simp
  simp only [Act.put, List.setIfInBounds_toArray, List.set_cons_zero, List.set_cons_succ]
  refine takeHQ (f := 1) (i := 2) (.agg #[.slice o0 n0 c0, .slice o1 n1 c1, .slice o2 n2 c2, .slice o3 n3 c3]) ⟨rfl, rfl⟩ (by kernel_rfl) rfl RP.out ?ta ?_
  case ta => intro v hv; have c0_ := (cell_row hv 0 (.slice o0 n0 c0) rfl).1; have c1_ := (cell_row hv 1 (.slice o1 n1 c1) rfl).1; have c2_ := (cell_row hv 2 (.slice o2 n2 c2) rfl).1; have c3_ := (cell_row hv 3 (.slice o3 n3 c3) rfl).1; go_simp
  simp only [Act.put, List.setIfInBounds_toArray, List.set_cons_zero, List.set_cons_succ]
  have bt0 : But (fun b => b = R) V2 V2.drew := But.of_below ((Below.refl _ _).drew)
  have rd0 : Hid (Rd R V2.drew ob n' cb q f) := RDV2.out.but (fun b hb => rfl)
  have pl0 : Hid (PlR W1.heap.size V2.drew (.slice o0 n0 c0) (.slice o1 n1 c1) (.slice o2 n2 c2) (.slice o3 n3 c3) X) := PV2.out.block fun g hg hlt => bt0.block g hlt (by omega)
  refine callHd (f := 0) (i := 3) ⟨rfl, rfl⟩ (by decide) (by kernel_rfl) rfl ?cc ((place_dr R ob n' cb f q W1.heap.size _ _ _ _ X V2.drew rd0.out (by omega) pl0.out HX.out (by omega)).mono ?_)
  case cc => go_simp
  rintro _ U1 ⟨s1, q1, rfl, zs1, hq1, hrd1, hbt1⟩
  have rd1 : Hid (Rd R U1 ob n' cb q1 f) := hrd1
  have bt1 : But (fun b => b = R) V2 U1 := bt0.trans hbt1
  clear hrd1 hbt1
  refine ⟨_, rfl, (bt1.block _ lV2 (by omega)).trans RP.out, ?_⟩
  simp only [Act.put, List.setIfInBounds_toArray, List.set_cons_zero, List.set_cons_succ]
  refine ⟨by kernel_rfl, ?_⟩
  simp only [List.drop_succ_cons, List.drop_zero]
  have QL : Hid (U1.heap[w.heap.size]? = some (.cells #[.slice none 0 0, .slice none 0 0, .slice none 0 0, .slice none 0 0] 28 (0, 0))) := (bt1.block _ (by omega) (by omega)).trans QV2.out
  have PL_ : Hid (PlR w.heap.size U1 (.slice o0 n0 c0) (.slice o1 n1 c1) (.slice o2 n2 c2) (.slice o3 n3 c3) X) := by
    have h1 := PV2.out.block (w' := U1) fun g hg hlt => bt1.block g hlt (by omega)
    exact ⟨h1.s.low (by omega), h1.f.low (by omega), h1.p.low (by omega), h1.v.low (by omega)⟩
  have BL_ : Hid (Below w.heap.size w U1) := BV2.out.trans (But.below bt1 (fun b e => by have e' : b = R := e; omega) (by have := BV2.out.size; omega))
  obtain ⟨zr0, tzr0⟩ := cell_row QL.out 0 _ rfl
  obtain ⟨zr1, tzr1⟩ := cell_row QL.out 1 _ rfl
  obtain ⟨zr2, tzr2⟩ := cell_row QL.out 2 _ rfl
  obtain ⟨zr3, tzr3⟩ := cell_row QL.out 3 _ rfl
  simp only [List.getElem_toArray, List.getElem_cons_zero, List.getElem_cons_succ] at zr0 zr1 zr2 zr3
  have R4 := hidZ (ret4 QL.out (.slice o0 n0 c0) (.slice o1 n1 c1) (.slice o2 n2 c2) (.slice o3 n3 c3))
  have ff0 := hidZ (cell_row R4.out.1 0 _ rfl).1
  have ff1 := hidZ (cell_row R4.out.1 1 _ rfl).1
  have ff2 := hidZ (cell_row R4.out.1 2 _ rfl).1
  have ff3 := hidZ (cell_row R4.out.1 3 _ rfl).1
  have HN : Hid (DrB1 w (.returned (.tuple #[.agg #[.slice o0 n0 c0, .slice o1 n1 c1, .slice o2 n2 c2, .slice o3 n3 c3], .string s1])) ((((U1.setCell ⟨w.heap.size, 0, none⟩ (.slice o0 n0 c0)).setCell ⟨w.heap.size, 1, none⟩ (.slice o1 n1 c1)).setCell ⟨w.heap.size, 2, none⟩ (.slice o2 n2 c2)).setCell ⟨w.heap.size, 3, none⟩ (.slice o3 n3 c3))) := by
    have r2 := R4.out.2.1
    exact ⟨_, _, _, _, X, s1, zs1, rfl, ⟨PL_.out.s.block fun g hg => r2 g (row_ne PL_.out.s QL.out (by decide) g hg), PL_.out.f.block fun g hg => r2 g (row_ne PL_.out.f QL.out (by decide) g hg), PL_.out.p.block fun g hg => r2 g (row_ne PL_.out.p QL.out (by decide) g hg), PL_.out.v.block fun g hg => r2 g (row_ne PL_.out.v QL.out (by decide) g hg)⟩, HX.out, BL_.out.trans R4.out.2.2.2⟩
  go_wp2_with fail
  all_goals exact bodyPost_ret (v := .tuple #[.agg #[.slice o0 n0 c0, .slice o1 n1 c1, .slice o2 n2 c2, .slice o3 n3 c3], .string s1]) (by simp [results, Try.results9, go_sem, ff0.out, ff1.out, ff2.out, ff3.out]) rfl HN.out
set_option maxRecDepth 100000 in
set_option maxHeartbeats 16000000 in
theorem routes_dr (ob : Option Addr) (n cb : Nat) (f : Nat → Int) (w : World) (hn : n ≤ maxLen) (hnc : n ≤ cb) (fb : ∀ i, 0 ≤ f i ∧ f i ≤ 255)
    (ce : ∀ i, i < n → ∃ b off, ob = some ⟨b, off, none⟩ ∧ b < w.heap.size ∧ w.cell? ⟨b, off + i, none⟩ = some (.int .u8 (f i))) :
    Calls Try.prog 4 #[.slice ob n cb] w fun e w' => DrB2 w e w' := by
  have HOP : Hid (1 ≤ n → ∃ a, ob = some a) := fun h => by
    obtain ⟨b, off, h1, _⟩ := ce 0 (by omega)
    exact ⟨_, h1⟩
  have HCE := hidZ ce
  have HFB := hidZ fb
  obtain ⟨W, hW⟩ : ∃ W, W = w.alloc (.cells #[.slice none 0 0, .slice none 0 0, .slice none 0 0, .slice none 0 0] 28) := ⟨_, rfl⟩
  have EW : Hid (W = w.alloc (.cells #[.slice none 0 0, .slice none 0 0, .slice none 0 0, .slice none 0 0] 28)) := hW
  have BW : Hid (Below w.heap.size w W) := by rw [hW]; exact (Below.refl _ _).alloc (Nat.le_refl _) _
  have R1 : Hid (W.heap[w.heap.size]? = some (.cells #[.slice none 0 0, .slice none 0 0, .slice none 0 0, .slice none 0 0] 28 (0, 0))) := by rw [hW]; exact heap_alloc_new w _
  have sW : W.heap.size = w.heap.size + 1 := by rw [hW]; simp
  clear hW ce fb
  go_enter Try.func4, Try.ntmps4
  go_upto_region 1 with fail
  rw [← EW.out]
  go_wp2_with fail
  refine (open_any ob n cb W hn hnc HOP.out).mono ?_
  rintro e W1 ⟨n', hn1, hn2, rfl, hW1⟩
  obtain ⟨R, hR⟩ : ∃ R, R = W.heap.size := ⟨_, rfl⟩
  have RD1 : Hid (Rd R W1 ob n' cb 0 f) := by
    rw [hW1, hR]
    refine ⟨heap_alloc_new W _, hn1, by omega, by omega, HFB.out, fun i hi => ?_⟩
    obtain ⟨b, off, h1, h2, h3⟩ := HCE.out i (by omega)
    exact ⟨b, off, h1, by omega, (World.cell?_of_block (w := w) (a := ⟨b, off + i, none⟩) ((Below.heap_alloc W _ b (by omega)).trans (BW.out.block b h2))).trans h3⟩
  have B1 : Hid (Below W.heap.size W W1) := by show Below W.heap.size W W1; rw [hW1]; exact (Below.refl _ _).alloc (Nat.le_refl _) _
  have s1 : w.heap.size + 2 ≤ W1.heap.size := by rw [hW1]; simp; omega
  have rlo : w.heap.size < R ∧ R < W1.heap.size ∧ R < w.heap.size + 2 := by omega
  have sW2 : w.heap.size < W.heap.size ∧ W.heap.size ≤ w.heap.size + 1 := by omega
  rw [← hR]
  clear hR hW1 hn2 hn hnc HCE HFB HOP sW
  go_wp2_with fail
  refine (any_dr R ob n' cb f 0 W1 RD1.out (by omega)).mono ?_
  rintro e V ⟨u0, u1, u2, u3, X, q, rfl, hp1, hX, hq, hrd, hbt⟩
  obtain ⟨o0, c0, rfl⟩ := Row.form hp1.s
  obtain ⟨o1, c1, rfl⟩ := Row.form hp1.f
  obtain ⟨o2, c2, rfl⟩ := Row.form hp1.p
  obtain ⟨o3, c3, rfl⟩ := Row.form hp1.v
  obtain ⟨n0, en0⟩ : ∃ m, X.ss.length = m := ⟨_, rfl⟩
  obtain ⟨n1, en1⟩ : ∃ m, X.ff.length = m := ⟨_, rfl⟩
  obtain ⟨n2, en2⟩ : ∃ m, X.pp.length = m := ⟨_, rfl⟩
  obtain ⟨n3, en3⟩ : ∃ m, X.vv.length = m := ⟨_, rfl⟩
  rw [en0, en1, en2, en3] at hp1 ⊢
  have HX : Hid (PlL.OkN 20 X) := hX
  have HP1 : Hid (PlR W1.heap.size V (.slice o0 n0 c0) (.slice o1 n1 c1) (.slice o2 n2 c2) (.slice o3 n3 c3) X) := hp1
  have RDV : Hid (Rd R V ob n' cb q f) := hrd
  have BTV : Hid (But (fun b => b = R) W1 V) := hbt
  clear hp1 hrd hbt hX
  have sV := BTV.out.size
  obtain ⟨P, hP⟩ : ∃ P, P = V.heap.size := ⟨_, rfl⟩
  obtain ⟨V2, hV2⟩ : ∃ V2, V2 = V.alloc (.cells #[.slice o0 n0 c0, .slice o1 n1 c1, .slice o2 n2 c2, .slice o3 n3 c3] 28) := ⟨_, rfl⟩
  have EV2 : Hid (V2 = V.alloc (.cells #[.slice o0 n0 c0, .slice o1 n1 c1, .slice o2 n2 c2, .slice o3 n3 c3] 28)) := hV2
  have B2 : Hid (Below V.heap.size V V2) := by rw [hV2]; exact (Below.refl _ _).alloc (Nat.le_refl _) _
  have RP : Hid (V2.heap[P]? = some (.cells #[.slice o0 n0 c0, .slice o1 n1 c1, .slice o2 n2 c2, .slice o3 n3 c3] 28 (0, 0))) := by rw [hV2, hP]; exact heap_alloc_new _ _
  clear hV2
  have lV2 := (Array.getElem?_eq_some_iff.1 RP.out).1
  have RDV2 : Hid (Rd R V2 ob n' cb q f) := RDV.out.but fun b hb => B2.out.block b (by omega)
  have PV2 : Hid (PlR W1.heap.size V2 (.slice o0 n0 c0) (.slice o1 n1 c1) (.slice o2 n2 c2) (.slice o3 n3 c3) X) := HP1.out.below B2.out
  have QV2 : Hid (V2.heap[w.heap.size]? = some (.cells #[.slice none 0 0, .slice none 0 0, .slice none 0 0, .slice none 0 0] 28 (0, 0))) := (B2.out.block _ (by omega)).trans ((BTV.out.block _ (by omega) (by omega)).trans ((B1.out.block _ (by omega)).trans R1.out))
  have BV2 : Hid (Below w.heap.size w V2) := BW.out.trans ((B1.out.mono (by omega)).trans ((But.below BTV.out (fun b e => by have e' : b = R := e; omega) (by omega)).trans (B2.out.mono (by omega))))
  go_upto_region 3 with fail
  rw [← EV2.out, ← hP]
  clear EV2 RDV HP1 B2 R1 BW B1 BTV
  have hPl : V.heap.size ≤ P := Nat.le_of_eq hP.symm
  clear hP
  refine wp_region_movesC (fun v => v.heap[P]? = some (.cells #[.slice o0 n0 c0, .slice o1 n1 c1, .slice o2 n2 c2, .slice o3 n3 c3] 28 (0, 0))) 7 [] (by kernel_rfl) (by kernel_rfl) RP.out ?_
  simp only [List.filterMap_nil, movD]
  refine takeHQ (f := 6) (i := 0) (.agg #[.slice o0 n0 c0, .slice o1 n1 c1, .slice o2 n2 c2, .slice o3 n3 c3]) ⟨rfl, rfl⟩ (by kernel_rfl) rfl RP.out ?ta ?_
  case ta => intro v hv; have c0_ := (cell_row hv 0 (.slice o0 n0 c0) rfl).1; have c1_ := (cell_row hv 1 (.slice o1 n1 c1) rfl).1; have c2_ := (cell_row hv 2 (.slice o2 n2 c2) rfl).1; have c3_ := (cell_row hv 3 (.slice o3 n3 c3) rfl).1; go_simp
  simp only [Act.put, List.setIfInBounds_toArray, List.set_cons_zero, List.set_cons_succ]
  refine takeHQ (f := 5) (i := 1) (.pointer (some ⟨R, 0, none⟩)) ⟨rfl, rfl⟩ (by kernel_rfl) rfl RP.out ?ta ?_
  case ta => intro v hv; go_simp
  simp only [Act.put, List.setIfInBounds_toArray, List.set_cons_zero, List.set_cons_succ]
  refine takeHQ (f := 4) (i := 2) (.agg #[.slice o0 n0 c0, .slice o1 n1 c1, .slice o2 n2 c2, .slice o3 n3 c3]) ⟨rfl, rfl⟩ (by kernel_rfl) rfl RP.out ?ta ?_
  case ta => intro v hv; have c0_ := (cell_row hv 0 (.slice o0 n0 c0) rfl).1; have c1_ := (cell_row hv 1 (.slice o1 n1 c1) rfl).1; have c2_ := (cell_row hv 2 (.slice o2 n2 c2) rfl).1; have c3_ := (cell_row hv 3 (.slice o3 n3 c3) rfl).1; go_simp
  simp only [Act.put, List.setIfInBounds_toArray, List.set_cons_zero, List.set_cons_succ]
  refine takeHQ (f := 3) (i := 4) (.pointer (some ⟨R, 0, none⟩)) ⟨rfl, rfl⟩ (by kernel_rfl) rfl RP.out ?ta ?_
  case ta => intro v hv; go_simp
  simp only [Act.put, List.setIfInBounds_toArray, List.set_cons_zero, List.set_cons_succ]
  refine takeHQ (f := 2) (i := 5) (.agg #[.slice o0 n0 c0, .slice o1 n1 c1, .slice o2 n2 c2, .slice o3 n3 c3]) ⟨rfl, rfl⟩ (by kernel_rfl) rfl RP.out ?ta ?_
  case ta => intro v hv; have c0_ := (cell_row hv 0 (.slice o0 n0 c0) rfl).1; have c1_ := (cell_row hv 1 (.slice o1 n1 c1) rfl).1; have c2_ := (cell_row hv 2 (.slice o2 n2 c2) rfl).1; have c3_ := (cell_row hv 3 (.slice o3 n3 c3) rfl).1; go_simp
  simp only [Act.put, List.setIfInBounds_toArray, List.set_cons_zero, List.set_cons_succ]
  have bt0 : But (fun b => b = R) V2 V2.drew := But.of_below ((Below.refl _ _).drew)
  have rd0 : Hid (Rd R V2.drew ob n' cb q f) := RDV2.out.but (fun b hb => rfl)
  have pl0 : Hid (PlR W1.heap.size V2.drew (.slice o0 n0 c0) (.slice o1 n1 c1) (.slice o2 n2 c2) (.slice o3 n3 c3) X) := PV2.out.block fun g hg hlt => bt0.block g hlt (by omega)
  refine callHd (f := 1) (i := 3) ⟨rfl, rfl⟩ (by decide) (by kernel_rfl) rfl ?cc ((vessel_dr R ob n' cb f q W1.heap.size _ _ _ _ X V2.drew rd0.out (by omega) pl0.out HX.out (by omega)).mono ?_)
  case cc => go_simp
  rintro _ U1 ⟨s1, q1, rfl, zs1, hq1, hrd1, hbt1⟩
  have rd1 : Hid (Rd R U1 ob n' cb q1 f) := hrd1
  have bt1 : But (fun b => b = R) V2 U1 := bt0.trans hbt1
  clear hrd1 hbt1
  refine ⟨_, rfl, (bt1.block _ lV2 (by omega)).trans RP.out, ?_⟩
  simp only [Act.put, List.setIfInBounds_toArray, List.set_cons_zero, List.set_cons_succ]
  have pl1 : Hid (PlR W1.heap.size U1 (.slice o0 n0 c0) (.slice o1 n1 c1) (.slice o2 n2 c2) (.slice o3 n3 c3) X) := PV2.out.block fun g hg hlt => bt1.block g hlt (by omega)
  refine callHd (f := 0) (i := 6) ⟨rfl, rfl⟩ (by decide) (by kernel_rfl) rfl ?cc ((vessel_dr R ob n' cb f q1 W1.heap.size _ _ _ _ X U1 rd1.out (by omega) pl1.out HX.out (by omega)).mono ?_)
  case cc => go_simp
  rintro _ U2 ⟨s2, q2, rfl, zs2, hq2, hrd2, hbt2⟩
  have rd2 : Hid (Rd R U2 ob n' cb q2 f) := hrd2
  have bt2 : But (fun b => b = R) V2 U2 := bt1.trans hbt2
  clear hrd2 hbt2
  refine ⟨_, rfl, (bt2.block _ lV2 (by omega)).trans RP.out, ?_⟩
  simp only [Act.put, List.setIfInBounds_toArray, List.set_cons_zero, List.set_cons_succ]
  refine ⟨by kernel_rfl, ?_⟩
  simp only [List.drop_succ_cons, List.drop_zero]
  have QL : Hid (U2.heap[w.heap.size]? = some (.cells #[.slice none 0 0, .slice none 0 0, .slice none 0 0, .slice none 0 0] 28 (0, 0))) := (bt2.block _ (by omega) (by omega)).trans QV2.out
  have PL_ : Hid (PlR w.heap.size U2 (.slice o0 n0 c0) (.slice o1 n1 c1) (.slice o2 n2 c2) (.slice o3 n3 c3) X) := by
    have h1 := PV2.out.block (w' := U2) fun g hg hlt => bt2.block g hlt (by omega)
    exact ⟨h1.s.low (by omega), h1.f.low (by omega), h1.p.low (by omega), h1.v.low (by omega)⟩
  have BL_ : Hid (Below w.heap.size w U2) := BV2.out.trans (But.below bt2 (fun b e => by have e' : b = R := e; omega) (by have := BV2.out.size; omega))
  obtain ⟨zr0, tzr0⟩ := cell_row QL.out 0 _ rfl
  obtain ⟨zr1, tzr1⟩ := cell_row QL.out 1 _ rfl
  obtain ⟨zr2, tzr2⟩ := cell_row QL.out 2 _ rfl
  obtain ⟨zr3, tzr3⟩ := cell_row QL.out 3 _ rfl
  simp only [List.getElem_toArray, List.getElem_cons_zero, List.getElem_cons_succ] at zr0 zr1 zr2 zr3
  have R4 := hidZ (ret4 QL.out (.slice o0 n0 c0) (.slice o1 n1 c1) (.slice o2 n2 c2) (.slice o3 n3 c3))
  have ff0 := hidZ (cell_row R4.out.1 0 _ rfl).1
  have ff1 := hidZ (cell_row R4.out.1 1 _ rfl).1
  have ff2 := hidZ (cell_row R4.out.1 2 _ rfl).1
  have ff3 := hidZ (cell_row R4.out.1 3 _ rfl).1
  have HN : Hid (DrB2 w (.returned (.tuple #[.agg #[.slice o0 n0 c0, .slice o1 n1 c1, .slice o2 n2 c2, .slice o3 n3 c3], .string s1, .string s2])) ((((U2.setCell ⟨w.heap.size, 0, none⟩ (.slice o0 n0 c0)).setCell ⟨w.heap.size, 1, none⟩ (.slice o1 n1 c1)).setCell ⟨w.heap.size, 2, none⟩ (.slice o2 n2 c2)).setCell ⟨w.heap.size, 3, none⟩ (.slice o3 n3 c3))) := by
    have r2 := R4.out.2.1
    exact ⟨_, _, _, _, X, s1, s2, ⟨zs1, zs2⟩, rfl, ⟨PL_.out.s.block fun g hg => r2 g (row_ne PL_.out.s QL.out (by decide) g hg), PL_.out.f.block fun g hg => r2 g (row_ne PL_.out.f QL.out (by decide) g hg), PL_.out.p.block fun g hg => r2 g (row_ne PL_.out.p QL.out (by decide) g hg), PL_.out.v.block fun g hg => r2 g (row_ne PL_.out.v QL.out (by decide) g hg)⟩, HX.out, BL_.out.trans R4.out.2.2.2⟩
  go_wp2_with fail
  all_goals exact bodyPost_ret (v := .tuple #[.agg #[.slice o0 n0 c0, .slice o1 n1 c1, .slice o2 n2 c2, .slice o3 n3 c3], .string s1, .string s2]) (by simp [results, Try.results4, go_sem, ff0.out, ff1.out, ff2.out, ff3.out]) rfl HN.out
end Go.Proofs.Ytgjcppdeljoimaa
