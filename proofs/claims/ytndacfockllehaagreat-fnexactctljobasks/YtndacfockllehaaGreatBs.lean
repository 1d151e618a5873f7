/-
  A contract of the program's sharing out of a want: what each station is asked, in memory of its own.
-/
import Derived.Test.YtndacfockllehaaGreatM30
import Derived.Test.YtndacfockllehaaGreatM37
import Derived.Test.YtndacfockllehaaGreatM29
import Derived.Deep.Cut
import Derived.Maps.OwnIn
namespace Go.Proofs.YtndacfockllehaaGreat
open Go.RowKit Go.Shelf

attribute [local go_sem] Oper.semAt_some
set_option maxRecDepth 100000 in
set_option maxHeartbeats 32000000 in
theorem shareOut_any (B : Nat) (S : Nat → Prop) (v0 v1 v2 v3 : Value) (D : PD) (num kind : Int) (ts os ss : List ByteArray) (us : List DClaimUse) (p2 p3 p4 p5 : Option Addr) (q2 q3 q4 q5 : Nat) (w : World) (h : PAt B w v0 v1 v2 v3 D) (hB : B ≤ w.heap.size) (hV : D.V)
    (h2 : AtL S w ts (.slice p2 ts.length q2)) (h3 : AtL S w us (.slice p3 us.length q3)) (h4 : AtL S w os (.slice p4 os.length q4)) (h5 : AtL S w ss (.slice p5 ss.length q5)) (hS : ∀ b, S b → b < w.heap.size) (hn : OkI num) (hk : OkI kind)
    (l2 : ts.length ≤ 1048576) (l3 : us.length ≤ 1000) (s2 : ∀ x ∈ ts, x.size ≤ 1048576) (s3 : ∀ p ∈ us, p.1.size ≤ 1048576 ∧ OkI p.2.1 ∧ OkI p.2.2) (hsl : (stnL D).length ≤ 1048576) :
    Calls Tryz.prog 62 #[.agg #[v0, v1, v2, v3], .agg #[.int .i64 num, .int .i64 kind, .slice p2 ts.length q2, .slice p3 us.length q3, .slice p4 os.length q4, .slice p5 ss.length q5]] w fun e w' => ∃ v, e = .returned v ∧ OnL (fun b => w.heap.size ≤ b ∧ b < w'.heap.size) w' (shrL D (num, kind, ts, us, os, ss) (stnL D)) v ∧ Below w.heap.size w w' := by
  obtain ⟨o1, c1, e1, hx1⟩ := id h.f
  obtain ⟨o2, c2, e2, hx2⟩ := id h.p
  obtain ⟨o3, c3, e3, hx3⟩ := id h.v
  subst e1 e2 e3
  clear hx1 hx2 hx3
  have H : Hid (∀ w', Below w.heap.size w w' → PAt B w' v0 (.slice o1 D.nf c1) (.slice o2 D.np c2) (.slice o3 D.nv c3) D) := fun w' hb => h.kept hb hB
  have HV : Hid D.V := hV
  have HA : Hid (∀ w', Below w.heap.size w w' → AtL S w' ts (.slice p2 ts.length q2) ∧ AtL S w' us (.slice p3 us.length q3) ∧ AtL S w' os (.slice p4 os.length q4) ∧ AtL S w' ss (.slice p5 ss.length q5)) := fun w' hb => ⟨h2.same (Same.of_below hb hS), h3.same (Same.of_below hb hS), h4.same (Same.of_below hb hS), h5.same (Same.of_below hb hS)⟩
  have HS2 : Hid (∀ x ∈ ts, x.size ≤ 1048576) := s2
  have HS3 : Hid (∀ p ∈ us, p.1.size ≤ 1048576 ∧ OkI p.2.1 ∧ OkI p.2.2) := s3
  have HNK : Hid (OkI num ∧ OkI kind) := ⟨hn, hk⟩
  have hnp : D.np ≤ 14 := hV.2.1.1
  have hnv : D.nv ≤ 18 := hV.2.2.1
  clear h h2 h3 h4 h5 s2 s3 hV hn hk
  obtain ⟨W, hW⟩ : ∃ W, W = (w.alloc (.cells #[v0, .slice o1 D.nf c1, .slice o2 D.np c2, .slice o3 D.nv c3] 40)).alloc (.cells #[.int .i64 num, .int .i64 kind, .slice p2 ts.length q2, .slice p3 us.length q3, .slice p4 os.length q4, .slice p5 ss.length q5] 68) := ⟨_, rfl⟩
  have EW : Hid (W = (w.alloc (.cells #[v0, .slice o1 D.nf c1, .slice o2 D.np c2, .slice o3 D.nv c3] 40)).alloc (.cells #[.int .i64 num, .int .i64 kind, .slice p2 ts.length q2, .slice p3 us.length q3, .slice p4 os.length q4, .slice p5 ss.length q5] 68)) := hW
  have BW : Hid (Below w.heap.size w W) := by rw [hW]; exact ((Below.refl _ _).alloc (Nat.le_refl _) _).alloc (by simp) _
  have sW : W.heap.size = w.heap.size + 1 + 1 := by rw [hW]; simp
  have X0 : Hid (W.heap[w.heap.size]? = some (.cells #[v0, .slice o1 D.nf c1, .slice o2 D.np c2, .slice o3 D.nv c3] 40 (0, 0))) := by rw [hW]; exact (Below.heap_alloc _ _ _ (by simp)).trans (heap_alloc_new w _)
  have Y0 : Hid (W.heap[w.heap.size + 1]? = some (.cells #[.int .i64 num, .int .i64 kind, .slice p2 ts.length q2, .slice p3 us.length q3, .slice p4 os.length q4, .slice p5 ss.length q5] 68 (0, 0))) := by rw [hW]; have := heap_alloc_new (w.alloc (.cells #[v0, .slice o1 D.nf c1, .slice o2 D.np c2, .slice o3 D.nv c3] 40)) (.cells #[.int .i64 num, .int .i64 kind, .slice p2 ts.length q2, .slice p3 us.length q3, .slice p4 os.length q4, .slice p5 ss.length q5] 68); rw [World.size_alloc] at this; exact this
  clear hW
  refine (callsIn_wide (n := 6)).1 ?_
  refine callsIn_of_wp_marks Tryz.func62 rfl trivial ?_ rfl
  simp only [Tryz.ntmps62, List.size_toArray, List.length_cons, List.length_nil, Nat.reduceAdd, Nat.reduceSub, Array.replicate_succ, Array.replicate_zero, List.push_toArray, List.append_toArray, List.nil_append, List.cons_append]
  refine wpIn_wide.2 ?_
  go_upto_region 2 with fail
  rw [← EW.out]
  obtain ⟨y0, _⟩ := cell_row X0.out 0 (v0) rfl
  obtain ⟨y1, _⟩ := cell_row X0.out 1 (.slice o1 D.nf c1) rfl
  obtain ⟨y2, _⟩ := cell_row X0.out 2 (.slice o2 D.np c2) rfl
  obtain ⟨y3, _⟩ := cell_row X0.out 3 (.slice o3 D.nv c3) rfl
  go_wp2_with fail
  refine (stations_any B _ _ _ _ D W (H.out W BW.out) (by omega) HV.out).mono ?_
  rintro e w1 ⟨sv, rfl, hst, hb1⟩
  clear y0 y1 y2 y3
  obtain ⟨sl, hsl9⟩ : ∃ l, l = stnL D := ⟨_, rfl⟩
  rw [← hsl9] at hst hsl
  have HSL : Hid (sl = stnL D) := hsl9
  have HZ : Hid (∀ y ∈ sl, y.size ≤ 1048576) := fun y hy => by
    have h9 : y ∈ stL true D := by show y ∈ stnL D; rw [← hsl9]; exact hy
    have := stn_size HV.out (((insA_both _).2 y).1 h9)
    omega
  clear hsl9
  obtain ⟨n, en⟩ : ∃ n, sl.length = n := ⟨_, rfl⟩
  obtain ⟨so, sk, rfl⟩ := ownsRow_shape hst
  have HS : Hid (Row w1 W.heap.size 9 1 eS (.slice so n sk) sl) := by show World.ownsRow _ _ _ _ _ _ _; rw [enc_S, ← en]; exact hst
  rw [en] at hsl
  rw [en]
  have EN : Hid (sl.length = n) := en
  clear hst en
  have B1 : Hid (Below w.heap.size w w1) := BW.out.trans (hb1.mono BW.out.size)
  have X1 : Hid (w1.heap[w.heap.size]? = some (.cells #[v0, .slice o1 D.nf c1, .slice o2 D.np c2, .slice o3 D.nv c3] 40 (0, 0))) := box_stable hb1 X0.out
  have Y1 : Hid (w1.heap[w.heap.size + 1]? = some (.cells #[.int .i64 num, .int .i64 kind, .slice p2 ts.length q2, .slice p3 us.length q3, .slice p4 os.length q4, .slice p5 ss.length q5] 68 (0, 0))) := box_stable hb1 Y0.out
  have s1 : w.heap.size + 1 + 1 ≤ w1.heap.size := by have := hb1.size; omega
  clear hb1 X0 Y0 BW EW sW
  go_wp2_with fail
  refine wp_loop (fun a W => ∃ (j m : Nat) (oq : Option Addr) (kq : Nat) (xs : List Value) (Ds : List Nat) (u7 u8 u15 u16 u17 u18 u19 u20 u21 u22 u27 u28 u29 u33 u34 u35 u36 u37 u38 u39 u40 u41 u42 u43 u44 u45 u46 : Value), a = { tmps := #[.agg #[v0, .slice o1 D.nf c1, .slice o2 D.np c2, .slice o3 D.nv c3], .agg #[.int .i64 num, .int .i64 kind, .slice p2 ts.length q2, .slice p3 us.length q3, .slice p4 os.length q4, .slice p5 ss.length q5], .pointer (some ⟨w.heap.size, 0, none⟩), .pointer (some ⟨w.heap.size + 1, 0, none⟩), .slice none 0 0, .slice oq m kq, undef, u7, u8, undef, undef, .agg #[v0, .slice o1 D.nf c1, .slice o2 D.np c2, .slice o3 D.nv c3], .slice so n sk, .int .i64 n, .int .i64 j, u15, u16, u17, u18, u19, u20, u21, u22, undef, undef, undef, undef, u27, u28, u29, undef, undef, undef, u33, u34, u35, u36, u37, u38, u39, u40, u41, u42, u43, u44, u45, u46, undef], defers := Ds.map markOf } ∧ j ≤ n ∧ Hid (m = (shrL D ((num, kind, ts, us, os, ss) : DClaimWant) (sl.take j)).length) ∧ Hid (Bld w1.heap.size W 70 (.slice oq m kq) (shrL D ((num, kind, ts, us, os, ss) : DClaimWant) (sl.take j)) xs) ∧ Hid (Below w1.heap.size w1 W) ∧ Hid (MarksOk w1.heap.size W Ds)) (fun a _ => n - (intOf (a.tmps.getD 14 undef)).toNat) ?start ?round
  case start => exact ⟨0, 0, none, 0, [], [], _, _, _, _, _, _, _, _, _, _, _, _, _, _, _, _, _, _, _, _, _, _, _, _, _, _, _, rfl, Nat.zero_le _, rfl, Bld.nil _ _ _, Below.refl _ _, ⟨List.nodup_nil, fun _ h => by cases h⟩⟩
  case round =>
    rintro a W ⟨j, m, oq, kq, xs, Ds, u7, u8, u15, u16, u17, u18, u19, u20, u21, u22, u27, u28, u29, u33, u34, u35, u36, u37, u38, u39, u40, u41, u42, u43, u44, u45, u46, rfl, hj, hm9, hBl, hBW, hMk⟩
    have sW := hBW.out.size
    have bw : Hid (Below w.heap.size w W) := B1.out.trans (hBW.out.mono B1.out.size)
    by_cases hlt : j < n
    · have XW : Hid (W.heap[w.heap.size]? = some (.cells #[v0, .slice o1 D.nf c1, .slice o2 D.np c2, .slice o3 D.nv c3] 40 (0, 0))) := (hBW.out.block w.heap.size (by omega)).trans X1.out
      have YW : Hid (W.heap[w.heap.size + 1]? = some (.cells #[.int .i64 num, .int .i64 kind, .slice p2 ts.length q2, .slice p3 us.length q3, .slice p4 os.length q4, .slice p5 ss.length q5] 68 (0, 0))) := (hBW.out.block (w.heap.size + 1) (by omega)).trans Y1.out
      have HSr : Row W _ 9 1 eS (.slice so n sk) sl := ownsRow_kept HS.out (fun g hg => hBW.out.block g (World.ownsRow.lt HS.out g hg).2)
      obtain ⟨sg, sc, ev, hsg, hsl2, hcell⟩ := Row.cell HSr (i := j) (by rw [EN.out]; exact hlt)
      have eo : so = some ⟨sg, 0, none⟩ := by injection ev
      subst eo
      clear ev
      have es := (hcell 0 (by omega)).1
      obtain ⟨y, ey⟩ : ∃ y, sl[j]'(by rw [EN.out]; exact hlt) = y := ⟨_, rfl⟩
      have hy : Hid (y.size ≤ 1048576) := HZ.out y (ey ▸ List.getElem_mem _)
      have htk : Hid (sl.take (j + 1) = sl.take j ++ [y]) := by
        show _ = _
        rw [List.take_add_one, List.getElem?_eq_getElem (by rw [EN.out]; exact hlt), ey]; rfl
      rw [ey, Nat.mul_one, Nat.add_zero] at es
      replace es : W.cell? ⟨sg, j, none⟩ = some (.string y) := es
      clear hcell ey HSr hsg
      obtain ⟨z0, _⟩ := cell_row YW.out 0 (.int .i64 num) rfl
      obtain ⟨z1, _⟩ := cell_row YW.out 1 (.int .i64 kind) rfl
      obtain ⟨z2, _⟩ := cell_row YW.out 2 (.slice p2 ts.length q2) rfl
      obtain ⟨z3, _⟩ := cell_row YW.out 3 (.slice p3 us.length q3) rfl
      obtain ⟨z4, _⟩ := cell_row YW.out 4 (.slice p4 os.length q4) rfl
      obtain ⟨z5, _⟩ := cell_row YW.out 5 (.slice p5 ss.length q5) rfl
      have HNA : Hid (Calls Tryz.prog 88 #[.agg #[.int .i64 num, .int .i64 kind, .slice p2 ts.length q2, .slice p3 us.length q3, .slice p4 os.length q4, .slice p5 ss.length q5]] W fun e w' => ∃ r k, e = .returned (.agg #[.int .i64 num, .int .i64 kind, .slice r ts.length k, .slice none 0 0, .slice none 0 0, .slice none 0 0, .int .i64 num, .int .i64 kind, .slice p2 ts.length q2, .slice p3 us.length q3, .slice p4 os.length q4, .slice p5 ss.length q5]) ∧ Row w' W.heap.size 9 1 eS (.slice r ts.length k) ts ∧ Below W.heap.size W w') := newAsk_any S num kind ts p2 p3 p4 p5 q2 us.length q3 os.length q4 ss.length q5 W (HA.out W bw.out).1 (fun b hb => by have := hS b hb; have := bw.out.size; omega) l2 HS2.out
      go_upto_region 6 with (first
        | (go_at_call 88; refine (HNA.out).mono ?_; rintro e wa ⟨ra, ka, rfl, hra, hba⟩))
      clear es HNA z0 z1 z2 z3 z4 z5
      obtain ⟨gx, hgx⟩ : ∃ g, g = wa.heap.size := ⟨_, rfl⟩
      obtain ⟨U1, hU1⟩ : ∃ V, V = wa.alloc (.cells #[.int .i64 num, .int .i64 kind, .slice ra ts.length ka, .slice none 0 0, .slice none 0 0, .slice none 0 0, .int .i64 num, .int .i64 kind, .slice p2 ts.length q2, .slice p3 us.length q3, .slice p4 os.length q4, .slice p5 ss.length q5] 130) := ⟨_, rfl⟩
      have G1 : Hid (U1.heap[gx]? = some (.cells #[.int .i64 num, .int .i64 kind, .slice ra ts.length ka, .slice none 0 0, .slice none 0 0, .slice none 0 0, .int .i64 num, .int .i64 kind, .slice p2 ts.length q2, .slice p3 us.length q3, .slice p4 os.length q4, .slice p5 ss.length q5] 130 (0, 0))) := by rw [hgx, hU1]; exact heap_alloc_new wa _
      have ba1 : Hid (Below wa.heap.size wa U1) := by rw [hU1]; exact (Below.refl _ _).alloc (Nat.le_refl _) _
      have BU1 : Hid (Below W.heap.size W U1) := hba.trans (ba1.out.mono hba.size)
      have sU1 : U1.heap.size ≤ gx + 1 ∧ gx + 1 ≤ U1.heap.size := by rw [hU1, hgx]; simp
      have hgW : W.heap.size ≤ gx := by rw [hgx]; exact hba.size
      rw [← hU1, ← hgx]
      have RT1 : Hid (U1.ownsRow W.heap.size 9 1 (.slice ra ts.length ka) ts.length (enc 1 eS ts)) := row_stable ba1.out hra
      have RTL : Hid (∀ g, (Value.slice ra ts.length ka).ownBlock = some g → g < gx) := fun g hg => by rw [hgx]; exact (World.ownsRow.lt hra g hg).2
      have hbf : Hid (BF (bfA (.int .i64 num) (.int .i64 kind) (.slice ra ts.length ka) (.int .i64 num) (.int .i64 kind) (.slice p2 ts.length q2) (.slice p3 us.length q3) (.slice p4 os.length q4) (.slice p5 ss.length q5))) := bfA_ok _ _ _ _ _ _ _ _ _
      have BX1 : Hid (Bx (bfA (.int .i64 num) (.int .i64 kind) (.slice ra ts.length ka) (.int .i64 num) (.int .i64 kind) (.slice p2 ts.length q2) (.slice p3 us.length q3) (.slice p4 os.length q4) (.slice p5 ss.length q5)) 130 gx (gx + 1) [] [] [] (.slice none 0 0) (.slice none 0 0) (.slice none 0 0) U1) := ⟨G1.out, World.ownsRow_nil _ _ _ _, World.ownsRow_nil _ _ _ _, World.ownsRow_nil _ _ _ _, (fun _ hk => nomatch hk), Nat.lt_succ_self _⟩
      clear hU1 hra hba hgx ba1 G1
      have bU1 : Hid (Below w.heap.size w U1) := bw.out.trans (BU1.out.mono bw.out.size)
      have XU1 : Hid (U1.heap[w.heap.size]? = some (.cells #[v0, .slice o1 D.nf c1, .slice o2 D.np c2, .slice o3 D.nv c3] 40 (0, 0))) := (BU1.out.block w.heap.size (by omega)).trans XW.out
      obtain ⟨U2, hU⟩ : ∃ u, u = (U1.alloc (.cells #[v0, .slice o1 D.nf c1, .slice o2 D.np c2, .slice o3 D.nv c3] 40)).alloc (.cells #[.string y] 9) := ⟨_, rfl⟩
      have Eu2 : Hid (U2 = (U1.alloc (.cells #[v0, .slice o1 D.nf c1, .slice o2 D.np c2, .slice o3 D.nv c3] 40)).alloc (.cells #[.string y] 9)) := hU
      have bu2 : Hid (Below U1.heap.size U1 U2) := by rw [hU]; exact ((Below.refl _ _).alloc (Nat.le_refl _) _).alloc (by simp) _
      have su2 : U1.heap.size + 1 + 1 ≤ U2.heap.size ∧ U2.heap.size ≤ U1.heap.size + 1 + 1 := by rw [hU]; simp
      have Pu2 : Hid (U2.heap[U1.heap.size]? = some (.cells #[v0, .slice o1 D.nf c1, .slice o2 D.np c2, .slice o3 D.nv c3] 40 (0, 0))) := by rw [hU]; exact (Below.heap_alloc _ _ _ (by simp)).trans (heap_alloc_new U1 _)
      have Su2 : Hid (U2.heap[U1.heap.size + 1]? = some (.cells #[.string y] 9 (0, 0))) := by rw [hU]; have := heap_alloc_new (U1.alloc (.cells #[v0, .slice o1 D.nf c1, .slice o2 D.np c2, .slice o3 D.nv c3] 40)) (.cells #[.string y] 9); rw [World.size_alloc] at this; exact this
      clear hU
      have Bu2 : Hid (Below w.heap.size w U2) := bU1.out.trans (bu2.out.mono bU1.out.size)
      have BX2 : Hid (Bx (bfA (.int .i64 num) (.int .i64 kind) (.slice ra ts.length ka) (.int .i64 num) (.int .i64 kind) (.slice p2 ts.length q2) (.slice p3 us.length q3) (.slice p4 os.length q4) (.slice p5 ss.length q5)) 130 gx (gx + 1) [] [] [] (.slice none 0 0) (.slice none 0 0) (.slice none 0 0) U2) := BX1.out.below hbf.out bu2.out
      have hBg : B ≤ gx := by have := bw.out.size; omega
      have hwg : w.heap.size ≤ gx := by have := bw.out.size; omega
      obtain ⟨y0, _⟩ := cell_row XU1.out 0 (v0) rfl
      obtain ⟨y1, _⟩ := cell_row XU1.out 1 (.slice o1 D.nf c1) rfl
      obtain ⟨y2, _⟩ := cell_row XU1.out 2 (.slice o2 D.np c2) rfl
      obtain ⟨y3, _⟩ := cell_row XU1.out 3 (.slice o3 D.nv c3) rfl
      go_wp2_with fail
      refine (placesOf_any _ _ _ _ _ _).mono ?_; rintro e w' ⟨rfl, hw2⟩
      rw [hw2, ← Eu2.out]
      clear hw2 w' y0 y1 y2 y3
      go_wp2_with fail
      refine (wpIn_wide (n := 5)).1 ?_
      refine wpIn_range_fitx (F := Fence.wide) rfl (by omega) (gf := 128) (lb := #[.pointer (some ⟨U1.heap.size, 0, none⟩), .pointer (some ⟨U1.heap.size + 1, 0, none⟩)]) rfl trivial (enters_of Tryz.func128 (by kernel_rfl) rfl)
        (places_fit 4 U1.heap.size (U1.heap.size + 1) B (by omega) v0 _ _ o2 c2 D y (own3 gx 130) U2 Pu2.out Su2.out (H.out U2 Bu2.out).p (fun i hi => name_size (HV.out.2.1.2 i hi).1) (by omega) (by omega)) (fun _ _ _ _ _ _ h _ _ => h) (Below.refl _ _) (fun _ => rfl) ?no1 (by omega)
        (fun pre X => ∃ vk, Bx (bfA (.int .i64 num) (.int .i64 kind) (.slice ra ts.length ka) (.int .i64 num) (.int .i64 kind) (.slice p2 ts.length q2) (.slice p3 us.length q3) (.slice p4 os.length q4) (.slice p5 ss.length q5)) 130 gx (gx + 1) (tkU us pre) [] [] vk (.slice none 0 0) (.slice none 0 0) X ∧ Stp gx 130 U2 X)
        ?own1 ?st1 (⟨_, BX2.out, Stp.refl _ _ _⟩) (fun _ _ _ _ h _ => h) ?round1 ?done1
      case no1 =>
        rintro q hq ho
        rcases (BX2.out.own hbf.out).1 ho with rfl | ho2 | ho2 | ho2
        · rcases hq with hq | hq | hq <;> omega
        · cases ho2
        · cases ho2
        · cases ho2
      case own1 =>
        intro pre A C row hI hg hr
        obtain ⟨vk, bA, sA⟩ := hI
        exact ⟨vk, bA.grown hbf.out hg (fun r e => (hr r e).2), sA.grown hbf.out bA hg hr⟩
      case st1 =>
        intro pre X hI
        obtain ⟨vk, bA, _⟩ := hI
        exact bA.st hbf.out
      case round1 =>
        intro l pre x X hI hlen
        apply Exists.intro
        apply Exists.intro
        refine ⟨?ba, ?assign, ?body⟩
        case assign =>
          intro K hK
          gi_wp2
          exact hK
        case ba => exact (Below.refl _ _).alloc (Nat.le_refl _) _
        case body =>
          intro X9 V _ hV9 hx8 hput
          obtain ⟨kk, oo, oo', hk1, hk2, hV2⟩ := hput
          obtain ⟨vk, bV, sV⟩ := hV9
          have hne : kk ≠ X.heap.size := fun e => by
            subst e
            rw [heap_alloc_new] at hk1
            cases hk1; cases hk2
          have XP : V.heap[X.heap.size]? = some (.cells #[.string x.1, .int .i64 x.2.1, .string x.2.2] 103 (0, 0)) := by rw [hV2]; exact (World.putObj_heap_other (by omega)).trans (heap_alloc_new X _)
          obtain ⟨z0, _⟩ := cell_row XP 0 (.string x.1) rfl
          clear hV2 hk1 hk2 XP hI
          have sVs := sV.but.size
          have bwV : Below w.heap.size w V := Bu2.out.trans ((sV.low hbf.out BX2.out hwg).mono (Nat.le_refl _))
          have TP9 : Hid (Calls Tryz.prog 90 #[.pointer (some ⟨gx, 0, none⟩), .string x.1] V fun e w' => e = .returned (.tuple #[]) ∧ ∃ v', Bx (bfA (.int .i64 num) (.int .i64 kind) (.slice ra ts.length ka) (.int .i64 num) (.int .i64 kind) (.slice p2 ts.length q2) (.slice p3 us.length q3) (.slice p4 os.length q4) (.slice p5 ss.length q5)) 130 gx (gx + 1) (tkU us pre ++ takU x.1 us) [] [] v' (.slice none 0 0) (.slice none 0 0) w' ∧ Stp gx 130 V w') := takePlace_any S _ _ _ _ _ _ _ _ us p3 q3 x.1 V bV (HA.out V bwV).2.1 (fun b hb => by have := hS b hb; omega) (by omega) (by have a1 := tkU_len us pre; have a2 : pre.length * us.length ≤ 14 * 1000 := Nat.mul_le_mul (by omega) l3; omega) (fun q hq => (HS3.out q hq).1)
          have BV : Hid (Bx (bfA (.int .i64 num) (.int .i64 kind) (.slice ra ts.length ka) (.int .i64 num) (.int .i64 kind) (.slice p2 ts.length q2) (.slice p3 us.length q3) (.slice p4 os.length q4) (.slice p5 ss.length q5)) 130 gx (gx + 1) (tkU us pre) [] [] vk (.slice none 0 0) (.slice none 0 0) V ∧ Stp gx 130 U2 V) := ⟨bV, sV⟩
          clear bV sV bwV
          gi_wp2_with (refine ⟨trivial, ?_⟩; gi_at_call 90; refine (CallsIn.inRound l (callsIn_wide.2 TP9.out)).mono ?_; rintro e X4 ⟨rfl, v4, b4, s4⟩)
          exact ⟨s4.keeps hbf.out BV.out.1, s4.kp hbf.out BV.out.1 hBg, v4, by rw [tkU_snoc]; exact b4, BV.out.2.trans s4⟩
      case done1 =>
        rintro E1 ys X hD1 hDX hSq hI hK1 hko1
        obtain ⟨vk, bX9, sX9⟩ := hI
        subst hSq
        have BXX : Hid (Bx (bfA (.int .i64 num) (.int .i64 kind) (.slice ra ts.length ka) (.int .i64 num) (.int .i64 kind) (.slice p2 ts.length q2) (.slice p3 us.length q3) (.slice p4 os.length q4) (.slice p5 ss.length q5)) 130 gx (gx + 1) (tkU us (plA D y D.np)) [] [] vk (.slice none 0 0) (.slice none 0 0) X) := bX9
        have sX := sX9.but.size
        have BWX : Hid (Below W.heap.size W X) := (BU1.out.trans (bu2.out.mono BU1.out.size)).trans (sX9.low hbf.out BX2.out hgW)
        have bX : Hid (Below w.heap.size w X) := bw.out.trans (BWX.out.mono bw.out.size)
        have K1 : Hid (X.heap[E1]? = some (.deferred (some []))) := hK1
        have RTX : Hid (X.ownsRow W.heap.size 9 1 (.slice ra ts.length ka) ts.length (enc 1 eS ts)) := ownsRow_kept (row_stable bu2.out RT1.out) (fun g hg => sX9.but.block g (by have := RTL.out g hg; omega) (fun ho => by have h1 := BX2.out.low hbf.out g ho; have h2 := RTL.out g hg; omega))
        have hE1 : E1 < X.heap.size ∧ U2.heap.size ≤ E1 := ⟨hDX, hD1⟩
        clear bX9 sX9 hK1 hko1 hDX hD1
        have XX : Hid (X.heap[w.heap.size]? = some (.cells #[v0, .slice o1 D.nf c1, .slice o2 D.np c2, .slice o3 D.nv c3] 40 (0, 0))) := (BWX.out.block w.heap.size (by omega)).trans XW.out
        obtain ⟨U3, hU⟩ : ∃ u, u = (X.alloc (.cells #[v0, .slice o1 D.nf c1, .slice o2 D.np c2, .slice o3 D.nv c3] 40)).alloc (.cells #[.string y] 9) := ⟨_, rfl⟩
        have Eu3 : Hid (U3 = (X.alloc (.cells #[v0, .slice o1 D.nf c1, .slice o2 D.np c2, .slice o3 D.nv c3] 40)).alloc (.cells #[.string y] 9)) := hU
        have bu3 : Hid (Below X.heap.size X U3) := by rw [hU]; exact ((Below.refl _ _).alloc (Nat.le_refl _) _).alloc (by simp) _
        have su3 : X.heap.size + 1 + 1 ≤ U3.heap.size ∧ U3.heap.size ≤ X.heap.size + 1 + 1 := by rw [hU]; simp
        have Pu3 : Hid (U3.heap[X.heap.size]? = some (.cells #[v0, .slice o1 D.nf c1, .slice o2 D.np c2, .slice o3 D.nv c3] 40 (0, 0))) := by rw [hU]; exact (Below.heap_alloc _ _ _ (by simp)).trans (heap_alloc_new X _)
        have Su3 : Hid (U3.heap[X.heap.size + 1]? = some (.cells #[.string y] 9 (0, 0))) := by rw [hU]; have := heap_alloc_new (X.alloc (.cells #[v0, .slice o1 D.nf c1, .slice o2 D.np c2, .slice o3 D.nv c3] 40)) (.cells #[.string y] 9); rw [World.size_alloc] at this; exact this
        clear hU
        have Bu3 : Hid (Below w.heap.size w U3) := bX.out.trans (bu3.out.mono bX.out.size)
        have BX3 : Hid (Bx (bfA (.int .i64 num) (.int .i64 kind) (.slice ra ts.length ka) (.int .i64 num) (.int .i64 kind) (.slice p2 ts.length q2) (.slice p3 us.length q3) (.slice p4 os.length q4) (.slice p5 ss.length q5)) 130 gx (gx + 1) (tkU us (plA D y D.np)) [] [] vk (.slice none 0 0) (.slice none 0 0) U3) := BXX.out.below hbf.out bu3.out
        have K3 : Hid (U3.heap[E1]? = some (.deferred (some []))) := (bu3.out.block E1 hE1.1).trans K1.out
        have OWL : Hid (∀ q, vk.ownBlock = some q → gx + 1 ≤ q ∧ q < X.heap.size) := fun q hq => World.ownsRow.lt BXX.out.ru q hq
        obtain ⟨y0, _⟩ := cell_row XX.out 0 (v0) rfl
        obtain ⟨y1, _⟩ := cell_row XX.out 1 (.slice o1 D.nf c1) rfl
        obtain ⟨y2, _⟩ := cell_row XX.out 2 (.slice o2 D.np c2) rfl
        obtain ⟨y3, _⟩ := cell_row XX.out 3 (.slice o3 D.nv c3) rfl
        go_wp2_with fail
        refine (valvesOf_any _ _ _ _ _ _).mono ?_; rintro e w' ⟨rfl, hw2⟩
        rw [hw2, ← Eu3.out]
        clear hw2 w' y0 y1 y2 y3
        go_wp2_with fail
        refine (wpIn_wide (n := 5)).1 ?_
        refine wpIn_range_fitx (F := Fence.wide) rfl (by omega) (gf := 129) (lb := #[.pointer (some ⟨X.heap.size, 0, none⟩), .pointer (some ⟨X.heap.size + 1, 0, none⟩)]) rfl trivial (enters_of Tryz.func129 (by kernel_rfl) rfl)
          (valves_fit 4 X.heap.size (X.heap.size + 1) B (by omega) v0 _ _ o3 c3 D y (own3 gx 130) U3 Pu3.out Su3.out (H.out U3 Bu3.out).v (fun i hi => name_size (HV.out.2.2.2 i hi).1) (by omega) (by omega)) (fun _ _ _ _ _ _ h _ _ => h) (Below.refl _ _) (fun _ => rfl) ?no2 (by omega)
          (fun pre X => ∃ vo vs, Bx (bfA (.int .i64 num) (.int .i64 kind) (.slice ra ts.length ka) (.int .i64 num) (.int .i64 kind) (.slice p2 ts.length q2) (.slice p3 us.length q3) (.slice p4 os.length q4) (.slice p5 ss.length q5)) 130 gx (gx + 1) (tkU us (plA D y D.np)) (tkV os pre) (tkV ss pre) vk vo vs X ∧ Stp gx 130 U3 X)
          ?own2 ?st2 (⟨_, _, BX3.out, Stp.refl _ _ _⟩) (fun _ _ _ _ h _ => h) ?round2 ?done2
        case no2 =>
          rintro q hq ho
          rcases (BX3.out.own hbf.out).1 ho with rfl | ho2 | ho2 | ho2
          · rcases hq with hq | hq | hq <;> omega
          · have := OWL.out q ho2
            rcases hq with hq | hq | hq <;> omega
          · cases ho2
          · cases ho2
        case own2 =>
          intro pre A C row hI hg hr
          obtain ⟨vo, vs, bA, sA⟩ := hI
          exact ⟨vo, vs, bA.grown hbf.out hg (fun r e => (hr r e).2), sA.grown hbf.out bA hg hr⟩
        case st2 =>
          intro pre X hI
          obtain ⟨vo, vs, bA, _⟩ := hI
          exact bA.st hbf.out
        case round2 =>
          intro l pre x X7 hI hlen
          apply Exists.intro
          apply Exists.intro
          refine ⟨?ba, ?assign, ?body⟩
          case assign =>
            intro K hK
            gi_wp2
            exact hK
          case ba => exact Below.refl _ _
          case body =>
            intro X9 V _ hV9 hx8 hput
            obtain ⟨vo, vs, bV, sV⟩ := hV9
            clear hput hI
            have sVs := sV.but.size
            have bwV : Below w.heap.size w V := Bu3.out.trans ((sV.low hbf.out BX3.out hwg).mono (Nat.le_refl _))
            have TP9 : Hid (Calls Tryz.prog 92 #[.pointer (some ⟨gx, 0, none⟩), .string x] V fun e w' => e = .returned (.tuple #[]) ∧ ∃ v' v'', Bx (bfA (.int .i64 num) (.int .i64 kind) (.slice ra ts.length ka) (.int .i64 num) (.int .i64 kind) (.slice p2 ts.length q2) (.slice p3 us.length q3) (.slice p4 os.length q4) (.slice p5 ss.length q5)) 130 gx (gx + 1) (tkU us (plA D y D.np)) (tkV os pre ++ takV x os) (tkV ss pre ++ takV x ss) vk v' v'' w' ∧ Stp gx 130 V w') := takeValve_any S _ _ _ _ _ _ _ os ss p4 p5 q4 q5 x V bV (HA.out V bwV).2.2.1 (HA.out V bwV).2.2.2 (fun b hb => by have := hS b hb; omega) (by omega) (by have a1 := tkV_len os pre; omega) (by have a1 := tkV_len ss pre; omega) (by omega)
            have BV : Hid (Bx (bfA (.int .i64 num) (.int .i64 kind) (.slice ra ts.length ka) (.int .i64 num) (.int .i64 kind) (.slice p2 ts.length q2) (.slice p3 us.length q3) (.slice p4 os.length q4) (.slice p5 ss.length q5)) 130 gx (gx + 1) (tkU us (plA D y D.np)) (tkV os pre) (tkV ss pre) vk vo vs V ∧ Stp gx 130 U3 V) := ⟨bV, sV⟩
            clear bV sV bwV
            gi_wp2_with (refine ⟨trivial, ?_⟩; gi_at_call 92; refine (CallsIn.inRound l (callsIn_wide.2 TP9.out)).mono ?_; rintro e X4 ⟨rfl, v4, v5, b4, s4⟩)
            exact ⟨s4.keeps hbf.out BV.out.1, s4.kp hbf.out BV.out.1 hBg, v4, v5, by rw [tkV_snoc, tkV_snoc]; exact b4, BV.out.2.trans s4⟩
        case done2 =>
          rintro E2 ys Z hD2 hDZ hSq hI hK2 hko2
          obtain ⟨vo, vs, bZ9, sZ9⟩ := hI
          subst hSq
          have BZ : Hid (Bx (bfA (.int .i64 num) (.int .i64 kind) (.slice ra ts.length ka) (.int .i64 num) (.int .i64 kind) (.slice p2 ts.length q2) (.slice p3 us.length q3) (.slice p4 os.length q4) (.slice p5 ss.length q5)) 130 gx (gx + 1) (tkU us (plA D y D.np)) (tkV os (vlA D y D.nv)) (tkV ss (vlA D y D.nv)) vk vo vs Z) := bZ9
          have sZ := sZ9.but.size
          have BWZ : Hid (Below W.heap.size W Z) := (BWX.out.trans (bu3.out.mono BWX.out.size)).trans (sZ9.low hbf.out BX3.out hgW)
          have HMK : Hid (MarksOk w1.heap.size Z (E2 :: E1 :: Ds)) := by
            have hE1Z : Z.heap[E1]? = some (.deferred (some [])) := hko2.same E1 _ K3.out rfl
            refine ⟨List.nodup_cons.2 ⟨fun hD => ?_, List.nodup_cons.2 ⟨fun hD => ?_, hMk.out.once⟩⟩, fun F hF => ?_⟩
            · rcases List.mem_cons.1 hD with e | hD
              · omega
              · have := (Array.getElem?_eq_some_iff.1 (hMk.out.all E2 hD).2).1; omega
            · have := (Array.getElem?_eq_some_iff.1 (hMk.out.all E1 hD).2).1; omega
            · rcases List.mem_cons.1 hF with rfl | hF
              · exact ⟨by omega, hK2⟩
              · rcases List.mem_cons.1 hF with rfl | hF
                · exact ⟨by omega, hE1Z⟩
                · exact ⟨(hMk.out.all F hF).1, (BWZ.out.block F (Array.getElem?_eq_some_iff.1 (hMk.out.all F hF).2).1).trans (hMk.out.all F hF).2⟩
          have RTZ : Hid (Z.ownsRow W.heap.size 9 1 (.slice ra ts.length ka) ts.length (enc 1 eS ts)) := ownsRow_kept (row_stable bu3.out RTX.out) (fun g hg => sZ9.but.block g (by have := RTL.out g hg; omega) (fun ho => by have h1 := BX3.out.low hbf.out g ho; have h2 := RTL.out g hg; omega))
          have hgZ : gx < Z.heap.size := bZ9.gxlt
          clear bZ9 sZ9 hK2 hko2 hDZ hD2
          obtain ⟨r3, k3, rfl⟩ := ownsRow_shape BZ.out.ru
          obtain ⟨r4, k4, rfl⟩ := ownsRow_shape BZ.out.ro
          obtain ⟨r5, k5, rfl⟩ := ownsRow_shape BZ.out.rs
          have L3 : (tkU us (plA D y D.np)).length ≤ 14000 := by have a1 := tkU_len us (plA D y D.np); have a2 : (plA D y D.np).length * us.length ≤ 14 * 1000 := Nat.mul_le_mul (by have := plA_len D y D.np; omega) l3; omega
          have L4 : (tkV os (vlA D y D.nv)).length ≤ 18 := by have a1 := tkV_len os (vlA D y D.nv); have a2 := vlA_len D y D.nv; omega
          have L5 : (tkV ss (vlA D y D.nv)).length ≤ 18 := by have a1 := tkV_len ss (vlA D y D.nv); have a2 := vlA_len D y D.nv; omega
          have A0 : Hid (askN (shD D y ((num, kind, ts, us, os, ss) : DClaimWant)) = (tkU us (plA D y D.np)).length + (tkV os (vlA D y D.nv)).length + (tkV ss (vlA D y D.nv)).length) := rfl
          obtain ⟨d0, _⟩ := cell_row BZ.out.box 0 (.int .i64 num) rfl
          obtain ⟨d1, _⟩ := cell_row BZ.out.box 1 (.int .i64 kind) rfl
          obtain ⟨d2, _⟩ := cell_row BZ.out.box 2 (.slice ra ts.length ka) rfl
          obtain ⟨d3, _⟩ := cell_row BZ.out.box 3 (.slice r3 (tkU us (plA D y D.np)).length k3) rfl
          obtain ⟨d4, _⟩ := cell_row BZ.out.box 4 (.slice r4 (tkV os (vlA D y D.nv)).length k4) rfl
          obtain ⟨d5, _⟩ := cell_row BZ.out.box 5 (.slice r5 (tkV ss (vlA D y D.nv)).length k5) rfl
          by_cases hem : emB (tkU us (plA D y D.np)).length (tkV os (vlA D y D.nv)).length (tkV ss (vlA D y D.nv)).length = true
          · have hno : ¬ 0 < askN (shD D y ((num, kind, ts, us, os, ss) : DClaimWant)) := by rw [A0.out]; simp only [emB, Bool.and_eq_true, decide_eq_true_eq] at hem; omega
            go_wp2_with (first
              | (go_at_call 93; refine (isEmpty_any num kind ra r3 r4 r5 ts.length ka (tkU us (plA D y D.np)).length k3 (tkV os (vlA D y D.nv)).length k4 (tkV ss (vlA D y D.nv)).length k5 Z).mono ?_; rintro e Z1 ⟨rfl, hz1⟩; rw [hem]; have BZ1 : Hid (Below Z.heap.size Z Z1) := hz1; have sZ1 := hz1.size))
            have BWZ1 : Hid (Below W.heap.size W Z1) := BWZ.out.trans (BZ1.out.mono BWZ.out.size)
            have MK1 : Hid (MarksOk w1.heap.size Z1 (E2 :: E1 :: Ds)) := ⟨HMK.out.once, fun F hF => ⟨(HMK.out.all F hF).1, (BZ1.out.block F (Array.getElem?_eq_some_iff.1 (HMK.out.all F hF).2).1).trans (HMK.out.all F hF).2⟩⟩
            have BL9 : Hid (m = (shrL D ((num, kind, ts, us, os, ss) : DClaimWant) (sl.take (j + 1))).length) ∧ Hid (Bld w1.heap.size Z1 70 (.slice oq m kq) (shrL D ((num, kind, ts, us, os, ss) : DClaimWant) (sl.take (j + 1))) xs) := by
              rw [htk.out, shrL_no hno]
              exact ⟨hm9, hBl.out.same (fun b _ hb => BWZ1.out.block b hb) BWZ1.out.size⟩
            refine ⟨⟨j + 1, m, oq, kq, xs, E2 :: E1 :: Ds, _, _, _, _, _, _, _, _, _, _, _, _, _, _, _, _, _, _, _, _, _, _, _, _, _, _, _, rfl, by omega, BL9.1, BL9.2, hBW.out.trans (BWZ1.out.mono hBW.out.size), MK1.out⟩, ?meas⟩
            case meas => simp [intOf]; omega
          · have hem : emB (tkU us (plA D y D.np)).length (tkV os (vlA D y D.nv)).length (tkV ss (vlA D y D.nv)).length = false := by simpa using hem
            have hyes : 0 < askN (shD D y ((num, kind, ts, us, os, ss) : DClaimWant)) := by rw [A0.out]; simp only [emB, Bool.and_eq_false_iff, decide_eq_false_iff_not] at hem; omega
            go_upto_region 13 with (first
              | (go_at_call 93; refine (isEmpty_any num kind ra r3 r4 r5 ts.length ka (tkU us (plA D y D.np)).length k3 (tkV os (vlA D y D.nv)).length k4 (tkV ss (vlA D y D.nv)).length k5 Z).mono ?_; rintro e Z1 ⟨rfl, hz1⟩; rw [hem]; have BZ1 : Hid (Below Z.heap.size Z Z1) := hz1; have sZ1 := hz1.size))
            have BWZ1 : Hid (Below W.heap.size W Z1) := BWZ.out.trans (BZ1.out.mono BWZ.out.size)
            have MK1 : Hid (MarksOk w1.heap.size Z1 (E2 :: E1 :: Ds)) := ⟨HMK.out.once, fun F hF => ⟨(HMK.out.all F hF).1, (BZ1.out.block F (Array.getElem?_eq_some_iff.1 (HMK.out.all F hF).2).1).trans (HMK.out.all F hF).2⟩⟩
            have BXZ : Hid (Bx (bfA (.int .i64 num) (.int .i64 kind) (.slice ra ts.length ka) (.int .i64 num) (.int .i64 kind) (.slice p2 ts.length q2) (.slice p3 us.length q3) (.slice p4 os.length q4) (.slice p5 ss.length q5)) 130 gx (gx + 1) (tkU us (plA D y D.np)) (tkV os (vlA D y D.nv)) (tkV ss (vlA D y D.nv)) (.slice r3 (tkU us (plA D y D.np)).length k3) (.slice r4 (tkV os (vlA D y D.nv)).length k4) (.slice r5 (tkV ss (vlA D y D.nv)).length k5) Z1) := BZ.out.below hbf.out BZ1.out
            clear d0 d1 d2 d3 d4 d5
            obtain ⟨d0, _⟩ := cell_row BXZ.out.box 0 (.int .i64 num) rfl
            obtain ⟨d1, _⟩ := cell_row BXZ.out.box 1 (.int .i64 kind) rfl
            obtain ⟨d2, _⟩ := cell_row BXZ.out.box 2 (.slice ra ts.length ka) rfl
            obtain ⟨d3, _⟩ := cell_row BXZ.out.box 3 (.slice r3 (tkU us (plA D y D.np)).length k3) rfl
            obtain ⟨d4, _⟩ := cell_row BXZ.out.box 4 (.slice r4 (tkV os (vlA D y D.nv)).length k4) rfl
            obtain ⟨d5, _⟩ := cell_row BXZ.out.box 5 (.slice r5 (tkV ss (vlA D y D.nv)).length k5) rfl
            have hll : (shrL D ((num, kind, ts, us, os, ss) : DClaimWant) (sl.take j)).length ≤ j := Nat.le_trans (shrL_len D _ _) (by rw [List.length_take]; omega)
            obtain ⟨ua, hua⟩ : ∃ V, V = Z1.alloc (.cells #[.string y, .int .i64 num, .int .i64 kind, .slice ra ts.length ka, .slice r3 (tkU us (plA D y D.np)).length k3, .slice r4 (tkV os (vlA D y D.nv)).length k4, .slice r5 (tkV ss (vlA D y D.nv)).length k5] 70) := ⟨_, rfl⟩
            have HUA : Hid (ua = Z1.alloc (.cells #[.string y, .int .i64 num, .int .i64 kind, .slice ra ts.length ka, .slice r3 (tkU us (plA D y D.np)).length k3, .slice r4 (tkV os (vlA D y D.nv)).length k4, .slice r5 (tkV ss (vlA D y D.nv)).length k5] 70)) := hua
            have sua : ua.heap.size ≤ Z1.heap.size + 1 ∧ Z1.heap.size + 1 ≤ ua.heap.size := by rw [hua]; simp
            have BAZ : Hid (Below Z1.heap.size Z1 ua) := by rw [hua]; exact (Below.refl _ _).alloc (Nat.le_refl _) _
            have BA : Hid (Below W.heap.size W ua) := BWZ1.out.trans (BAZ.out.mono BWZ1.out.size)
            have HSRC : Hid (Src ua (.slice (some ⟨Z1.heap.size, 0, none⟩) 1 1) 1 7 (#[.string y, .int .i64 num, .int .i64 kind, .slice ra ts.length ka, .slice r3 (tkU us (plA D y D.np)).length k3, .slice r4 (tkV os (vlA D y D.nv)).length k4, .slice r5 (tkV ss (vlA D y D.nv)).length k5] : Array Value).toList) := by
              have h1 : ua.ownsRow 0 70 7 (.slice (some ⟨Z1.heap.size, 0, none⟩) 1 1) 1 (#[.string y, .int .i64 num, .int .i64 kind, .slice ra ts.length ka, .slice r3 (tkU us (plA D y D.np)).length k3, .slice r4 (tkV os (vlA D y D.nv)).length k4, .slice r5 (tkV ss (vlA D y D.nv)).length k5] : Array Value).toList := by
                rw [hua]; exact own_built (Nat.zero_le _) (by unfold maxLen; omega) rfl
              exact own_src h1
            have HOWN : Hid (ua.ownsRow w1.heap.size 70 7 (.slice oq m kq) (shrL D ((num, kind, ts, us, os, ss) : DClaimWant) (sl.take j)).length xs) := row_stable BA.out hBl.out.row
            have HONE : Hid (∀ z ∈ (#[.string y, .int .i64 num, .int .i64 kind, .slice ra ts.length ka, .slice r3 (tkU us (plA D y D.np)).length k3, .slice r4 (tkV os (vlA D y D.nv)).length k4, .slice r5 (tkV ss (vlA D y D.nv)).length k5] : Array Value).toList, z.oneCell' = true) := by intro z hz; simp at hz; rcases hz with rfl | rfl | rfl | rfl | rfl | rfl | rfl <;> rfl
            clear hua
            have sAA := BA.out.size
            go_wp2_with (first
              | (at_builtin; rw [← HUA.out]; refine wpList_app elA rfl _ _ rfl rfl rfl HOWN.out HSRC.out HONE.out (by unfold maxLen; omega) (by omega) (by omega) ?_; intro v' u8 hown hgr hbk; obtain ⟨ov', kv', rfl⟩ := ownsRow_shape hown))
            have ONZ : Own.On (fun b => W.heap.size ≤ b ∧ b < Z1.heap.size) Z1 (shD D y ((num, kind, ts, us, os, ss) : DClaimWant)) (cs [.int .i64 num, .int .i64 kind, .slice ra ts.length ka, .slice r3 (tkU us (plA D y D.np)).length k3, .slice r4 (tkV os (vlA D y D.nv)).length k4, .slice r5 (tkV ss (vlA D y D.nv)).length k5]) := want_on HNK.out.1 HNK.out.2 BXZ.out (row_stable BZ1.out RTZ.out) (fun g hg => by have := RTL.out g hg; omega) (by omega) (fun x hx => by have := HS2.out x hx; show x.size ≤ maxLen; unfold maxLen; omega) (fun x hx => by
                obtain ⟨z, _, hz⟩ := List.mem_flatMap.1 hx
                have h9 := HS3.out x (List.mem_filter.1 hz).1
                exact ⟨by have := h9.1; show x.1.size ≤ maxLen; unfold maxLen; omega, h9.2⟩) (fun x hx => tkV_ok HV.out hx) (fun x hx => tkV_ok HV.out hx)
            have ONA : Own.On (fun b => W.heap.size ≤ b ∧ b < ua.heap.size) ua ((y, shD D y ((num, kind, ts, us, os, ss) : DClaimWant)) : DCtlAsk) (cs (#[.string y, .int .i64 num, .int .i64 kind, .slice ra ts.length ka, .slice r3 (tkU us (plA D y D.np)).length k3, .slice r4 (tkV os (vlA D y D.nv)).length k4, .slice r5 (tkV ss (vlA D y D.nv)).length k5] : Array Value).toList) := ask_on (by have := hy.out; unfold maxLen; omega) (Own.on_up (Own.on_same ONZ (Same.of_below BAZ.out (fun b hb => hb.2))) (fun b hb => ⟨hb.1, by have := hb.2; omega⟩)) rfl rfl rfl rfl rfl rfl
            have PUSH := Bld.push hBl.out sW BA.out ONA hgr hown (fun j hj => by have hj : j < 7 := hj; rcases (show j = 0 ∨ j = 1 ∨ j = 2 ∨ j = 3 ∨ j = 4 ∨ j = 5 ∨ j = 6 by omega) with rfl | rfl | rfl | rfl | rfl | rfl | rfl <;> rfl) hbk
            have hlen : (shrL D ((num, kind, ts, us, os, ss) : DClaimWant) (sl.take (j + 1))).length = (shrL D ((num, kind, ts, us, os, ss) : DClaimWant) (sl.take j)).length + 1 := by rw [htk.out, shrL_yes hyes, List.length_append]; rfl
            have BU8 : Hid (Below w1.heap.size w1 u8) := (hBW.out.trans (BA.out.mono hBW.out.size)).grown hgr (by omega) (fun q hq => (World.ownsRow.lt HOWN.out q hq).1)
            have MK8 : Hid (MarksOk w1.heap.size u8 (E2 :: E1 :: Ds)) := ⟨MK1.out.once, fun F hF => ⟨(MK1.out.all F hF).1, by
              have hF1 := (MK1.out.all F hF).2
              have hF2 := (BAZ.out.block F (Array.getElem?_eq_some_iff.1 hF1).1).trans hF1
              refine (hgr.block F (Array.getElem?_eq_some_iff.1 hF2).1 (fun e => ?_)).trans hF2
              obtain ⟨cur, hc⟩ := row_cells HOWN.out e.symm
              rw [hF2] at hc; cases hc⟩⟩
            have BL9 : Hid ((shrL D ((num, kind, ts, us, os, ss) : DClaimWant) (sl.take j)).length + 1 = (shrL D ((num, kind, ts, us, os, ss) : DClaimWant) (sl.take (j + 1))).length) ∧ Hid (Bld w1.heap.size u8 70 (.slice ov' ((shrL D ((num, kind, ts, us, os, ss) : DClaimWant) (sl.take j)).length + 1) kv') (shrL D ((num, kind, ts, us, os, ss) : DClaimWant) (sl.take (j + 1))) (xs ++ (#[.string y, .int .i64 num, .int .i64 kind, .slice ra ts.length ka, .slice r3 (tkU us (plA D y D.np)).length k3, .slice r4 (tkV os (vlA D y D.nv)).length k4, .slice r5 (tkV ss (vlA D y D.nv)).length k5] : Array Value).toList)) := by
              refine ⟨hlen.symm, ?_⟩
              show Bld _ _ _ _ _ _
              rw [htk.out, shrL_yes hyes]
              exact PUSH
            refine ⟨⟨j + 1, _, ov', kv', _, E2 :: E1 :: Ds, ⟨⟨⟨rfl, rfl, rfl⟩, by omega⟩, rfl⟩, by omega, BL9.1, BL9.2, BU8.out, MK8.out⟩, ?meas⟩
            case meas => simp [intOf]; omega
    · have hjn : j = n := by omega
      subst hjn
      have hB2 : Hid (Bld w1.heap.size W 70 (.slice oq m kq) (shrL D ((num, kind, ts, us, os, ss) : DClaimWant) sl) xs) := by
        have := hBl.out
        rw [show sl.take j = sl from List.take_of_length_le (by rw [EN.out]; exact Nat.le_refl _)] at this
        exact this
      go_wp2_with fail
      refine leaves_marks (b := w1.heap.size) Ds W hMk.out ?_
      have ON := on_close (Bld.on hB2.out) hMk.out
      refine ⟨.slice oq m kq, by simp [results, Tryz.results62, go_sem], _, rfl, ?_, close_below Ds W (fun D hD => by have := (hMk.out.all D hD).1; omega) bw.out⟩
      rw [← HSL.out]
      exact ON.up (fun b hb => ⟨by have := hb.1; omega, by rw [close_size]; exact hb.2⟩)

end Go.Proofs.YtndacfockllehaaGreat
