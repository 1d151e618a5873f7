import Derived.Test.YtgjcppdeljoimaaPzt
import Derived.Test.YtgjcppdeljoimaaM35
import Derived.Test.YtgjcppdeljoimaaM42
import Derived.Test.YtgjcppdeljoimaaOd
import Derived.Test.YtgjcppdeljoimaaM45
import Derived.Test.YtgjcppdeljoimaaRva
import Derived.Deep.Cut
namespace Go.Proofs.Ytgjcppdeljoimaa
open Go.RowKit Go.Sort
theorem rt_len {D : PD} {b : Bool} {fr fi : ByteArray} (hV : b = true → D.V) : ∀ r ∈ rtL b D fr fi, r.2.length ≤ 14 ∧ r.1.length ≤ 15 := fun r hr => by
  cases b
  · simp [rtL] at hr
  · have hV := hV rfl
    obtain ⟨h1, h2⟩ := (endR_iff D.np r).1 (List.mem_of_mem_take (by simpa [rtL] using hr))
    have := hV.2.1.1
    have := h1.len
    omega
theorem rt_few (b : Bool) (D : PD) (fr fi : ByteArray) : (rtL b D fr fi).length ≤ 30 := by
  cases b
  · simp [rtL]
  · show ((endR D fr fi D.np).take 30).length ≤ 30
    rw [List.length_take]; omega
theorem RowG.capd {B : Nat} {w : World} {u : Value} {l : List ByteArray} {g : Nat} (h : RowG B w u l g) : ∃ c, u = .slice (some ⟨g, 0, none⟩) l.length c ∧ l.length ≤ c := by
  obtain ⟨cap, cur, hu, _, _, hs, _⟩ := h
  exact ⟨cap, hu, hs.2⟩
theorem own_txs {B : Nat} {w : World} {v : Value} {l : List ByteArray} (h : w.ownsRow B 9 1 v l.length (l.map .string)) (hm : l.length ≤ 1048576) : Lst w.heap.size w v l.length 1 (cS (nthB l)) := by
  rcases Nat.eq_zero_or_pos l.length with h0 | h0
  · obtain ⟨o, c, rfl⟩ := own_slice h
    exact ⟨o, c, rfl, by omega, fun i hi => by omega⟩
  · obtain ⟨g, hg, _⟩ := RowG.of_own h h0
    exact hg.lst hm
theorem txs_q (Ba Bb : Nat) (va vb : Value) (la lb : List ByteArray) (wr : World) (ha : Lst Ba wr va la.length 1 (cS (nthB la))) (hb : Lst Bb wr vb lb.length 1 (cS (nthB lb))) (hBa : Ba ≤ wr.heap.size) (hBb : Bb ≤ wr.heap.size) (r : Bool) (hr : decide (la = lb) = r) (d : Nat) (os : Array Obj) : Calls Try.prog 7 #[va, vb] (grow (redrawn wr d) os) fun e w'' => e = .returned (.bool r) ∧ ∃ p : Regrown, w'' = grow (redrawn wr p.d) p.os :=
  Calls.regrown_of (by subst hr; exact txs_any Ba Bb va vb la lb _ (ha.kept (below_regrown wr d os) hBa) (hb.kept (below_regrown wr d os) hBb))
theorem pat_up {B B' : Nat} {w : World} {v0 v1 v2 v3 : Value} {D : PD} (h : PAt B w v0 v1 v2 v3 D) (hB : B ≤ B') : PAt B' w v0 v1 v2 v3 D := ⟨h.s.up hB, h.f.up hB, h.p.up hB, h.v.up hB⟩
theorem route_q (B B' : Nat) (v0 v1 v2 v3 : Value) (D : PD) (op ov : Option Addr) (k cm ck : Nat) (P Q : Nat → ByteArray) (wr : World) (h : PAt B wr v0 v1 v2 v3 D) (hP : Lst B' wr (.slice op (k + 1) cm) (k + 1) 1 (cS P)) (hQ : Lst B' wr (.slice ov k ck) k 1 (cS Q)) (hB : B ≤ wr.heap.size) (hB' : B' ≤ wr.heap.size) (hcm : k + 1 ≤ cm) (hz : D.Sz) (hV : D.V) (hR : RtP D k P Q) (d : Nat) (os : Array Obj) :
    Calls Try.prog 8 #[.agg #[v0, v1, v2, v3], .agg #[.slice op (k + 1) cm, .slice ov k ck]] (grow (redrawn wr d) os) fun e w'' => e = .returned (.bool true) ∧ ∃ p : Regrown, w'' = grow (redrawn wr p.d) p.os :=
  Calls.regrown_of (wpRoute_any wr.heap.size v0 v1 v2 v3 D op ov k cm ck P Q _ (pat_up (h.kept (below_regrown wr d os) hB) hB) ((hP.kept (below_regrown wr d os) hB').up hB') ((hQ.kept (below_regrown wr d os) hB').up hB') (below_regrown wr d os).size hcm hz hV hR)
set_option maxRecDepth 100000 in
set_option maxHeartbeats 32000000 in
theorem lawR_any (ob : Option Addr) (n cb : Nat) (f : Nat → Int) (oc : Option Addr) (m cc : Nat) (g : Nat → Int) (w : World) (hn : n ≤ maxLen) (hnc : n ≤ cb) (fb : ∀ i, 0 ≤ f i ∧ f i ≤ 255)
    (ce : ∀ i, i < n → ∃ b off, ob = some ⟨b, off, none⟩ ∧ b < w.heap.size ∧ w.cell? ⟨b, off + i, none⟩ = some (.int .u8 (f i)))
    (hm : m ≤ maxLen) (hmc : m ≤ cc) (gb : ∀ i, 0 ≤ g i ∧ g i ≤ 255) (cg : ∀ i, i < m → ∃ b off, oc = some ⟨b, off, none⟩ ∧ b < w.heap.size ∧ w.cell? ⟨b, off + i, none⟩ = some (.int .u8 (g i))) :
    Calls Try.prog 3 #[.slice ob n cb, .slice oc m cc] w fun e w' => e = .returned (.bool true) ∧ Below w.heap.size w w' := by
  have hn' := hn
  have hm' := hm
  unfold maxLen at hn' hm'
  by_cases hbig : (1048576 : Int) < (n : Int)
  · go_enter Try.func3, Try.ntmps3
    go_wp2_with fail
    go_ret
    exact ⟨rfl, Below.refl _ _⟩
  by_cases hbig2 : (1048576 : Int) < (m : Int)
  · go_enter Try.func3, Try.ntmps3
    go_wp2_with fail
    go_ret
    exact ⟨rfl, Below.refl _ _⟩
  have CDR : Hid (Calls Try.prog 4 #[.slice ob n cb] w fun e w' => DrB2 w e w') := routes_dr ob n cb f w hn hnc fb ce
  have CDB : Hid (∀ u, Below w.heap.size w u → Calls Try.prog 9 #[.slice oc m cc] u fun e w' => DrB1 u e w') := fun u hu => beside_dr oc m cc g u hm hmc gb (fun i hi => by
    obtain ⟨b, off, h1, h2, h3⟩ := cg i hi
    exact ⟨b, off, h1, Nat.lt_of_lt_of_le h2 hu.size, (hu.cell (p := ⟨b, off + i, none⟩) h2).trans h3⟩)
  clear fb ce hn hnc hm hmc gb cg
  go_enter Try.func3, Try.ntmps3
  go_wp2_with fail
  refine Calls.mono CDR.out ?_
  rintro e V ⟨u0, u1, u2, u3, X, s1, s2, ⟨hs1, hs2⟩, rfl, hpl, hok, hb1⟩
  obtain ⟨o0, c0, rfl⟩ := Row.form hpl.s
  obtain ⟨o1, c1, rfl⟩ := Row.form hpl.f
  obtain ⟨o2, c2, rfl⟩ := Row.form hpl.p
  obtain ⟨o3, c3, rfl⟩ := Row.form hpl.v
  obtain ⟨n0, en0⟩ : ∃ m, X.ss.length = m := ⟨_, rfl⟩
  obtain ⟨n1, en1⟩ : ∃ m, X.ff.length = m := ⟨_, rfl⟩
  obtain ⟨n2, en2⟩ : ∃ m, X.pp.length = m := ⟨_, rfl⟩
  obtain ⟨n3, en3⟩ : ∃ m, X.vv.length = m := ⟨_, rfl⟩
  rw [en0, en1, en2, en3] at hpl ⊢
  clear en0 en1 en2 en3
  obtain ⟨D, hD⟩ : ∃ D, X.D = D := ⟨_, rfl⟩
  have hz : D.Sz := by rw [← hD]; exact hok.sz
  have hnv : D.nv ≤ 20 := by rw [← hD]; exact hok.nv
  have PA0 : PAt V.heap.size V (.slice o0 n0 c0) (.slice o1 n1 c1) (.slice o2 n2 c2) (.slice o3 n3 c3) D := by rw [← hD]; exact hpl.at_
  have PA : Hid (∀ u, Below V.heap.size V u → PAt V.heap.size u (.slice o0 n0 c0) (.slice o1 n1 c1) (.slice o2 n2 c2) (.slice o3 n3 c3) D) := fun u hu => PA0.kept hu (Nat.le_refl _)
  clear PA0 hpl hok hD
  obtain ⟨U, hU⟩ : ∃ U, U = V.alloc (.cells #[.slice o0 n0 c0, .slice o1 n1 c1, .slice o2 n2 c2, .slice o3 n3 c3] 28) := ⟨_, rfl⟩
  have EU : Hid (U = V.alloc (.cells #[.slice o0 n0 c0, .slice o1 n1 c1, .slice o2 n2 c2, .slice o3 n3 c3] 28)) := hU
  obtain ⟨gp, hgp⟩ : ∃ g, g = V.heap.size := ⟨_, rfl⟩
  have EGP : Hid (gp = V.heap.size) := hgp
  have bU : Hid (Below V.heap.size V U) := by rw [hU]; exact (Below.refl _ _).alloc (Nat.le_refl _) _
  have BKU : U.heap[gp]? = some (.cells #[.slice o0 n0 c0, .slice o1 n1 c1, .slice o2 n2 c2, .slice o3 n3 c3] 28 (0, 0)) := by rw [hgp, hU]; exact heap_alloc_new V _
  have BOX : Hid (∀ u, Below U.heap.size U u → u.heap[gp]? = some (.cells #[.slice o0 n0 c0, .slice o1 n1 c1, .slice o2 n2 c2, .slice o3 n3 c3] 28 (0, 0))) := fun u hu => (hu.block gp (Array.getElem?_eq_some_iff.1 BKU).1).trans BKU
  have BWV : Hid (Below w.heap.size w V) := hb1
  have sV := BWV.out.size
  have sU := bU.out.size
  have BLU : Hid (Below w.heap.size w U) := BWV.out.trans (bU.out.mono sV)
  clear hU hgp BKU hb1 CDR
  go_upto_region 4 with fail
  rw [← EU.out, ← EGP.out]
  clear EU EGP
  have x0 := (cell_row (BOX.out U (Below.refl _ _)) 0 (.slice o0 n0 c0) rfl).1
  have x1 := (cell_row (BOX.out U (Below.refl _ _)) 1 (.slice o1 n1 c1) rfl).1
  have x2 := (cell_row (BOX.out U (Below.refl _ _)) 2 (.slice o2 n2 c2) rfl).1
  have x3 := (cell_row (BOX.out U (Below.refl _ _)) 3 (.slice o3 n3 c3) rfl).1
  go_wp2_with fail
  refine (routesI_any V.heap.size _ _ _ _ D s1 s2 U (PA.out U bU.out) (by omega) hz).mono ?_
  rintro e W1 ⟨vl, rfl, b, Z, hbI, hZ, hown, hb2⟩
  clear x0 x1 x2 x3
  obtain ⟨nl, hnl⟩ : ∃ k, (rtL b D s1 s2).length = k := ⟨_, rfl⟩
  have hn30 : nl ≤ 30 := by rw [← hnl]; exact rt_few b D s1 s2
  have hVb : b = true → D.V := fun h => (hbI.1 h).1
  have HLEN : Hid (∀ r ∈ rtL b D s1 s2, r.2.length ≤ 14 ∧ r.1.length ≤ 15) := rt_len hVb
  obtain ⟨HRT, HPW, HCNT⟩ := @rt_all D b s1 s2 hVb
  have eZ : Z.length = nl := by rw [← hnl, ← hZ, List.length_map]
  obtain ⟨ol, cl, rfl⟩ := own_slice hown.own
  have CP : Hid (∀ z ∈ Z, ∃ c, z.u = .slice (some ⟨z.g, 0, none⟩) z.r.1.length c ∧ z.r.1.length ≤ c) := fun z hz => (hown.row z hz).p.capd
  have CQ : Hid (∀ z ∈ Z, ∃ c, z.v = .slice (some ⟨z.h, 0, none⟩) z.r.2.length c ∧ z.r.2.length ≤ c) := fun z hz => (hown.row z hz).q.capd
  have RL1 := hown.read (by omega) (fun z hz => by have := HLEN.out z.r (map_mem hZ hz); omega)
  rw [eZ] at hown ⊢
  have RLk : Hid (∀ u, Below W1.heap.size W1 u → RtsR W1.heap.size u (.slice ol Z.length cl) Z) := fun u hu => RL1.kept hu (Nat.le_refl _)
  clear RL1
  have B1 : Hid (Below U.heap.size U W1) := hb2
  have s1' := B1.out.size
  clear hb2 hown
  have x0 := (cell_row (BOX.out W1 B1.out) 0 (.slice o0 n0 c0) rfl).1
  have x1 := (cell_row (BOX.out W1 B1.out) 1 (.slice o1 n1 c1) rfl).1
  have x2 := (cell_row (BOX.out W1 B1.out) 2 (.slice o2 n2 c2) rfl).1
  have x3 := (cell_row (BOX.out W1 B1.out) 3 (.slice o3 n3 c3) rfl).1
  go_wp2_with fail
  refine (routesS_any V.heap.size _ _ _ _ D s1 s2 W1 (PA.out W1 (bU.out.trans (B1.out.mono (by omega)))) (by omega) hz).mono ?_
  rintro e W2 ⟨vw, b', Z', rfl, hbS, hZ', hown', hb3⟩
  clear x0 x1 x2 x3
  have ebb : b' = b := by rw [Bool.eq_iff_iff, hbS, hbI]
  subst ebb
  have eZ' : Z'.length = nl := by rw [← hnl, ← hZ', List.length_map]
  obtain ⟨ow, cw, rfl⟩ := own_slice hown'.own
  have CP' : Hid (∀ z ∈ Z', ∃ c, z.u = .slice (some ⟨z.g, 0, none⟩) z.r.1.length c ∧ z.r.1.length ≤ c) := fun z hz => (hown'.row z hz).p.capd
  have CQ' : Hid (∀ z ∈ Z', ∃ c, z.v = .slice (some ⟨z.h, 0, none⟩) z.r.2.length c ∧ z.r.2.length ≤ c) := fun z hz => (hown'.row z hz).q.capd
  have RW1 := hown'.read (by omega) (fun z hz => by have := HLEN.out z.r (map_mem hZ' hz); omega)
  rw [eZ'] at hown' ⊢
  have RWk : Hid (∀ u, Below W2.heap.size W2 u → RtsR W2.heap.size u (.slice ow Z'.length cw) Z') := fun u hu => RW1.kept hu (Nat.le_refl _)
  clear RW1
  have B2 : Hid (Below W1.heap.size W1 W2) := hb3
  have s2' := B2.out.size
  clear hb3 hown'
  have B12 : Hid (Below U.heap.size U W2) := B1.out.trans (B2.out.mono (by omega))
  have x0 := (cell_row (BOX.out W2 B12.out) 0 (.slice o0 n0 c0) rfl).1
  have x1 := (cell_row (BOX.out W2 B12.out) 1 (.slice o1 n1 c1) rfl).1
  have x2 := (cell_row (BOX.out W2 B12.out) 2 (.slice o2 n2 c2) rfl).1
  have x3 := (cell_row (BOX.out W2 B12.out) 3 (.slice o3 n3 c3) rfl).1
  go_wp2_with fail
  refine (routesI_any V.heap.size _ _ _ _ D s2 s1 W2 (PA.out W2 (bU.out.trans (B12.out.mono (by omega)))) (by omega) hz).mono ?_
  rintro e W3 ⟨vb, rfl, b3, Z3, hb3I, hZ3, hown3, hb4⟩
  clear x0 x1 x2 x3
  have ebb : b3 = b' := by
    rw [Bool.eq_iff_iff, hb3I, hbI]
    exact ⟨fun h => ⟨h.1, h.2.2, h.2.1⟩, fun h => ⟨h.1, h.2.2, h.2.1⟩⟩
  have eZ3 : Z3.length = nl := by rw [← hnl, HCNT, ← ebb, ← hZ3, List.length_map]
  obtain ⟨o3', c3', rfl⟩ := own_slice hown3.own
  rw [eZ3]
  have B3 : Hid (Below W2.heap.size W2 W3) := hb4
  have s3' := B3.out.size
  have B13 : Hid (Below U.heap.size U W3) := B12.out.trans (B3.out.mono (by omega))
  clear hown3 hZ3 eZ3 ebb hb3I hb4 HCNT
  have RL : Hid (∀ u, Below W3.heap.size W3 u → RtsR W3.heap.size u (.slice ol nl cl) Z) := fun u hu => by
    have := (RLk.out u (B2.out.trans ((B3.out.mono (by omega)).trans (hu.mono (by omega))))).up (B' := W3.heap.size) (by omega)
    rw [eZ] at this; exact this
  have RW : Hid (∀ u, Below W3.heap.size W3 u → RtsR W3.heap.size u (.slice ow nl cw) Z') := fun u hu => by
    have := (RWk.out u (B3.out.trans (hu.mono (by omega)))).up (B' := W3.heap.size) (by omega)
    rw [eZ'] at this; exact this
  have PA3 : Hid (∀ u, Below W3.heap.size W3 u → PAt V.heap.size u (.slice o0 n0 c0) (.slice o1 n1 c1) (.slice o2 n2 c2) (.slice o3 n3 c3) D) := fun u hu => PA.out u (bU.out.trans ((B13.out.mono (by omega)).trans (hu.mono (by omega))))
  have BOX3 : Hid (∀ u, Below W3.heap.size W3 u → u.heap[gp]? = some (.cells #[.slice o0 n0 c0, .slice o1 n1 c1, .slice o2 n2 c2, .slice o3 n3 c3] 28 (0, 0))) := fun u hu => BOX.out u (B13.out.trans (hu.mono (by omega)))
  have BW3 : Hid (Below w.heap.size w W3) := BLU.out.trans (B13.out.mono (by omega))
  have V3 : Hid (V.heap.size ≤ W3.heap.size) := by show _ ≤ _; omega
  have HZ : Hid (Z.map (·.r) = rtL b' D s1 s2) := hZ
  have HZ' : Hid (Z'.map (·.r) = rtL b' D s1 s2) := hZ'
  have HI := hidZ hbI
  have EZ : Hid (Z.length = nl) := eZ
  have EZ' : Hid (Z'.length = nl) := eZ'
  have HRT' := hidZ HRT
  have HPW' := hidZ HPW
  clear RLk RWk PA BOX BLU B1 B2 B3 B12 B13 bU BWV s1' s2' s3' sU sV hZ hZ' hbI hbS hVb HRT HPW eZ eZ' hnl
  go_wp2_with fail
  go_loopw [10] (fun i wr => ∃ q : Nat, q ≤ nl ∧ i = .int .i64 q ∧ Hid (Below W3.heap.size W3 wr)) (fun i _ => nl - (intOf i).toNat)
  case atStart => exact ⟨0, Nat.zero_le _, rfl, Below.refl _ _⟩
  case round =>
    obtain ⟨q, hq, rfl, hbel⟩ := hrel
    by_cases hlq : q < nl
    case neg =>
      have hge : ¬ ((q : Int) < (nl : Int)) := by omega
      have hged : decide ((q : Int) < (nl : Int)) = false := by simp; omega
      go_wp2_with fail
      refine Calls.mono (CDB.out wr (BW3.out.trans (hbel.out.mono BW3.out.size))) ?_
      rintro e Vb ⟨u0', u1', u2', u3', X', sb, hsb, rfl, hpl, hok, hbb⟩
      obtain ⟨p0, d0, rfl⟩ := Row.form hpl.s
      obtain ⟨p1, d1, rfl⟩ := Row.form hpl.f
      obtain ⟨p2, d2, rfl⟩ := Row.form hpl.p
      obtain ⟨p3, d3, rfl⟩ := Row.form hpl.v
      obtain ⟨m0, en0⟩ : ∃ m, X'.ss.length = m := ⟨_, rfl⟩
      obtain ⟨m1, en1⟩ : ∃ m, X'.ff.length = m := ⟨_, rfl⟩
      obtain ⟨m2, en2⟩ : ∃ m, X'.pp.length = m := ⟨_, rfl⟩
      obtain ⟨m3, en3⟩ : ∃ m, X'.vv.length = m := ⟨_, rfl⟩
      rw [en0, en1, en2, en3] at hpl ⊢
      clear en0 en1 en2 en3
      obtain ⟨D', hD⟩ : ∃ D, X'.D = D := ⟨_, rfl⟩
      have hz' : D'.Sz := by rw [← hD]; exact hok.sz
      have hnv' : D'.nv ≤ 20 := by rw [← hD]; exact hok.nv
      have PB0 : PAt Vb.heap.size Vb (.slice p0 m0 d0) (.slice p1 m1 d1) (.slice p2 m2 d2) (.slice p3 m3 d3) D' := by rw [← hD]; exact hpl.at_
      have PB : Hid (∀ u, Below Vb.heap.size Vb u → PAt Vb.heap.size u (.slice p0 m0 d0) (.slice p1 m1 d1) (.slice p2 m2 d2) (.slice p3 m3 d3) D') := fun u hu => PB0.kept hu (Nat.le_refl _)
      have BVb : Hid (Below w.heap.size w Vb) := (BW3.out.trans (hbel.out.mono BW3.out.size)).trans (hbb.mono (Nat.le_trans BW3.out.size hbel.out.size))
      clear PB0 hpl hok hD hbb CDB
      obtain ⟨Ub, hU⟩ : ∃ U, U = Vb.alloc (.cells #[.slice p0 m0 d0, .slice p1 m1 d1, .slice p2 m2 d2, .slice p3 m3 d3] 28) := ⟨_, rfl⟩
      have EU : Hid (Ub = Vb.alloc (.cells #[.slice p0 m0 d0, .slice p1 m1 d1, .slice p2 m2 d2, .slice p3 m3 d3] 28)) := hU
      obtain ⟨gb, hgb⟩ : ∃ g, g = Vb.heap.size := ⟨_, rfl⟩
      have EGB : Hid (gb = Vb.heap.size) := hgb
      have bUb : Hid (Below Vb.heap.size Vb Ub) := by rw [hU]; exact (Below.refl _ _).alloc (Nat.le_refl _) _
      have BKb : Hid (Ub.heap[gb]? = some (.cells #[.slice p0 m0 d0, .slice p1 m1 d1, .slice p2 m2 d2, .slice p3 m3 d3] 28 (0, 0))) := by rw [hgb, hU]; exact heap_alloc_new Vb _
      have lgb := (Array.getElem?_eq_some_iff.1 BKb.out).1
      have sVb := BVb.out.size
      have sUb := bUb.out.size
      clear hU hgb
      go_upto_region 20 with fail
      rw [← EU.out, ← EGB.out]
      clear EU EGB
      refine wp_region_movesC (fun v => v.heap[gb]? = some (.cells #[.slice p0 m0 d0, .slice p1 m1 d1, .slice p2 m2 d2, .slice p3 m3 d3] 28 (0, 0))) 7 [] (by kernel_rfl) (by kernel_rfl) BKb.out ?_
      simp only [List.filterMap_nil, movD]
      refine takeHQ (f := 6) (i := 0) (.agg #[.slice p0 m0 d0, .slice p1 m1 d1, .slice p2 m2 d2, .slice p3 m3 d3]) ⟨rfl, rfl⟩ (by kernel_rfl) rfl BKb.out ?ta ?_
      case ta => intro v hv; have c0_ := (cell_row hv 0 (.slice p0 m0 d0) rfl).1; have c1_ := (cell_row hv 1 (.slice p1 m1 d1) rfl).1; have c2_ := (cell_row hv 2 (.slice p2 m2 d2) rfl).1; have c3_ := (cell_row hv 3 (.slice p3 m3 d3) rfl).1; go_simp
      simp only [Act.put, List.setIfInBounds_toArray, List.set_cons_zero, List.set_cons_succ]
      refine takeHQ (f := 5) (i := 1) (.string sb) ⟨rfl, rfl⟩ (by kernel_rfl) rfl BKb.out ?ta ?_
      case ta => intro v hv; go_simp
      simp only [Act.put, List.setIfInBounds_toArray, List.set_cons_zero, List.set_cons_succ]
      refine takeHQ (f := 4) (i := 3) (.agg #[.slice p0 m0 d0, .slice p1 m1 d1, .slice p2 m2 d2, .slice p3 m3 d3]) ⟨rfl, rfl⟩ (by kernel_rfl) rfl BKb.out ?ta ?_
      case ta => intro v hv; have c0_ := (cell_row hv 0 (.slice p0 m0 d0) rfl).1; have c1_ := (cell_row hv 1 (.slice p1 m1 d1) rfl).1; have c2_ := (cell_row hv 2 (.slice p2 m2 d2) rfl).1; have c3_ := (cell_row hv 3 (.slice p3 m3 d3) rfl).1; go_simp
      simp only [Act.put, List.setIfInBounds_toArray, List.set_cons_zero, List.set_cons_succ]
      refine takeHQ (f := 3) (i := 4) (.string sb) ⟨rfl, rfl⟩ (by kernel_rfl) rfl BKb.out ?ta ?_
      case ta => intro v hv; go_simp
      simp only [Act.put, List.setIfInBounds_toArray, List.set_cons_zero, List.set_cons_succ]
      have bd0 : Hid (Below Vb.heap.size Vb Ub.drew) := bUb.out.trans (((Below.refl _ _).drew).mono sUb)
      have sd0 : Ub.heap.size ≤ Ub.drew.heap.size := Nat.le_refl _
      refine callHd (f := 2) (i := 2) ⟨rfl, rfl⟩ (by decide) (by kernel_rfl) rfl ?cc ((besideI_of Vb.heap.size _ _ _ _ D' sb Ub.drew (PB.out _ bd0.out) (by omega) (fun w' hw => validI_any Vb.heap.size _ _ _ _ D' w' (PB.out _ (bd0.out.trans (hw.mono (by omega)))) (Nat.le_trans (by omega) hw.size) hz') (fun h => V_sizes h)).mono ?_)
      case cc => go_simp
      rintro _ Y1 ⟨v1, ba, rfl, hba, hown1, hbl1⟩
      have bd1 : Hid (Below Vb.heap.size Vb Y1) := bd0.out.trans (hbl1.mono (by omega))
      have sy1 := hbl1.size
      have hb20 : (besL ba D' sb).length ≤ 1048576 := by
        cases ba
        · simp [besL]
        · have := besN_len D'.fv sb D'.nv
          show (besN D'.fv sb D'.nv).length ≤ 1048576
          omega
      have L1 : Hid (Lst Y1.heap.size Y1 v1 (besL ba D' sb).length 1 (cS (nthB (besL ba D' sb)))) := own_txs hown1 hb20
      have c1 : Hid (Y1.heap[gb]? = some (.cells #[.slice p0 m0 d0, .slice p1 m1 d1, .slice p2 m2 d2, .slice p3 m3 d3] 28 (0, 0))) := (hbl1.block gb (Nat.lt_of_lt_of_le lgb sd0)).trans BKb.out
      clear hown1 hbl1
      refine ⟨_, rfl, c1.out, ?_⟩
      simp only [Act.put, List.setIfInBounds_toArray, List.set_cons_zero, List.set_cons_succ]
      refine callHd (f := 1) (i := 5) ⟨rfl, rfl⟩ (by decide) (by kernel_rfl) rfl ?cc ((besideS_any Vb.heap.size _ _ _ _ D' sb Y1 (PB.out _ bd1.out) (by omega) hz' (by omega)).mono ?_)
      case cc => go_simp
      rintro _ Y2 ⟨v2, bb, rfl, hbb, hown2, hbl2⟩
      have ebb : bb = ba := by rw [Bool.eq_iff_iff, hbb, hba]
      subst ebb
      have bd2 : Hid (Below Vb.heap.size Vb Y2) := bd1.out.trans (hbl2.mono (by omega))
      have sy2 := hbl2.size
      have L2 : Hid (Lst Y2.heap.size Y2 v2 (besL bb D' sb).length 1 (cS (nthB (besL bb D' sb)))) := own_txs hown2 hb20
      have L1' : Hid (Lst Y1.heap.size Y2 v1 (besL bb D' sb).length 1 (cS (nthB (besL bb D' sb)))) := L1.out.kept hbl2 (Nat.le_refl _)
      have c2 : Hid (Y2.heap[gb]? = some (.cells #[.slice p0 m0 d0, .slice p1 m1 d1, .slice p2 m2 d2, .slice p3 m3 d3] 28 (0, 0))) := (hbl2.block gb (Nat.lt_of_lt_of_le (Nat.lt_of_lt_of_le lgb sd0) sy1)).trans c1.out
      clear hown2 hbl2
      refine ⟨_, rfl, c2.out, ?_⟩
      simp only [Act.put, List.setIfInBounds_toArray, List.set_cons_zero, List.set_cons_succ]
      refine callHd (f := 0) (i := 6) ⟨rfl, rfl⟩ (by decide) (by kernel_rfl) rfl ?cc ((txs_any Y1.heap.size Y2.heap.size v1 v2 _ _ Y2 L1'.out L2.out).mono ?_)
      case cc => go_simp
      rintro _ Y3 ⟨rfl, hbl3⟩
      rw [decide_eq_true rfl]
      have bd3 : Hid (Below w.heap.size w Y3) := BVb.out.trans ((bd2.out.trans (hbl3.mono (by omega))).mono sVb)
      refine ⟨_, rfl, (hbl3.block gb (Nat.lt_of_lt_of_le (Nat.lt_of_lt_of_le (Nat.lt_of_lt_of_le lgb sd0) sy1) sy2)).trans c2.out, ?_⟩
      simp only [Act.put, List.setIfInBounds_toArray, List.set_cons_zero, List.set_cons_succ]
      refine ⟨by kernel_rfl, ?_⟩
      simp only [List.drop_succ_cons, List.drop_zero]
      go_wp2_with fail
      go_ret
      exact ⟨rfl, bd3.out⟩
    have hlqi : ((q : Int) < (nl : Int)) := by omega
    have hlqd : decide ((q : Int) < (nl : Int)) = true := by simp; omega
    have hqZ : q < Z.length := by have := EZ.out; omega
    have hqZ' : q < Z'.length := by have := EZ'.out; omega
    obtain ⟨oa, cap, hv, _, hc⟩ := (RL.out W3 (Below.refl _ _)).out
    injection hv with e1 e2 e3
    obtain ⟨bl, fl, e4, _, _⟩ := hc q hqZ
    rw [e4] at e1
    subst e1
    obtain ⟨oa', cap', hv', _, hc'⟩ := (RW.out W3 (Below.refl _ _)).out
    injection hv' with e1 e5 e6
    obtain ⟨bw, fw, e7, _, _⟩ := hc' q hqZ'
    rw [e7] at e1
    subst e1
    clear e2 e3 e4 e5 e6 e7 hc hc'
    have LC : Hid (∀ u, Below W3.heap.size W3 u → ∀ t, t < nl → u.cell? ⟨bl, fl + t * 2, none⟩ = some (nthZ Z t).u ∧ u.cell? ⟨bl, fl + t * 2 + 1, none⟩ = some (nthZ Z t).v) := fun u hu t ht => by
      obtain ⟨_, _, hv, _, hc⟩ := (RL.out u hu).out
      injection hv with h1 h2 h3
      obtain ⟨b2, f2, h4, _, hcell⟩ := hc t (by have := EZ.out; omega)
      rw [h4] at h1
      injection h1 with h1
      injection h1 with h5 h6
      subst h5
      subst h6
      exact ⟨by simpa [cR] using hcell 0 (by omega), by simpa [cR] using hcell 1 (by omega)⟩
    have WC : Hid (∀ u, Below W3.heap.size W3 u → ∀ t, t < nl → u.cell? ⟨bw, fw + t * 2, none⟩ = some (nthZ Z' t).u ∧ u.cell? ⟨bw, fw + t * 2 + 1, none⟩ = some (nthZ Z' t).v) := fun u hu t ht => by
      obtain ⟨_, _, hv, _, hc⟩ := (RW.out u hu).out
      injection hv with h1 h2 h3
      obtain ⟨b2, f2, h4, _, hcell⟩ := hc t (by have := EZ'.out; omega)
      rw [h4] at h1
      injection h1 with h1
      injection h1 with h5 h6
      subst h5
      subst h6
      exact ⟨by simpa [cR] using hcell 0 (by omega), by simpa [cR] using hcell 1 (by omega)⟩
    have zm := nthZ_mem hqZ
    have zm' := nthZ_mem hqZ'
    have mq := map_at HZ.out hqZ
    have mq' := map_at HZ'.out hqZ'
    obtain ⟨r, hr⟩ : ∃ r, (nthZ Z q).r = r := ⟨_, rfl⟩
    have hr' : (nthZ Z' q).r = r := by
      rw [mq] at mq'
      injection mq' with e
      rw [← hr, e]
    have hmem : r ∈ rtL b' D s1 s2 := by rw [← hr]; exact map_mem HZ.out zm
    obtain ⟨hRt, hbt⟩ := HRT'.out r hmem
    have hVV := HI.out.1 hbt
    have hlen := HLEN.out r hmem
    have hRP := hRt.rtp hVV.1 hVV.2.1 hVV.2.2
    obtain ⟨k, hk⟩ : ∃ k, r.2.length = k := ⟨_, rfl⟩
    have hk1 : r.1.length = k + 1 := by have := hRt.len; omega
    have hkp : 1 ≤ k := by have := hRt.pos; omega
    obtain ⟨cu, eu, hcu⟩ := CP.out _ zm
    obtain ⟨cv, ev, hcv⟩ := CQ.out _ zm
    obtain ⟨cu', eu', hcu'⟩ := CP'.out _ zm'
    obtain ⟨cv', ev', hcv'⟩ := CQ'.out _ zm'
    generalize (nthZ Z q).g = g1 at eu
    generalize (nthZ Z q).h = g2 at ev
    generalize (nthZ Z' q).g = g3 at eu'
    generalize (nthZ Z' q).h = g4 at ev'
    have LPK : Hid (∀ u, Below W3.heap.size W3 u → Lst W3.heap.size u (.slice (some ⟨g1, 0, none⟩) r.1.length cu) r.1.length 1 (cS (nthB r.1)) ∧ Lst W3.heap.size u (.slice (some ⟨g2, 0, none⟩) r.2.length cv) r.2.length 1 (cS (nthB r.2))) := fun u hu => by
      have := (RL.out u hu).row _ zm
      rw [eu, ev, hr] at this
      exact this
    have LPK' : Hid (∀ u, Below W3.heap.size W3 u → Lst W3.heap.size u (.slice (some ⟨g3, 0, none⟩) r.1.length cu') r.1.length 1 (cS (nthB r.1)) ∧ Lst W3.heap.size u (.slice (some ⟨g4, 0, none⟩) r.2.length cv') r.2.length 1 (cS (nthB r.2))) := fun u hu => by
      have := (RW.out u hu).row _ zm'
      rw [eu', ev', hr'] at this
      exact this
    rw [hr, hk1] at eu hcu
    rw [hr, hk] at ev hcv
    rw [hr', hk1] at eu'
    rw [hr', hk] at ev'
    have EU1 := hidZ eu
    have EV1 := hidZ ev
    have EU2 := hidZ eu'
    have EV2 := hidZ ev'
    have HK1 := hidZ hk1
    have HK2 := hidZ hk
    have HRR := hidZ hr
    have HFST := hidZ hRt.fst
    have HLST := hidZ hRt.lst
    clear eu ev eu' ev' hk1 hk hr hr' mq mq' hcu' hcv' hcv zm zm'
    have hW := hbel.out.size
    obtain ⟨lu, lv⟩ := LC.out wr hbel.out q hlq
    obtain ⟨wu, wv⟩ := WC.out wr hbel.out q hlq
    rw [EU1.out] at lu
    rw [EV1.out] at lv
    rw [EU2.out] at wu
    rw [EV2.out] at wv
    go_upto_region 12 with fail
    have x0 := (cell_row (BOX3.out wr hbel.out) 0 (.slice o0 n0 c0) rfl).1
    have x1 := (cell_row (BOX3.out wr hbel.out) 1 (.slice o1 n1 c1) rfl).1
    have x2 := (cell_row (BOX3.out wr hbel.out) 2 (.slice o2 n2 c2) rfl).1
    have x3 := (cell_row (BOX3.out wr hbel.out) 3 (.slice o3 n3 c3) rfl).1
    obtain ⟨P1, Q1⟩ := LPK.out wr hbel.out
    obtain ⟨P2, Q2⟩ := LPK'.out wr hbel.out
    rw [HK1.out] at P1 P2
    rw [HK2.out] at Q1 Q2
    have HP1 : Hid (Lst W3.heap.size wr (.slice (some ⟨g1, 0, none⟩) (k + 1) cu) (k + 1) 1 (cS (nthB r.1))) := P1
    have HQ1 : Hid (Lst W3.heap.size wr (.slice (some ⟨g2, 0, none⟩) k cv) k 1 (cS (nthB r.2))) := Q1
    have TP1 : Hid (Lst W3.heap.size wr (.slice (some ⟨g1, 0, none⟩) (k + 1) cu) r.1.length 1 (cS (nthB r.1))) := by show Lst _ _ _ _ _ _; rw [HK1.out]; exact P1
    have TP2 : Hid (Lst W3.heap.size wr (.slice (some ⟨g3, 0, none⟩) (k + 1) cu') r.1.length 1 (cS (nthB r.1))) := by show Lst _ _ _ _ _ _; rw [HK1.out]; exact P2
    have TQ1 : Hid (Lst W3.heap.size wr (.slice (some ⟨g2, 0, none⟩) k cv) r.2.length 1 (cS (nthB r.2))) := by show Lst _ _ _ _ _ _; rw [HK2.out]; exact Q1
    have TQ2 : Hid (Lst W3.heap.size wr (.slice (some ⟨g4, 0, none⟩) k cv') r.2.length 1 (cS (nthB r.2))) := by show Lst _ _ _ _ _ _; rw [HK2.out]; exact Q2
    have PAW : Hid (PAt V.heap.size wr (.slice o0 n0 c0) (.slice o1 n1 c1) (.slice o2 n2 c2) (.slice o3 n3 c3) D) := PA3.out wr hbel.out
    have hVW : V.heap.size ≤ wr.heap.size := Nat.le_trans V3.out hW
    obtain ⟨_, _, hv, _, hcP⟩ := HP1.out
    cases hv
    obtain ⟨_, _, e', _, hf0⟩ := hcP 0 (by omega)
    cases e'
    obtain ⟨_, _, e', _, hf1⟩ := hcP k (by omega)
    cases e'
    have z0 : wr.cell? ⟨g1, 0, none⟩ = some (.string s1) := by have := hf0 0 (by omega); simpa [cS, HFST.out] using this
    have z1 : wr.cell? ⟨g1, k, none⟩ = some (.string s2) := by have := hf1 0 (by omega); rw [cS, ← HK2.out, HLST.out] at this; rw [← HK2.out]; simpa using this
    clear hcP hf0 hf1 P1 Q1 P2 Q2
    have hk14 : k ≤ 14 := by have := hlen.1; have := HK2.out; omega
    have hk9 : k + 1 ≤ 9223372036854775807 := by omega
    have hkk : (k : Int) < (k : Int) + 1 := by omega
    have hks : IntKind.i64.wrap ((k : Int) + 1 - 1) = (k : Int) := by simp [IntKind.wrap, IntKind.bits, IntKind.signed]; omega
    have hkn : (0 : Int) ≤ (k : Int) := by omega
    have hkw : IntKind.i64.wrap (k : Int) = (k : Int) := by simp [IntKind.wrap, IntKind.bits, IntKind.signed]; omega
    have hRP' : RtP D k (nthB r.1) (nthB r.2) := by have := hRP; rw [HK2.out] at this; exact this
    replace x0 := fun d os => cell_regrown x0 d os
    replace x1 := fun d os => cell_regrown x1 d os
    replace x2 := fun d os => cell_regrown x2 d os
    replace x3 := fun d os => cell_regrown x3 d os
    replace lu := fun d os => cell_regrown lu d os
    replace lv := fun d os => cell_regrown lv d os
    replace wu := fun d os => cell_regrown wu d os
    replace wv := fun d os => cell_regrown wv d os
    replace z0 := fun d os => cell_regrown z0 d os
    replace z1 := fun d os => cell_regrown z1 d os
    by_cases e0 : q = 0
    · have EQ0 : Hid (q = 0) := e0
      have h0d : decide ((0 : Int) < (q : Int)) = false := by simp; omega
      have h0n : ¬ ((0 : Int) < (q : Int)) := by omega
      have h0m : decide (0 < q) = false := by simp; omega
      clear e0
      refine wp_region_quiet_below (by kernel_rfl) (by kernel_rfl) ?_
      try simp only [List.append_eq, List.cons_append, List.nil_append]
      repeat (first | go_big_quiet_step (first | (with_reducible exact txs_q W3.heap.size W3.heap.size _ _ r.1 r.1 _ TP1.out TP2.out hW hW true (decide_eq_true rfl) _ _) | (with_reducible exact txs_q W3.heap.size W3.heap.size _ _ r.2 r.2 _ TQ1.out TQ2.out hW hW true (decide_eq_true rfl) _ _) | (with_reducible exact route_q V.heap.size W3.heap.size _ _ _ _ D _ _ k cu cv (nthB r.1) (nthB r.2) _ PAW.out HP1.out HQ1.out hVW hW hcu hz hVV.1 hRP' _ _)) | quiet_step (first | (with_reducible exact txs_q W3.heap.size W3.heap.size _ _ r.1 r.1 _ TP1.out TP2.out hW hW true (decide_eq_true rfl) _ _) | (with_reducible exact txs_q W3.heap.size W3.heap.size _ _ r.2 r.2 _ TQ1.out TQ2.out hW hW true (decide_eq_true rfl) _ _) | (with_reducible exact route_q V.heap.size W3.heap.size _ _ _ _ D _ _ k cu cv (nthB r.1) (nthB r.2) _ PAW.out HP1.out HQ1.out hVW hW hcu hz hVV.1 hRP' _ _)))
      refine wpQuiet_nil ?_
      intro _ hw'
      obtain ⟨⟨dq, osq⟩, hw''⟩ := hw'
      subst hw''
      have kq : Hid (Below W3.heap.size W3 (grow (redrawn wr dq) osq)) := hbel.out.trans ((below_regrown _ dq osq).mono (by have := hbel.out.size; omega))
      generalize grow (redrawn wr dq) osq = wr2 at kq ⊢
      clear x0 x1 x2 x3 lu lv wu wv z0 z1 HP1 HQ1 TP1 TP2 TQ1 TQ2 PAW hVW hW
      go_wp2_with fail
      go_loopw [12] (fun i wr => ∃ t : Nat, t ≤ q ∧ i = .int .i64 t ∧ Hid (Below W3.heap.size W3 wr)) (fun i _ => q - (intOf i).toNat)
      case atStart => exact ⟨0, Nat.zero_le _, rfl, kq⟩
      case round =>
        obtain ⟨t, ht, rfl, hbel3⟩ := hrel
        by_cases hlt : t < q
        case neg =>
          have hge : ¬ ((t : Int) < (q : Int)) := by omega
          have hged : decide ((t : Int) < (q : Int)) = false := by simp; omega
          go_wp2_with fail
          go_roundw
          case rel => exact ⟨q + 1, by omega, by go_num, hbel3⟩
          case measure => first | (simp [intOf]; done) | (simp [intOf]; omega)
        have hlti : ((t : Int) < (q : Int)) := by omega
        have hltd : decide ((t : Int) < (q : Int)) = true := by simp; omega
        have htn : t < nl := by omega
        have hti : ((t : Int) < (nl : Int)) := by omega
        have htZ : t < Z.length := by have := EZ.out; omega
        have tm := nthZ_mem htZ
        obtain ⟨ct, et, _⟩ := CQ.out _ tm
        have LQt := ((RL.out wr hbel3.out).row _ tm).2
        have mt := map_at HZ.out htZ
        have hne : decide ((nthZ Z t).r.2 = r.2) = false := by
          have mq := map_at HZ.out hqZ
          rw [HRR.out] at mq
          obtain ⟨b1, g1'⟩ := List.getElem?_eq_some_iff.1 mt
          obtain ⟨b2, g2'⟩ := List.getElem?_eq_some_iff.1 mq
          have := (List.pairwise_iff_getElem.1 HPW'.out t q b1 b2 hlt).2
          rw [g1', g2'] at this
          exact decide_eq_false this
        rw [et] at LQt
        generalize (nthZ Z t).h = g5 at et LQt
        generalize hrt : (nthZ Z t).r = rt at et LQt hne
        have hW3 := hbel3.out.size
        have TQt : Hid (Lst W3.heap.size wr (.slice (some ⟨g5, 0, none⟩) rt.2.length ct) rt.2.length 1 (cS (nthB rt.2))) := LQt
        have TQq : Hid (Lst W3.heap.size wr (.slice (some ⟨g2, 0, none⟩) k cv) r.2.length 1 (cS (nthB r.2))) := by
          have := (LPK.out wr hbel3.out).2
          show Lst _ _ _ _ _ _
          rw [HK2.out] at this ⊢; exact this
        have lt := (LC.out wr hbel3.out t htn).2
        have lv := (LC.out wr hbel3.out q hlq).2
        rw [et] at lt
        rw [EV1.out] at lv
        replace lt := fun d os => cell_regrown lt d os
        replace lv := fun d os => cell_regrown lv d os
        clear LQt et mt
        go_upto_region 17 with fail
        refine wp_region_quiet_below (by kernel_rfl) (by kernel_rfl) ?_
        try simp only [List.append_eq, List.cons_append, List.nil_append]
        repeat (first | go_big_quiet_step (with_reducible exact txs_q W3.heap.size W3.heap.size _ _ rt.2 r.2 _ TQt.out TQq.out hW3 hW3 false hne _ _) | quiet_step (with_reducible exact txs_q W3.heap.size W3.heap.size _ _ rt.2 r.2 _ TQt.out TQq.out hW3 hW3 false hne _ _))
        refine wpQuiet_nil ?_
        intro _ hw'
        obtain ⟨⟨dq, osq⟩, hw''⟩ := hw'
        subst hw''
        have kq9 : Hid (Below W3.heap.size W3 (grow (redrawn wr dq) osq)) := hbel3.out.trans ((below_regrown _ dq osq).mono (by have := hbel3.out.size; omega))
        generalize grow (redrawn wr dq) osq = wr9 at kq9 ⊢
        clear lt lv
        go_wp2_with fail
        go_roundw
        case rel => exact ⟨t + 1, by omega, by go_num, kq9⟩
        case measure => first | (simp [intOf]; done) | (simp [intOf]; omega)
    obtain ⟨j, rfl⟩ : ∃ j, q = j + 1 := ⟨q - 1, by omega⟩
    clear e0
    have hj : j < nl := by omega
    have hji : ((j : Int) < (nl : Int)) := by omega
    have hjZ : j < Z.length := by have := EZ.out; omega
    have jm := nthZ_mem hjZ
    obtain ⟨cj, ej, _⟩ := CQ.out _ jm
    have hle : (nthZ Z j).r.2.length ≤ k := by
      have mj := map_at HZ.out hjZ
      have mq := map_at HZ.out hqZ
      rw [HRR.out] at mq
      obtain ⟨b1, g1'⟩ := List.getElem?_eq_some_iff.1 mj
      obtain ⟨b2, g2'⟩ := List.getElem?_eq_some_iff.1 mq
      have := (List.pairwise_iff_getElem.1 HPW'.out j (j + 1) b1 b2 (by omega)).1
      rw [g1', g2', HK2.out] at this
      exact this
    have lj := (LC.out wr hbel.out j hj).2
    rw [ej] at lj
    generalize (nthZ Z j).h = g6 at ej lj
    generalize (nthZ Z j).r.2.length = kj at ej lj hle
    have hgt : decide ((k : Int) < (kj : Int)) = false := by simp; omega
    have hgt' : ¬ ((k : Int) < (kj : Int)) := by omega
    have h0p : decide (0 < (j : Int) + 1) = true := decide_eq_true (by omega)
    have h0q : (0 : Int) < (j : Int) + 1 := by omega
    have hjw : IntKind.i64.wrap (j : Int) = (j : Int) := by simp [IntKind.wrap, IntKind.bits, IntKind.signed]; omega
    have hjq : (j : Int) + 1 < (nl : Int) := by omega
    have hjqd : decide ((j : Int) + 1 < (nl : Int)) = true := by simp; omega
    replace lj := fun d os => cell_regrown lj d os
    clear ej jm
    refine wp_region_quiet_below (by kernel_rfl) (by kernel_rfl) ?_
    try simp only [List.append_eq, List.cons_append, List.nil_append]
    repeat (first | go_big_quiet_step (first | (with_reducible exact txs_q W3.heap.size W3.heap.size _ _ r.1 r.1 _ TP1.out TP2.out hW hW true (decide_eq_true rfl) _ _) | (with_reducible exact txs_q W3.heap.size W3.heap.size _ _ r.2 r.2 _ TQ1.out TQ2.out hW hW true (decide_eq_true rfl) _ _) | (with_reducible exact route_q V.heap.size W3.heap.size _ _ _ _ D _ _ k cu cv (nthB r.1) (nthB r.2) _ PAW.out HP1.out HQ1.out hVW hW hcu hz hVV.1 hRP' _ _)) | quiet_step (first | (with_reducible exact txs_q W3.heap.size W3.heap.size _ _ r.1 r.1 _ TP1.out TP2.out hW hW true (decide_eq_true rfl) _ _) | (with_reducible exact txs_q W3.heap.size W3.heap.size _ _ r.2 r.2 _ TQ1.out TQ2.out hW hW true (decide_eq_true rfl) _ _) | (with_reducible exact route_q V.heap.size W3.heap.size _ _ _ _ D _ _ k cu cv (nthB r.1) (nthB r.2) _ PAW.out HP1.out HQ1.out hVW hW hcu hz hVV.1 hRP' _ _)))
    refine wpQuiet_nil ?_
    intro _ hw'
    obtain ⟨⟨dq, osq⟩, hw''⟩ := hw'
    subst hw''
    have kq : Hid (Below W3.heap.size W3 (grow (redrawn wr dq) osq)) := hbel.out.trans ((below_regrown _ dq osq).mono (by have := hbel.out.size; omega))
    generalize grow (redrawn wr dq) osq = wr2 at kq ⊢
    clear x0 x1 x2 x3 lu lv wu wv z0 z1 HP1 HQ1 TP1 TP2 TQ1 TQ2 PAW hVW hW
    clear lj
    go_wp2_with fail
    go_loopw [12] (fun i wr => ∃ t : Nat, t ≤ (j + 1) ∧ i = .int .i64 t ∧ Hid (Below W3.heap.size W3 wr)) (fun i _ => (j + 1) - (intOf i).toNat)
    case atStart => exact ⟨0, Nat.zero_le _, rfl, kq⟩
    case round =>
      obtain ⟨t, ht, rfl, hbel3⟩ := hrel
      by_cases hlt : t < (j + 1)
      case neg =>
        have hge : ¬ ((t : Int) < ((j : Int) + 1)) := by omega
        have hged : decide ((t : Int) < ((j : Int) + 1)) = false := by simp; omega
        go_wp2_with fail
        go_roundw
        case rel => exact ⟨(j + 1) + 1, by omega, by go_num, hbel3⟩
        case measure => first | (simp [intOf]; done) | (simp [intOf]; omega)
      have hlti : ((t : Int) < ((j : Int) + 1)) := by omega
      have hltd : decide ((t : Int) < ((j : Int) + 1)) = true := by simp; omega
      have htn : t < nl := by omega
      have hti : ((t : Int) < (nl : Int)) := by omega
      have htZ : t < Z.length := by have := EZ.out; omega
      have tm := nthZ_mem htZ
      obtain ⟨ct, et, _⟩ := CQ.out _ tm
      have LQt := ((RL.out wr hbel3.out).row _ tm).2
      have mt := map_at HZ.out htZ
      have hne : decide ((nthZ Z t).r.2 = r.2) = false := by
        have mq := map_at HZ.out hqZ
        rw [HRR.out] at mq
        obtain ⟨b1, g1'⟩ := List.getElem?_eq_some_iff.1 mt
        obtain ⟨b2, g2'⟩ := List.getElem?_eq_some_iff.1 mq
        have := (List.pairwise_iff_getElem.1 HPW'.out t (j + 1) b1 b2 hlt).2
        rw [g1', g2'] at this
        exact decide_eq_false this
      rw [et] at LQt
      generalize (nthZ Z t).h = g5 at et LQt
      generalize hrt : (nthZ Z t).r = rt at et LQt hne
      have hW3 := hbel3.out.size
      have TQt : Hid (Lst W3.heap.size wr (.slice (some ⟨g5, 0, none⟩) rt.2.length ct) rt.2.length 1 (cS (nthB rt.2))) := LQt
      have TQq : Hid (Lst W3.heap.size wr (.slice (some ⟨g2, 0, none⟩) k cv) r.2.length 1 (cS (nthB r.2))) := by
        have := (LPK.out wr hbel3.out).2
        show Lst _ _ _ _ _ _
        rw [HK2.out] at this ⊢; exact this
      have lt := (LC.out wr hbel3.out t htn).2
      have lv := (LC.out wr hbel3.out (j + 1) hlq).2
      rw [et] at lt
      rw [EV1.out] at lv
      replace lt := fun d os => cell_regrown lt d os
      replace lv := fun d os => cell_regrown lv d os
      clear LQt et mt
      go_upto_region 17 with fail
      refine wp_region_quiet_below (by kernel_rfl) (by kernel_rfl) ?_
      try simp only [List.append_eq, List.cons_append, List.nil_append]
      repeat (first | go_big_quiet_step (with_reducible exact txs_q W3.heap.size W3.heap.size _ _ rt.2 r.2 _ TQt.out TQq.out hW3 hW3 false hne _ _) | quiet_step (with_reducible exact txs_q W3.heap.size W3.heap.size _ _ rt.2 r.2 _ TQt.out TQq.out hW3 hW3 false hne _ _))
      refine wpQuiet_nil ?_
      intro _ hw'
      obtain ⟨⟨dq, osq⟩, hw''⟩ := hw'
      subst hw''
      have kq9 : Hid (Below W3.heap.size W3 (grow (redrawn wr dq) osq)) := hbel3.out.trans ((below_regrown _ dq osq).mono (by have := hbel3.out.size; omega))
      generalize grow (redrawn wr dq) osq = wr9 at kq9 ⊢
      clear lt lv
      go_wp2_with fail
      go_roundw
      case rel => exact ⟨t + 1, by omega, by go_num, kq9⟩
      case measure => first | (simp [intOf]; done) | (simp [intOf]; omega)
end Go.Proofs.Ytgjcppdeljoimaa
