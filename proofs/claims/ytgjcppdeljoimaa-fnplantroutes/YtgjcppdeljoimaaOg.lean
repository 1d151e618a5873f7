import Derived.Test.YtgjcppdeljoimaaM39
import Derived.Test.YtgjcppdeljoimaaKv
namespace Go.Proofs.Ytgjcppdeljoimaa
open Go.RowKit Go.Shelf Go.Sort
attribute [local go_sem] Oper.semAt_some
theorem filt_snoc (p : RR → Bool) (l : List RR) (z : RR) : (l ++ [z]).filter p = l.filter p ++ (bif p z then [z] else []) := by
  rw [List.filter_append]
  cases h : p z <;> simp [h]
def zsE (to : ByteArray) (pre : List RY) : List RR := (pre.map RY.z).filter fun z => toB to z.r
def zsO (D : PD) (to : ByteArray) (pre : List RY) : List RR := (pre.map RY.z).filter fun z => goB D to z.r
theorem zsE_snoc (to : ByteArray) (pre : List RY) (s : RY) : zsE to (pre ++ [s]) = zsE to pre ++ (bif toB to s.r then [s.z] else []) := by
  unfold zsE; rw [List.map_append]; exact filt_snoc _ _ _
theorem zsO_snoc (D : PD) (to : ByteArray) (pre : List RY) (s : RY) : zsO D to (pre ++ [s]) = zsO D to pre ++ (bif goB D to s.r then [s.z] else []) := by
  unfold zsO; rw [List.map_append]; exact filt_snoc _ _ _
theorem zsE_map (to : ByteArray) (pre : List RY) : (zsE to pre).map (·.r) = (pre.map (·.r)).filter (toB to) := by
  unfold zsE
  rw [List.filter_map, List.map_map, List.filter_map]; rfl
theorem zsO_map (D : PD) (to : ByteArray) (pre : List RY) : (zsO D to pre).map (·.r) = (pre.map (·.r)).filter (goB D to) := by
  unfold zsO
  rw [List.filter_map, List.map_map, List.filter_map]; rfl
theorem zs_len (D : PD) (to : ByteArray) (pre : List RY) : (zsE to pre).length ≤ pre.length ∧ (zsO D to pre).length ≤ pre.length := by
  constructor
  · exact Nat.le_trans (List.length_filter_le _ _) (by simp)
  · exact Nat.le_trans (List.length_filter_le _ _) (by simp)
theorem enI_len {D : PD} {to : ByteArray} {ws : List RT} (hw : ∀ r ∈ ws, 0 < r.1.length ∧ r.1.Nodup) (hz : wei D ws ≤ 262144) (j : Nat) : (enI D to ws j).length ≤ 262144 := by
  have h1 : (enI D to ws j).Sublist (ws.flatMap fun w => (exN D w D.nv).filter (toB to)) := flat_take (fun w => (exN D w D.nv).filter (toB to)) ws j
  have h2 := wei_sub D h1
  have h3 := wei_flat (D := D) (toB to) ws hw
  exact Nat.le_trans (wei_len D _) (by omega)
theorem map_memG {Z : List RR} {O : List RT} (h : Z.map (·.r) = O) {z : RR} (hz : z ∈ Z) : z.r ∈ O := by rw [← h]; exact List.mem_map.2 ⟨z, hz, rfl⟩
theorem map_atG {Z : List RR} {O : List RT} (h : Z.map (·.r) = O) {j : Nat} (hj : j < Z.length) : O[j]? = some (nthZ Z j).r := by rw [← h, List.getElem?_map, nthZ_at hj]; rfl
theorem row_slice' {w : World} {base e size n : Nat} {v : Value} {xs : List Value} (h : w.ownsRow base e size v n xs) : ∃ o c, v = .slice o n c := by
  rcases h.2 with ⟨rfl, hn⟩ | ⟨g, cap, cur, rfl, _⟩
  · rw [hn]; exact ⟨_, _, rfl⟩
  · exact ⟨_, _, rfl⟩
def waR (s : RY) (W : World) : World := W.alloc (.cells #[.slice (some ⟨s.g, 0, none⟩) s.r.1.length s.cu, .slice (some ⟨s.h, 0, none⟩) s.r.2.length s.cv] 34)
theorem waR_below (s : RY) (W : World) : Below W.heap.size W (waR s W) := (Below.refl _ W).alloc (Nat.le_refl _) _
theorem waR_box (s : RY) (W : World) : (waR s W).heap[W.heap.size]? = some (.cells #[.slice (some ⟨s.g, 0, none⟩) s.r.1.length s.cu, .slice (some ⟨s.h, 0, none⟩) s.r.2.length s.cv] 34 (0, 0)) := heap_alloc_new W _
theorem fitZ_below (m k S : Nat) (z : RR) (W W' : World) (h : fitZ m k S z W) (hb : Below W.heap.size W W') : fitZ m k S z W' := ⟨h.1.below hb, h.2⟩
theorem sizes8 {D : PD} {fr : ByteArray} {r : RT} {q : Nat} (hV : D.V) (h : Way D fr r q) : (∀ i, i < r.1.length → (nthB r.1 i).size ≤ 1048576) ∧ ∀ i, i < r.2.length → (nthB r.2 i).size ≤ 1048576 := by
  constructor
  · intro i hi
    have hm : nthB r.1 i ∈ r.1 := List.mem_of_getElem? (i := i) (by simp [nthB, hi])
    have := place_size (x := nthB r.1 i) (by simpa using h.pl _ hm) hV.2.1.2
    omega
  · intro i hi
    have hm : nthB r.2 i ∈ r.2 := List.mem_of_getElem? (i := i) (by simp [nthB, hi])
    have := h.vs _ hm
    omega
set_option maxRecDepth 100000 in
set_option maxHeartbeats 32000000 in
theorem goOn_any (B q : Nat) (v0 v1 v2 v3 vw : Value) (D : PD) (fr to : ByteArray) (Zw : List RR) (ws : List RT) (w : World) (h : PAt B w v0 v1 v2 v3 D) (hw : RtsR B w vw Zw) (hzw : Zw.map (·.r) = ws) (hB : B ≤ w.heap.size) (hV : D.V) (hq : ∀ r ∈ ws, Way D fr r q) (hwei : wei D ws ≤ 262144) :
    Calls Try.prog 17 #[.agg #[v0, v1, v2, v3], vw, .string to] w fun e w' => ∃ ve vo Ze Zo, e = .returned (.tuple #[ve, vo]) ∧ Ze.map (·.r) = enW D to ws ∧ Zo.map (·.r) = otW D to ws ∧ RtsO w.heap.size w' ve Ze ∧ RtsL w.heap.size w' vo Zo ∧ Below w.heap.size w w' := by
  obtain ⟨i0, hi, hz0, hz1, hz2⟩ := info_parts infoR
  have H8 : Hid (∀ i, i < D.nv → (D.fv i).1.size ≤ 8 ∧ (D.fv i).2.1.size ≤ 8 ∧ (D.fv i).2.2.1.size ≤ 8) := V_sizes hV
  have HV : Hid D.V := hV
  have hnv : D.nv ≤ 18 := hV.2.2.1
  have hnp : D.np ≤ 14 := hV.2.1.1
  have HP : Hid (∀ w', Below w.heap.size w w' → PAt B w' v0 v1 v2 v3 D ∧ RtsR B w' vw Zw) := fun w' hb => ⟨h.kept hb hB, hw.kept hb hB⟩
  have WY : Hid (∀ z ∈ Zw, Way D fr z.r q) := fun z hz => hq _ (map_memG hzw hz)
  have GD : Hid (∀ r ∈ ws, 0 < r.1.length ∧ r.1.Nodup) := fun r hr => (hq r hr).good
  have WE : Hid (wei D ws ≤ 262144) := hwei
  have HZW : Hid (Zw.map (·.r) = ws) := hzw
  have hzl : Zw.length ≤ 262144 := by have := congrArg List.length hzw; have := wei_len D ws; simp at *; omega
  obtain ⟨ow, cw, rfl⟩ := slice_lst hw.out
  clear h hw hzw hq hwei hV
  refine (callsIn_wide (n := 9)).1 ?_
  refine callsIn_of_wp_marks Try.func17 rfl trivial ?_ rfl
  simp only [Try.ntmps17, List.size_toArray, List.length_cons, List.length_nil, Nat.reduceAdd, Nat.reduceSub, Array.replicate_succ, Array.replicate_zero, List.push_toArray, List.append_toArray, List.nil_append, List.cons_append]
  obtain ⟨W1, hW1⟩ : ∃ W1, W1 = (((w.alloc (.cells #[v0, v1, v2, v3] 28)).alloc (.cells #[.string to] 9)).alloc (.cells #[.slice none 0 0] 31)).alloc (.cells #[.slice none 0 0] 31) := ⟨_, rfl⟩
  have E1 : Hid (W1 = (((w.alloc (.cells #[v0, v1, v2, v3] 28)).alloc (.cells #[.string to] 9)).alloc (.cells #[.slice none 0 0] 31)).alloc (.cells #[.slice none 0 0] 31)) := hW1
  have s1 : W1.heap.size = w.heap.size + 4 := by rw [hW1]; simp
  have G0 : Hid (GI w v0 v1 v2 v3 to (.slice none 0 0) (.slice none 0 0) [] [] W1) := by
    have a1 : (w.alloc (.cells #[v0, v1, v2, v3] 28)).heap.size = w.heap.size + 1 := by simp
    have a2 : ((w.alloc (.cells #[v0, v1, v2, v3] 28)).alloc (.cells #[.string to] 9)).heap.size = w.heap.size + 2 := by simp
    have a3 : (((w.alloc (.cells #[v0, v1, v2, v3] 28)).alloc (.cells #[.string to] 9)).alloc (.cells #[.slice none 0 0] 31)).heap.size = w.heap.size + 3 := by simp
    refine ⟨?_, ?_, RtsO.nil _ _, RtsL.nil _ _, (fun k e => by cases e), ?_, ?_, ?_⟩
    · rw [hW1]; refine Boxed.alloc ?_ _; rw [← a2]; exact Boxed.new _ _ _
    · rw [hW1, ← a3]; exact Boxed.new _ _ _
    · rw [hW1]; exact ((((Below.refl _ _).alloc (Nat.le_refl _) _).alloc (by simp) _).alloc (by simp; omega) _).alloc (by simp; omega) _
    · rw [hW1]; exact (Below.heap_alloc _ _ _ (by simp; omega)).trans ((Below.heap_alloc _ _ _ (by simp; omega)).trans ((Below.heap_alloc _ _ _ (by simp)).trans (heap_alloc_new w _)))
    · rw [hW1]; refine Boxed.alloc (Boxed.alloc ?_ _) _; rw [← a1]; exact Boxed.new _ _ _
  clear hW1
  gi_upto_region 1 with fail
  rw [← E1.out]
  gi_wp2
  refine wpIn_loop (fun a W => ∃ (j : Nat) (ve vo : Value) (Ze Zo : List RR) (Ds : List Nat) (u9 u14 u15 u16 u17 u18 u19 u39 : Value), a = { tmps := #[.agg #[v0, v1, v2, v3], .slice ow Zw.length cw, .string to, .pointer (some ⟨w.heap.size, 0, none⟩), undef, .pointer (some ⟨w.heap.size + 1, 0, none⟩), .pointer (some ⟨w.heap.size + 1 + 1, 0, none⟩), .pointer (some ⟨w.heap.size + 1 + 1 + 1, 0, none⟩), undef, u9, undef, .slice ow Zw.length cw, .int .i64 Zw.length, .int .i64 j, u14, u15, u16, u17, u18, u19, undef, undef, undef, undef, undef, undef, undef, undef, undef, undef, undef, undef, undef, undef, undef, undef, undef, undef, undef, u39, undef, undef], defers := Ds.map markOf } ∧ j ≤ Zw.length ∧ Hid (GI w v0 v1 v2 v3 to ve vo Ze Zo W) ∧ Hid (Ze.map (·.r) = enI D to ws j) ∧ Hid (Zo.map (·.r) = goI D to ws j) ∧ w.heap.size + 4 ≤ W.heap.size ∧ Hid (MarksOk w.heap.size W Ds))
    (fun a _ => Zw.length - (intOf (a.tmps.getD 13 undef)).toNat) ?start ?round
  case start => exact ⟨0, _, _, [], [], [], _, _, _, _, _, _, _, _, rfl, Nat.zero_le _, G0, rfl, rfl, by omega, ⟨List.nodup_nil, fun _ h => by cases h⟩⟩
  case round =>
    clear G0 s1 E1
    rintro a W ⟨j, ve, vo, Ze, Zo, Ds, u9, u14, u15, u16, u17, u18, u19, u39, rfl, hj, hG, hZe, hZo, hsW, hmk⟩
    by_cases hlt : j < Zw.length
    · have hzm := nthZ_mem hlt
      have wj := WY.out _ hzm
      have RD := (HP.out W hG.out.bel).2
      have LR : Hid (Lst B W (nthZ Zw j).u (nthZ Zw j).r.1.length 1 (cS (nthB (nthZ Zw j).r.1)) ∧ Lst B W (nthZ Zw j).v (nthZ Zw j).r.2.length 1 (cS (nthB (nthZ Zw j).r.2))) := RD.row _ hzm
      obtain ⟨oa', cap', hvv, _, hcv⟩ := RD.out
      cases hvv
      obtain ⟨bl, fl, rfl, hbl, hcell⟩ := hcv j hlt
      obtain ⟨ou, cu, ov, cv, eu, ev⟩ := RD.slices hzm
      have e0 : W.cell? ⟨bl, fl + j * 2, none⟩ = some (.slice ou (nthZ Zw j).r.1.length cu) := by rw [← eu]; simpa [cR] using hcell 0 (by omega)
      have e1 : W.cell? ⟨bl, fl + j * 2 + 1, none⟩ = some (.slice ov (nthZ Zw j).r.2.length cv) := by rw [← ev]; simpa [cR] using hcell 1 (by omega)
      have EU : Hid ((nthZ Zw j).u = .slice ou (nthZ Zw j).r.1.length cu ∧ (nthZ Zw j).v = .slice ov (nthZ Zw j).r.2.length cv) := ⟨eu, ev⟩
      have hblW : bl < W.heap.size := by omega
      obtain ⟨x0, _⟩ := cell_row hG.out.p 0 _ rfl
      obtain ⟨x1, _⟩ := cell_row hG.out.p 1 _ rfl
      obtain ⟨x2, _⟩ := cell_row hG.out.p 2 _ rfl
      obtain ⟨x3, _⟩ := cell_row hG.out.p 3 _ rfl
      simp only [List.getElem_toArray, List.getElem_cons_zero, List.getElem_cons_succ] at x0 x1 x2 x3
      have hpl : w.heap.size < W.heap.size := (Array.getElem?_eq_some_iff.1 hG.out.p).1
      replace x0 := cell_past x0 hpl (.cells #[.slice ou (nthZ Zw j).r.1.length cu, .slice ov (nthZ Zw j).r.2.length cv] 34)
      replace x1 := cell_past x1 hpl (.cells #[.slice ou (nthZ Zw j).r.1.length cu, .slice ov (nthZ Zw j).r.2.length cv] 34)
      replace x2 := cell_past x2 hpl (.cells #[.slice ou (nthZ Zw j).r.1.length cu, .slice ov (nthZ Zw j).r.2.length cv] 34)
      replace x3 := cell_past x3 hpl (.cells #[.slice ou (nthZ Zw j).r.1.length cu, .slice ov (nthZ Zw j).r.2.length cv] 34)
      have WL : Hid ((nthZ Zw j).r.1.length = q + 1 ∧ (nthZ Zw j).r.2.length = q ∧ q + 1 ≤ D.np) := ⟨wj.len, wj.vlen, wj.short⟩
      have WJ : Hid (Way D fr (nthZ Zw j).r q) := wj
      clear hcell hcv eu ev wj
      gi_wp2_with (refine ⟨trivial, ?_⟩; gi_at_call 36; refine (callsIn_wide.2 (waysOn_any _ _ _ _ _ _ _)).mono ?_; rintro e w' ⟨rfl, rfl⟩)
      obtain ⟨W2, hW2⟩ : ∃ W2, W2 = ((W.alloc (.cells #[.slice ou (nthZ Zw j).r.1.length cu, .slice ov (nthZ Zw j).r.2.length cv] 34)).alloc (.cells #[v0, v1, v2, v3] 28)).alloc (.cells #[.slice ou (nthZ Zw j).r.1.length cu, .slice ov (nthZ Zw j).r.2.length cv] 34) := ⟨_, rfl⟩
      have E2 : Hid (W2 = ((W.alloc (.cells #[.slice ou (nthZ Zw j).r.1.length cu, .slice ov (nthZ Zw j).r.2.length cv] 34)).alloc (.cells #[v0, v1, v2, v3] 28)).alloc (.cells #[.slice ou (nthZ Zw j).r.1.length cu, .slice ov (nthZ Zw j).r.2.length cv] 34)) := hW2
      have s2 : W2.heap.size = W.heap.size + 1 + 1 + 1 := by rw [hW2]; simp
      have b2 : Below W.heap.size W W2 := by rw [hW2]; exact (((Below.refl _ _).alloc (Nat.le_refl _) _).alloc (by simp) _).alloc (by simp; omega) _
      have p2 : Hid (W2.heap[W.heap.size + 1]? = some (.cells #[v0, v1, v2, v3] 28 (0, 0))) := by
        have := heap_alloc_new (W.alloc (.cells #[.slice ou (nthZ Zw j).r.1.length cu, .slice ov (nthZ Zw j).r.2.length cv] 34)) (.cells #[v0, v1, v2, v3] 28)
        rw [World.size_alloc] at this
        rw [hW2]; exact (Below.heap_alloc _ _ _ (by simp)).trans this
      have r2 : Hid (W2.heap[W.heap.size + 1 + 1]? = some (.cells #[.slice ou (nthZ Zw j).r.1.length cu, .slice ov (nthZ Zw j).r.2.length cv] 34 (0, 0))) := by
        have := heap_alloc_new ((W.alloc (.cells #[.slice ou (nthZ Zw j).r.1.length cu, .slice ov (nthZ Zw j).r.2.length cv] 34)).alloc (.cells #[v0, v1, v2, v3] 28)) (.cells #[.slice ou (nthZ Zw j).r.1.length cu, .slice ov (nthZ Zw j).r.2.length cv] 34)
        rw [World.size_alloc, World.size_alloc] at this
        rw [hW2]; exact this
      have G2 : Hid (GI w v0 v1 v2 v3 to ve vo Ze Zo W2) := hG.out.below b2
      have mk2 : Hid (MarksOk w.heap.size W2 Ds) := ⟨hmk.out.once, fun E hE => ⟨(hmk.out.all E hE).1, (b2.block _ (Array.getElem?_eq_some_iff.1 (hmk.out.all E hE).2).1).trans (hmk.out.all E hE).2⟩⟩
      have hAt : Hid (ws[j]? = some (nthZ Zw j).r) := map_atG HZW.out hlt
      have SZ : Hid _ := sizes8 HV.out WJ.out
      have LN : Hid ((enI D to ws j).length ≤ 262144 ∧ (goI D to ws j).length ≤ 262144) := ⟨enI_len GD.out WE.out j, goI_len GD.out WE.out j⟩
      have LZ : Ze.length ≤ 262144 ∧ Zo.length ≤ 262144 := by
        have e1 := congrArg List.length hZe.out
        have e2 := congrArg List.length hZo.out
        have := LN.out
        simp only [List.length_map] at e1 e2
        omega
      rw [← E2.out]
      have kv := (HP.out W2 G2.out.bel)
      have HL2 : Hid (Lst w.heap.size W2 v3 D.nv 4 (cV D.fv) ∧ Lst w.heap.size W2 (.slice ou (nthZ Zw j).r.1.length cu) (nthZ Zw j).r.1.length 1 (cS (nthB (nthZ Zw j).r.1)) ∧ Lst w.heap.size W2 (.slice ov (nthZ Zw j).r.2.length cv) (nthZ Zw j).r.2.length 1 (cS (nthB (nthZ Zw j).r.2))) := by
        refine ⟨kv.1.v.up hB, ?_, ?_⟩
        · have := (kv.2.row _ hzm).1.up hB; rw [EU.out.1] at this; exact this
        · have := (kv.2.row _ hzm).2.up hB; rw [EU.out.2] at this; exact this
      have sw2 : w.heap.size ≤ W2.heap.size := by omega
      have LO : Hid (∀ k, (ve.ownBlock = some k ∨ vo.ownBlock = some k) → w.heap.size ≤ k ∧ k < W.heap.size) := fun k hk => by
        rcases hk with e | e
        · exact hG.out.e.own.lt k e
        · exact hG.out.o.own.lt k e
      clear hW2 x0 x1 x2 x3 e0 e1 b2 kv hG hmk
      refine wpIn_range_fit (F := Fence.wide) rfl (by omega) (gf := 64) (lb := #[.pointer (some ⟨W.heap.size + 1, 0, none⟩), .pointer (some ⟨W.heap.size + 1 + 1, 0, none⟩)]) rfl trivial (enters_of Try.func64 (by kernel_rfl) rfl)
        (ways_fit 8 (W.heap.size + 1) (W.heap.size + 1 + 1) w.heap.size (by omega) v0 v1 v2 v3 ou ov cu cv D (nthZ Zw j).r (ownE w.heap.size) W2 p2.out r2.out HL2.out.1 HL2.out.2.1 HL2.out.2.2 H8.out SZ.out.1 SZ.out.2 (by have := WL.out; omega) (by have := WL.out; omega) (by have := WL.out; omega) sw2)
        (fun S x W l o o' => fitZ_put _ _ S x.z W l o o') (Below.refl _ _) (fun _ => rfl) ?no sw2
        (fun pre X => (∃ ve vo, GI w v0 v1 v2 v3 to ve vo (Ze ++ zsE to pre) (Zo ++ zsO D to pre) X) ∧ W2.heap.size ≤ X.heap.size)
        (fun pre A C row hs hg hr => by
          obtain ⟨⟨ve, vo, hgi⟩, hsz⟩ := hs
          exact ⟨⟨ve, vo, hgi.grow hg (fun r e => ⟨by have := (hr r e).1; omega, (hr r e).2⟩)⟩, Nat.le_trans hsz hg.size⟩)
        (fun pre X h => by obtain ⟨⟨ve, vo, hgi⟩, _⟩ := h; exact hgi.st)
        ⟨⟨ve, vo, by simpa [zsE, zsO] using G2.out⟩, Nat.le_refl _⟩
        (fun s X => { tmps := #[.agg #[v0, v1, v2, v3], .slice (some ⟨bl, fl, none⟩) Zw.length cw, .string to, .pointer (some ⟨w.heap.size, 0, none⟩), undef, .pointer (some ⟨w.heap.size + 1, 0, none⟩), .pointer (some ⟨w.heap.size + 1 + 1, 0, none⟩), .pointer (some ⟨w.heap.size + 1 + 1 + 1, 0, none⟩), undef, .pointer (some ⟨W.heap.size, 0, none⟩), .pointer (some ⟨X.heap.size, 0, none⟩), .slice (some ⟨bl, fl, none⟩) Zw.length cw, .int .i64 Zw.length, .int .i64 j, .bool true, .pointer (some ⟨bl, fl + j * 2, none⟩), .agg #[.slice ou (nthZ Zw j).r.1.length cu, .slice ov (nthZ Zw j).r.2.length cv], .agg #[v0, v1, v2, v3], .agg #[.slice ou (nthZ Zw j).r.1.length cu, .slice ov (nthZ Zw j).r.2.length cv], .func (.func 64) #[] #[.pointer (some ⟨W.heap.size + 1, 0, none⟩), .pointer (some ⟨W.heap.size + 1 + 1, 0, none⟩)], .agg #[.slice (some ⟨s.g, 0, none⟩) s.r.1.length s.cu, .slice (some ⟨s.h, 0, none⟩) s.r.2.length s.cv], undef, undef, undef, undef, undef, undef, undef, undef, undef, undef, undef, undef, undef, undef, undef, undef, undef, undef, u39, undef, undef], defers := [] })
        waR waR_below (fun S x W W' => fitZ_below _ _ S x.z W W') ?assign ?body ?done
      case no =>
        intro k hk ho
        rcases G2.out.own ho with rfl | rfl | e | e
        · omega
        · omega
        · have := LO.out k (.inl e); omega
        · have := LO.out k (.inr e); omega
      case assign =>
        intro l s X K hK
        gi_wp2
        exact hK
      case body =>
        rintro l pre s X0 W' V ⟨⟨ve0, vo0, g0⟩, hs0⟩ ⟨⟨ve, vo, gV⟩, hsV⟩ hfit ⟨kk, ob, ob', hko, hoc, hVe⟩ hpl
        have bL : V.heap[W'.heap.size]? = some (.cells #[(.slice (some ⟨s.g, 0, none⟩) s.r.1.length s.cu), (.slice (some ⟨s.h, 0, none⟩) s.r.2.length s.cv)] 34 (0, 0)) := by
          rw [hVe]
          refine (World.putObj_heap_other (fun e => ?_)).trans (waR_box s W')
          rw [← e, waR_box s W'] at hko
          cases hko; cases hoc
        have l0 := (cell_row bL 0 _ rfl).1
        have l1 := (cell_row bL 1 _ rfl).1
        simp only [List.getElem_toArray, List.getElem_cons_zero, List.getElem_cons_succ] at l0 l1
        have hbL := (Array.getElem?_eq_some_iff.1 bL).1
        obtain ⟨hRZ, hgh, hm1, hm2⟩ := hfit
        replace hm1 : s.r.1.length = (nthZ Zw j).r.1.length + 1 := hm1
        have HM : Hid (s.r.1.length = (nthZ Zw j).r.1.length + 1) := hm1
        have EL : Hid (lasB s.r = nthB s.r.1 (nthZ Zw j).r.1.length) := by show lasB s.r = _; unfold lasB; rw [hm1, Nat.add_sub_cancel]
        have GV : Hid (GI w v0 v1 v2 v3 to ve vo (Ze ++ zsE to pre) (Zo ++ zsO D to pre) V) := gV
        have RZ : Hid (RowZ X0.heap.size V s.z) := hRZ
        have LU : Hid (∀ w', Below V.heap.size V w' → Lst V.heap.size w' (.slice (some ⟨s.g, 0, none⟩) s.r.1.length s.cu) ((nthZ Zw j).r.1.length + 1) 1 (cS (nthB s.r.1))) := fun w' hb => by
          have h1 := (hRZ.p.lst (by have := WL.out; show s.r.1.length ≤ _; omega)).kept hb (Nat.le_refl _)
          rw [← HM.out]; exact h1
        have NB : Hid (s.g ≠ s.h ∧ s.g ∉ blkZ (Ze ++ zsE to pre) ∧ s.h ∉ blkZ (Ze ++ zsE to pre)) := by
          refine ⟨hgh, fun hm => ?_, fun hm => ?_⟩
          · have a1 := (g0.e.old hm).2; have a2 : X0.heap.size ≤ s.g := hRZ.p.blk.2; omega
          · have a1 := (g0.e.old hm).2; have a2 : X0.heap.size ≤ s.h := hRZ.q.blk.2; omega
        have sX0 : w.heap.size ≤ X0.heap.size := g0.bel.size
        have ZL := zs_len D to pre
        have zl1 : (Ze ++ zsE to pre).length ≤ 300000 := by rw [List.length_append]; omega
        have zl2 : (Zo ++ zsO D to pre).length ≤ 300000 := by rw [List.length_append]; omega
        have SE : Hid (zsE to (pre ++ [s]) = zsE to pre ++ (bif toB to s.r then [s.z] else [])) := zsE_snoc to pre s
        have SO : Hid (zsO D to (pre ++ [s]) = zsO D to pre ++ (bif goB D to s.r then [s.z] else [])) := zsO_snoc D to pre s
        have ct : V.cell? ⟨w.heap.size + 1, 0, none⟩ = some (.string to) := gV.t.cell
        have ql0 := fun d os => cell_regrown l0 d os
        have ql1 := fun d os => cell_regrown l1 d os
        have qct := fun d os => cell_regrown ct d os
        have sV2 : W2.heap.size ≤ V.heap.size := hsV
        clear g0 gV hRZ hgh hm1 hm2 hko hoc hVe bL hs0 hsV
        generalize hZE : Ze ++ zsE to pre = ZE at GV NB zl1
        generalize hZO : Zo ++ zsO D to pre = ZO at GV zl2
        have HZE : Hid (Ze ++ zsE to pre = ZE) := hZE
        have HZO : Hid (Zo ++ zsO D to pre = ZO) := hZO
        clear hZE hZO
        gi_wp2
        refine wpIn_region_mix 3 [0, 2] (by kernel_rfl) (by kernel_rfl) (by kernel_rfl) ?_
        simp only [List.filterMap_cons, List.filterMap_nil, List.getElem?_cons_succ, List.getElem?_cons_zero]
        repeat (first | go_big_quiet_step (fail) | quiet_step (fail))
        refine wpQuiet_nil ?_
        clear ql0 ql1 qct
        refine call1 (md := .any) (f := 0) (i := 1) (dc := 23) (fn := 37) ⟨rfl, rfl, rfl, by decide⟩ (by kernel_rfl) ?run ((last_any V.heap.size (.slice (some ⟨s.g, 0, none⟩) s.r.1.length s.cu) (.slice (some ⟨s.h, 0, none⟩) s.r.2.length s.cv) (nthZ Zw j).r.1.length (nthB s.r.1) V.drew (LU.out _ ((Below.refl _ _).drew)) (Nat.le_refl _)).mono ?_)
        case run => go_simp
        rintro e X2 ⟨rfl, hb2⟩
        rw [← EL.out]
        have bX2 : Below V.heap.size V X2 := ((Below.refl _ _).drew).trans hb2
        refine ⟨_, rfl, regrown_of_below bX2, ?_⟩
        refine ⟨by kernel_rfl, ?_⟩
        simp only [List.drop_succ_cons, List.drop_zero]
        simp only [Act.put, List.setIfInBounds_toArray, List.set_cons_zero, List.set_cons_succ]
        have GX : Hid (GI w v0 v1 v2 v3 to ve vo ZE ZO X2) := GV.out.below bX2
        have m0 := (bX2.cell (p := ⟨W'.heap.size, 0, none⟩) hbL).trans l0
        have m1 := (bX2.cell (p := ⟨W'.heap.size, 1, none⟩) hbL).trans l1
        have hbL2 : W'.heap.size < X2.heap.size := by have := bX2.size; omega
        have KV : Hid (KeepsOthers V X2 ∧ KpO (ownE w.heap.size) w.heap.size V X2) := GV.out.kpb bX2
        have RX : Hid (RowZ X0.heap.size X2 s.z) := RZ.out.below bX2
        have LX : Hid (∀ w', Below X2.heap.size X2 w' → Lst V.heap.size w' (.slice (some ⟨s.g, 0, none⟩) s.r.1.length s.cu) ((nthZ Zw j).r.1.length + 1) 1 (cS (nthB s.r.1))) := fun w' hb => LU.out w' (bX2.trans (hb.mono bX2.size))
        have sX2 : V.heap.size ≤ X2.heap.size := bX2.size
        clear l0 l1 ct hb2 bX2 hbL
        cases ht : toB to s.r
        · have ht' : ((lasB s.r).toList == to.toList) = false := ht
          obtain ⟨x0, _⟩ := cell_row GX.out.p 0 _ rfl
          obtain ⟨x1, _⟩ := cell_row GX.out.p 1 _ rfl
          obtain ⟨x2, _⟩ := cell_row GX.out.p 2 _ rfl
          obtain ⟨x3, _⟩ := cell_row GX.out.p 3 _ rfl
          simp only [List.getElem_toArray, List.getElem_cons_zero, List.getElem_cons_succ] at x0 x1 x2 x3
          have qx0 := fun d os => cell_regrown x0 d os
          have qx1 := fun d os => cell_regrown x1 d os
          have qx2 := fun d os => cell_regrown x2 d os
          have qx3 := fun d os => cell_regrown x3 d os
          have qm0 := fun d os => cell_regrown m0 d os
          have qm1 := fun d os => cell_regrown m1 d os
          gi_wp2
          refine wpIn_region_mix 3 [0, 1] (by kernel_rfl) (by kernel_rfl) (by kernel_rfl) ?_
          simp only [List.filterMap_cons, List.filterMap_nil, List.getElem?_cons_succ, List.getElem?_cons_zero]
          repeat (first | go_big_quiet_step (fail) | quiet_step (fail))
          refine wpQuiet_nil ?_
          clear qx0 qx1 qx2 qx3 qm0 qm1 x0 x1 x2 x3
          refine call1 (md := .any) (f := 0) (i := 2) (dc := 33) (fn := 37) ⟨rfl, rfl, rfl, by decide⟩ (by kernel_rfl) ?run ((last_any V.heap.size (.slice (some ⟨s.g, 0, none⟩) s.r.1.length s.cu) (.slice (some ⟨s.h, 0, none⟩) s.r.2.length s.cv) (nthZ Zw j).r.1.length (nthB s.r.1) X2.drew (LX.out _ ((Below.refl _ _).drew)) (by show V.heap.size ≤ X2.heap.size; omega)).mono ?_)
          case run => go_simp
          rintro e X3 ⟨rfl, hb3⟩
          rw [← EL.out]
          have bX3 : Below X2.heap.size X2 X3 := ((Below.refl _ _).drew).trans hb3
          refine ⟨_, rfl, regrown_of_below bX3, ?_⟩
          refine ⟨by kernel_rfl, ?_⟩
          simp only [List.drop_succ_cons, List.drop_zero]
          simp only [Act.put, List.setIfInBounds_toArray, List.set_cons_zero, List.set_cons_succ]
          have G3 : Hid (GI w v0 v1 v2 v3 to ve vo ZE ZO X3) := GX.out.below bX3
          have K3 : Hid (KeepsOthers X2 X3 ∧ KpO (ownE w.heap.size) w.heap.size X2 X3) := GX.out.kpb bX3
          have R3 : Hid (RowZ X0.heap.size X3 s.z) := RX.out.below bX3
          have n0 := (bX3.cell (p := ⟨W'.heap.size, 0, none⟩) hbL2).trans m0
          have n1 := (bX3.cell (p := ⟨W'.heap.size, 1, none⟩) hbL2).trans m1
          have hbL3 : W'.heap.size < X3.heap.size := by have := bX3.size; omega
          have LP : Hid (Lst B X3 v2 D.np 3 (cP D.fp)) := (HP.out X3 G3.out.bel).1.p
          have hBX : B ≤ X3.heap.size := by have := G3.out.bel.size; omega
          clear m0 m1 hb3 bX3
          cases hjt : jtB D s.r
          · have GO : Hid (goB D to s.r = false) := by show _ = _; unfold goB; rw [ht, hjt]; rfl
            have HT : Hid (toB to s.r = false) := ht
            have HJ : Hid (joiB D.np D.fp (lasB s.r) = false) := hjt
            clear ht hjt
            gi_wp2_with (refine ⟨trivial, ?_⟩; gi_at_call 38; refine (CallsIn.inRound l (callsIn_wide.2 (isJoint_any B _ _ _ _ D.np D.fp (lasB s.r) _ LP.out hBX))).mono ?_; rintro e X4 ⟨rfl, hb4⟩; rw [HJ.out])
            have K4 := G3.out.kpb hb4
            refine ⟨(KV.out.1.trans K3.out.1).trans K4.1, (KV.out.2.trans K3.out.2).trans K4.2, ⟨ve, vo, ?_⟩, ?_⟩
            · rw [SE.out, SO.out, HT.out, GO.out]
              simp only [cond_false, List.append_nil]
              rw [HZE.out, HZO.out]
              exact G3.out.below hb4
            · have := K4.1.size; have := K3.out.1.size; omega
          · have GO : Hid (goB D to s.r = true) := by show _ = _; unfold goB; rw [ht, hjt]; rfl
            have HT : Hid (toB to s.r = false) := ht
            have HJ : Hid (joiB D.np D.fp (lasB s.r) = true) := hjt
            clear ht hjt
            gi_wp2_with (first
              | (refine ⟨trivial, ?_⟩; gi_at_call 38; refine (CallsIn.inRound l (callsIn_wide.2 (isJoint_any B _ _ _ _ D.np D.fp (lasB s.r) _ LP.out hBX))).mono ?_; rintro e X4 ⟨rfl, hb4⟩; rw [HJ.out]; have G4 : Hid (GI w v0 v1 v2 v3 to ve vo ZE ZO X4) := G3.out.below hb4; have K4 : Hid (KeepsOthers X3 X4 ∧ KpO (ownE w.heap.size) w.heap.size X3 X4) := G3.out.kpb hb4; have b5 : Below X4.heap.size X4 (X4.alloc (.cells #[(.slice (some ⟨s.g, 0, none⟩) s.r.1.length s.cu), (.slice (some ⟨s.h, 0, none⟩) s.r.2.length s.cv)] 34)) := (Below.refl _ _).alloc (Nat.le_refl _) _; have G7 : Hid (GI w v0 v1 v2 v3 to ve vo ZE ZO (X4.alloc (.cells #[(.slice (some ⟨s.g, 0, none⟩) s.r.1.length s.cu), (.slice (some ⟨s.h, 0, none⟩) s.r.2.length s.cv)] 34))) := G4.out.below b5; have K7 : Hid (KeepsOthers X4 (X4.alloc (.cells #[(.slice (some ⟨s.g, 0, none⟩) s.r.1.length s.cu), (.slice (some ⟨s.h, 0, none⟩) s.r.2.length s.cv)] 34)) ∧ KpO (ownE w.heap.size) w.heap.size X4 (X4.alloc (.cells #[(.slice (some ⟨s.g, 0, none⟩) s.r.1.length s.cu), (.slice (some ⟨s.h, 0, none⟩) s.r.2.length s.cv)] 34))) := G4.out.kpb b5; have R7 : Hid (RowZ X0.heap.size (X4.alloc (.cells #[(.slice (some ⟨s.g, 0, none⟩) s.r.1.length s.cu), (.slice (some ⟨s.h, 0, none⟩) s.r.2.length s.cv)] 34)) s.z) := (R3.out.below hb4).below b5; have c7 : X4.cell? ⟨w.heap.size + 1 + 1 + 1, 0, none⟩ = some vo := G4.out.bo.cell; have p0 := (hb4.cell (p := ⟨W'.heap.size, 0, none⟩) hbL3).trans n0; have p1 := (hb4.cell (p := ⟨W'.heap.size, 1, none⟩) hbL3).trans n1; clear n0 n1 hb4 b5)
              | (gi_at_builtin; refine wpListIn_append_own_at _ rfl _ _ 31 rfl w.heap.size 34 i0 (.agg #[.slice none 0 0, .slice none 0 0]) 2 48 underR hi hz0 hz1 hz2 rfl (by decide) _ _ _ rfl G7.out.o.own ⟨X4.heap.size, 0, none⟩ 1 1 [(.slice (some ⟨s.g, 0, none⟩) s.r.1.length s.cu), (.slice (some ⟨s.h, 0, none⟩) s.r.2.length s.cv)] rfl rfl (cells_two _ _ _ _) (fun x hx => by simp at hx; rcases hx with rfl | rfl <;> rfl) (by unfold maxLen; omega) (by omega) G7.out.bel.size ?_; intro v' w8 hown' hgrow8 _ hloc8; have hv1 := G7.out.bo.kept hgrow8 (G7.out.bo.not_row (by decide) G7.out.o.own); have hc1 : w8.cell? ⟨w.heap.size + 1 + 1 + 1, 0, none⟩ = some vo := hv1.cell; have hf1 : w8.frozen? ⟨w.heap.size + 1 + 1 + 1, 0, none⟩ = false := hv1.frozen; obtain ⟨g', cap', rfl⟩ := ownsRow_succ hown'))
            obtain ⟨gi, ko, kp⟩ := G7.out.pushO (R7.out.le sX0) hown' hgrow8 hloc8
            refine ⟨(((KV.out.1.trans K3.out.1).trans K4.out.1).trans K7.out.1).trans ko, (((KV.out.2.trans K3.out.2).trans K4.out.2).trans K7.out.2).trans kp, ⟨ve, .slice (some ⟨g', 0, none⟩) (ZO.length + 1) cap', ?_⟩, ?_⟩
            · rw [SE.out, SO.out, HT.out, GO.out]
              simp only [cond_false, cond_true, List.append_nil]
              rw [HZE.out, ← List.append_assoc, HZO.out]
              exact gi
            · have a1 := ko.size; have a2 := K7.out.1.size; have a3 := K4.out.1.size; have a4 := K3.out.1.size
              exact Nat.le_trans (by omega) a1
        · have ht' : ((lasB s.r).toList == to.toList) = true := ht
          have HT : Hid (toB to s.r = true) := ht
          have GO : Hid (goB D to s.r = false) := by show _ = _; unfold goB; rw [ht]; rfl
          clear ht
          have b5 : Below X2.heap.size X2 (X2.alloc (.cells #[(.slice (some ⟨s.g, 0, none⟩) s.r.1.length s.cu), (.slice (some ⟨s.h, 0, none⟩) s.r.2.length s.cv)] 34)) := (Below.refl _ _).alloc (Nat.le_refl _) _
          have G7 : Hid (GI w v0 v1 v2 v3 to ve vo ZE ZO (X2.alloc (.cells #[(.slice (some ⟨s.g, 0, none⟩) s.r.1.length s.cu), (.slice (some ⟨s.h, 0, none⟩) s.r.2.length s.cv)] 34))) := GX.out.below b5
          have K7 : Hid (KeepsOthers X2 (X2.alloc (.cells #[(.slice (some ⟨s.g, 0, none⟩) s.r.1.length s.cu), (.slice (some ⟨s.h, 0, none⟩) s.r.2.length s.cv)] 34)) ∧ KpO (ownE w.heap.size) w.heap.size X2 (X2.alloc (.cells #[(.slice (some ⟨s.g, 0, none⟩) s.r.1.length s.cu), (.slice (some ⟨s.h, 0, none⟩) s.r.2.length s.cv)] 34))) := GX.out.kpb b5
          have R7 : Hid (RowZ X0.heap.size (X2.alloc (.cells #[(.slice (some ⟨s.g, 0, none⟩) s.r.1.length s.cu), (.slice (some ⟨s.h, 0, none⟩) s.r.2.length s.cv)] 34)) s.z) := RX.out.below b5
          have c7 : X2.cell? ⟨w.heap.size + 1 + 1, 0, none⟩ = some ve := GX.out.be.cell
          clear b5
          gi_wp2_with (gi_at_builtin; refine wpListIn_append_own_at _ rfl _ _ 31 rfl w.heap.size 34 i0 (.agg #[.slice none 0 0, .slice none 0 0]) 2 48 underR hi hz0 hz1 hz2 rfl (by decide) _ _ _ rfl G7.out.e.own ⟨X2.heap.size, 0, none⟩ 1 1 [(.slice (some ⟨s.g, 0, none⟩) s.r.1.length s.cu), (.slice (some ⟨s.h, 0, none⟩) s.r.2.length s.cv)] rfl rfl (cells_two _ _ _ _) (fun x hx => by simp at hx; rcases hx with rfl | rfl <;> rfl) (by unfold maxLen; omega) (by omega) G7.out.bel.size ?_; intro v' w8 hown' hgrow8 _ hloc8; have hv1 := G7.out.be.kept hgrow8 (G7.out.be.not_row (by decide) G7.out.e.own); have hc1 : w8.cell? ⟨w.heap.size + 1 + 1, 0, none⟩ = some ve := hv1.cell; have hf1 : w8.frozen? ⟨w.heap.size + 1 + 1, 0, none⟩ = false := hv1.frozen; obtain ⟨g', cap', rfl⟩ := ownsRow_succ hown')
          obtain ⟨gi, ko, kp⟩ := G7.out.pushE (R7.out.le sX0) NB.out.1 NB.out.2.1 NB.out.2.2 hown' hgrow8 hloc8
          refine ⟨(KV.out.1.trans K7.out.1).trans ko, (KV.out.2.trans K7.out.2).trans kp, ⟨.slice (some ⟨g', 0, none⟩) (ZE.length + 1) cap', vo, ?_⟩, ?_⟩
          · rw [SE.out, SO.out, HT.out, GO.out]
            simp only [cond_false, cond_true, List.append_nil]
            rw [HZO.out, ← List.append_assoc, HZE.out]
            exact gi
          · have a1 := ko.size; have a2 := K7.out.1.size
            exact Nat.le_trans (by omega) a1
      case done =>
        rintro E xs X hD hDX hS ⟨⟨ve', vo', gX⟩, hsX⟩ hK hko
        have HGX : Hid (GI w v0 v1 v2 v3 to ve' vo' (Ze ++ zsE to xs) (Zo ++ zsO D to xs) X) := gX
        have HE : Hid ((Ze ++ zsE to xs).map (·.r) = enI D to ws (j + 1)) := by show _ = _; rw [List.map_append, hZe.out, zsE_map, hS, enI_next D to hAt.out]
        have HO : Hid ((Zo ++ zsO D to xs).map (·.r) = goI D to ws (j + 1)) := by show _ = _; rw [List.map_append, hZo.out, zsO_map, hS, goI_next D to hAt.out]
        have HMK : Hid (MarksOk w.heap.size X (E :: Ds)) := by
          refine ⟨List.nodup_cons.2 ⟨fun hD' => ?_, mk2.out.once⟩, fun F hF => ?_⟩
          · have := (Array.getElem?_eq_some_iff.1 (mk2.out.all E hD').2).1
            omega
          · rcases List.mem_cons.1 hF with rfl | hF
            · exact ⟨by omega, hK⟩
            · exact ⟨(mk2.out.all F hF).1, hko.same F _ (mk2.out.all F hF).2 rfl⟩
        clear gX hS hK hko
        gi_wp2
        refine ⟨⟨j + 1, ve', vo', _, _, E :: Ds, _, _, _, _, _, _, _, _, rfl, by omega, HGX, HE, HO, by omega, HMK⟩, ?_⟩
        simp [intOf]; omega
    · obtain rfl : j = Zw.length := by omega
      obtain ⟨oe, ce, rfl⟩ := row_slice' hG.out.e.own
      obtain ⟨oo, co, rfl⟩ := row_slice' hG.out.o.own
      have c6 : W.cell? ⟨w.heap.size + 1 + 1, 0, none⟩ = some (.slice oe Ze.length ce) := hG.out.be.cell
      have f6 : W.frozen? ⟨w.heap.size + 1 + 1, 0, none⟩ = false := hG.out.be.frozen
      have c7 : W.cell? ⟨w.heap.size + 1 + 1 + 1, 0, none⟩ = some (.slice oo Zo.length co) := hG.out.bo.cell
      have f7 : W.frozen? ⟨w.heap.size + 1 + 1 + 1, 0, none⟩ = false := hG.out.bo.frozen
      have HGW : Hid (GI w v0 v1 v2 v3 to (.slice oe Ze.length ce) (.slice oo Zo.length co) Ze Zo W) := hG.out
      gi_wp2
      gi_region
      clear c6 c7 f6 f7
      obtain ⟨Y, hY⟩ : ∃ Y, Y = ((W.setCell ⟨w.heap.size + 1 + 1, 0, none⟩ (.slice oe Ze.length ce)).setCell ⟨w.heap.size + 1 + 1 + 1, 0, none⟩ (.slice oo Zo.length co)).drew := ⟨_, rfl⟩
      have b1 : Boxed (W.setCell ⟨w.heap.size + 1 + 1, 0, none⟩ (.slice oe Ze.length ce)) (w.heap.size + 1 + 1) 31 (.slice oe Ze.length ce) := HGW.out.be.set _
      have b2 : Boxed (W.setCell ⟨w.heap.size + 1 + 1, 0, none⟩ (.slice oe Ze.length ce)) (w.heap.size + 1 + 1 + 1) 31 (.slice oo Zo.length co) := HGW.out.bo.other (by omega) _
      have y1 : Boxed Y (w.heap.size + 1 + 1) 31 (.slice oe Ze.length ce) := by rw [hY]; exact b1.other (by omega) _
      have y2 : Boxed Y (w.heap.size + 1 + 1 + 1) 31 (.slice oo Zo.length co) := by rw [hY]; exact b2.set _
      have rk : RowsKept W Y := fun k c t z ht hk => by
        rw [hY]; exact rows_set b2 _ k c t z ht (rows_set HGW.out.be _ k c t z ht hk)
      have mkY : MarksOk w.heap.size Y Ds := by
        have m := marks_set (marks_set hmk.out HGW.out.be 0 (.slice oe Ze.length ce)) b2 0 (.slice oo Zo.length co)
        rw [hY]; exact ⟨m.once, m.all⟩
      have belY : Below w.heap.size w Y := by
        rw [hY]; exact ((HGW.out.bel.setCell (p := ⟨w.heap.size + 1 + 1, 0, none⟩) (by show w.heap.size ≤ w.heap.size + 1 + 1; omega) _).setCell (p := ⟨w.heap.size + 1 + 1 + 1, 0, none⟩) (by show w.heap.size ≤ w.heap.size + 1 + 1 + 1; omega) _).drew
      rw [← hY]
      gi_wp2
      refine leaves_marks (b := w.heap.size) Ds Y mkY ?_
      have z1 := (show Boxed (closeM Y Ds) (w.heap.size + 1 + 1) 31 (.slice oe Ze.length ce) from close_cells Ds Y mkY _ _ _ _ y1).cell
      have z2 := (show Boxed (closeM Y Ds) (w.heap.size + 1 + 1 + 1) 31 (.slice oo Zo.length co) from close_cells Ds Y mkY _ _ _ _ y2).cell
      have rk2 : RowsKept W (closeM Y Ds) := fun k c t z ht hk => close_cells Ds Y mkY k c t z (rk k c t z ht hk)
      have LW : ws.length = Zw.length := by have := congrArg List.length HZW.out; simpa using this.symm
      refine ⟨.tuple #[.slice oe Ze.length ce, .slice oo Zo.length co], by simp [results, Try.results17, go_sem, z1, z2], _, _, Ze, Zo, rfl, ?_, ?_, HGW.out.e.rows rk2, HGW.out.o.rows rk2, close_below Ds Y (fun D hD => (mkY.all D hD).1) belY⟩
      · rw [← enI_all, LW]; exact hZe.out
      · rw [← goI_all, LW]; exact hZo.out
end Go.Proofs.Ytgjcppdeljoimaa
