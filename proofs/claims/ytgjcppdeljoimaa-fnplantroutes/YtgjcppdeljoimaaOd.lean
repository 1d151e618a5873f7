import Derived.Test.YtgjcppdeljoimaaM39
import Derived.Test.YtgjcppdeljoimaaOc
namespace Go.Proofs.Ytgjcppdeljoimaa
open Go.RowKit Go.Sort
theorem own_slice {w : World} {base e size n : Nat} {v : Value} {xs : List Value} (h : w.ownsRow base e size v n xs) : ∃ o c, v = .slice o n c := by
  rcases h.2 with ⟨rfl, hn⟩ | ⟨g, cap, cur, rfl, _⟩
  · rw [hn]; exact ⟨_, _, rfl⟩
  · exact ⟨_, _, rfl⟩
theorem ves_place {D : PD} (hV : D.V) {x : ByteArray} (h : vesB D.np D.fp x = true) : 0 ≤ placeI D.np D.fp x := by
  have := (vesB_iff (V_places hV)).1 h
  unfold capI at this
  split at this <;> omega
theorem on_ways {D : PD} {to : ByteArray} {r e : RT} {k : Nat} (h : e ∈ onM D to r k) : ∃ i, i < k ∧ e = exV D r i := by
  unfold onM at h
  obtain ⟨i, hi, rfl⟩ := List.mem_map.1 h
  exact ⟨i, List.mem_range.1 (List.mem_filter.1 hi).1, rfl⟩
theorem map_mem {Z : List RR} {O : List RT} (h : Z.map (·.r) = O) {z : RR} (hz : z ∈ Z) : z.r ∈ O := by rw [← h]; exact List.mem_map.2 ⟨z, hz, rfl⟩
theorem map_at {Z : List RR} {O : List RT} (h : Z.map (·.r) = O) {j : Nat} (hj : j < Z.length) : O[j]? = some (nthZ Z j).r := by rw [← h, List.getElem?_map, nthZ_at hj]; rfl
set_option maxRecDepth 100000 in
set_option maxHeartbeats 16000000 in
theorem routesS_any (B : Nat) (v0 v1 v2 v3 : Value) (D : PD) (fr to : ByteArray) (w : World) (h : PAt B w v0 v1 v2 v3 D) (hB : B ≤ w.heap.size) (hz : D.Sz) :
    Calls Try.prog 6 #[.agg #[v0, v1, v2, v3], .string fr, .string to] w fun e w' => ∃ v b Z, e = .returned v ∧ (b = true ↔ D.V ∧ vesB D.np D.fp fr = true ∧ vesB D.np D.fp to = true) ∧ Z.map (·.r) = rtL b D fr to ∧ RtsO w.heap.size w' v Z ∧ Below w.heap.size w w' := by
  obtain ⟨i0, hi, hz0, hz1, hz2⟩ := info_parts infoR
  have H : Hid (∀ w', Below w.heap.size w w' → PAt B w' v0 v1 v2 v3 D) := fun w' hb => h.kept hb hB
  obtain ⟨o2, c2, rfl⟩ := slice_lst h.p
  clear h
  obtain ⟨W, hW⟩ : ∃ W, W = (w.alloc (.cells #[v0, v1, .slice o2 D.np c2, v3] 28)).alloc (.cells #[] 34) := ⟨_, rfl⟩
  have eW : Hid (W = (w.alloc (.cells #[v0, v1, .slice o2 D.np c2, v3] 28)).alloc (.cells #[] 34)) := hW
  have sW : w.heap.size + 1 + 1 ≤ W.heap.size := by rw [hW]; simp
  have kW : Hid (Below (w.heap.size + 1) W W) := Below.refl _ _
  have bx : Hid (∀ wr, Below (w.heap.size + 1) W wr → (wr.cell? ⟨w.heap.size, 0, none⟩ = some v0 ∧ wr.cell? ⟨w.heap.size, 1, none⟩ = some v1 ∧ wr.cell? ⟨w.heap.size, 2, none⟩ = some (.slice o2 D.np c2) ∧ wr.cell? ⟨w.heap.size, 3, none⟩ = some v3) ∧ Below w.heap.size w wr) := fun wr hb => by
    rw [hW] at hb
    have hb2 : Below (w.heap.size + 1) (w.alloc (.cells #[v0, v1, .slice o2 D.np c2, v3] 28)) wr := ((Below.refl _ _).alloc (by simp) _).trans hb
    exact ⟨⟨box_in hb2 0 _ rfl, box_in hb2 1 _ rfl, box_in hb2 2 _ rfl, box_in hb2 3 _ rfl⟩, below_end hb2⟩
  have S0 : Hid (RtsO (w.heap.size + 1) W (.slice (some ⟨w.heap.size + 1, 0, none⟩) 0 0) []) := by
    refine ⟨?_, fun z hz => by simp at hz, by simp [blkZ]⟩
    have := World.ownsRow_made (base := w.heap.size + 1) (e := 34) (size := 2) (w.alloc (.cells #[v0, v1, .slice o2 D.np c2, v3] 28)) #[] 0 (by simp) (Nat.zero_le _) rfl
    rw [← hW] at this
    simpa [celZ] using this
  clear hW
  go_enter Try.func6, Try.ntmps6
  go_upto_region 2 with fail
  rw [← eW.out]
  obtain ⟨⟨x0, x1, x2, x3⟩, hbw⟩ := bx.out W kW.out
  go_wp2_with fail
  refine (validS_any B v0 v1 _ v3 D _ (H.out W hbw) (Nat.le_trans hB hbw.size) hz).mono ?_; rintro e w1 ⟨b1, rfl, i1, hb1⟩
  have IS1 : Hid _ := i1
  have k1 : Hid (Below (w.heap.size + 1) W w1) := kW.out.trans (hb1.mono (by omega))
  have S1 : Hid (RtsO (w.heap.size + 1) w1 (.slice (some ⟨w.heap.size + 1, 0, none⟩) 0 0) []) := S0.out.below hb1
  clear i1 x0 x1 x2 x3 hbw hb1
  cases b1
  · go_wp2_with fail
    go_ret
    exact ⟨_, false, [], rfl, ⟨(fun h => by cases h), fun h => by have := IS1.out.2 h.1; cases this⟩, rfl, S1.out.le (by omega), (bx.out _ k1.out).2⟩
  have hV : Hid D.V := by have := IS1.out; simpa [Hid] using this
  cases hft : (fr.toList == to.toList)
  · obtain ⟨⟨x0, x1, x2, x3⟩, hbw⟩ := bx.out w1 k1.out
    have hs1 : w.heap.size + 1 ≤ w1.heap.size := by have := k1.out.size; omega
    go_wp2_with fail
    refine (capS_any B v0 v1 _ v3 D.np D.fp fr _ (H.out w1 hbw).p (by omega)).mono ?_; rintro e w2 ⟨rfl, hb2⟩
    have k2 : Hid (Below (w.heap.size + 1) W w2) := k1.out.trans (hb2.mono hs1)
    have S2 : Hid (RtsO (w.heap.size + 1) w2 (.slice (some ⟨w.heap.size + 1, 0, none⟩) 0 0) []) := S1.out.below hb2
    clear x0 x1 x2 x3 hbw hb2
    obtain ⟨⟨x0, x1, x2, x3⟩, hbw⟩ := bx.out w2 k2.out
    have hs2 : w.heap.size + 1 ≤ w2.heap.size := by have := k2.out.size; omega
    by_cases hc1 : capI D.np D.fp fr < 1
    · have VF : Hid (vesB D.np D.fp fr = false) := by show _ = _; rw [← Bool.not_eq_true, vesB_iff (V_places hV.out)]; omega
      go_wp2_with fail
      go_ret
      exact ⟨_, false, [], rfl, ⟨(fun h => by cases h), fun h => by rw [VF.out] at h; cases h.2.1⟩, rfl, S2.out.le (by omega), hbw⟩
    go_wp2_with fail
    refine (capS_any B v0 v1 _ v3 D.np D.fp to _ (H.out w2 hbw).p (by omega)).mono ?_; rintro e w3 ⟨rfl, hb3⟩
    have k3 : Hid (Below (w.heap.size + 1) W w3) := k2.out.trans (hb3.mono hs2)
    have S3 : Hid (RtsO (w.heap.size + 1) w3 (.slice (some ⟨w.heap.size + 1, 0, none⟩) 0 0) []) := S2.out.below hb3
    clear x0 x1 x2 x3 hbw hb3
    obtain ⟨⟨x0, x1, x2, x3⟩, hbw⟩ := bx.out w3 k3.out
    have hs3 : w.heap.size + 1 ≤ w3.heap.size := by have := k3.out.size; omega
    by_cases hc2 : capI D.np D.fp to < 1
    · have VT : Hid (vesB D.np D.fp to = false) := by show _ = _; rw [← Bool.not_eq_true, vesB_iff (V_places hV.out)]; omega
      go_wp2_with fail
      go_ret
      exact ⟨_, false, [], rfl, ⟨(fun h => by cases h), fun h => by rw [VT.out] at h; cases h.2.2⟩, rfl, S3.out.le (by omega), hbw⟩
    have VV : Hid (D.V ∧ vesB D.np D.fp fr = true ∧ vesB D.np D.fp to = true) := ⟨hV.out, (vesB_iff (V_places hV.out)).2 (by omega), (vesB_iff (V_places hV.out)).2 (by omega)⟩
    have HF : Hid (0 ≤ placeI D.np D.fp fr) := ves_place hV.out VV.out.2.1
    have WAYS : Hid (∀ q, ∀ r ∈ wayR D fr to q, Way D fr r q) := wayR_ways hV.out HF.out
    have WEI : Hid (∀ q, wei D (wayR D fr to q) ≤ 262144) := wei_ways hV.out HF.out
    have hnp : D.np ≤ 14 := hV.out.2.1.1
    have hnv : D.nv ≤ 18 := hV.out.2.2.1
    obtain ⟨U, hU⟩ : ∃ U, U = (w3.alloc (.cells #[.string fr] 9)).alloc (.cells #[.slice (some ⟨w3.heap.size, 0, none⟩) 1 1, .slice none 0 0] 34) := ⟨_, rfl⟩
    have eU : Hid (U = (w3.alloc (.cells #[.string fr] 9)).alloc (.cells #[.slice (some ⟨w3.heap.size, 0, none⟩) 1 1, .slice none 0 0] 34)) := hU
    have bU : Below w3.heap.size w3 U := by rw [hU]; exact ((Below.refl _ _).alloc (Nat.le_refl _) _).alloc (by simp) _
    have kU : Hid (Below (w.heap.size + 1) W U) := k3.out.trans (bU.mono hs3)
    have SU : Hid (RtsO (w.heap.size + 1) U (.slice (some ⟨w.heap.size + 1, 0, none⟩) 0 0) []) := S3.out.below bU
    have LU : Hid (RtsL (w.heap.size + 1) U (.slice (some ⟨w3.heap.size + 1, 0, none⟩) 1 1) [⟨([fr], []), .slice (some ⟨w3.heap.size, 0, none⟩) 1 1, .slice none 0 0, w3.heap.size, 0⟩] ∧ apV (.slice (some ⟨w.heap.size + 1, 0, none⟩) 0 0) (.slice (some ⟨w3.heap.size + 1, 0, none⟩) 1 1)) := by
      refine ⟨⟨?_, fun z hz => ?_⟩, fun k e1 e2 => ?_⟩
      · have := own_built (base := w.heap.size + 1) (e := 34) (size := 2) (k := 1) (w := w3.alloc (.cells #[.string fr] 9)) (c := #[.slice (some ⟨w3.heap.size, 0, none⟩) 1 1, .slice none 0 0]) (by simp; omega) (by unfold maxLen; omega) rfl
        rw [← hU] at this
        simpa [celZ] using this
      · simp at hz; subst hz
        refine ⟨⟨1, #[.string fr], rfl, by show w.heap.size + 1 ≤ w3.heap.size; omega, ?_, by simp, fun j hj => ?_⟩, .inr ⟨rfl, rfl⟩⟩
        · rw [hU]; exact (Below.heap_alloc _ _ _ (by simp)).trans (heap_alloc_new w3 _)
        · have : j = 0 := by simpa using hj
          subst this; rfl
      · simp [Value.ownBlock] at e1 e2
        have := S3.out.own.lt (w.heap.size + 1) rfl
        omega
    go_upto_region 5 with fail
    rw [← eU.out]
    clear hU bU x0 x1 x2 x3 hbw
    go_wp2_with fail
    go_loopw [7, 8, 9] (fun vo vl n wr => ∃ (q : Nat) (Zo Zl : List RR), q ≤ D.np ∧ n = .int .i64 q ∧ Hid (Zo.map (·.r) = (endR D fr to q).take 30) ∧ Hid (Zl.map (·.r) = wayR D fr to q) ∧ Hid (RtsO (w.heap.size + 1) wr vo Zo ∧ RtsL (w.heap.size + 1) wr vl Zl ∧ apV vo vl) ∧ Hid (Below (w.heap.size + 1) W wr)) (fun _ _ n _ => D.np - (intOf n).toNat)
    case atStart => exact ⟨0, [], [⟨([fr], []), .slice (some ⟨w3.heap.size, 0, none⟩) 1 1, .slice none 0 0, w3.heap.size, 0⟩], Nat.zero_le _, rfl, rfl, rfl, ⟨SU.out, LU.out.1, LU.out.2⟩, kU⟩
    case round =>
      obtain ⟨q, Zo, Zl, hq, rfl, hZo, hZl, hS, hbel⟩ := hrel
      obtain ⟨⟨x0, x1, x2, x3⟩, hbw⟩ := bx.out wr hbel.out
      have hsr : w.heap.size + 1 ≤ wr.heap.size := by have := hbel.out.size; omega
      have hol : Zo.length ≤ 30 := by have := congrArg List.length hZo.out; simp at this; omega
      have hll : Zl.length ≤ 262144 := by have := congrArg List.length hZl.out; have := wei_len D (wayR D fr to q); have := WEI.out q; simp at *; omega
      obtain ⟨ol, cl, rfl⟩ := own_slice hS.out.2.1.own
      have E30 : Hid (q = D.np ∨ wayR D fr to q = [] → (endR D fr to q).take 30 = rtL true D fr to) := fun hx => by
        show _ = (endR D fr to D.np).take 30
        rcases hx with h | h
        · rw [h]
        · exact end_take hq (.inl h)
      by_cases hlq : q < D.np
      · by_cases hlen : 0 < Zl.length
        · have hd1 : decide ((q : Int) < (D.np : Int)) = true := by simp; omega
          have WQ : Hid (wayR D fr to (q + 1) = otW D to (wayR D fr to q)) := rfl
          have EQ : Hid (endR D fr to (q + 1) = endR D fr to q ++ enW D to (wayR D fr to q)) := rfl
          have GD : Hid (∀ r ∈ wayR D fr to q, 0 < r.1.length ∧ r.1.Nodup) := fun r hr => (WAYS.out q r hr).good
          have WY : Hid (∀ z ∈ Zl, Way D fr z.r q) := fun z hz => WAYS.out q _ (map_mem hZl.out hz)
          have WE : Hid (wei D (wayR D fr to q) ≤ 262144) := WEI.out q
          generalize wayR D fr to q = ws at hZl WQ EQ GD WE E30
          have GL : Hid (∀ j, (goI D to ws j).length ≤ 262144) := fun j => goI_len GD.out WE.out j
          have b2 : Below wr.heap.size wr (wr.alloc (.cells #[] 34)) := (Below.refl _ _).alloc (Nat.le_refl _) _
          have T0 : Hid (Three (w.heap.size + 1) (wr.alloc (.cells #[] 34)) u7 (.slice (some ⟨wr.heap.size, 0, none⟩) 0 0) (.slice ol Zl.length cl) Zo [] Zl) := by
            have om : (wr.alloc (.cells #[] 34)).ownsRow wr.heap.size 34 2 (.slice (some ⟨wr.heap.size, 0, none⟩) 0 0) 0 [] := World.ownsRow_made wr #[] 0 (Nat.le_refl _) (Nat.zero_le _) rfl
            exact ⟨hS.out.1.below b2, ⟨own_leR om hsr, fun z hz => by simp at hz⟩, hS.out.2.1.below b2, (apV.fresh om (Nat.le_refl _) hS.out.1.own).symm, hS.out.2.2, apV.fresh om (Nat.le_refl _) hS.out.2.1.own⟩
          have k0 : Hid (Below (w.heap.size + 1) W (wr.alloc (.cells #[] 34))) := hbel.out.trans (b2.mono hsr)
          have EN0 : Hid ((endR D fr to q).take 30 = (endR D fr to q ++ enI D to ws 0).take 30) := by show _ = _; simp [enI]
          have hZo' : Hid (Zo.map (·.r) = (endR D fr to q ++ enI D to ws 0).take 30) := hZo.out.trans EN0.out
          clear b2 hbw hS hZo E30
          go_wp2_with fail
          clear x0 x1 x2 x3
          go_loopw [7, 10, 11] (fun vo vm i wi => ∃ (j : Nat) (Zo Zm : List RR), j ≤ Zl.length ∧ i = .int .i64 j ∧ Hid (Zo.map (·.r) = (endR D fr to q ++ enI D to ws j).take 30) ∧ Hid (Zm.map (·.r) = goI D to ws j) ∧ Hid (Three (w.heap.size + 1) wi vo vm (.slice ol Zl.length cl) Zo Zm Zl) ∧ Hid (Below (w.heap.size + 1) W wi)) (fun _ _ i _ => Zl.length - (intOf i).toNat)
          case atStart => exact ⟨0, Zo, [], Nat.zero_le _, rfl, hZo', rfl, T0, k0⟩
          case round =>
            clear hZo' EN0 T0 k0 hol hbel hsr
            obtain ⟨j, Zo, Zm, hj, rfl, hZo, hZm, hT, hbel⟩ := hrel
            obtain ⟨⟨x0, x1, x2, x3⟩, hbw⟩ := bx.out wr hbel.out
            have hsr : w.heap.size + 1 ≤ wr.heap.size := by have := hbel.out.size; omega
            by_cases hlj : j < Zl.length
            · have hzm := nthZ_mem hlj
              have wj := WY.out _ hzm
              have hAt : Hid (ws[j]? = some (nthZ Zl j).r) := map_at hZl.out hlj
              have RD : Hid (RtsR wr.heap.size wr (.slice ol Zl.length cl) Zl) := hT.out.l.read (by omega) (fun z hz => by have := (WY.out z hz).len; have := (WY.out z hz).vlen; omega)
              obtain ⟨oa', cap', hvv, _, hcv⟩ := RD.out.out
              cases hvv
              obtain ⟨bl, fl, rfl, hbl, hcell⟩ := hcv j hlj
              obtain ⟨ou, cu, ov, cv, eu, ev⟩ := RD.out.slices hzm
              have e0 : wr.cell? ⟨bl, fl + j * 2, none⟩ = some (.slice ou (nthZ Zl j).r.1.length cu) := by rw [← eu]; simpa [cR] using hcell 0 (by omega)
              have e1 : wr.cell? ⟨bl, fl + j * 2 + 1, none⟩ = some (.slice ov (nthZ Zl j).r.2.length cv) := by rw [← ev]; simpa [cR] using hcell 1 (by omega)
              have EU : Hid ((nthZ Zl j).u = .slice ou (nthZ Zl j).r.1.length cu) := eu
              have EV : Hid ((nthZ Zl j).v = .slice ov (nthZ Zl j).r.2.length cv) := ev
              have L1 : Hid ((nthZ Zl j).r.1.length = q + 1 ∧ (nthZ Zl j).r.2.length = q) := ⟨wj.len, wj.vlen⟩
              clear hcell hcv eu ev
              have qx0 := fun d os => cell_regrown x0 d os
              have qx1 := fun d os => cell_regrown x1 d os
              have qx2 := fun d os => cell_regrown x2 d os
              have qx3 := fun d os => cell_regrown x3 d os
              have qe0 := fun d os => cell_regrown e0 d os
              have qe1 := fun d os => cell_regrown e1 d os
              go_wp2_with fail
              refine wp_region_head_tail 6 (by kernel_rfl) (by kernel_rfl) ?_
              simp only [List.take_succ_cons, List.take_zero, List.drop_succ_cons, List.drop_zero]
              repeat (first | go_big_quiet_step (fail) | quiet_step (fail))
              refine wpQuiet_nil ?_
              intro _ hw'
              obtain ⟨⟨dq, osq⟩, hw''⟩ := hw'
              subst hw''
              have hbu : Hid (Below wr.heap.size wr (grow (redrawn wr dq) osq)) := below_regrown _ dq osq
              generalize grow (redrawn wr dq) osq = u at hbu ⊢
              have ku : Hid (Below (w.heap.size + 1) W u) := hbel.out.trans (hbu.out.mono hsr)
              have Tu : Hid (Three (w.heap.size + 1) u u7 u10 _ Zo Zm Zl) := hT.out.below hbu.out
              have Ru : Hid (RtsR wr.heap.size u _ Zl) := RD.out.kept hbu.out (Nat.le_refl _)
              have su : wr.heap.size ≤ u.heap.size := hbu.out.size
              clear x0 x1 x2 x3 qx0 qx1 qx2 qx3 qe0 qe1 e0 e1 hbw
              go_wp2_with fail
              refine (onS_any u.heap.size v0 v1 _ v3 _ _ D (nthZ Zl j).r to _ (by have hP := H.out u (bx.out u ku.out).2; exact ⟨hP.s.up (by omega), hP.f.up (by omega), hP.p.up (by omega), hP.v.up (by omega)⟩) (by rw [← EU.out]; exact (Ru.out.row _ hzm).1.up su) (by rw [← EV.out]; exact (Ru.out.row _ hzm).2.up su) (by rw [← EV.out]; exact Ru.out.none _ hzm) (Nat.le_refl _) hnv (by have := L1.out.1; omega) (by have := L1.out.1; omega) (by have := L1.out.2; omega)).mono ?_; rintro e w5 ⟨vn, Zn, rfl, hZn, hN, hb5⟩
              have HZN : Hid (Zn.map (·.r) = onM D to (nthZ Zl j).r D.nv) := hZn
              have k5 : Hid (Below (w.heap.size + 1) W w5) := ku.out.trans (hb5.mono (by omega))
              have F0 : Hid (Four (w.heap.size + 1) u.heap.size w5 u7 u10 _ vn Zo Zm Zl Zn 0) := ⟨Tu.out.below hb5, hN, (apV.fresh hN.own (Nat.le_refl _) Tu.out.o.own).symm, (apV.fresh hN.own (Nat.le_refl _) Tu.out.m.own).symm, by omega, fun x hx => .inl (Tu.out.o.old hx).2⟩
              have hnl : Zn.length ≤ 18 := by have := congrArg List.length hZn; have := onM_len D to (nthZ Zl j).r D.nv; simp at *; omega
              obtain ⟨onn, cn, rfl⟩ := own_slice hN.own
              have EXV : Hid (∀ z ∈ Zn, z.r.1.length = q + 1 + 1 ∧ z.r.2.length = q + 1) := fun z hz => by
                obtain ⟨i, _, e⟩ := on_ways (map_mem hZn hz)
                have := L1.out
                rw [e]; simp [exV]; exact this
              have GLj : Hid ((goI D to ws (j + 1)).length ≤ 262144) := GL.out (j + 1)
              have NE : Hid (endR D fr to q ++ enI D to ws (j + 1) = (endR D fr to q ++ enI D to ws j) ++ (onM D to (nthZ Zl j).r D.nv).filter (toB to)) := by show _ = _; rw [enI_next D to hAt.out, on_to hV.out, List.append_assoc]
              have NG : Hid (goI D to ws (j + 1) = goI D to ws j ++ (onM D to (nthZ Zl j).r D.nv).filter (fun e => !toB to e)) := by show _ = _; rw [goI_next D to hAt.out, on_go hV.out]
              generalize onM D to (nthZ Zl j).r D.nv = O at HZN NE NG
              have hZo0 : Hid (Zo.map (·.r) = ((endR D fr to q ++ enI D to ws j) ++ (O.take 0).filter (toB to)).take 30) := by show _ = _; rw [hZo.out]; simp
              have hZm0 : Hid (Zm.map (·.r) = goI D to ws j ++ (O.take 0).filter (fun e => !toB to e)) := by show _ = _; rw [hZm.out]; simp
              clear hb5 hZn hN hbu ku Ru Tu RD hZo hZm hT hbel EU EV
              generalize endR D fr to q ++ enI D to ws j = E at hZo0 NE
              generalize goI D to ws j = G at hZm0 NG
              go_wp2_with fail
              go_loopw [7, 10, 13] (fun vo vm kk wi => ∃ (k : Nat) (Zo Zm : List RR), k ≤ Zn.length ∧ kk = .int .i64 k ∧ Hid (Zo.map (·.r) = (E ++ (O.take k).filter (toB to)).take 30) ∧ Hid (Zm.map (·.r) = G ++ (O.take k).filter (fun e => !toB to e)) ∧ Hid (Four (w.heap.size + 1) u.heap.size wi vo vm (.slice (some ⟨bl, fl, none⟩) Zl.length cl) (.slice onn Zn.length cn) Zo Zm Zl Zn k) ∧ Hid (Below (w.heap.size + 1) W wi)) (fun _ _ kk _ => Zn.length - (intOf kk).toNat)
              case atStart => exact ⟨0, Zo, Zm, Nat.zero_le _, rfl, hZo0, hZm0, F0, k5⟩
              case round =>
                clear hZo0 hZm0 F0 k5 hsr
                obtain ⟨k, Zo, Zm, hk, rfl, hZo, hZm, hF, hbel⟩ := hrel
                have hsr : w.heap.size + 1 ≤ wr.heap.size := by have := hbel.out.size; omega
                have hol : Zo.length ≤ 30 := by have := congrArg List.length hZo.out; simp at this; omega
                by_cases hlk : k < Zn.length
                · have hzk := nthZ_mem hlk
                  have TK : Hid (O.take (k + 1) = O.take k ++ [(nthZ Zn k).r]) := take_map HZN.out hlk
                  have LZ : Hid ((nthZ Zn k).r.1.length = q + 1 + 1 ∧ (nthZ Zn k).r.2.length = q + 1) := EXV.out _ hzk
                  have hml : Zm.length < 2000000 := by
                    have e1 := congrArg List.length hZm.out
                    have e2 := congrArg List.length NG.out
                    have e3 := GLj.out
                    have e4 : ((O.take k).filter (fun e => !toB to e)).length ≤ 18 := Nat.le_trans (List.length_filter_le _ _) (by simp; omega)
                    simp only [List.length_map, List.length_append] at e1 e2
                    omega
                  obtain ⟨oa', cap', hvv, _, hcv⟩ := own_lstZ hF.out.n.own (by omega)
                  cases hvv
                  obtain ⟨bn, fn, rfl, hbn, hcell⟩ := hcv k hlk
                  obtain ⟨c1, cur1, eu, _, hg1, hs1, hc1'⟩ := (hF.out.n.row _ hzk).p
                  obtain ⟨c2', cur2, ev, _, hg2, _, _⟩ := (hF.out.n.row _ hzk).q
                  rw [LZ.out.1] at eu hs1 hc1'
                  rw [LZ.out.2] at ev
                  have e0 : wr.cell? ⟨bn, fn + k * 2, none⟩ = some (.slice (some ⟨(nthZ Zn k).g, 0, none⟩) (q + 1 + 1) c1) := by rw [← eu]; simpa [cR] using hcell 0 (by omega)
                  have e1 : wr.cell? ⟨bn, fn + k * 2 + 1, none⟩ = some (.slice (some ⟨(nthZ Zn k).h, 0, none⟩) (q + 1) c2') := by rw [← ev]; simpa [cR] using hcell 1 (by omega)
                  have el : lasB (nthZ Zn k).r = nthB (nthZ Zn k).r.1 (q + 1) := by unfold lasB; rw [LZ.out.1]; rfl
                  have e2 : wr.cell? ⟨(nthZ Zn k).g, q + 1, none⟩ = some (.string (lasB (nthZ Zn k).r)) := by rw [el]; exact (cell_row hg1 _ _ (hc1' (q + 1) (by omega))).1
                  have EUV : Hid ((nthZ Zn k).u = .slice (some ⟨(nthZ Zn k).g, 0, none⟩) (q + 1 + 1) c1 ∧ (nthZ Zn k).v = .slice (some ⟨(nthZ Zn k).h, 0, none⟩) (q + 1) c2') := ⟨eu, ev⟩
                  clear hcell hcv eu ev hg1 hs1 hc1' hg2 el
                  have qe0 := fun d os => cell_regrown e0 d os
                  have qe2 := fun d os => cell_regrown e2 d os
                  cases ht : toB to (nthZ Zn k).r
                  · have ht' : ((lasB (nthZ Zn k).r).toList == to.toList) = false := ht
                    have NO : Hid ((O.take (k + 1)).filter (toB to) = (O.take k).filter (toB to) ∧ (O.take (k + 1)).filter (fun e => !toB to e) = (O.take k).filter (fun e => !toB to e) ++ [(nthZ Zn k).r]) := by
                      constructor <;> rw [TK.out, List.filter_append] <;> simp [ht]
                    go_wp2_with fail
                    refine wp_region_quiet_below (by kernel_rfl) (by kernel_rfl) ?_
                    repeat (first | go_big_quiet_step (fail) | quiet_step (fail))
                    refine wpQuiet_nil ?_
                    intro _ hw'
                    obtain ⟨⟨dq, osq⟩, hw''⟩ := hw'
                    subst hw''
                    have hbu : Below wr.heap.size wr (grow (redrawn wr dq) osq) := below_regrown _ dq osq
                    have z0 := cell_regrown e0 dq osq
                    have z1 := cell_regrown e1 dq osq
                    generalize grow (redrawn wr dq) osq = y at hbu z0 z1 ⊢
                    have hsy : w.heap.size + 1 ≤ y.heap.size := by have := hbu.size; omega
                    have by2 : Below y.heap.size y (y.alloc (.cells #[.slice (some ⟨(nthZ Zn k).g, 0, none⟩) (q + 1 + 1) c1, .slice (some ⟨(nthZ Zn k).h, 0, none⟩) (q + 1) c2'] 34)) := (Below.refl _ _).alloc (Nat.le_refl _) _
                    have F2 : Hid (Four (w.heap.size + 1) u.heap.size (y.alloc (.cells #[.slice (some ⟨(nthZ Zn k).g, 0, none⟩) (q + 1 + 1) c1, .slice (some ⟨(nthZ Zn k).h, 0, none⟩) (q + 1) c2'] 34)) u7 u10 _ _ Zo Zm Zl Zn k) := (hF.out.below hbu).below by2
                    have ky : Hid (Below (w.heap.size + 1) W (y.alloc (.cells #[.slice (some ⟨(nthZ Zn k).g, 0, none⟩) (q + 1 + 1) c1, .slice (some ⟨(nthZ Zn k).h, 0, none⟩) (q + 1) c2'] 34))) := (hbel.out.trans (hbu.mono hsr)).trans (by2.mono hsy)
                    clear e0 e1 e2 qe0 qe2 hbu by2
                    go_wp2_with (first
                      | (at_builtin; refine wpList_append_own_at _ rfl _ _ 31 rfl (w.heap.size + 1) 34 i0 (.agg #[.slice none 0 0, .slice none 0 0]) 2 48 underR hi hz0 hz1 hz2 rfl (by decide) _ _ _ rfl F2.out.t.m.own ⟨y.heap.size, 0, none⟩ 1 1 [.slice (some ⟨(nthZ Zn k).g, 0, none⟩) (q + 1 + 1) c1, .slice (some ⟨(nthZ Zn k).h, 0, none⟩) (q + 1) c2'] rfl rfl (cells_two y _ _ _) (fun x hx => by simp at hx; rcases hx with rfl | rfl <;> rfl) (by unfold maxLen; omega) (by omega) (by simp; omega) ?_; intro v' w8 hown' hgrow8 hnil8 hloc8))
                    go_roundw
                    case rel =>
                      have RR : ∃ (k' : Nat) (Zo' Zm' : List RR), k' ≤ Zn.length ∧ Value.int .i64 ((k : Int) + 1) = .int .i64 (k' : Int) ∧ Hid (Zo'.map (·.r) = (E ++ (O.take k').filter (toB to)).take 30) ∧ Hid (Zm'.map (·.r) = G ++ (O.take k').filter (fun e => !toB to e)) ∧ Hid (Four (w.heap.size + 1) u.heap.size w8 u7 v' (.slice (some ⟨bl, fl, none⟩) Zl.length cl) (.slice (some ⟨bn, fn, none⟩) Zn.length cn) Zo' Zm' Zl Zn k') ∧ Hid (Below (w.heap.size + 1) W w8) :=
                        ⟨k + 1, Zo, Zm ++ [nthZ Zn k], by omega, by go_num, by show _ = _; rw [NO.out.1]; exact hZo.out, by show _ = _; rw [NO.out.2, List.map_append, hZm.out, List.append_assoc]; rfl, F2.out.pushM hlk (by rw [EUV.out.1, EUV.out.2]; exact hown') hgrow8 hloc8, ky.out.grown hgrow8 (by simp; omega) (fun p hp => (F2.out.t.m.own.lt p hp).1)⟩
                      first
                        | exact RR
                        | ((repeat apply Exists.intro); exact ⟨RR, rfl⟩)
                    case measure => simp [intOf]; omega
                  · have ht' : ((lasB (nthZ Zn k).r).toList == to.toList) = true := ht
                    have NO : Hid ((O.take (k + 1)).filter (toB to) = (O.take k).filter (toB to) ++ [(nthZ Zn k).r] ∧ (O.take (k + 1)).filter (fun e => !toB to e) = (O.take k).filter (fun e => !toB to e)) := by
                      constructor <;> rw [TK.out, List.filter_append] <;> simp [ht]
                    have hzl : ((E ++ (O.take k).filter (toB to)).take 30).length = Zo.length := by have := congrArg List.length hZo.out; simp at this ⊢; omega
                    obtain ⟨oo, co, ho7⟩ := own_slice hF.out.t.o.own
                    subst ho7
                    go_wp2_with fail
                    refine wp_region_quiet_below (by kernel_rfl) (by kernel_rfl) ?_
                    repeat (first | go_big_quiet_step (fail) | quiet_step (fail))
                    refine wpQuiet_nil ?_
                    intro _ hw'
                    obtain ⟨⟨dq, osq⟩, hw''⟩ := hw'
                    subst hw''
                    have hbu : Below wr.heap.size wr (grow (redrawn wr dq) osq) := below_regrown _ dq osq
                    have z0 := cell_regrown e0 dq osq
                    have z1 := cell_regrown e1 dq osq
                    generalize grow (redrawn wr dq) osq = y at hbu z0 z1 ⊢
                    have hsy : w.heap.size + 1 ≤ y.heap.size := by have := hbu.size; omega
                    by_cases h30 : Zo.length < 30
                    · have by2 : Below y.heap.size y (y.alloc (.cells #[.slice (some ⟨(nthZ Zn k).g, 0, none⟩) (q + 1 + 1) c1, .slice (some ⟨(nthZ Zn k).h, 0, none⟩) (q + 1) c2'] 34)) := (Below.refl _ _).alloc (Nat.le_refl _) _
                      have F2 : Hid (Four (w.heap.size + 1) u.heap.size (y.alloc (.cells #[.slice (some ⟨(nthZ Zn k).g, 0, none⟩) (q + 1 + 1) c1, .slice (some ⟨(nthZ Zn k).h, 0, none⟩) (q + 1) c2'] 34)) _ u10 _ _ Zo Zm Zl Zn k) := (hF.out.below hbu).below by2
                      have ky : Hid (Below (w.heap.size + 1) W (y.alloc (.cells #[.slice (some ⟨(nthZ Zn k).g, 0, none⟩) (q + 1 + 1) c1, .slice (some ⟨(nthZ Zn k).h, 0, none⟩) (q + 1) c2'] 34))) := (hbel.out.trans (hbu.mono hsr)).trans (by2.mono hsy)
                      have TL : Hid ((E ++ (O.take (k + 1)).filter (toB to)).take 30 = (E ++ (O.take k).filter (toB to)).take 30 ++ [(nthZ Zn k).r]) := by show _ = _; rw [NO.out.1, ← List.append_assoc]; exact take_lt (by omega)
                      clear e0 e1 e2 qe0 qe2 hbu by2
                      go_wp2_with (first
                        | (at_builtin; refine wpList_append_own_at _ rfl _ _ 31 rfl (w.heap.size + 1) 34 i0 (.agg #[.slice none 0 0, .slice none 0 0]) 2 48 underR hi hz0 hz1 hz2 rfl (by decide) _ _ _ rfl F2.out.t.o.own ⟨y.heap.size, 0, none⟩ 1 1 [.slice (some ⟨(nthZ Zn k).g, 0, none⟩) (q + 1 + 1) c1, .slice (some ⟨(nthZ Zn k).h, 0, none⟩) (q + 1) c2'] rfl rfl (cells_two y _ _ _) (fun x hx => by simp at hx; rcases hx with rfl | rfl <;> rfl) (by unfold maxLen; omega) (by omega) (by simp; omega) ?_; intro v' w8 hown' hgrow8 hnil8 hloc8))
                      go_roundw
                      case rel =>
                        have RR : ∃ (k' : Nat) (Zo' Zm' : List RR), k' ≤ Zn.length ∧ Value.int .i64 ((k : Int) + 1) = .int .i64 (k' : Int) ∧ Hid (Zo'.map (·.r) = (E ++ (O.take k').filter (toB to)).take 30) ∧ Hid (Zm'.map (·.r) = G ++ (O.take k').filter (fun e => !toB to e)) ∧ Hid (Four (w.heap.size + 1) u.heap.size w8 v' u10 (.slice (some ⟨bl, fl, none⟩) Zl.length cl) (.slice (some ⟨bn, fn, none⟩) Zn.length cn) Zo' Zm' Zl Zn k') ∧ Hid (Below (w.heap.size + 1) W w8) :=
                          ⟨k + 1, Zo ++ [nthZ Zn k], Zm, by omega, by go_num, by show _ = _; rw [TL.out, List.map_append, hZo.out]; rfl, by show _ = _; rw [NO.out.2]; exact hZm.out, F2.out.pushO hlk (by rw [EUV.out.1, EUV.out.2]; exact hown') hgrow8 hloc8, ky.out.grown hgrow8 (by simp; omega) (fun p hp => (F2.out.t.o.own.lt p hp).1)⟩
                        first
                          | exact RR
                          | ((repeat apply Exists.intro); exact ⟨RR, rfl⟩)
                      case measure => simp [intOf]; omega
                    · have F2 : Hid (Four (w.heap.size + 1) u.heap.size y _ u10 _ _ Zo Zm Zl Zn (k + 1)) := (hF.out.below hbu).skip hlk
                      have ky : Hid (Below (w.heap.size + 1) W y) := hbel.out.trans (hbu.mono hsr)
                      have TL : Hid ((E ++ (O.take (k + 1)).filter (toB to)).take 30 = (E ++ (O.take k).filter (toB to)).take 30) := by show _ = _; rw [NO.out.1, ← List.append_assoc]; exact take_ge (by omega)
                      clear e0 e1 e2 qe0 qe2 hbu
                      go_wp2_with fail
                      go_roundw
                      case rel => exact ⟨k + 1, Zo, Zm, by omega, by go_num, by show _ = _; rw [TL.out]; exact hZo.out, by show _ = _; rw [NO.out.2]; exact hZm.out, F2, ky⟩
                      case measure => simp [intOf]; omega
                · have ek : k = Zn.length := by omega
                  subst ek
                  have TA : Hid (O.take Zn.length = O) := by show _ = _; rw [← HZN.out, ← List.map_take, List.take_length]
                  go_wp2_with fail
                  go_roundw
                  case rel => exact ⟨j + 1, Zo, Zm, by omega, by go_num, by show _ = _; rw [NE.out, ← TA.out]; exact hZo.out, by show _ = _; rw [NG.out, ← TA.out]; exact hZm.out, hF.out.t, hbel⟩
                  case measure => simp [intOf]; omega
            · have ej : j = Zl.length := by omega
              subst ej
              have LW : Hid (ws.length = Zl.length) := by show _ = _; have := congrArg List.length hZl.out; simpa using this.symm
              go_wp2_with fail
              go_roundw
              case rel => exact ⟨q + 1, Zo, Zm, by omega, by go_num, by show _ = _; rw [EQ.out, ← enI_all, LW.out]; exact hZo.out, by show _ = _; rw [WQ.out, ← goI_all, LW.out]; exact hZm.out, ⟨hT.out.o, hT.out.m, hT.out.om⟩, hbel⟩
              case measure => simp [intOf]; omega
        · have hd1 : decide ((q : Int) < (D.np : Int)) = true := by simp; omega
          have hl0 : Zl.length = 0 := by omega
          have hd2 : decide ((0 : Int) < (Zl.length : Int)) = false := by rw [hl0]; rfl
          have WN : Hid (wayR D fr to q = []) := by show _ = _; have := congrArg List.length hZl.out; simp [hl0] at this; exact List.eq_nil_of_length_eq_zero this.symm
          go_wp2_with fail
          go_ret
          exact ⟨_, true, Zo, rfl, ⟨fun _ => VV.out, fun _ => rfl⟩, by rw [hZo.out]; exact E30.out (.inr WN.out), hS.out.1.le (by omega), hbw⟩
      · go_wp2_with fail
        go_ret
        exact ⟨_, true, Zo, rfl, ⟨fun _ => VV.out, fun _ => rfl⟩, by rw [hZo.out]; exact E30.out (.inl (by omega)), hS.out.1.le (by omega), hbw⟩
  · have FE : Hid (fr = to) := (eqB_iff fr to).1 hft
    go_wp2_with fail
    go_ret
    refine ⟨_, vesB D.np D.fp fr && vesB D.np D.fp to, [], rfl, ?_, ?_, S1.out.le (by omega), (bx.out _ k1.out).2⟩
    · simp only [Bool.and_eq_true]; exact ⟨fun h => ⟨hV.out, h⟩, fun h => h.2⟩
    · cases hb : (vesB D.np D.fp fr && vesB D.np D.fp to)
      · rfl
      · have h1 : vesB D.np D.fp fr = true := by simp only [Bool.and_eq_true] at hb; exact hb.1
        show [] = (endR D fr to D.np).take 30
        rw [end_same hV.out (ves_place hV.out h1) FE.out]; rfl
end Go.Proofs.Ytgjcppdeljoimaa
