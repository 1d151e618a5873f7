import Derived.Test.YtgjcppdeljoimaaM37
import Derived.Test.YtgjcppdeljoimaaM42
import Derived.Deep.Cut
namespace Go.Proofs.Ytgjcppdeljoimaa
open Go.RowKit Go.Sort
theorem underSS : Try.prog.underlying 23 = some (.slice 9) := by kernel_rfl
theorem elSS : ElT Try.prog 23 9 1 16 := by
  obtain ⟨i, hi, hz, h1, h2⟩ := info_parts info9b
  exact ⟨underSS, ⟨i, _, hi, hz, h1, h2, rfl⟩, by decide⟩
theorem nil_list : (⟨#[]⟩ : ByteArray).toList = [] := by simp
theorem str_one (l : List ByteArray) : ∀ u ∈ l.map Value.string, u.oneCell' = true := fun u hu => by obtain ⟨_, _, rfl⟩ := List.mem_map.1 hu; rfl
set_option maxRecDepth 100000 in
set_option maxHeartbeats 16000000 in
theorem onS_any (B : Nat) (v0 v1 v2 v3 ur vr : Value) (D : PD) (r : RT) (to : ByteArray) (w : World) (h : PAt B w v0 v1 v2 v3 D) (hr : Lst B w ur r.1.length 1 (cS (nthB r.1))) (hv : Lst B w vr r.2.length 1 (cS (nthB r.2))) (hnil : ∀ n c, vr = .slice none n c → c = 0)
    (hB : B ≤ w.heap.size) (hnv : D.nv ≤ 18) (h0 : 0 < r.1.length) (hl : r.1.length ≤ 1048576) (hl2 : r.2.length ≤ 1048576) :
    Calls Try.prog 20 #[.agg #[v0, v1, v2, v3], .agg #[ur, vr], .string to] w fun e w' => ∃ v Z, e = .returned v ∧ Z.map (·.r) = onM D to r D.nv ∧ RtsO w.heap.size w' v Z ∧ Below w.heap.size w w' := by
  obtain ⟨i0, hi, hz0, hz1, hz2⟩ := info_parts infoR
  obtain ⟨m, hm⟩ : ∃ m, r.1.length = m + 1 := ⟨r.1.length - 1, by omega⟩
  have HM : Hid (r.1.length = m + 1) := hm
  have EL : Hid (lasB r = nthB r.1 m) := by show lasB r = _; unfold lasB; rw [hm, Nat.add_sub_cancel]
  have HSP : Hid (∀ w', Below w.heap.size w w' → Src w' ur (m + 1) 1 (r.1.map .string) ∧ Src w' vr r.2.length 1 (r.2.map .string)) := fun w' hb => by
    have s1 := lst_src hr (fun n c e => by
      obtain ⟨oa, cap, e', _, hc⟩ := hr
      obtain ⟨b, off, e2, _⟩ := hc 0 h0
      rw [e', e2] at e; cases e)
    rw [hm] at s1
    exact ⟨s1.below hb, (lst_src hv hnil).below hb⟩
  have H : Hid (∀ w', Below w.heap.size w w' → PAt B w' v0 v1 v2 v3 D ∧ Lst B w' ur r.1.length 1 (cS (nthB r.1))) := fun w' hb => ⟨h.kept hb hB, hr.kept hb hB⟩
  obtain ⟨op, cp, rfl, hlp, hcp⟩ := hr
  obtain ⟨ov, cv, rfl⟩ := slice_lst hv
  obtain ⟨o3, c3, rfl⟩ := slice_lst h.v
  obtain ⟨bp, fp, rfl, hbp, hcm⟩ := hcp m (by omega)
  have hcm := hcm 0 (by omega)
  rw [Nat.mul_one, Nat.add_zero] at hcm
  simp only [cS] at hcm
  rw [← EL.out] at hcm
  rw [hm] at H hl ⊢
  rw [hm] at HSP
  clear h hv hcp hm h0 hnil hlp
  obtain ⟨W, hW⟩ : ∃ W, W = ((w.alloc (.cells #[v0, v1, v2, .slice o3 D.nv c3] 28)).alloc (.cells #[.slice (some ⟨bp, fp, none⟩) (m + 1) cp, .slice ov r.2.length cv] 34)).alloc (.cells #[] 34) := ⟨_, rfl⟩
  have eW : Hid (W = ((w.alloc (.cells #[v0, v1, v2, .slice o3 D.nv c3] 28)).alloc (.cells #[.slice (some ⟨bp, fp, none⟩) (m + 1) cp, .slice ov r.2.length cv] 34)).alloc (.cells #[] 34)) := hW
  have sW : W.heap.size = w.heap.size + 1 + 1 + 1 := by rw [hW]; simp
  have kW : Hid (Below (w.heap.size + 1 + 1) W W) := Below.refl _ _
  have BX : Hid (∀ wr, Below (w.heap.size + 1 + 1) W wr → ((wr.cell? ⟨w.heap.size, 0, none⟩ = some v0 ∧ wr.cell? ⟨w.heap.size, 1, none⟩ = some v1 ∧ wr.cell? ⟨w.heap.size, 2, none⟩ = some v2 ∧ wr.cell? ⟨w.heap.size, 3, none⟩ = some (.slice o3 D.nv c3)) ∧ wr.cell? ⟨w.heap.size + 1, 0, none⟩ = some (.slice (some ⟨bp, fp, none⟩) (m + 1) cp) ∧ wr.cell? ⟨w.heap.size + 1, 1, none⟩ = some (.slice ov r.2.length cv)) ∧ Below w.heap.size w wr) := fun wr hb => by
    have hp : W.heap[w.heap.size]? = some (.cells #[v0, v1, v2, .slice o3 D.nv c3] 28 (0, 0)) := by
      rw [hW]; exact (Below.heap_alloc _ _ _ (by simp; omega)).trans ((Below.heap_alloc _ _ _ (by simp)).trans (heap_alloc_new w _))
    have hq : W.heap[w.heap.size + 1]? = some (.cells #[.slice (some ⟨bp, fp, none⟩) (m + 1) cp, .slice ov r.2.length cv] 34 (0, 0)) := by
      have := heap_alloc_new (w.alloc (.cells #[v0, v1, v2, .slice o3 D.nv c3] 28)) (.cells #[.slice (some ⟨bp, fp, none⟩) (m + 1) cp, .slice ov r.2.length cv] 34)
      rw [World.size_alloc] at this
      rw [hW]; exact (Below.heap_alloc _ _ _ (by simp)).trans this
    have hp' := (hb.block w.heap.size (by omega)).trans hp
    have hq' := (hb.block (w.heap.size + 1) (by omega)).trans hq
    have hw : Below w.heap.size w W := by rw [hW]; exact (((Below.refl _ _).alloc (Nat.le_refl _) _).alloc (by simp) _).alloc (by simp; omega) _
    exact ⟨⟨⟨(cell_row hp' 0 _ rfl).1, (cell_row hp' 1 _ rfl).1, (cell_row hp' 2 _ rfl).1, (cell_row hp' 3 _ rfl).1⟩, (cell_row hq' 0 _ rfl).1, (cell_row hq' 1 _ rfl).1⟩, hw.trans (hb.mono (by omega))⟩
  have S0 : Hid (RtsO (w.heap.size + 1 + 1) W (.slice (some ⟨w.heap.size + 1 + 1, 0, none⟩) 0 0) []) := by
    refine ⟨?_, fun z hz => by simp at hz, by simp [blkZ]⟩
    have := World.ownsRow_made (base := w.heap.size + 1 + 1) (e := 34) (size := 2) ((w.alloc (.cells #[v0, v1, v2, .slice o3 D.nv c3] 28)).alloc (.cells #[.slice (some ⟨bp, fp, none⟩) (m + 1) cp, .slice ov r.2.length cv] 34)) #[] 0 (by simp) (Nat.zero_le _) rfl
    rw [← hW] at this
    simpa [celZ] using this
  have HCM : Hid (∀ wr, Below w.heap.size w wr → wr.cell? ⟨bp, fp + m, none⟩ = some (.string (lasB r))) := fun wr hb => (hb.cell (p := ⟨bp, fp + m, none⟩) (by show bp < _; omega)).trans hcm
  clear hW hcm
  go_enter Try.func20, Try.ntmps20
  go_upto_region 2 with fail
  rw [← eW.out]
  obtain ⟨⟨⟨x0, x1, x2, x3⟩, y0, y1⟩, hbw⟩ := BX.out W kW.out
  have z0 := HCM.out W hbw
  go_wp2_with fail
  clear x0 x1 x2 x3 y0 y1 hbw z0
  go_loopw [7, 9] (fun v i wr => ∃ (q : Nat) (Z : List RR), q ≤ D.nv ∧ i = .int .i64 q ∧ Hid (Z.map (·.r) = onM D to r q) ∧ Hid (RtsO (w.heap.size + 1 + 1) wr v Z) ∧ Hid (Below (w.heap.size + 1 + 1) W wr)) (fun _ i _ => D.nv - (intOf i).toNat)
  case atStart => exact ⟨0, [], Nat.zero_le _, rfl, rfl, S0, kW⟩
  case round =>
    obtain ⟨q, Z, hq, rfl, hZ, hS, hbel⟩ := hrel
    obtain ⟨⟨⟨x0, x1, x2, x3⟩, y0, y1⟩, hbw⟩ := BX.out wr hbel.out
    have hsr : w.heap.size + 1 + 1 + 1 ≤ wr.heap.size := by have := hbel.out.size; omega
    have hzl : Z.length ≤ 18 := by have := congrArg List.length hZ.out; have := onM_len D to r q; simp at *; omega
    by_cases hlq : q < D.nv
    · obtain ⟨oa', cap', hvv, _, hcv⟩ := (H.out wr hbw).1.v
      cases hvv
      obtain ⟨b, off, rfl, hbB, hcell⟩ := hcv q hlq
      have e0 : wr.cell? ⟨b, off + q * 4, none⟩ = some (.string (D.fv q).1) := by simpa [cV] using hcell 0 (by omega)
      have e1 : wr.cell? ⟨b, off + q * 4 + 1, none⟩ = some (.string (D.fv q).2.1) := by simpa [cV] using hcell 1 (by omega)
      have e2 : wr.cell? ⟨b, off + q * 4 + 2, none⟩ = some (.string (D.fv q).2.2.1) := by simpa [cV] using hcell 2 (by omega)
      have e3 : wr.cell? ⟨b, off + q * 4 + 3, none⟩ = some (.string (D.fv q).2.2.2) := by simpa [cV] using hcell 3 (by omega)
      have E0 : Hid (∀ w', Below wr.heap.size wr w' → w'.cell? ⟨b, off + q * 4, none⟩ = some (.string (D.fv q).1)) := fun w' hb => (hb.cell (p := ⟨b, off + q * 4, none⟩) (by show b < _; omega)).trans e0
      clear hcell hcv
      go_wp2_with fail
      refine (othS_any _ _ _ _ _ _).mono ?_; rintro e w1 ⟨rfl, hb1⟩
      rw [show behS ((D.fv q).1, (D.fv q).2.1, (D.fv q).2.2.1, (D.fv q).2.2.2) (lasB r) = nexB D r q from rfl]
      have k1 : Hid (Below (w.heap.size + 1 + 1) W w1) := hbel.out.trans (hb1.mono (by omega))
      have S1 : Hid (RtsO (w.heap.size + 1 + 1) w1 _ Z) := hS.out.below hb1
      have E1 : Hid (w1.cell? ⟨b, off + q * 4, none⟩ = some (.string (D.fv q).1)) := E0.out w1 hb1
      clear x0 x1 x2 x3 y0 y1 hbw e0 e1 e2 e3 E0 hb1 hsr
      obtain ⟨⟨⟨x0, x1, x2, x3⟩, y0, y1⟩, hbw⟩ := BX.out w1 k1.out
      have hs1 : w.heap.size + 1 + 1 + 1 ≤ w1.heap.size := by have := k1.out.size; omega
      cases hn : eqB (nexB D r q) ⟨#[]⟩
      · have hn' : ((nexB D r q).toList == ([] : List UInt8)) = false := by rw [← nil_list]; exact hn
        cases hh : hasB r.1.length (nthB r.1) (nexB D r q)
        · cases ht : eqB (nexB D r q) to
          · have ht' : ((nexB D r q).toList == to.toList) = false := ht
            cases hc : decide (0 < capI D.np D.fp (nexB D r q))
            · have OK : Hid (okM D to r q = true) := by show _ = _; unfold okM; rw [hn, hh, ht, hc]; rfl
              have hcc : ¬ (0 < capI D.np D.fp (nexB D r q)) := by simpa using hc
              have hcd : decide (0 < capI D.np D.fp (nexB D r q)) = false := hc
              go_wp2_with fail
              refine (hasS_b B _ r.1.length (nthB r.1) (nexB D r q) _ (by have := (H.out w1 hbw).2; rw [HM.out]; exact this)).mono ?_; rintro e w2 ⟨rfl, hb2⟩
              rw [hh]
              have k2 : Hid (Below (w.heap.size + 1 + 1) W w2) := k1.out.trans (hb2.mono (by omega))
              have S2 : Hid (RtsO (w.heap.size + 1 + 1) w2 _ Z) := S1.out.below hb2
              have E2 : Hid (w2.cell? ⟨b, off + q * 4, none⟩ = some (.string (D.fv q).1)) := (hb2.cell (p := ⟨b, off + q * 4, none⟩) (by show b < _; omega)).trans E1.out
              clear x0 x1 x2 x3 y0 y1 hbw hb2
              obtain ⟨⟨⟨x0, x1, x2, x3⟩, y0, y1⟩, hbw⟩ := BX.out w2 k2.out
              have hs2 : w.heap.size + 1 + 1 + 1 ≤ w2.heap.size := by have := k2.out.size; omega
              go_wp2_with fail
              refine (capS_any B v0 v1 v2 _ D.np D.fp (nexB D r q) _ (H.out w2 hbw).1.p (by omega)).mono ?_; rintro e w3 ⟨rfl, hb3⟩
              have k3 : Hid (Below (w.heap.size + 1 + 1) W w3) := k2.out.trans (hb3.mono (by omega))
              have S3 : Hid (RtsO (w.heap.size + 1 + 1) w3 _ Z) := S2.out.below hb3
              have E3 : Hid (w3.cell? ⟨b, off + q * 4, none⟩ = some (.string (D.fv q).1)) := (hb3.cell (p := ⟨b, off + q * 4, none⟩) (by show b < _; omega)).trans E2.out
              clear x0 x1 x2 x3 y0 y1 hbw hb3
              obtain ⟨⟨⟨x0, x1, x2, x3⟩, y0, y1⟩, hbw⟩ := BX.out w3 k3.out
              have hs3 : w.heap.size + 1 + 1 + 1 ≤ w3.heap.size := by have := k3.out.size; omega
              have qx3 := fun d os => cell_regrown x3 d os
              have qy0 := fun d os => cell_regrown y0 d os
              have qy1 := fun d os => cell_regrown y1 d os
              have qe0 := fun d os => cell_regrown E3.out d os
              have SRC : Hid (_ ∧ _) := HSP.out w3 hbw
              go_wp2_with fail
              refine wp_region_mix 22 [0, 2, 3, 5, 9, 10, 12, 13, 14, 15, 16, 17] (by kernel_rfl) (by kernel_rfl) ?_
              simp only [List.filterMap_cons, List.filterMap_nil, List.getElem?_cons_succ, List.getElem?_cons_zero]
              repeat (first | go_big_quiet_step (fail) | quiet_step (fail))
              refine wpQuiet_nil ?_
              clear x0 x1 x2 x3 y0 y1 hbw qx3 qy0 qy1 qe0
              refine rows_all (md := .any) [rowN 1 54 [] w3.heap.size 9 1 0 [], rowN 4 57 [1] w3.heap.size 9 1 (m + 1) (r.1.map .string), rowN 6 59 [] w3.heap.size 9 1 1 [.string (nexB D r q)], rowN 7 60 [4, 6] w3.heap.size 9 1 (m + 1 + 1) (r.1.map .string ++ [.string (nexB D r q)]), rowN 8 61 [] w3.heap.size 9 1 0 [], rowN 11 64 [8] w3.heap.size 9 1 r.2.length (r.2.map .string), rowN 18 71 [] w3.heap.size 9 1 1 [.string (D.fv q).1], rowN 19 72 [11, 18] w3.heap.size 9 1 (r.2.length + 1) (r.2.map .string ++ [.string (D.fv q).1]), pairN 20 73 [7, 19] w3.heap.size 9 1 (m + 1 + 1) (r.2.length + 1) (r.1.map .string ++ [.string (nexB D r q)]) (r.2.map .string ++ [.string (D.fv q).1]), elemN 21 74 [20] w3.heap.size 34 9 1 (m + 1 + 1) (r.2.length + 1) (r.1.map .string ++ [.string (nexB D r q)]) (r.2.map .string ++ [.string (D.fv q).1])] #[true, true, true, true, true, true, true, true, true, true, true, true, true, true, true, true, true, true, true, true, true, true, false, false] (by kernel_rfl) (by kernel_rfl) ?hop ?hok (by simp [rowN, pairN, elemN]) (by simp [rowN, pairN, elemN]) (by simp [rowN, pairN, elemN]) ?K
              case hop =>
                intro x hx
                simp only [List.mem_cons, List.not_mem_nil, or_false] at hx
                rcases hx with rfl | rfl | rfl | rfl | rfl | rfl | rfl | rfl | rfl | rfl
                · show ∃ o, (_ : Array Oper)[(1 : Nat)]? = some o ∧ _ ∧ _ ∧ _ ∧ _
                  refine ⟨_, rfl, rfl, rfl, (by show (1 : Nat) < 22; decide), step_built #[] rfl rfl (by show (0 : Nat) ≤ maxLen; unfold maxLen; omega) ?_⟩
                  intro bb ww hA
                  clear hA
                  go_simp
                · show ∃ o, (_ : Array Oper)[(4 : Nat)]? = some o ∧ _ ∧ _ ∧ _ ∧ _
                  exact ⟨_, rfl, rfl, rfl, (by show (4 : Nat) < 22; decide), step_grown (56) elSS (by simp : rowN 1 54 [] w3.heap.size 9 1 0 [] ∈ _) rfl (by unfold offD; simp [rowN, pairN, elemN]) rfl SRC.out.1 (str_one _) (by simp) (by simp) (by show (m + 1) ≤ maxLen; unfold maxLen; omega) (by show (m + 1) * 16 ≤ _; omega)⟩
                · show ∃ o, (_ : Array Oper)[(6 : Nat)]? = some o ∧ _ ∧ _ ∧ _ ∧ _
                  refine ⟨_, rfl, rfl, rfl, (by show (6 : Nat) < 22; decide), step_built #[.string (nexB D r q)] rfl rfl (by show (1 : Nat) ≤ maxLen; unfold maxLen; omega) ?_⟩
                  intro bb ww hA
                  have hx2 : bb.tmps[58]?.getD undef = .string (nexB D r q) := by have := hA.off 58 (by unfold offD; simp [rowN, pairN, elemN]); simpa [Act.eval] using this
                  clear hA
                  go_simp
                · show ∃ o, (_ : Array Oper)[(7 : Nat)]? = some o ∧ _ ∧ _ ∧ _ ∧ _
                  exact ⟨_, rfl, rfl, rfl, (by show (7 : Nat) < 22; decide), step_joined elSS (by simp : rowN 4 57 [1] w3.heap.size 9 1 (m + 1) (r.1.map .string) ∈ _) (by simp : rowN 6 59 [] w3.heap.size 9 1 1 [.string (nexB D r q)] ∈ _) rfl (fun u hu => by simp at hu; subst hu; rfl) rfl rfl (by show m + 1 + 1 ≤ maxLen; unfold maxLen; omega) (by show (m + 1 + 1) * 16 ≤ _; omega)⟩
                · show ∃ o, (_ : Array Oper)[(8 : Nat)]? = some o ∧ _ ∧ _ ∧ _ ∧ _
                  refine ⟨_, rfl, rfl, rfl, (by show (8 : Nat) < 22; decide), step_built #[] rfl rfl (by show (0 : Nat) ≤ maxLen; unfold maxLen; omega) ?_⟩
                  intro bb ww hA
                  clear hA
                  go_simp
                · show ∃ o, (_ : Array Oper)[(11 : Nat)]? = some o ∧ _ ∧ _ ∧ _ ∧ _
                  exact ⟨_, rfl, rfl, rfl, (by show (11 : Nat) < 22; decide), step_grown (63) elSS (by simp : rowN 8 61 [] w3.heap.size 9 1 0 [] ∈ _) rfl (by unfold offD; simp [rowN, pairN, elemN]) rfl SRC.out.2 (str_one _) (by simp) (by simp) (by show r.2.length ≤ maxLen; unfold maxLen; omega) (by show r.2.length * 16 ≤ _; omega)⟩
                · show ∃ o, (_ : Array Oper)[(18 : Nat)]? = some o ∧ _ ∧ _ ∧ _ ∧ _
                  refine ⟨_, rfl, rfl, rfl, (by show (18 : Nat) < 22; decide), step_built #[.string (D.fv q).1] rfl rfl (by show (1 : Nat) ≤ maxLen; unfold maxLen; omega) ?_⟩
                  intro bb ww hA
                  have hx2 : bb.tmps[70]?.getD undef = .string (D.fv q).1 := by have := hA.off 70 (by unfold offD; simp [rowN, pairN, elemN]); simpa [Act.eval] using this
                  clear hA
                  go_simp
                · show ∃ o, (_ : Array Oper)[(19 : Nat)]? = some o ∧ _ ∧ _ ∧ _ ∧ _
                  exact ⟨_, rfl, rfl, rfl, (by show (19 : Nat) < 22; decide), step_joined elSS (by simp : rowN 11 64 [8] w3.heap.size 9 1 r.2.length (r.2.map .string) ∈ _) (by simp : rowN 18 71 [] w3.heap.size 9 1 1 [.string (D.fv q).1] ∈ _) rfl (fun u hu => by simp at hu; subst hu; rfl) rfl rfl (by show r.2.length + 1 ≤ maxLen; unfold maxLen; omega) (by show (r.2.length + 1) * 16 ≤ _; omega)⟩
                · show ∃ o, (_ : Array Oper)[(20 : Nat)]? = some o ∧ _ ∧ _ ∧ _ ∧ _
                  refine ⟨_, rfl, rfl, rfl, (by show (20 : Nat) < 22; decide), step_pair (by simp : rowN 7 60 [4, 6] w3.heap.size 9 1 (m + 1 + 1) (r.1.map .string ++ [.string (nexB D r q)]) ∈ _) (by simp : rowN 19 72 [11, 18] w3.heap.size 9 1 (r.2.length + 1) (r.2.map .string ++ [.string (D.fv q).1]) ∈ _) (by decide) ?_⟩
                  intro bb ww o1 o2 n1 n2 c1 c2 hx hy
                  have hx2 : bb.tmps[60]?.getD undef = .slice o1 n1 c1 := by simpa [Act.eval] using hx
                  have hy2 : bb.tmps[72]?.getD undef = .slice o2 n2 c2 := by simpa [Act.eval] using hy
                  clear hx hy
                  go_simp
                · show ∃ o, (_ : Array Oper)[(21 : Nat)]? = some o ∧ _ ∧ _ ∧ _ ∧ _
                  refine ⟨_, rfl, rfl, rfl, (by show (21 : Nat) < 22; decide), step_elem (by simp : pairN 20 73 [7, 19] w3.heap.size 9 1 (m + 1 + 1) (r.2.length + 1) (r.1.map .string ++ [.string (nexB D r q)]) (r.2.map .string ++ [.string (D.fv q).1]) ∈ _) ?_⟩
                  intro bb ww x y hx c1 c2
                  have hx2 : bb.tmps[73]?.getD undef = .agg #[x, y] := by simpa [Act.eval] using hx
                  clear hx
                  go_simp
              case hok =>
                intro x hx
                simp only [List.mem_cons, List.not_mem_nil, or_false] at hx
                rcases hx with rfl | rfl | rfl | rfl | rfl | rfl | rfl | rfl | rfl | rfl
                all_goals first | exact rowN_ok _ _ _ _ _ _ _ | exact pairN_ok _ _ _ _ _ _ _ _ _ | exact elemN_ok _ _ _ _ _ _ _ _ _ _
              case K =>
                intro vv u hbu hav hap
                obtain ⟨xa, xb, hE, hPr⟩ := hav (elemN 21 74 [20] w3.heap.size 34 9 1 (m + 1 + 1) (r.2.length + 1) (r.1.map .string ++ [.string (nexB D r q)]) (r.2.map .string ++ [.string (D.fv q).1])) (by simp) ⟨rfl, by intro x hx hu; simp only [List.mem_cons, List.not_mem_nil, or_false] at hx; rcases hx with rfl | rfl | rfl | rfl | rfl | rfl | rfl | rfl | rfl | rfl <;> simp [rowN, pairN, elemN] at hu⟩
                replace hE : u.ownsRow w3.heap.size 34 2 (vv 74) 1 [xa, xb] := hE
                have hP := hPr.p
                have hQ := hPr.q
                have hPQ := hPr.ap
                refine ⟨by kernel_rfl, ?_⟩
                simp only [List.drop_succ_cons, List.drop_zero]
                clear hav hap
                have lP : (r.1 ++ [nexB D r q]).length = m + 1 + 1 := by rw [List.length_append, HM.out]; rfl
                have lQ : (r.2 ++ [(D.fv q).1]).length = r.2.length + 1 := by rw [List.length_append]; rfl
                obtain ⟨gp, GP, _⟩ := RowG.of_own (l := r.1 ++ [nexB D r q]) (by rw [lP, List.map_append]; exact hP) (by omega)
                obtain ⟨gq, GQ, _⟩ := RowG.of_own (l := r.2 ++ [(D.fv q).1]) (by rw [lQ, List.map_append]; exact hQ) (by omega)
                have hne : gp ≠ gq := fun e => hPQ gp GP.blk.1 (by rw [e]; exact GQ.blk.1)
                have ku : Hid (Below (w.heap.size + 1 + 1) W u) := k3.out.trans (hbu.mono (by omega))
                have hsu : w.heap.size + 1 + 1 + 1 ≤ u.heap.size := by have := ku.out.size; omega
                have su : w3.heap.size ≤ u.heap.size := hbu.size
                have Su : Hid (RtsO (w.heap.size + 1 + 1) u _ Z) := S3.out.below hbu
                have RZ : Hid (RowZ w3.heap.size u ⟨exV D r q, xa, xb, gp, gq⟩) := ⟨GP, GQ⟩
                have HNE : Hid (gp ≠ gq) := hne
                have NG : Hid (gp ∉ blkZ Z ∧ gq ∉ blkZ Z) := ⟨fun hm => by have := (S3.out.old hm).2; have := GP.blk.2; omega, fun hm => by have := (S3.out.old hm).2; have := GQ.blk.2; omega⟩
                simp only [rowN, pairN, elemN, putAll, List.foldl_cons, List.foldl_nil, Act.put, List.setIfInBounds_toArray, List.set_cons_zero, List.set_cons_succ]
                obtain ⟨ge, ce, he⟩ : ∃ ge ce, vv 74 = .slice (some ⟨ge, 0, none⟩) 1 ce := by
                  rcases hE.2 with ⟨_, hn⟩ | ⟨g, cap, cur, hv, _⟩
                  · cases hn
                  · exact ⟨g, cap, hv⟩
                have SE : Hid (∀ (j : Nat) (x : Value), [xa, xb][j]? = some x → u.cell? ((⟨ge, 0, none⟩ : Addr).add j) = some x) := by
                  have h2 := own_src hE
                  rw [he] at h2
                  rcases h2.2 with ⟨h, _⟩ | ⟨ad, c, h, hc⟩
                  · cases h
                  · cases h; exact hc
                rw [he]
                have OC : Hid (xa.oneCell' = true ∧ xb.oneCell' = true) := RZ.out.one
                have Z7 : Hid (RowZ (w.heap.size + 1 + 1) u ⟨exV D r q, xa, xb, gp, gq⟩) := RZ.out.le (by omega)
                clear hP hQ hPQ hPr hE GP GQ hne hbu lP lQ he
                go_wp2_with (first
                  | (at_builtin; refine wpList_append_own _ rfl _ _ 31 rfl (w.heap.size + 1 + 1) 34 i0 (.agg #[.slice none 0 0, .slice none 0 0]) 2 48 underR hi hz0 hz1 hz2 rfl (by decide) _ _ _ rfl Su.out.own ⟨ge, 0, none⟩ 1 ce [xa, xb] rfl rfl SE.out (fun x hx => by simp at hx; rcases hx with rfl | rfl; exact OC.out.1; exact OC.out.2) (by unfold maxLen; omega) (by omega) (by omega) ?_; intro v' w8 hown' hgrow8 hnil8))
                go_roundw
                case rel =>
                  have RR : ∃ (q' : Nat) (Z' : List RR), q' ≤ D.nv ∧ Value.int .i64 ((q : Int) + 1) = .int .i64 (q' : Int) ∧ Hid (Z'.map (·.r) = onM D to r q') ∧ Hid (RtsO (w.heap.size + 1 + 1) w8 v' Z') ∧ Hid (Below (w.heap.size + 1 + 1) W w8) :=
                    ⟨q + 1, Z ++ [⟨exV D r q, xa, xb, gp, gq⟩], by omega, by go_num, by show _ = _; rw [onM_yes OK.out, List.map_append, hZ.out]; rfl, Su.out.push Z7.out HNE.out NG.out.1 NG.out.2 hown' hgrow8, ku.out.grown hgrow8 (by omega) (fun p hp => (Su.out.own.lt p hp).1)⟩
                  first
                    | exact RR
                    | ((repeat apply Exists.intro); exact ⟨RR, rfl⟩)
                case measure => simp [intOf]; omega
            · have OK : Hid (okM D to r q = false) := by show _ = _; unfold okM; rw [hn, hh, ht, hc]; rfl
              have hcc : 0 < capI D.np D.fp (nexB D r q) := by simpa using hc
              go_wp2_with fail
              refine (hasS_b B _ r.1.length (nthB r.1) (nexB D r q) _ (by have := (H.out w1 hbw).2; rw [HM.out]; exact this)).mono ?_; rintro e w2 ⟨rfl, hb2⟩
              rw [hh]
              have k2 : Hid (Below (w.heap.size + 1 + 1) W w2) := k1.out.trans (hb2.mono (by omega))
              have S2 : Hid (RtsO (w.heap.size + 1 + 1) w2 _ Z) := S1.out.below hb2
              have E2 : Hid (w2.cell? ⟨b, off + q * 4, none⟩ = some (.string (D.fv q).1)) := (hb2.cell (p := ⟨b, off + q * 4, none⟩) (by show b < _; omega)).trans E1.out
              clear x0 x1 x2 x3 y0 y1 hbw hb2
              obtain ⟨⟨⟨x0, x1, x2, x3⟩, y0, y1⟩, hbw⟩ := BX.out w2 k2.out
              have hs2 : w.heap.size + 1 + 1 + 1 ≤ w2.heap.size := by have := k2.out.size; omega
              go_wp2_with fail
              refine (capS_any B v0 v1 v2 _ D.np D.fp (nexB D r q) _ (H.out w2 hbw).1.p (by omega)).mono ?_; rintro e w3 ⟨rfl, hb3⟩
              have k3 : Hid (Below (w.heap.size + 1 + 1) W w3) := k2.out.trans (hb3.mono (by omega))
              have S3 : Hid (RtsO (w.heap.size + 1 + 1) w3 _ Z) := S2.out.below hb3
              have E3 : Hid (w3.cell? ⟨b, off + q * 4, none⟩ = some (.string (D.fv q).1)) := (hb3.cell (p := ⟨b, off + q * 4, none⟩) (by show b < _; omega)).trans E2.out
              clear x0 x1 x2 x3 y0 y1 hbw hb3
              obtain ⟨⟨⟨x0, x1, x2, x3⟩, y0, y1⟩, hbw⟩ := BX.out w3 k3.out
              have hs3 : w.heap.size + 1 + 1 + 1 ≤ w3.heap.size := by have := k3.out.size; omega
              go_wp2_with fail
              go_roundw
              case rel => exact ⟨q + 1, Z, by omega, by go_num, by show _ = _; rw [onM_no OK.out]; exact hZ.out, S3, k3⟩
              case measure => simp [intOf]; omega
          · have ht' : ((nexB D r q).toList == to.toList) = true := ht
            have OK : Hid (okM D to r q = true) := by show _ = _; unfold okM; rw [hn, hh, ht]; rfl
            go_wp2_with fail
            refine (hasS_b B _ r.1.length (nthB r.1) (nexB D r q) _ (by have := (H.out w1 hbw).2; rw [HM.out]; exact this)).mono ?_; rintro e w2 ⟨rfl, hb2⟩
            rw [hh]
            have k2 : Hid (Below (w.heap.size + 1 + 1) W w2) := k1.out.trans (hb2.mono (by omega))
            have S2 : Hid (RtsO (w.heap.size + 1 + 1) w2 _ Z) := S1.out.below hb2
            have E2 : Hid (w2.cell? ⟨b, off + q * 4, none⟩ = some (.string (D.fv q).1)) := (hb2.cell (p := ⟨b, off + q * 4, none⟩) (by show b < _; omega)).trans E1.out
            clear x0 x1 x2 x3 y0 y1 hbw hb2
            obtain ⟨⟨⟨x0, x1, x2, x3⟩, y0, y1⟩, hbw⟩ := BX.out w2 k2.out
            have hs2 : w.heap.size + 1 + 1 + 1 ≤ w2.heap.size := by have := k2.out.size; omega
            have qx3 := fun d os => cell_regrown x3 d os
            have qy0 := fun d os => cell_regrown y0 d os
            have qy1 := fun d os => cell_regrown y1 d os
            have qe0 := fun d os => cell_regrown E2.out d os
            have SRC : Hid (_ ∧ _) := HSP.out w2 hbw
            go_wp2_with fail
            refine wp_region_mix 22 [0, 2, 3, 5, 9, 10, 12, 13, 14, 15, 16, 17] (by kernel_rfl) (by kernel_rfl) ?_
            simp only [List.filterMap_cons, List.filterMap_nil, List.getElem?_cons_succ, List.getElem?_cons_zero]
            repeat (first | go_big_quiet_step (fail) | quiet_step (fail))
            refine wpQuiet_nil ?_
            clear x0 x1 x2 x3 y0 y1 hbw qx3 qy0 qy1 qe0
            refine rows_all (md := .any) [rowN 1 54 [] w2.heap.size 9 1 0 [], rowN 4 57 [1] w2.heap.size 9 1 (m + 1) (r.1.map .string), rowN 6 59 [] w2.heap.size 9 1 1 [.string (nexB D r q)], rowN 7 60 [4, 6] w2.heap.size 9 1 (m + 1 + 1) (r.1.map .string ++ [.string (nexB D r q)]), rowN 8 61 [] w2.heap.size 9 1 0 [], rowN 11 64 [8] w2.heap.size 9 1 r.2.length (r.2.map .string), rowN 18 71 [] w2.heap.size 9 1 1 [.string (D.fv q).1], rowN 19 72 [11, 18] w2.heap.size 9 1 (r.2.length + 1) (r.2.map .string ++ [.string (D.fv q).1]), pairN 20 73 [7, 19] w2.heap.size 9 1 (m + 1 + 1) (r.2.length + 1) (r.1.map .string ++ [.string (nexB D r q)]) (r.2.map .string ++ [.string (D.fv q).1]), elemN 21 74 [20] w2.heap.size 34 9 1 (m + 1 + 1) (r.2.length + 1) (r.1.map .string ++ [.string (nexB D r q)]) (r.2.map .string ++ [.string (D.fv q).1])] #[true, true, true, true, true, true, true, true, true, true, true, true, true, true, true, true, true, true, true, true, true, true, false, false] (by kernel_rfl) (by kernel_rfl) ?hop ?hok (by simp [rowN, pairN, elemN]) (by simp [rowN, pairN, elemN]) (by simp [rowN, pairN, elemN]) ?K
            case hop =>
              intro x hx
              simp only [List.mem_cons, List.not_mem_nil, or_false] at hx
              rcases hx with rfl | rfl | rfl | rfl | rfl | rfl | rfl | rfl | rfl | rfl
              · show ∃ o, (_ : Array Oper)[(1 : Nat)]? = some o ∧ _ ∧ _ ∧ _ ∧ _
                refine ⟨_, rfl, rfl, rfl, (by show (1 : Nat) < 22; decide), step_built #[] rfl rfl (by show (0 : Nat) ≤ maxLen; unfold maxLen; omega) ?_⟩
                intro bb ww hA
                clear hA
                go_simp
              · show ∃ o, (_ : Array Oper)[(4 : Nat)]? = some o ∧ _ ∧ _ ∧ _ ∧ _
                exact ⟨_, rfl, rfl, rfl, (by show (4 : Nat) < 22; decide), step_grown (56) elSS (by simp : rowN 1 54 [] w2.heap.size 9 1 0 [] ∈ _) rfl (by unfold offD; simp [rowN, pairN, elemN]) rfl SRC.out.1 (str_one _) (by simp) (by simp) (by show (m + 1) ≤ maxLen; unfold maxLen; omega) (by show (m + 1) * 16 ≤ _; omega)⟩
              · show ∃ o, (_ : Array Oper)[(6 : Nat)]? = some o ∧ _ ∧ _ ∧ _ ∧ _
                refine ⟨_, rfl, rfl, rfl, (by show (6 : Nat) < 22; decide), step_built #[.string (nexB D r q)] rfl rfl (by show (1 : Nat) ≤ maxLen; unfold maxLen; omega) ?_⟩
                intro bb ww hA
                have hx2 : bb.tmps[58]?.getD undef = .string (nexB D r q) := by have := hA.off 58 (by unfold offD; simp [rowN, pairN, elemN]); simpa [Act.eval] using this
                clear hA
                go_simp
              · show ∃ o, (_ : Array Oper)[(7 : Nat)]? = some o ∧ _ ∧ _ ∧ _ ∧ _
                exact ⟨_, rfl, rfl, rfl, (by show (7 : Nat) < 22; decide), step_joined elSS (by simp : rowN 4 57 [1] w2.heap.size 9 1 (m + 1) (r.1.map .string) ∈ _) (by simp : rowN 6 59 [] w2.heap.size 9 1 1 [.string (nexB D r q)] ∈ _) rfl (fun u hu => by simp at hu; subst hu; rfl) rfl rfl (by show m + 1 + 1 ≤ maxLen; unfold maxLen; omega) (by show (m + 1 + 1) * 16 ≤ _; omega)⟩
              · show ∃ o, (_ : Array Oper)[(8 : Nat)]? = some o ∧ _ ∧ _ ∧ _ ∧ _
                refine ⟨_, rfl, rfl, rfl, (by show (8 : Nat) < 22; decide), step_built #[] rfl rfl (by show (0 : Nat) ≤ maxLen; unfold maxLen; omega) ?_⟩
                intro bb ww hA
                clear hA
                go_simp
              · show ∃ o, (_ : Array Oper)[(11 : Nat)]? = some o ∧ _ ∧ _ ∧ _ ∧ _
                exact ⟨_, rfl, rfl, rfl, (by show (11 : Nat) < 22; decide), step_grown (63) elSS (by simp : rowN 8 61 [] w2.heap.size 9 1 0 [] ∈ _) rfl (by unfold offD; simp [rowN, pairN, elemN]) rfl SRC.out.2 (str_one _) (by simp) (by simp) (by show r.2.length ≤ maxLen; unfold maxLen; omega) (by show r.2.length * 16 ≤ _; omega)⟩
              · show ∃ o, (_ : Array Oper)[(18 : Nat)]? = some o ∧ _ ∧ _ ∧ _ ∧ _
                refine ⟨_, rfl, rfl, rfl, (by show (18 : Nat) < 22; decide), step_built #[.string (D.fv q).1] rfl rfl (by show (1 : Nat) ≤ maxLen; unfold maxLen; omega) ?_⟩
                intro bb ww hA
                have hx2 : bb.tmps[70]?.getD undef = .string (D.fv q).1 := by have := hA.off 70 (by unfold offD; simp [rowN, pairN, elemN]); simpa [Act.eval] using this
                clear hA
                go_simp
              · show ∃ o, (_ : Array Oper)[(19 : Nat)]? = some o ∧ _ ∧ _ ∧ _ ∧ _
                exact ⟨_, rfl, rfl, rfl, (by show (19 : Nat) < 22; decide), step_joined elSS (by simp : rowN 11 64 [8] w2.heap.size 9 1 r.2.length (r.2.map .string) ∈ _) (by simp : rowN 18 71 [] w2.heap.size 9 1 1 [.string (D.fv q).1] ∈ _) rfl (fun u hu => by simp at hu; subst hu; rfl) rfl rfl (by show r.2.length + 1 ≤ maxLen; unfold maxLen; omega) (by show (r.2.length + 1) * 16 ≤ _; omega)⟩
              · show ∃ o, (_ : Array Oper)[(20 : Nat)]? = some o ∧ _ ∧ _ ∧ _ ∧ _
                refine ⟨_, rfl, rfl, rfl, (by show (20 : Nat) < 22; decide), step_pair (by simp : rowN 7 60 [4, 6] w2.heap.size 9 1 (m + 1 + 1) (r.1.map .string ++ [.string (nexB D r q)]) ∈ _) (by simp : rowN 19 72 [11, 18] w2.heap.size 9 1 (r.2.length + 1) (r.2.map .string ++ [.string (D.fv q).1]) ∈ _) (by decide) ?_⟩
                intro bb ww o1 o2 n1 n2 c1 c2 hx hy
                have hx2 : bb.tmps[60]?.getD undef = .slice o1 n1 c1 := by simpa [Act.eval] using hx
                have hy2 : bb.tmps[72]?.getD undef = .slice o2 n2 c2 := by simpa [Act.eval] using hy
                clear hx hy
                go_simp
              · show ∃ o, (_ : Array Oper)[(21 : Nat)]? = some o ∧ _ ∧ _ ∧ _ ∧ _
                refine ⟨_, rfl, rfl, rfl, (by show (21 : Nat) < 22; decide), step_elem (by simp : pairN 20 73 [7, 19] w2.heap.size 9 1 (m + 1 + 1) (r.2.length + 1) (r.1.map .string ++ [.string (nexB D r q)]) (r.2.map .string ++ [.string (D.fv q).1]) ∈ _) ?_⟩
                intro bb ww x y hx c1 c2
                have hx2 : bb.tmps[73]?.getD undef = .agg #[x, y] := by simpa [Act.eval] using hx
                clear hx
                go_simp
            case hok =>
              intro x hx
              simp only [List.mem_cons, List.not_mem_nil, or_false] at hx
              rcases hx with rfl | rfl | rfl | rfl | rfl | rfl | rfl | rfl | rfl | rfl
              all_goals first | exact rowN_ok _ _ _ _ _ _ _ | exact pairN_ok _ _ _ _ _ _ _ _ _ | exact elemN_ok _ _ _ _ _ _ _ _ _ _
            case K =>
              intro vv u hbu hav hap
              obtain ⟨xa, xb, hE, hPr⟩ := hav (elemN 21 74 [20] w2.heap.size 34 9 1 (m + 1 + 1) (r.2.length + 1) (r.1.map .string ++ [.string (nexB D r q)]) (r.2.map .string ++ [.string (D.fv q).1])) (by simp) ⟨rfl, by intro x hx hu; simp only [List.mem_cons, List.not_mem_nil, or_false] at hx; rcases hx with rfl | rfl | rfl | rfl | rfl | rfl | rfl | rfl | rfl | rfl <;> simp [rowN, pairN, elemN] at hu⟩
              replace hE : u.ownsRow w2.heap.size 34 2 (vv 74) 1 [xa, xb] := hE
              have hP := hPr.p
              have hQ := hPr.q
              have hPQ := hPr.ap
              refine ⟨by kernel_rfl, ?_⟩
              simp only [List.drop_succ_cons, List.drop_zero]
              clear hav hap
              have lP : (r.1 ++ [nexB D r q]).length = m + 1 + 1 := by rw [List.length_append, HM.out]; rfl
              have lQ : (r.2 ++ [(D.fv q).1]).length = r.2.length + 1 := by rw [List.length_append]; rfl
              obtain ⟨gp, GP, _⟩ := RowG.of_own (l := r.1 ++ [nexB D r q]) (by rw [lP, List.map_append]; exact hP) (by omega)
              obtain ⟨gq, GQ, _⟩ := RowG.of_own (l := r.2 ++ [(D.fv q).1]) (by rw [lQ, List.map_append]; exact hQ) (by omega)
              have hne : gp ≠ gq := fun e => hPQ gp GP.blk.1 (by rw [e]; exact GQ.blk.1)
              have ku : Hid (Below (w.heap.size + 1 + 1) W u) := k2.out.trans (hbu.mono (by omega))
              have hsu : w.heap.size + 1 + 1 + 1 ≤ u.heap.size := by have := ku.out.size; omega
              have su : w2.heap.size ≤ u.heap.size := hbu.size
              have Su : Hid (RtsO (w.heap.size + 1 + 1) u _ Z) := S2.out.below hbu
              have RZ : Hid (RowZ w2.heap.size u ⟨exV D r q, xa, xb, gp, gq⟩) := ⟨GP, GQ⟩
              have HNE : Hid (gp ≠ gq) := hne
              have NG : Hid (gp ∉ blkZ Z ∧ gq ∉ blkZ Z) := ⟨fun hm => by have := (S2.out.old hm).2; have := GP.blk.2; omega, fun hm => by have := (S2.out.old hm).2; have := GQ.blk.2; omega⟩
              simp only [rowN, pairN, elemN, putAll, List.foldl_cons, List.foldl_nil, Act.put, List.setIfInBounds_toArray, List.set_cons_zero, List.set_cons_succ]
              obtain ⟨ge, ce, he⟩ : ∃ ge ce, vv 74 = .slice (some ⟨ge, 0, none⟩) 1 ce := by
                rcases hE.2 with ⟨_, hn⟩ | ⟨g, cap, cur, hv, _⟩
                · cases hn
                · exact ⟨g, cap, hv⟩
              have SE : Hid (∀ (j : Nat) (x : Value), [xa, xb][j]? = some x → u.cell? ((⟨ge, 0, none⟩ : Addr).add j) = some x) := by
                have h2 := own_src hE
                rw [he] at h2
                rcases h2.2 with ⟨h, _⟩ | ⟨ad, c, h, hc⟩
                · cases h
                · cases h; exact hc
              rw [he]
              have OC : Hid (xa.oneCell' = true ∧ xb.oneCell' = true) := RZ.out.one
              have Z7 : Hid (RowZ (w.heap.size + 1 + 1) u ⟨exV D r q, xa, xb, gp, gq⟩) := RZ.out.le (by omega)
              clear hP hQ hPQ hPr hE GP GQ hne hbu lP lQ he
              go_wp2_with (first
                | (at_builtin; refine wpList_append_own _ rfl _ _ 31 rfl (w.heap.size + 1 + 1) 34 i0 (.agg #[.slice none 0 0, .slice none 0 0]) 2 48 underR hi hz0 hz1 hz2 rfl (by decide) _ _ _ rfl Su.out.own ⟨ge, 0, none⟩ 1 ce [xa, xb] rfl rfl SE.out (fun x hx => by simp at hx; rcases hx with rfl | rfl; exact OC.out.1; exact OC.out.2) (by unfold maxLen; omega) (by omega) (by omega) ?_; intro v' w8 hown' hgrow8 hnil8))
              go_roundw
              case rel =>
                have RR : ∃ (q' : Nat) (Z' : List RR), q' ≤ D.nv ∧ Value.int .i64 ((q : Int) + 1) = .int .i64 (q' : Int) ∧ Hid (Z'.map (·.r) = onM D to r q') ∧ Hid (RtsO (w.heap.size + 1 + 1) w8 v' Z') ∧ Hid (Below (w.heap.size + 1 + 1) W w8) :=
                  ⟨q + 1, Z ++ [⟨exV D r q, xa, xb, gp, gq⟩], by omega, by go_num, by show _ = _; rw [onM_yes OK.out, List.map_append, hZ.out]; rfl, Su.out.push Z7.out HNE.out NG.out.1 NG.out.2 hown' hgrow8, ku.out.grown hgrow8 (by omega) (fun p hp => (Su.out.own.lt p hp).1)⟩
                first
                  | exact RR
                  | ((repeat apply Exists.intro); exact ⟨RR, rfl⟩)
              case measure => simp [intOf]; omega
        · have OK : Hid (okM D to r q = false) := by show _ = _; unfold okM; rw [hn, hh]; rfl
          go_wp2_with fail
          refine (hasS_b B _ r.1.length (nthB r.1) (nexB D r q) _ (by have := (H.out w1 hbw).2; rw [HM.out]; exact this)).mono ?_; rintro e w2 ⟨rfl, hb2⟩
          rw [hh]
          have k2 : Hid (Below (w.heap.size + 1 + 1) W w2) := k1.out.trans (hb2.mono (by omega))
          have S2 : Hid (RtsO (w.heap.size + 1 + 1) w2 _ Z) := S1.out.below hb2
          have E2 : Hid (w2.cell? ⟨b, off + q * 4, none⟩ = some (.string (D.fv q).1)) := (hb2.cell (p := ⟨b, off + q * 4, none⟩) (by show b < _; omega)).trans E1.out
          clear x0 x1 x2 x3 y0 y1 hbw hb2
          obtain ⟨⟨⟨x0, x1, x2, x3⟩, y0, y1⟩, hbw⟩ := BX.out w2 k2.out
          have hs2 : w.heap.size + 1 + 1 + 1 ≤ w2.heap.size := by have := k2.out.size; omega
          go_wp2_with fail
          go_roundw
          case rel => exact ⟨q + 1, Z, by omega, by go_num, by show _ = _; rw [onM_no OK.out]; exact hZ.out, S2, k2⟩
          case measure => simp [intOf]; omega
      · have hn' : ((nexB D r q).toList == ([] : List UInt8)) = true := by rw [← nil_list]; exact hn
        have OK : Hid (okM D to r q = false) := by show _ = _; unfold okM; rw [hn]; rfl
        go_wp2_with fail
        go_roundw
        case rel => exact ⟨q + 1, Z, by omega, by go_num, by show _ = _; rw [onM_no OK.out]; exact hZ.out, S1, k1⟩
        case measure => simp [intOf]; omega
    · go_wp2_with fail
      go_ret
      have e : q = D.nv := by omega
      subst e
      exact ⟨_, Z, rfl, hZ.out, hS.out.le (by omega), hbw⟩
end Go.Proofs.Ytgjcppdeljoimaa
