/-
  The program's ShareAsk, whole: it answers as the model does, with a book that owns its memory.
-/
import Derived.Test.YtidojjecjjochadGreatDoorM25
import Derived.Test.YtidojjecjjochadGreatDoorM32
import Derived.Test.YtidojjecjjochadGreatDoorM33
import Derived.Test.YtidojjecjjochadGreatDoorM40
namespace Go.Proofs.YtidojjecjjochadGreatDoor
open Go.RowKit Go.Sort

/-- What asking makes of a book. -/
noncomputable def akN (D : DShareBook) (x : ByteArray) (th : List ByteArray) : DShareBook := (D.1, D.2.set (atI D.2 x).toNat (askB (btN D.2 (atI D.2 x).toNat) th))
open Classical in
noncomputable def akC (D : DShareBook) (x : ByteArray) (th : List ByteArray) : Int := if ndC D.2 x th = 0 then (if takB D.2 (atI D.2 x).toNat th = true then 5 else if (ordS D).2 = true ∧ (ordS (akN D x th)).2 = false then 6 else 0) else ndC D.2 x th
noncomputable def akR (D : DShareBook) (x : ByteArray) (th : List ByteArray) : DShareBook := if akC D x th = 0 then akN D x th else D
section
variable {D : DShareBook} {x : ByteArray} {th : List ByteArray}
theorem ndC_zero {Bs : List DShareBatch} (h : ndC Bs x th = 0) : ¬ atI Bs x < 0 ∧ subB (btN Bs (atI Bs x).toNat).2.2 th = true := by
  by_cases h1 : atI Bs x < 0
  · rw [ndC_3 h1] at h; exact absurd h (by decide)
  · cases h2 : subB (btN Bs (atI Bs x).toNat).2.2 th
    · rw [ndC_2 h1 h2] at h; exact absurd h (by decide)
    · exact ⟨h1, rfl⟩
theorem akC_n (h : ndC D.2 x th ≠ 0) : akC D x th = ndC D.2 x th := by unfold akC; rw [if_neg h]
theorem akC_5 (h : ndC D.2 x th = 0) (h1 : takB D.2 (atI D.2 x).toNat th = true) : akC D x th = 5 := by unfold akC; rw [if_pos h, if_pos h1]
theorem akC_6 (h : ndC D.2 x th = 0) (h1 : takB D.2 (atI D.2 x).toNat th = false) (h2 : (ordS D).2 = true ∧ (ordS (akN D x th)).2 = false) : akC D x th = 6 := by unfold akC; rw [if_pos h, if_neg (by rw [h1]; decide), if_pos h2]
theorem akC_0 (h : ndC D.2 x th = 0) (h1 : takB D.2 (atI D.2 x).toNat th = false) (h2 : ¬ ((ordS D).2 = true ∧ (ordS (akN D x th)).2 = false)) : akC D x th = 0 := by unfold akC; rw [if_pos h, if_neg (by rw [h1]; decide), if_neg h2]
theorem akC_zero (h : akC D x th = 0) : ndC D.2 x th = 0 := by
  by_cases h1 : ndC D.2 x th = 0
  · exact h1
  · rw [akC_n h1] at h; exact h
end
theorem ask_is (D : DShareBook) (x : ByteArray) (th : List ByteArray) : (if bokB D = true then akR D x th else ([], [])) = (askS D x th).1 ∧ (if bokB D = true then akC D x th else 1) = (askS D x th).2 := by
  by_cases h : bokB D = true
  · rw [if_pos h, if_pos h]
    by_cases h1 : atI D.2 x < 0
    · have e := akC_n (D := D) (x := x) (th := th) (by rw [ndC_3 h1]; decide)
      rw [ndC_3 h1] at e
      unfold akR askS
      rw [e, if_neg (by decide), if_pos h, if_pos h1]
      exact ⟨rfl, rfl⟩
    · cases h2 : subB (btN D.2 (atI D.2 x).toNat).2.2 th
      · have e := akC_n (D := D) (x := x) (th := th) (by rw [ndC_2 h1 h2]; decide)
        rw [ndC_2 h1 h2] at e
        unfold akR askS
        rw [e, if_neg (by decide), if_pos h, if_neg h1, if_neg (by rw [h2]; decide)]
        exact ⟨rfl, rfl⟩
      · have e0 := ndC_0 h1 h2
        cases h3 : takB D.2 (atI D.2 x).toNat th
        · by_cases h4 : (ordS D).2 = true ∧ (ordS (akN D x th)).2 = false
          · have h4' : (ordS D).2 = true ∧ (ordS (D.1, D.2.set (atI D.2 x).toNat (askB (btN D.2 (atI D.2 x).toNat) th))).2 = false := h4
            unfold akR askS
            rw [akC_6 e0 h3 h4, if_neg (by decide), if_pos h, if_neg h1, if_pos h2, if_neg (by rw [h3]; decide), if_pos h4']
            exact ⟨rfl, rfl⟩
          · have h4' : ¬ ((ordS D).2 = true ∧ (ordS (D.1, D.2.set (atI D.2 x).toNat (askB (btN D.2 (atI D.2 x).toNat) th))).2 = false) := h4
            unfold akR askS
            rw [akC_0 e0 h3 h4, if_pos rfl, if_pos h, if_neg h1, if_pos h2, if_neg (by rw [h3]; decide), if_neg h4']
            exact ⟨rfl, rfl⟩
        · unfold akR askS
          rw [akC_5 e0 h3, if_neg (by decide), if_pos h, if_neg h1, if_pos h2, if_pos h3]
          exact ⟨rfl, rfl⟩
  · unfold askS
    rw [if_neg h, if_neg h, if_neg h]
    exact ⟨rfl, rfl⟩
theorem akN_small {D : DShareBook} {x : ByteArray} {th : List ByteArray} (h : BokP D) (hc : ndC D.2 x th = 0) : SmD (akN D x th) := by
  obtain ⟨h1, h2⟩ := ndC_zero hc
  obtain ⟨q, eq, hq⟩ := at_lt h1
  unfold akN
  rw [eq, Int.toNat_natCast] at h2 ⊢
  exact ask_small h hq h2
theorem th_small {D : DShareBook} {x : ByteArray} {nd : List ByteArray} (h : BokP D) (h1 : ¬ atI D.2 x < 0) (h2 : subB (btN D.2 (atI D.2 x).toNat).2.2 nd = true) : SmL nd := by
  obtain ⟨q, eq, hq⟩ := at_lt h1
  rw [eq, Int.toNat_natCast, btN_at hq] at h2
  have hs := (bok_small h).1.2.2 _ (List.getElem_mem hq)
  have hl := sub_lenM h2
  exact hs.2.2.of_sub h2 (by have := hs.2.2.1; omega)
theorem ask_tot (D : DShareBook) (x : ByteArray) (th : List ByteArray) : Lay.tot (askS D x th).1 ≤ 1048576 := by
  rw [← (ask_is D x th).1]
  by_cases h : bokB D = true
  · rw [if_pos h]
    unfold akR
    by_cases hc : akC D x th = 0
    · rw [if_pos hc]
      exact (akN_small (bok_iff.1 h) (akC_zero hc)).tot
    · rw [if_neg hc]
      exact (bok_small (bok_iff.1 h)).1.tot
  · rw [if_neg h]
    exact sm_nil.tot
theorem has_asc {D : DShareBook} (h : BokP D) {q : Nat} (hq : q < D.2.length) : AscZ D.2[q].2.1 := by
  have hb := (h.row q hq).bat
  unfold batB at hb
  simp only [Bool.and_eq_true] at hb
  have hs := hb.2
  rw [subB, ok_iff] at hs
  refine List.pairwise_iff_getElem.2 fun i j hi hj hij => ?_
  exact asc_farM (fun i hi => by have := hs.2 i hi; rw [tst, Bool.and_eq_true] at this; exact this.2) j i hj hij

set_option maxRecDepth 100000 in
set_option maxHeartbeats 16000000 in
theorem refHv_any (S SN : Nat → Prop) (T : List ByteArray) (Bs : List DShareBatch) (o0 oa : Option Addr) (n0 k0 nb kb : Nat) (x : ByteArray) (th : List ByteArray) (on : Option Addr) (nn kn : Nat) (w : World) (h0 : AtL S w T (.slice o0 n0 k0)) (h1 : AtL S w Bs (.slice oa nb kb)) (hS : ∀ b, S b → b < w.heap.size) (hN : AtL SN w th (.slice on nn kn)) (hSN : ∀ b, SN b → b < w.heap.size) (hok : bokB (T, Bs) = true)
    (hB : ndC Bs x th = 0 → ∀ u, Below w.heap.size w u → Calls Tryz.prog 41 #[.agg #[.slice o0 n0 k0, .slice oa nb kb], .iface 51 (.agg #[.string x, .slice on nn kn])] u (BehW u (akN (T, Bs) x th))) :
    Calls Tryz.prog 119 #[.agg #[.string x, .slice on nn kn], .agg #[.slice o0 n0 k0, .slice oa nb kb]] w fun e w' => e = .returned (errW x (akC (T, Bs) x th)) ∧ Below w.heap.size w w' := by
  have H0 : Hid (∀ u, Below w.heap.size w u → AtL S u T (.slice o0 n0 k0)) := fun u hu => h0.same (Same.of_below hu hS)
  have H1 : Hid (∀ u, Below w.heap.size w u → AtL S u Bs (.slice oa nb kb)) := fun u hu => h1.same (Same.of_below hu hS)
  have HS : Hid (∀ u, Below w.heap.size w u → ∀ b, S b → b < u.heap.size) := fun u hu b hb => Nat.lt_of_lt_of_le (hS b hb) hu.size
  have HN : Hid (∀ u, Below w.heap.size w u → AtL SN u th (.slice on nn kn)) := fun u hu => hN.same (Same.of_below hu hSN)
  have HSN : Hid (∀ u, Below w.heap.size w u → ∀ b, SN b → b < u.heap.size) := fun u hu b hb => Nat.lt_of_lt_of_le (hSN b hb) hu.size
  have HBH : Hid (ndC Bs x th = 0 → ∀ u, Below w.heap.size w u → Calls Tryz.prog 41 #[.agg #[.slice o0 n0 k0, .slice oa nb kb], .iface 51 (.agg #[.string x, .slice on nn kn])] u (BehW u (akN (T, Bs) x th))) := hB
  obtain ⟨W, hW⟩ : ∃ W, W = (w.alloc (.cells #[.string x, .slice on nn kn] 51)).alloc (.cells #[.slice o0 n0 k0, .slice oa nb kb] 30) := ⟨_, rfl⟩
  have EW : Hid (W = (w.alloc (.cells #[.string x, .slice on nn kn] 51)).alloc (.cells #[.slice o0 n0 k0, .slice oa nb kb] 30)) := hW
  have BW : Hid (Below w.heap.size w W) := by rw [hW]; exact ((Below.refl _ _).alloc (Nat.le_refl _) _).alloc (by simp) _
  have R1 : Hid (W.heap[w.heap.size]? = some (.cells #[.string x, .slice on nn kn] 51 (0, 0))) := by rw [hW]; exact (Below.heap_alloc _ _ _ (by simp)).trans (heap_alloc_new w _)
  have R2 : Hid (W.heap[w.heap.size + 1]? = some (.cells #[.slice o0 n0 k0, .slice oa nb kb] 30 (0, 0))) := by rw [hW]; exact alloc_atR _ (by simp)
  have sW : w.heap.size + 2 ≤ W.heap.size := by rw [hW]; simp
  obtain ⟨RV, eRV⟩ : ∃ v, errW x (akC (T, Bs) x th) = v := ⟨_, rfl⟩
  rw [eRV]
  have ERV : Hid (errW x (akC (T, Bs) x th) = RV) := eRV
  have CELLS : Hid (∀ v, Below W.heap.size W v → (v.cell? ⟨w.heap.size, 0, none⟩ = some (.string x) ∧ v.cell? ⟨w.heap.size, 1, none⟩ = some (.slice on nn kn)) ∧ v.cell? ⟨w.heap.size + 1, 0, none⟩ = some (.slice o0 n0 k0) ∧ v.cell? ⟨w.heap.size + 1, 1, none⟩ = some (.slice oa nb kb)) := fun v hv => by
    have r1 := (hv.block w.heap.size (by omega)).trans R1.out
    have r2 := (hv.block (w.heap.size + 1) (by omega)).trans R2.out
    exact ⟨⟨(cell_row r1 0 _ rfl).1, (cell_row r1 1 _ rfl).1⟩, (cell_row r2 0 _ rfl).1, (cell_row r2 1 _ rfl).1⟩
  have HTO : Hid (Lay.tot (α := DShareBook) (T, Bs) ≤ 1048576) := (bok_small (bok_iff.1 hok)).1.tot
  clear h0 h1 hN hW eRV R1 R2 hB
  obtain ⟨⟨c0, c1⟩, c2, c3⟩ := CELLS.out W (Below.refl _ _)
  obtain ⟨nc, enc0⟩ : ∃ c, ndC Bs x th = c := ⟨_, rfl⟩
  have ENC : Hid (ndC Bs x th = nc) := enc0
  have CR : Hid (Calls Tryz.prog 120 #[.agg #[.slice o0 n0 k0, .slice oa nb kb], .string x, .slice on nn kn] W fun e w' => e = .returned (errW x nc) ∧ Below W.heap.size W w') := by
    rw [← enc0]
    exact refN_any S SN Bs o0 oa n0 k0 nb kb x th on nn kn W (H1.out W BW.out) (HS.out W BW.out) (HN.out W BW.out) (HSN.out W BW.out)
  clear enc0
  go_enter Tryz.func119, Tryz.ntmps119
  go_upto_region 1 with fail
  rw [← EW.out]
  go_wp2_with fail
  refine Calls.mono CR.out ?_
  rintro e w1 ⟨rfl, hb1⟩
  have B1 : Hid (Below W.heap.size W w1) := hb1
  have BW1 : Hid (Below w.heap.size w w1) := BW.out.trans (hb1.mono BW.out.size)
  clear hb1 c0 c1 c2 c3
  by_cases hnc : nc = 0
  case neg =>
    rw [errW_yes x hnc]
    have E3 : Hid (RV = .iface 176 (.agg #[.string x, .iface 83 (.agg #[.int .i64 nc])])) := by
      show _ = _
      rw [← ERV.out, akC_n (by show ndC Bs x th ≠ 0; rw [ENC.out]; exact hnc)]
      show errW x (ndC Bs x th) = _
      rw [ENC.out, errW_yes x hnc]
    go_wp2_with fail
    go_ret
    exact ⟨by rw [E3.out]; rfl, BW1.out⟩
  have HNC : Hid (ndC Bs x th = 0) := ENC.out.trans hnc
  rw [hnc, errW_no]
  clear ENC CR hnc
  obtain ⟨⟨c0, c1⟩, c2, c3⟩ := CELLS.out w1 B1.out
  obtain ⟨q, eq, hq⟩ := at_lt (ndC_zero HNC.out).1
  have HEQ : Hid ((atI Bs x).toNat = q) := by show _ = _; rw [eq, Int.toNat_natCast]
  obtain ⟨tk, etk⟩ : ∃ b, takB Bs q th = b := ⟨_, rfl⟩
  have ETK : Hid (takB Bs (atI Bs x).toNat th = tk) := by show _ = _; rw [HEQ.out]; exact etk
  have CH : Hid (Calls Tryz.prog 121 #[.agg #[.slice o0 n0 k0, .slice oa nb kb], .string x, .slice on nn kn] w1 fun e w' => e = .returned (.bool tk) ∧ Below w1.heap.size w1 w') := by
    rw [← etk]
    exact hadO_any S SN T Bs o0 oa n0 k0 nb kb x th on nn kn q w1 (H1.out w1 BW1.out) (HS.out w1 BW1.out) (HN.out w1 BW1.out) (HSN.out w1 BW1.out) hok eq
  clear etk eq
  go_wp2_with fail
  refine Calls.mono CH.out ?_
  rintro e w2 ⟨rfl, hb2⟩
  have B2 : Hid (Below W.heap.size W w2) := B1.out.trans (hb2.mono B1.out.size)
  have BW2 : Hid (Below w.heap.size w w2) := BW1.out.trans (hb2.mono BW1.out.size)
  clear hb2 c0 c1 c2 c3 CH
  obtain ⟨⟨c0, c1⟩, c2, c3⟩ := CELLS.out w2 B2.out
  cases tk
  case true =>
    have E3 : Hid (RV = refV x 5) := by
      show _ = _
      rw [← ERV.out, akC_5 HNC.out ETK.out, errW_yes x (by decide)]; rfl
    go_wp2_with (first
      | (go_at_call 122; refine (refused_any _ _ _).mono ?_; rintro e w3 ⟨rfl, rfl⟩))
    go_ret
    exact ⟨by rw [E3.out]; rfl, BW2.out⟩
  obtain ⟨s0, es0⟩ : ∃ b, (ordS (T, Bs)).2 = b := ⟨_, rfl⟩
  have ES0 : Hid ((ordS (T, Bs)).2 = s0) := es0
  have CS : Hid (Calls Tryz.prog 123 #[.agg #[.slice o0 n0 k0, .slice oa nb kb]] w2 fun e w' => e = .returned (.bool s0) ∧ Below w2.heap.size w2 w') := by
    rw [← es0]
    exact safeP_any S T Bs o0 oa n0 k0 nb kb w2 (H0.out w2 BW2.out) (H1.out w2 BW2.out) (HS.out w2 BW2.out) HTO.out
  clear es0
  go_wp2_with fail
  refine Calls.mono CS.out ?_
  rintro e w3 ⟨rfl, hb3⟩
  have B3 : Hid (Below W.heap.size W w3) := B2.out.trans (hb3.mono B2.out.size)
  have BW3 : Hid (Below w.heap.size w w3) := BW2.out.trans (hb3.mono BW2.out.size)
  clear hb3 c0 c1 c2 c3 CS
  obtain ⟨⟨c0, c1⟩, c2, c3⟩ := CELLS.out w3 B3.out
  cases s0
  case false =>
    have E3 : Hid (RV = .nilIface) := by
      show _ = _
      rw [← ERV.out, akC_0 HNC.out ETK.out (fun h => by rw [ES0.out] at h; exact absurd h.1 (by decide)), errW_no]
    go_wp2_with fail
    go_ret
    exact ⟨by rw [E3.out]; rfl, BW3.out⟩
  have CB : Hid _ := HBH.out HNC.out w3 BW3.out
  go_wp2_with fail
  refine Calls.mono CB.out ?_
  rintro e w4 ⟨r0, r1, L, rfl, hp, hmap, hb4⟩
  obtain ⟨p0, j0, e0⟩ := Row.form hp.th
  obtain ⟨p1, j1, e1⟩ := Row.form hp.bs.ro
  obtain ⟨m0, em0⟩ : ∃ n, (akN (T, Bs) x th).1.length = n := ⟨_, rfl⟩
  obtain ⟨m1, em1⟩ : ∃ n, L.length = n := ⟨_, rfl⟩
  rw [em0] at e0
  rw [em1] at e1
  subst e0
  subst e1
  have B4 : Hid (Below W.heap.size W w4) := B3.out.trans (hb4.mono B3.out.size)
  have BW4 : Hid (Below w.heap.size w w4) := BW3.out.trans (hb4.mono BW3.out.size)
  obtain ⟨s1, es1⟩ : ∃ b, (ordS (akN (T, Bs) x th)).2 = b := ⟨_, rfl⟩
  have ES1 : Hid ((ordS (akN (T, Bs) x th)).2 = s1) := es1
  have CS : Hid (Calls Tryz.prog 123 #[.agg #[.slice p0 m0 j0, .slice p1 m1 j1]] w4 fun e w' => e = .returned (.bool s1) ∧ Below w4.heap.size w4 w') := by
    rw [← es1]
    have ha := hp.at_
    rw [hmap] at ha
    exact safeP_any (fun b => w3.heap.size ≤ b ∧ b < w4.heap.size) (akN (T, Bs) x th).1 (akN (T, Bs) x th).2 p0 p1 m0 j0 m1 j1 w4 ha.1 ha.2 (fun b hb => hb.2) (akN_small (bok_iff.1 hok) HNC.out).tot
  clear es1 hp hmap hb4 em0 em1 CB c0 c1 c2 c3
  obtain ⟨⟨c0, c1⟩, c2, c3⟩ := CELLS.out w4 B4.out
  go_wp2_with fail
  refine Calls.mono CS.out ?_
  rintro e w5 ⟨rfl, hb5⟩
  have B5 : Hid (Below W.heap.size W w5) := B4.out.trans (hb5.mono B4.out.size)
  have BW5 : Hid (Below w.heap.size w w5) := BW4.out.trans (hb5.mono BW4.out.size)
  clear hb5 c0 c1 c2 c3 CS
  obtain ⟨⟨c0, c1⟩, c2, c3⟩ := CELLS.out w5 B5.out
  cases s1
  · have E3 : Hid (RV = refV x 6) := by
      show _ = _
      rw [← ERV.out, akC_6 HNC.out ETK.out ⟨ES0.out, ES1.out⟩, errW_yes x (by decide)]; rfl
    go_wp2_with (first
      | (go_at_call 122; refine (refused_any _ _ _).mono ?_; rintro e w6 ⟨rfl, rfl⟩))
    go_ret
    exact ⟨by rw [E3.out]; rfl, BW5.out⟩
  · have E3 : Hid (RV = .nilIface) := by
      show _ = _
      rw [← ERV.out, akC_0 HNC.out ETK.out (fun h => by rw [ES1.out] at h; exact absurd h.2 (by decide)), errW_no]
    go_wp2_with fail
    go_ret
    exact ⟨by rw [E3.out]; rfl, BW5.out⟩

theorem behA_any (S : Nat → Prop) (T : List ByteArray) (Bs : List DShareBatch) (th : List ByteArray) (o0 oa : Option Addr) (n0 k0 nb kb : Nat) (os : Option Addr) (ns ks : Nat) (x : ByteArray) (v : World) (h0v : AtL S v T (.slice o0 n0 k0)) (h1v : AtL S v Bs (.slice oa nb kb)) (h2v : AtL S v th (.slice os ns ks)) (hSv : ∀ b, S b → b < v.heap.size) (hok : bokB (T, Bs) = true) (hc : ndC Bs x th = 0) :
    Calls Tryz.prog 41 #[.agg #[.slice o0 n0 k0, .slice oa nb kb], .iface 51 (.agg #[.string x, .slice os ns ks])] v (BehW v (akN (T, Bs) x th)) := by
  have hP := bok_iff.1 hok
  have hsm := bok_small hP
  obtain ⟨hn, hs⟩ := ndC_zero hc
  have hnd := th_small (D := (T, Bs)) hP hn hs
  obtain ⟨q, eq, hq⟩ := at_lt hn
  refine behW_A x os ns ks (akN (T, Bs) x th) S T Bs o0 oa n0 k0 nb kb v h0v h1v hSv hsm.1 (fun B gb v0 v1 L z hz hB hgb hbx hp hm => ?_)
  have hlen : L.length = Bs.length := by rw [← hm, List.length_map]
  have hql : q < L.length := by omega
  have hqe : dH L[q] = Bs[q] := by
    have : (L.map dH)[q]'(by rw [List.length_map]; omega) = Bs[q] := by simp only [hm]
    rw [← this, List.getElem_map]
  have ha : AscZ L[q].2.1.2 := by
    have := has_asc hP (q := q) hq
    have e : (T, Bs).2[q] = dH L[q] := hqe.symm
    rw [e] at this
    exact this
  refine (letHv_any B gb q v0 v1 T L x S th os ns ks z hbx hp hgb (by rw [hm]; exact eq) hql (by have := hsm.2.2; simp only at this; omega) (by rw [hm]; exact hsm.1) (h2v.same (Same.of_below hz hSv)) (fun b hb => Nat.lt_of_lt_of_le (hSv b hb) hB) hnd.1 hnd.2 ha).mono ?_
  rintro e w' ⟨he, L', hb', hp', hm', hbe⟩
  refine ⟨he, v0, v1, L', hb', hp', ?_, hbe⟩
  unfold akN
  rw [eq, Int.toNat_natCast, hm', hm, btN_at hq, hqe]

theorem askP_any (S : Nat → Prop) (T : List ByteArray) (Bs : List DShareBatch) (nd : List ByteArray) (o0 oa : Option Addr) (n0 k0 nb kb : Nat) (os : Option Addr) (ns ks : Nat) (x : ByteArray) (w : World) (h0 : AtL S w T (.slice o0 n0 k0)) (h1 : AtL S w Bs (.slice oa nb kb)) (h2 : AtL S w nd (.slice os ns ks)) (hS : ∀ b, S b → b < w.heap.size) (_ : Lay.tot (α := DShareBook) (T, Bs) ≤ 1048576) (_ : totL nd ≤ 1048576) (_ : x.size ≤ 1048576) (hl : Laid0 w) :
    Calls Tryz.prog 9 #[.agg #[.slice o0 n0 k0, .slice oa nb kb], .string x, .slice os ns ks] w (AnsW w (askS (T, Bs) x nd).1 (askS (T, Bs) x nd).2) := by
  rw [← (ask_is (T, Bs) x nd).1, ← (ask_is (T, Bs) x nd).2]
  refine topW_A x os ns ks _ _ o0 oa n0 k0 nb kb w fun u hu => ?_
  have h0u := h0.same (Same.of_below hu hS)
  have h1u := h1.same (Same.of_below hu hS)
  have h2u := h2.same (Same.of_below hu hS)
  have hSu : ∀ b, S b → b < u.heap.size := fun b hb => Nat.lt_of_lt_of_le (hS b hb) hu.size
  have BEH : bokB (T, Bs) = true → ndC Bs x nd = 0 → ∀ v, Below u.heap.size u v → Calls Tryz.prog 41 #[.agg #[.slice o0 n0 k0, .slice oa nb kb], .iface 51 (.agg #[.string x, .slice os ns ks])] v (BehW v (akN (T, Bs) x nd)) := fun hok hc v hv => behA_any S T Bs nd o0 oa n0 k0 nb kb os ns ks x v (h0u.same (Same.of_below hv hSu)) (h1u.same (Same.of_below hv hSu)) (h2u.same (Same.of_below hv hSu)) (fun b hb => Nat.lt_of_lt_of_le (hSu b hb) hv.size) hok hc
  refine ansW_A x os ns ks (akC (T, Bs) x nd) (akR (T, Bs) x nd) S T Bs o0 oa n0 k0 nb kb u h0u h1u hSu (hl.below hu) (fun hok v hv => ?_) (fun hok hc v hv => ?_) (fun hc => ?_)
  · exact refHv_any S S T Bs o0 oa n0 k0 nb kb x nd os ns ks v (h0u.same (Same.of_below hv hSu)) (h1u.same (Same.of_below hv hSu)) (fun b hb => Nat.lt_of_lt_of_le (hSu b hb) hv.size) (h2u.same (Same.of_below hv hSu)) (fun b hb => Nat.lt_of_lt_of_le (hSu b hb) hv.size) hok (fun hc z hz => BEH hok hc z (hv.trans (hz.mono hv.size)))
  · have e : akR (T, Bs) x nd = akN (T, Bs) x nd := by unfold akR; rw [if_pos hc]
    rw [e]
    exact BEH hok (akC_zero hc) v hv
  · unfold akR
    rw [if_neg hc]

end Go.Proofs.YtidojjecjjochadGreatDoor
