/-
  The program's ShareEnter, whole: it answers as the model does, with a book that owns its memory.
-/
import Derived.Test.YtidojjecjjochacGreatDoorZqhE
import Derived.Test.YtidojjecjjochacGreatDoorZqmE
namespace Go.Proofs.YtidojjecjjochacGreatDoor
open Go.RowKit Go.Sort

noncomputable def enC (D : DShareBook) (x : ByteArray) (nd : List ByteArray) : Int := if nameB x = true ∧ subB D.1 nd = true then (if 0 ≤ atI D.2 x then 3 else if 5 ≤ D.2.length then 4 else 0) else 2
noncomputable def enR (D : DShareBook) (x : ByteArray) (nd : List ByteArray) : DShareBook := if enC D x nd = 0 then (D.1, D.2.take (posB D.2 x) ++ [(x, [], nd)] ++ D.2.drop (posB D.2 x)) else D
section
variable {D : DShareBook} {x : ByteArray} {nd : List ByteArray}
theorem enC_2 (h : ¬ (nameB x = true ∧ subB D.1 nd = true)) : enC D x nd = 2 := by unfold enC; rw [if_neg h]
theorem enC_3 (h : nameB x = true ∧ subB D.1 nd = true) (h1 : 0 ≤ atI D.2 x) : enC D x nd = 3 := by unfold enC; rw [if_pos h, if_pos h1]
theorem enC_4 (h : nameB x = true ∧ subB D.1 nd = true) (h1 : ¬ 0 ≤ atI D.2 x) (h2 : 5 ≤ D.2.length) : enC D x nd = 4 := by unfold enC; rw [if_pos h, if_neg h1, if_pos h2]
theorem enC_0 (h : nameB x = true ∧ subB D.1 nd = true) (h1 : ¬ 0 ≤ atI D.2 x) (h2 : ¬ 5 ≤ D.2.length) : enC D x nd = 0 := by unfold enC; rw [if_pos h, if_neg h1, if_neg h2]
theorem enC_zero (h : enC D x nd = 0) : (nameB x = true ∧ subB D.1 nd = true) ∧ ¬ 0 ≤ atI D.2 x ∧ ¬ 5 ≤ D.2.length := by
  by_cases h0 : nameB x = true ∧ subB D.1 nd = true
  · by_cases h1 : 0 ≤ atI D.2 x
    · rw [enC_3 h0 h1] at h; exact absurd h (by decide)
    · by_cases h2 : 5 ≤ D.2.length
      · rw [enC_4 h0 h1 h2] at h; exact absurd h (by decide)
      · exact ⟨h0, h1, h2⟩
  · rw [enC_2 h0] at h; exact absurd h (by decide)
end
theorem ent_is (D : DShareBook) (x : ByteArray) (nd : List ByteArray) : (if bokB D = true then enR D x nd else ([], [])) = (entS D x nd).1 ∧ (if bokB D = true then enC D x nd else 1) = (entS D x nd).2 := by
  by_cases h : bokB D = true
  · rw [if_pos h, if_pos h]
    by_cases h0 : nameB x = true ∧ subB D.1 nd = true
    · by_cases h1 : 0 ≤ atI D.2 x
      · unfold enR entS
        rw [enC_3 h0 h1, if_neg (by decide), if_pos h, if_pos h0, if_pos h1]
        exact ⟨rfl, rfl⟩
      · by_cases h2 : 5 ≤ D.2.length
        · unfold enR entS
          rw [enC_4 h0 h1 h2, if_neg (by decide), if_pos h, if_pos h0, if_neg h1, if_pos h2]
          exact ⟨rfl, rfl⟩
        · unfold enR entS
          rw [enC_0 h0 h1 h2, if_pos rfl, if_pos h, if_pos h0, if_neg h1, if_neg h2]
          exact ⟨rfl, rfl⟩
    · unfold enR entS
      rw [enC_2 h0, if_neg (by decide), if_pos h, if_neg h0]
      exact ⟨rfl, rfl⟩
  · unfold entS
    rw [if_neg h, if_neg h, if_neg h]
    exact ⟨rfl, rfl⟩
theorem ndT_small {D : DShareBook} {nd : List ByteArray} (h : BokP D) (h2 : subB D.1 nd = true) : SmL nd := by
  have hs := (bok_small h).1.1
  have hl := sub_lenM h2
  exact hs.of_sub h2 (by have := hs.1; omega)
theorem ent_tot (D : DShareBook) (x : ByteArray) (nd : List ByteArray) : Lay.tot (entS D x nd).1 ≤ 1048576 := by
  rw [← (ent_is D x nd).1]
  by_cases h : bokB D = true
  · rw [if_pos h]
    have hs := (bok_small (bok_iff.1 h)).1
    by_cases hc : enC D x nd = 0
    · obtain ⟨h0, h1, h2⟩ := enC_zero hc
      have := (ent_small (x := x) hs (ndT_small (bok_iff.1 h) h0.2) (by have := name_smallM h0.1; omega)).tot
      rw [← (ent_is D x nd).1, if_pos h] at this
      exact this
    · unfold enR
      rw [if_neg hc]
      exact hs.tot
  · rw [if_neg h]
    exact sm_nil.tot
theorem bat_far {D : DShareBook} (h : BokP D) : ∀ (j i : Nat) (hj : j < D.2.length) (hij : i < j), ltB (D.2[i]'(by omega)).1 D.2[j].1 = true
  | 0, i, _, hij => by omega
  | j + 1, i, hj, hij => by
    have hb := (h.row (j + 1) hj).bat
    unfold batB at hb
    simp only [Bool.and_eq_true] at hb
    have h2 : ltB (D.2[j]'(by omega)).1 D.2[j + 1].1 = true := by
      have := hb.1.1.2
      rw [prev_succ D.2 j (by omega)] at this
      exact this
    by_cases e : i = j
    · subst e; exact h2
    · exact ltB_transM (bat_far h j i (by omega) (by omega)) h2
theorem bat_mono {D : DShareBook} (h : BokP D) (x : ByteArray) : ∀ p q (hq : q < D.2.length) (hpq : p ≤ q), ltB D.2[q].1 x = true → ltB (D.2[p]'(by omega)).1 x = true := fun p q hq hpq hl => by
  by_cases e : p = q
  · subst e; exact hl
  · exact ltB_transM (bat_far h q p hq (by omega)) hl
theorem at_none {Bs : List DShareBatch} {x : ByteArray} (h : ¬ 0 ≤ atI Bs x) : ∀ q (hq : q < Bs.length), eqB Bs[q].1 x = false := fun q hq => by
  cases he : eqB Bs[q].1 x
  · rfl
  · exfalso
    apply h
    unfold atI idxI
    cases hf : Bs.findIdx? (fun f => eqB f.1 x) with
    | none =>
      rw [List.findIdx?_eq_none_iff] at hf
      have := hf _ (List.getElem_mem hq)
      rw [he] at this
      exact absurd this (by decide)
    | some i => simp

set_option maxRecDepth 100000 in
set_option maxHeartbeats 8000000 in
theorem refEn_any (S SN : Nat → Prop) (T : List ByteArray) (Bs : List DShareBatch) (o0 oa : Option Addr) (n0 k0 nb kb : Nat) (x : ByteArray) (nd : List ByteArray) (on : Option Addr) (nn kn : Nat) (w : World) (h0 : AtL S w T (.slice o0 n0 k0)) (h1 : AtL S w Bs (.slice oa nb kb)) (hS : ∀ b, S b → b < w.heap.size) (hN : AtL SN w nd (.slice on nn kn)) (hSN : ∀ b, SN b → b < w.heap.size) (hx : x.size ≤ 1048576) :
    Calls Tryz.prog 113 #[.agg #[.string x, .slice on nn kn], .agg #[.slice o0 n0 k0, .slice oa nb kb]] w fun e w' => e = .returned (errW x (enC (T, Bs) x nd)) ∧ Below w.heap.size w w' := by
  have H0 : Hid (∀ u, Below w.heap.size w u → AtL S u T (.slice o0 n0 k0)) := fun u hu => h0.same (Same.of_below hu hS)
  have H1 : Hid (∀ u, Below w.heap.size w u → AtL S u Bs (.slice oa nb kb)) := fun u hu => h1.same (Same.of_below hu hS)
  have HS : Hid (∀ u, Below w.heap.size w u → ∀ b, S b → b < u.heap.size) := fun u hu b hb => Nat.lt_of_lt_of_le (hS b hb) hu.size
  have HN : Hid (∀ u, Below w.heap.size w u → AtL SN u nd (.slice on nn kn)) := fun u hu => hN.same (Same.of_below hu hSN)
  have HSN : Hid (∀ u, Below w.heap.size w u → ∀ b, SN b → b < u.heap.size) := fun u hu b hb => Nat.lt_of_lt_of_le (hSN b hb) hu.size
  have enb : Bs.length = nb := by obtain ⟨_, _, e, _⟩ := h1; cases e; rfl
  have hnbm : nb ≤ maxLen := by obtain ⟨_, _, e, hq, _⟩ := h1; cases e; exact hq.1
  unfold maxLen at hnbm
  have ENB : Hid (Bs.length = nb) := enb
  obtain ⟨W, hW⟩ : ∃ W, W = (w.alloc (.cells #[.string x, .slice on nn kn] 50)).alloc (.cells #[.slice o0 n0 k0, .slice oa nb kb] 30) := ⟨_, rfl⟩
  have EW : Hid (W = (w.alloc (.cells #[.string x, .slice on nn kn] 50)).alloc (.cells #[.slice o0 n0 k0, .slice oa nb kb] 30)) := hW
  have BW : Hid (Below w.heap.size w W) := by rw [hW]; exact ((Below.refl _ _).alloc (Nat.le_refl _) _).alloc (by simp) _
  have R1 : Hid (W.heap[w.heap.size]? = some (.cells #[.string x, .slice on nn kn] 50 (0, 0))) := by rw [hW]; exact (Below.heap_alloc _ _ _ (by simp)).trans (heap_alloc_new w _)
  have R2 : Hid (W.heap[w.heap.size + 1]? = some (.cells #[.slice o0 n0 k0, .slice oa nb kb] 30 (0, 0))) := by rw [hW]; exact alloc_atR _ (by simp)
  have sW : w.heap.size + 2 ≤ W.heap.size := by rw [hW]; simp
  obtain ⟨RV, eRV⟩ : ∃ v, errW x (enC (T, Bs) x nd) = v := ⟨_, rfl⟩
  rw [eRV]
  have ERV : Hid (errW x (enC (T, Bs) x nd) = RV) := eRV
  have CELLS : Hid (∀ v, Below W.heap.size W v → (v.cell? ⟨w.heap.size, 0, none⟩ = some (.string x) ∧ v.cell? ⟨w.heap.size, 1, none⟩ = some (.slice on nn kn)) ∧ v.cell? ⟨w.heap.size + 1, 0, none⟩ = some (.slice o0 n0 k0) ∧ v.cell? ⟨w.heap.size + 1, 1, none⟩ = some (.slice oa nb kb)) := fun v hv => by
    have r1 := (hv.block w.heap.size (by omega)).trans R1.out
    have r2 := (hv.block (w.heap.size + 1) (by omega)).trans R2.out
    exact ⟨⟨(cell_row r1 0 _ rfl).1, (cell_row r1 1 _ rfl).1⟩, (cell_row r2 0 _ rfl).1, (cell_row r2 1 _ rfl).1⟩
  clear h0 h1 hN hW eRV enb R1 R2
  obtain ⟨⟨c0, c1⟩, c2, c3⟩ := CELLS.out W (Below.refl _ _)
  have CN : Hid (Calls Tryz.prog 54 #[.string x] W fun e w' => e = .returned (.bool (nameB x)) ∧ Below W.heap.size W w') := nameI_any x W (by unfold maxLen; omega)
  go_enter Tryz.func113, Tryz.ntmps113
  go_upto_region 1 with fail
  rw [← EW.out]
  cases hnm : nameB x
  · rw [hnm] at CN
    have E3 : Hid (RV = refV x 2) := by
      show _ = _
      rw [← ERV.out, enC_2 (fun h => by rw [hnm] at h; exact absurd h.1 (by decide)), errW_yes x (by decide)]; rfl
    go_wp2_with fail
    refine Calls.mono CN.out ?_
    rintro e w1 ⟨rfl, hb1⟩
    clear c0 c1 c2 c3
    obtain ⟨⟨c0, c1⟩, c2, c3⟩ := CELLS.out w1 hb1
    have BW1 : Hid (Below w.heap.size w w1) := BW.out.trans (hb1.mono BW.out.size)
    clear hb1
    go_wp2_with (first
      | (go_at_call 114; refine (refused_any _ _ _).mono ?_; rintro e w2 ⟨rfl, rfl⟩))
    go_ret
    exact ⟨by rw [E3.out]; rfl, BW1.out⟩
  rw [hnm] at CN
  have CO : Hid (∀ v, Below W.heap.size W v → Calls Tryz.prog 55 #[.slice on nn kn, .slice o0 n0 k0] v fun e w' => e = .returned (.bool (subB T nd)) ∧ Below v.heap.size v w') := fun v hv => by
    have hb := BW.out.trans (hv.mono BW.out.size)
    exact isOf_any SN S (.slice on nn kn) (.slice o0 n0 k0) nd T v (HN.out v hb) (H0.out v hb) (HSN.out v hb) (HS.out v hb)
  obtain ⟨sb, esb⟩ : ∃ b, subB T nd = b := ⟨_, rfl⟩
  rw [esb] at CO
  have ESB : Hid (subB T nd = sb) := esb
  have HNM : Hid (nameB x = true) := hnm
  clear esb hnm
  go_wp2_with fail
  refine Calls.mono CN.out ?_
  rintro e w1 ⟨rfl, hb1⟩
  clear c0 c1 c2 c3
  obtain ⟨⟨c0, c1⟩, c2, c3⟩ := CELLS.out w1 hb1
  have CO1 := CO.out w1 hb1
  have HCO1 : Hid _ := CO1
  have B1 : Hid (Below W.heap.size W w1) := hb1
  clear hb1 CO1
  go_wp2_with fail
  refine Calls.mono HCO1.out ?_
  rintro e w2 ⟨rfl, hb2⟩
  have B2 : Hid (Below W.heap.size W w2) := B1.out.trans (hb2.mono B1.out.size)
  have BW2 : Hid (Below w.heap.size w w2) := BW.out.trans (B2.out.mono BW.out.size)
  clear hb2 c0 c1 c2 c3
  obtain ⟨⟨c0, c1⟩, c2, c3⟩ := CELLS.out w2 B2.out
  cases sb
  · have E3 : Hid (RV = refV x 2) := by
      show _ = _
      rw [← ERV.out, enC_2 (fun h => by have h2 : subB T nd = true := h.2; rw [ESB.out] at h2; exact absurd h2 (by decide)), errW_yes x (by decide)]; rfl
    go_wp2_with (first
      | (go_at_call 114; refine (refused_any _ _ _).mono ?_; rintro e w3 ⟨rfl, rfl⟩))
    go_ret
    exact ⟨by rw [E3.out]; rfl, BW2.out⟩
  have HAND : Hid (nameB x = true ∧ subB T nd = true) := ⟨HNM.out, ESB.out⟩
  go_wp2_with fail
  refine (batchAtI_any S _ _ Bs x w2 (H1.out w2 BW2.out) (HS.out w2 BW2.out)).mono ?_
  rintro e w3 ⟨rfl, hb3⟩
  have B3 : Hid (Below W.heap.size W w3) := B2.out.trans (hb3.mono B2.out.size)
  have BW3 : Hid (Below w.heap.size w w3) := BW2.out.trans (hb3.mono BW2.out.size)
  clear hb3 c0 c1 c2 c3
  obtain ⟨⟨c0, c1⟩, c2, c3⟩ := CELLS.out w3 B3.out
  obtain ⟨i, ei⟩ : ∃ i, idxI Bs (fun p : DShareBatch => eqB p.1 x) = i := ⟨_, rfl⟩
  have EI : Hid (atI Bs x = i) := ei
  rw [ei]
  clear ei
  by_cases hi : 0 ≤ i
  · have E3 : Hid (RV = refV x 3) := by
      show _ = _
      rw [← ERV.out, enC_3 HAND.out (by show 0 ≤ atI Bs x; rw [EI.out]; exact hi), errW_yes x (by decide)]; rfl
    go_wp2_with (first
      | (go_at_call 114; refine (refused_any _ _ _).mono ?_; rintro e w4 ⟨rfl, rfl⟩))
    go_ret
    exact ⟨by rw [E3.out]; rfl, BW3.out⟩
  have HI : Hid (¬ 0 ≤ atI Bs x) := by show ¬ _; rw [EI.out]; exact hi
  by_cases h5 : 5 ≤ nb
  · have E3 : Hid (RV = refV x 4) := by
      show _ = _
      rw [← ERV.out, enC_4 HAND.out (by have := HI.out; show ¬ 0 ≤ atI Bs x; omega) (by show 5 ≤ Bs.length; rw [ENB.out]; exact h5), errW_yes x (by decide)]; rfl
    go_wp2_with (first
      | (go_at_call 114; refine (refused_any _ _ _).mono ?_; rintro e w4 ⟨rfl, rfl⟩))
    go_ret
    exact ⟨by rw [E3.out]; rfl, BW3.out⟩
  · have E3 : Hid (RV = .nilIface) := by
      show _ = _
      rw [← ERV.out, enC_0 HAND.out (by have := HI.out; show ¬ 0 ≤ atI Bs x; omega) (by show ¬ 5 ≤ Bs.length; rw [ENB.out]; exact h5), errW_no]
    go_wp2_with fail
    go_ret
    exact ⟨by rw [E3.out]; rfl, BW3.out⟩

theorem entP_any (S : Nat → Prop) (T : List ByteArray) (Bs : List DShareBatch) (nd : List ByteArray) (o0 oa : Option Addr) (n0 k0 nb kb : Nat) (os : Option Addr) (ns ks : Nat) (x : ByteArray) (w : World) (h0 : AtL S w T (.slice o0 n0 k0)) (h1 : AtL S w Bs (.slice oa nb kb)) (h2 : AtL S w nd (.slice os ns ks)) (hS : ∀ b, S b → b < w.heap.size) (_ : Lay.tot (α := DShareBook) (T, Bs) ≤ 1048576) (_ : totL nd ≤ 1048576) (hx : x.size ≤ 1048576) (hl : Laid0 w) :
    Calls Tryz.prog 9 #[.agg #[.slice o0 n0 k0, .slice oa nb kb], .string x, .slice os ns ks] w (AnsW w (entS (T, Bs) x nd).1 (entS (T, Bs) x nd).2) := by
  rw [← (ent_is (T, Bs) x nd).1, ← (ent_is (T, Bs) x nd).2]
  refine topW_E x os ns ks _ _ o0 oa n0 k0 nb kb w fun u hu => ?_
  have h0u := h0.same (Same.of_below hu hS)
  have h1u := h1.same (Same.of_below hu hS)
  have h2u := h2.same (Same.of_below hu hS)
  have hSu : ∀ b, S b → b < u.heap.size := fun b hb => Nat.lt_of_lt_of_le (hS b hb) hu.size
  refine ansW_E x os ns ks (enC (T, Bs) x nd) (enR (T, Bs) x nd) S T Bs o0 oa n0 k0 nb kb u h0u h1u hSu (hl.below hu) (fun _ v hv => ?_) (fun hok hc v hv => ?_) (fun hc => ?_)
  · exact refEn_any S S T Bs o0 oa n0 k0 nb kb x nd os ns ks v (h0u.same (Same.of_below hv hSu)) (h1u.same (Same.of_below hv hSu)) (fun b hb => Nat.lt_of_lt_of_le (hSu b hb) hv.size) (h2u.same (Same.of_below hv hSu)) (fun b hb => Nat.lt_of_lt_of_le (hSu b hb) hv.size) hx
  · have hP := bok_iff.1 hok
    have hsm := bok_small hP
    obtain ⟨ha, hb, h5⟩ := enC_zero hc
    have hnd := ndT_small hP ha.2
    have hSv : ∀ b, S b → b < v.heap.size := fun b hb => Nat.lt_of_lt_of_le (hSu b hb) hv.size
    have h2v := h2u.same (Same.of_below hv hSu)
    refine behW_E x os ns ks (enR (T, Bs) x nd) S T Bs o0 oa n0 k0 nb kb v (h0u.same (Same.of_below hv hSu)) (h1u.same (Same.of_below hv hSu)) hSv hsm.1 (fun B gb v0 v1 L z hz hB hgb hbx hp hm => ?_)
    have hlen : L.length = Bs.length := by rw [← hm, List.length_map]
    refine (letEn_any B gb v0 v1 T L x S nd os ns ks z hbx hp hgb (by have := hsm.2.2; simp only at this; omega) (h2v.same (Same.of_below hz hSv)) (fun b hb => Nat.lt_of_lt_of_le (hSv b hb) hB) hnd.1 hnd.2 (by have := name_smallM ha.1; omega) ?_ ?_).mono ?_
    · intro p q hq hpq
      simp only [hm]
      exact bat_mono hP x p q (by rw [hm] at hq; exact hq) hpq
    · intro q hq
      simp only [hm]
      exact at_none hb q (by rw [hm] at hq; exact hq)
    rintro e w' ⟨he, v1', L', hb', hp', hm', hbe⟩
    refine ⟨he, v0, v1', L', hb', ?_, ?_, hbe⟩
    · unfold enR
      rw [if_pos hc]
      exact hp'
    · unfold enR
      rw [if_pos hc, hm', hm]
  · unfold enR
    rw [if_neg hc]

end Go.Proofs.YtidojjecjjochacGreatDoor
