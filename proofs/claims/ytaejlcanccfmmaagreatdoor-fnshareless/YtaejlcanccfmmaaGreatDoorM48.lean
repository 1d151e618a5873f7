/-
  Several texts in one.
-/
import Derived.Test.YtaejlcanccfmmaaGreatDoorM44
import Derived.Test.YtaejlcanccfmmaaGreatDoorZqmE
import Derived.RangeFuncNested
import Derived.RangeFuncBound
import Derived.RangeFuncLeaves
import Derived.RangeFuncBox
import Derived.Test.YtaejlcanccfmmaaGreatDoorM10
namespace Go.Proofs.YtaejlcanccfmmaaGreatDoor
open Go.RowKit Go.Sort
noncomputable def enC (D : DShareBook) (x : ByteArray) (nd : List ByteArray) : Int := if nameB x = true ∧ subB D.1 nd = true then (if 0 ≤ atZI D.2 x then 3 else if 5 ≤ D.2.length then 4 else 0) else 2
noncomputable def enR (D : DShareBook) (x : ByteArray) (nd : List ByteArray) : DShareBook := if enC D x nd = 0 then (D.1, D.2.take (posB D.2 x) ++ [(x, [], nd)] ++ D.2.drop (posB D.2 x)) else D
section
variable {D : DShareBook} {x : ByteArray} {nd : List ByteArray}
theorem enC_2 (h : ¬ (nameB x = true ∧ subB D.1 nd = true)) : enC D x nd = 2 := by unfold enC; rw [if_neg h]
theorem enC_3 (h : nameB x = true ∧ subB D.1 nd = true) (h1 : 0 ≤ atZI D.2 x) : enC D x nd = 3 := by unfold enC; rw [if_pos h, if_pos h1]
theorem enC_4 (h : nameB x = true ∧ subB D.1 nd = true) (h1 : ¬ 0 ≤ atZI D.2 x) (h2 : 5 ≤ D.2.length) : enC D x nd = 4 := by unfold enC; rw [if_pos h, if_neg h1, if_pos h2]
theorem enC_0 (h : nameB x = true ∧ subB D.1 nd = true) (h1 : ¬ 0 ≤ atZI D.2 x) (h2 : ¬ 5 ≤ D.2.length) : enC D x nd = 0 := by unfold enC; rw [if_pos h, if_neg h1, if_neg h2]
theorem enC_zero (h : enC D x nd = 0) : (nameB x = true ∧ subB D.1 nd = true) ∧ ¬ 0 ≤ atZI D.2 x ∧ ¬ 5 ≤ D.2.length := by
  by_cases h0 : nameB x = true ∧ subB D.1 nd = true
  · by_cases h1 : 0 ≤ atZI D.2 x
    · rw [enC_3 h0 h1] at h; exact absurd h (by decide)
    · by_cases h2 : 5 ≤ D.2.length
      · rw [enC_4 h0 h1 h2] at h; exact absurd h (by decide)
      · exact ⟨h0, h1, h2⟩
  · rw [enC_2 h0] at h; exact absurd h (by decide)
end
theorem ent_is (D : DShareBook) (x : ByteArray) (nd : List ByteArray) : (if bokB D = true then enR D x nd else ([], [])) = (entS D x nd).1 ∧ (if bokB D = true then enC D x nd else 1) = (entS D x nd).2 := by
  by_cases h : bokB D = true
  · rw [if_pos h, if_pos h]
    by_cases h0 : nameB x = true ∧ subB D.1 nd = true
    · by_cases h1 : 0 ≤ atZI D.2 x
      · unfold enR entS
        rw [enC_3 h0 h1, if_neg (by decide), if_pos h, if_pos h0, if_pos h1]
        exact ⟨rfl, rfl⟩
      · by_cases h2 : 5 ≤ D.2.length
        · unfold enR entS
          rw [enC_4 h0 h1 h2, if_neg (by decide), if_pos h, if_pos h0, if_neg h1, if_pos h2]
          exact ⟨rfl, rfl⟩
        · unfold enR entS
          rw [enC_0 h0 h1 h2, if_pos rfl, if_pos h, if_pos h0, if_neg h1, if_neg h2]
          exact ⟨rfl, rfl⟩
    · unfold enR entS
      rw [enC_2 h0, if_neg (by decide), if_pos h, if_neg h0]
      exact ⟨rfl, rfl⟩
  · unfold entS
    rw [if_neg h, if_neg h, if_neg h]
    exact ⟨rfl, rfl⟩
theorem ndT_small {D : DShareBook} {nd : List ByteArray} (h : BokP D) (h2 : subB D.1 nd = true) : SmL nd := by
  have hs := (bok_small h).1.1
  have hl := sub_lenM h2
  exact hs.of_sub h2 (by have := hs.1; omega)
theorem bat_far {D : DShareBook} (h : BokP D) : ∀ (j i : Nat) (hj : j < D.2.length) (hij : i < j), ltB (D.2[i]'(by omega)).1 D.2[j].1 = true
  | 0, i, _, hij => by omega
  | j + 1, i, hj, hij => by
    have hb := (h.row (j + 1) hj).bat
    unfold batB at hb
    simp only [Bool.and_eq_true] at hb
    have h2 : ltB (D.2[j]'(by omega)).1 D.2[j + 1].1 = true := by
      have := hb.1.1.2
      rw [prev_succ D.2 j (by omega)] at this
      exact this
    by_cases e : i = j
    · subst e; exact h2
    · exact ltB_transM (bat_far h j i (by omega) (by omega)) h2
theorem bat_mono {D : DShareBook} (h : BokP D) (x : ByteArray) : ∀ p q (hq : q < D.2.length) (hpq : p ≤ q), ltB D.2[q].1 x = true → ltB (D.2[p]'(by omega)).1 x = true := fun p q hq hpq hl => by
  by_cases e : p = q
  · subst e; exact hl
  · exact ltB_transM (bat_far h q p hq (by omega)) hl
theorem at_none {Bs : List DShareBatch} {x : ByteArray} (h : ¬ 0 ≤ atZI Bs x) : ∀ q (hq : q < Bs.length), eqB Bs[q].1 x = false := fun q hq => by
  cases he : eqB Bs[q].1 x
  · rfl
  · exfalso
    apply h
    unfold atZI idxI
    cases hf : Bs.findIdx? (fun f => eqB f.1 x) with
    | none =>
      rw [List.findIdx?_eq_none_iff] at hf
      have := hf _ (List.getElem_mem hq)
      rw [he] at this
      exact absurd this (by decide)
    | some i => simp
set_option maxRecDepth 100000 in
set_option maxHeartbeats 8000000 in
theorem refEn_any (S SN : Nat → Prop) (T : List ByteArray) (Bs : List DShareBatch) (o0 oa : Option Addr) (n0 k0 nb kb : Nat) (x : ByteArray) (nd : List ByteArray) (on : Option Addr) (nn kn : Nat) (w : World) (h0 : AtL S w T (.slice o0 n0 k0)) (h1 : AtL S w Bs (.slice oa nb kb)) (hS : ∀ b, S b → b < w.heap.size) (hN : AtL SN w nd (.slice on nn kn)) (hSN : ∀ b, SN b → b < w.heap.size) (hx : x.size ≤ 1048576) :
    Calls Tryz.prog 141 #[.agg #[.string x, .slice on nn kn], .agg #[.slice o0 n0 k0, .slice oa nb kb]] w fun e w' => e = .returned (errW x (enC (T, Bs) x nd)) ∧ Below w.heap.size w w' := by
  have H0 : Hid _ := h0.ups hS
  have H1 : Hid _ := h1.ups hS
  have HS : Hid _ := lt_up hS
  have HN : Hid _ := hN.ups hSN
  have HSN : Hid _ := lt_up hSN
  have enb : Bs.length = nb := by obtain ⟨_, _, e, _⟩ := h1; cases e; rfl
  have hnbm : nb ≤ maxLen := by obtain ⟨_, _, e, hq, _⟩ := h1; cases e; exact hq.1
  unfold maxLen at hnbm
  have ENB : Hid (Bs.length = nb) := enb
  obtain ⟨W, hW⟩ : ∃ W, W = (w.alloc (.cells #[.string x, .slice on nn kn] 56)).alloc (.cells #[.slice o0 n0 k0, .slice oa nb kb] 26) := ⟨_, rfl⟩
  have EW : Hid (W = (w.alloc (.cells #[.string x, .slice on nn kn] 56)).alloc (.cells #[.slice o0 n0 k0, .slice oa nb kb] 26)) := hW
  have BW : Hid (Below w.heap.size w W) := by rw [hW]; exact ((Below.refl _ _).alloc (Nat.le_refl _) _).alloc (by simp) _
  have R1 : Hid (W.heap[w.heap.size]? = some (.cells #[.string x, .slice on nn kn] 56 (0, 0))) := by rw [hW]; exact (Below.heap_alloc _ _ _ (by simp)).trans (heap_alloc_new w _)
  have R2 : Hid (W.heap[w.heap.size + 1]? = some (.cells #[.slice o0 n0 k0, .slice oa nb kb] 26 (0, 0))) := by rw [hW]; exact alloc_atR _ (by simp)
  have sW : w.heap.size + 2 ≤ W.heap.size := by rw [hW]; simp
  obtain ⟨RV, eRV⟩ : ∃ v, errW x (enC (T, Bs) x nd) = v := ⟨_, rfl⟩
  rw [eRV]
  have ERV : Hid (errW x (enC (T, Bs) x nd) = RV) := eRV
  have CELLS : Hid (∀ v, Below W.heap.size W v → (v.cell? ⟨w.heap.size, 0, none⟩ = some (.string x) ∧ v.cell? ⟨w.heap.size, 1, none⟩ = some (.slice on nn kn)) ∧ v.cell? ⟨w.heap.size + 1, 0, none⟩ = some (.slice o0 n0 k0) ∧ v.cell? ⟨w.heap.size + 1, 1, none⟩ = some (.slice oa nb kb)) := fun v hv => by
    have r1 := (hv.block w.heap.size (by omega)).trans R1.out
    have r2 := (hv.block (w.heap.size + 1) (by omega)).trans R2.out
    exact ⟨⟨(cell_row r1 0 _ rfl).1, (cell_row r1 1 _ rfl).1⟩, (cell_row r2 0 _ rfl).1, (cell_row r2 1 _ rfl).1⟩
  clear h0 h1 hN hW eRV enb R1 R2
  obtain ⟨⟨c0, c1⟩, c2, c3⟩ := CELLS.out W (Below.refl _ _)
  have CN : Hid (Calls Tryz.prog 69 #[.string x] W fun e w' => e = .returned (.bool (nameB x)) ∧ Below W.heap.size W w') := nameI_any x W (by unfold maxLen; omega)
  go_enter Tryz.func141, Tryz.ntmps141
  go_upto_region 1 with fail
  rw [← EW.out]
  cases hnm : nameB x
  · rw [hnm] at CN
    have E3 : Hid (RV = refV x 2) := by
      show _ = _
      rw [← ERV.out, enC_2 (fun h => by rw [hnm] at h; exact absurd h.1 (by decide)), errW_yes x (by decide)]; rfl
    go_wp2_with fail
    refine Calls.mono CN.out ?_
    rintro e w1 ⟨rfl, hb1⟩
    clear c0 c1 c2 c3
    obtain ⟨⟨c0, c1⟩, c2, c3⟩ := CELLS.out w1 hb1
    have BW1 : Hid (Below w.heap.size w w1) := BW.out.trans (hb1.mono BW.out.size)
    clear hb1
    go_wp2_with (first
      | (go_at_call 139; refine (refused_any _ _ _).mono ?_; rintro e w2 ⟨rfl, rfl⟩))
    go_ret
    exact ⟨by rw [E3.out]; rfl, BW1.out⟩
  rw [hnm] at CN
  have CO : Hid (∀ v, Below W.heap.size W v → Calls Tryz.prog 70 #[.slice on nn kn, .slice o0 n0 k0] v fun e w' => e = .returned (.bool (subB T nd)) ∧ Below v.heap.size v w') := fun v hv => by
    have hb := BW.out.trans (hv.mono BW.out.size)
    exact isOf_any SN S (.slice on nn kn) (.slice o0 n0 k0) nd T v (HN.out v hb) (H0.out v hb) (HSN.out v hb) (HS.out v hb)
  obtain ⟨sb, esb⟩ : ∃ b, subB T nd = b := ⟨_, rfl⟩
  rw [esb] at CO
  have ESB : Hid (subB T nd = sb) := esb
  have HNM : Hid (nameB x = true) := hnm
  clear esb hnm
  go_wp2_with fail
  refine Calls.mono CN.out ?_
  rintro e w1 ⟨rfl, hb1⟩
  clear c0 c1 c2 c3
  obtain ⟨⟨c0, c1⟩, c2, c3⟩ := CELLS.out w1 hb1
  have CO1 := CO.out w1 hb1
  have HCO1 : Hid _ := CO1
  have B1 : Hid (Below W.heap.size W w1) := hb1
  clear hb1 CO1
  go_wp2_with fail
  refine Calls.mono HCO1.out ?_
  rintro e w2 ⟨rfl, hb2⟩
  have B2 : Hid (Below W.heap.size W w2) := B1.out.trans (hb2.mono B1.out.size)
  have BW2 : Hid (Below w.heap.size w w2) := BW.out.trans (B2.out.mono BW.out.size)
  clear hb2 c0 c1 c2 c3
  obtain ⟨⟨c0, c1⟩, c2, c3⟩ := CELLS.out w2 B2.out
  cases sb
  · have E3 : Hid (RV = refV x 2) := by
      show _ = _
      rw [← ERV.out, enC_2 (fun h => by have h2 : subB T nd = true := h.2; rw [ESB.out] at h2; exact absurd h2 (by decide)), errW_yes x (by decide)]; rfl
    go_wp2_with (first
      | (go_at_call 139; refine (refused_any _ _ _).mono ?_; rintro e w3 ⟨rfl, rfl⟩))
    go_ret
    exact ⟨by rw [E3.out]; rfl, BW2.out⟩
  have HAND : Hid (nameB x = true ∧ subB T nd = true) := ⟨HNM.out, ESB.out⟩
  go_wp2_with fail
  refine (batchAtI_any S _ _ Bs x w2 (H1.out w2 BW2.out) (HS.out w2 BW2.out)).mono ?_
  rintro e w3 ⟨rfl, hb3⟩
  have B3 : Hid (Below W.heap.size W w3) := B2.out.trans (hb3.mono B2.out.size)
  have BW3 : Hid (Below w.heap.size w w3) := BW2.out.trans (hb3.mono BW2.out.size)
  clear hb3 c0 c1 c2 c3
  obtain ⟨⟨c0, c1⟩, c2, c3⟩ := CELLS.out w3 B3.out
  obtain ⟨i, ei⟩ : ∃ i, idxI Bs (fun p : DShareBatch => eqB p.1 x) = i := ⟨_, rfl⟩
  have EI : Hid (atZI Bs x = i) := ei
  rw [ei]
  clear ei
  by_cases hi : 0 ≤ i
  · have E3 : Hid (RV = refV x 3) := by
      show _ = _
      rw [← ERV.out, enC_3 HAND.out (by show 0 ≤ atZI Bs x; rw [EI.out]; exact hi), errW_yes x (by decide)]; rfl
    go_wp2_with (first
      | (go_at_call 139; refine (refused_any _ _ _).mono ?_; rintro e w4 ⟨rfl, rfl⟩))
    go_ret
    exact ⟨by rw [E3.out]; rfl, BW3.out⟩
  have HI : Hid (¬ 0 ≤ atZI Bs x) := by show ¬ _; rw [EI.out]; exact hi
  by_cases h5 : 5 ≤ nb
  · have E3 : Hid (RV = refV x 4) := by
      show _ = _
      rw [← ERV.out, enC_4 HAND.out (by have := HI.out; show ¬ 0 ≤ atZI Bs x; omega) (by show 5 ≤ Bs.length; rw [ENB.out]; exact h5), errW_yes x (by decide)]; rfl
    go_wp2_with (first
      | (go_at_call 139; refine (refused_any _ _ _).mono ?_; rintro e w4 ⟨rfl, rfl⟩))
    go_ret
    exact ⟨by rw [E3.out]; rfl, BW3.out⟩
  · have E3 : Hid (RV = .nilIface) := by
      show _ = _
      rw [← ERV.out, enC_0 HAND.out (by have := HI.out; show ¬ 0 ≤ atZI Bs x; omega) (by show ¬ 5 ≤ Bs.length; rw [ENB.out]; exact h5), errW_no]
    go_wp2_with fail
    go_ret
    exact ⟨by rw [E3.out]; rfl, BW3.out⟩
theorem entP_any (S : Nat → Prop) (T : List ByteArray) (Bs : List DShareBatch) (nd : List ByteArray) (o0 oa : Option Addr) (n0 k0 nb kb : Nat) (os : Option Addr) (ns ks : Nat) (x : ByteArray) (w : World) (h0 : AtL S w T (.slice o0 n0 k0)) (h1 : AtL S w Bs (.slice oa nb kb)) (h2 : AtL S w nd (.slice os ns ks)) (hS : ∀ b, S b → b < w.heap.size) (_ : Lay.tot (α := DShareBook) (T, Bs) ≤ 1048576) (_ : totL nd ≤ 1048576) (hx : x.size ≤ 1048576) (hl : Laid0 w) :
    Calls Tryz.prog 12 #[.agg #[.slice o0 n0 k0, .slice oa nb kb], .string x, .slice os ns ks] w (AnsW w (entS (T, Bs) x nd).1 (entS (T, Bs) x nd).2) := by
  rw [← (ent_is (T, Bs) x nd).1, ← (ent_is (T, Bs) x nd).2]
  refine topW_E x os ns ks _ _ o0 oa n0 k0 nb kb w fun u hu => ?_
  have h0u := h0.same (Same.of_below hu hS)
  have h1u := h1.same (Same.of_below hu hS)
  have h2u := h2.same (Same.of_below hu hS)
  have hSu : ∀ b, S b → b < u.heap.size := fun b hb => Nat.lt_of_lt_of_le (hS b hb) hu.size
  refine ansW_E x os ns ks (enC (T, Bs) x nd) (enR (T, Bs) x nd) S T Bs o0 oa n0 k0 nb kb u h0u h1u hSu (hl.below hu) (fun _ v hv => ?_) (fun hok hc v hv => ?_) (fun hc => ?_)
  · exact refEn_any S S T Bs o0 oa n0 k0 nb kb x nd os ns ks v (h0u.same (Same.of_below hv hSu)) (h1u.same (Same.of_below hv hSu)) (fun b hb => Nat.lt_of_lt_of_le (hSu b hb) hv.size) (h2u.same (Same.of_below hv hSu)) (fun b hb => Nat.lt_of_lt_of_le (hSu b hb) hv.size) hx
  · have hP := bok_iff.1 hok
    have hsm := bok_small hP
    obtain ⟨ha, hb, h5⟩ := enC_zero hc
    have hnd := ndT_small hP ha.2
    have hSv : ∀ b, S b → b < v.heap.size := fun b hb => Nat.lt_of_lt_of_le (hSu b hb) hv.size
    have h2v := h2u.same (Same.of_below hv hSu)
    refine behW_E x os ns ks (enR (T, Bs) x nd) S T Bs o0 oa n0 k0 nb kb v (h0u.same (Same.of_below hv hSu)) (h1u.same (Same.of_below hv hSu)) hSv hsm.1 (fun B gb v0 v1 L z hz hB hgb hbx hp hm => ?_)
    have hlen : L.length = Bs.length := by rw [← hm, List.length_map]
    refine (letEn_any B gb v0 v1 T L x S nd os ns ks z hbx hp hgb (by have := hsm.2.2; simp only at this; omega) (h2v.same (Same.of_below hz hSv)) (fun b hb => Nat.lt_of_lt_of_le (hSv b hb) hB) hnd.1 hnd.2 (by have := name_smallM ha.1; omega) ?_ ?_).mono ?_
    · intro p q hq hpq
      simp only [hm]
      exact bat_mono hP x p q (by rw [hm] at hq; exact hq) hpq
    · intro q hq
      simp only [hm]
      exact at_none hb q (by rw [hm] at hq; exact hq)
    rintro e w' ⟨he, v1', L', hb', hp', hm', hbe⟩
    refine ⟨he, v0, v1', L', hb', ?_, ?_, hbe⟩
    · unfold enR
      rw [if_pos hc]
      exact hp'
    · unfold enR
      rw [if_pos hc, hm', hm]
  · unfold enR
    rw [if_neg hc]
end Go.Proofs.YtaejlcanccfmmaaGreatDoor

namespace Go.Proofs.YtaejlcanccfmmaaGreatDoor
open Go.RowKit
structure KpO (own : World → Nat → Prop) (n₀ : Nat) (W W' : World) : Prop where
  size : W.heap.size ≤ W'.heap.size
  old : ∀ k, own W' k → own W k ∨ W.heap.size ≤ k
  low : ∀ k, k < n₀ → W'.heap[k]? = W.heap[k]?
  blk : ∀ (k : Nat) (c : Array Value) (t : TypeId) (z : Nat × Nat), W.heap[k]? = some (.cells c t z) → ¬ own W k → W'.heap[k]? = some (.cells c t z)
theorem KpO.refl (own : World → Nat → Prop) (n₀ : Nat) (W : World) : KpO own n₀ W W := ⟨Nat.le_refl _, fun _ h => .inl h, fun _ _ => rfl, fun _ _ _ _ h _ => h⟩
theorem KpO.trans {own : World → Nat → Prop} {n₀ : Nat} {A B C : World} (h : KpO own n₀ A B) (k : KpO own n₀ B C) : KpO own n₀ A C := by
  refine ⟨Nat.le_trans h.size k.size, fun i hi => ?_, fun i hi => (k.low i hi).trans (h.low i hi), fun i c t z hc ho => k.blk i c t z (h.blk i c t z hc ho) (fun hB => ?_)⟩
  · rcases k.old i hi with h1 | h1
    · exact h.old i h1
    · exact .inr (Nat.le_trans h.size h1)
  · rcases h.old i hB with h1 | h1
    · exact ho h1
    · exact absurd (Array.getElem?_eq_some_iff.1 hc).1 (by omega)
def OwnSt (own : World → Nat → Prop) (W : World) : Prop :=
  (∀ k, own W k → k < W.heap.size) ∧ ∀ W' row, W.grownBy W' row → (∀ r, row = some r → ∃ o : Obj, W.heap[r]? = some o ∧ o.isCells = false) → ∀ k, own W' k → own W k
theorem OwnSt.kp {own : World → Nat → Prop} {n₀ : Nat} {W W' : World} {row : Option Nat} (h : OwnSt own W) (hn : n₀ ≤ W.heap.size) (hg : W.grownBy W' row) (hr : ∀ r, row = some r → n₀ ≤ r ∧ ∃ o : Obj, W.heap[r]? = some o ∧ o.isCells = false) : KpO own n₀ W W' := by
  refine ⟨hg.size, fun k hk => .inl (h.2 W' row hg (fun r e => (hr r e).2) k hk), fun k hk => hg.block k (by omega) (fun e => by have := (hr k e.symm).1; omega), fun k c t z hc _ => (hg.block k (Array.getElem?_eq_some_iff.1 hc).1 (fun e => ?_)).trans hc⟩
  obtain ⟨o, ho, hn⟩ := (hr k e.symm).2
  rw [hc] at ho
  cases ho; cases hn
variable {F : Fence} {n : Nat} {P : Program}
end Go.Proofs.YtaejlcanccfmmaaGreatDoor

namespace Go.Proofs.YtaejlcanccfmmaaGreatDoor
open Go.RowKit
structure ButR (T : Nat → Prop) (B : Nat) (A C : World) : Prop where
  os : C.os = A.os
  tape : C.tape = A.tape
  output : C.output = A.output
  size : A.heap.size ≤ C.heap.size
  block : ∀ b, b < A.heap.size → ¬ T b → ¬ (B ≤ b ∧ ∃ o : Obj, A.heap[b]? = some o ∧ o.isCells = false) → C.heap[b]? = A.heap[b]?
theorem ButR.of_but {T : Nat → Prop} {B : Nat} {A C : World} (h : But T A C) : ButR T B A C := ⟨h.os, h.tape, h.output, h.size, fun b hb hn _ => h.block b hb hn⟩
theorem ButR.of_below {T : Nat → Prop} {B : Nat} {A C : World} (h : Below A.heap.size A C) : ButR T B A C := ⟨h.os, h.tape, h.output, h.size, fun b hb _ _ => h.block b hb⟩
theorem ButR.put {T : Nat → Prop} {B : Nat} {A : World} {l : Nat} {o : Obj} (hl : A.heap[l]? = some o) (ho : o.isCells = false) (hB : B ≤ l) (o' : Obj) : ButR T B A (A.putObj l o') :=
  have g := grownBy_putObj' A l o'
  ⟨g.os, g.tape, g.output, g.size, fun b hb _ hr => g.block b hb (fun e => hr (by cases e; exact ⟨hB, o, hl, ho⟩))⟩
def postL (own : World → Nat → Prop) (n₀ : Nat) (I : Nat → World → Prop) (Ix : Code → Nat → World → Prop) (k : Nat) (W : World) : Exit → Act → World → Prop
  | .normal, _, W' => KeepsOthers W W' ∧ KpO own n₀ W W' ∧ I (k + 1) W'
  | .exit id, _, W' => KeepsOthers W W' ∧ Ix (.exit id) k W'
  | _, _, _ => False
variable {F : Fence} {n : Nat} {P : Program}
end Go.Proofs.YtaejlcanccfmmaaGreatDoor

namespace Go.Proofs.YtaejlcanccfmmaaGreatDoor
open Go.RowKit
def SeqZ (F : Fence) (n : Nat) (P : Program) (g : Nat) (lb : Array Value) (encs : Nat → Array Value) (own : World → Nat → Prop) (n₀ : Nat) (T low : Nat → Prop) (Z Ze : Nat → World → Prop) (N : Nat) (w : World) : Prop :=
  ∀ (l : Nat) (J Jx : Nat → World → Prop) (W : World), Below w.heap.size w W →
    (∀ k A C, J k A → But T A C → J k C) →
    (∀ k A, J k A → (∀ q, own A q → q < A.heap.size) ∧ ∀ C, But T A C → ∀ q, own C q → own A q) → (∀ q, low q → ¬ own W q) → (∀ k A, J k A → k < N) →
    (∀ k W1, J k W1 → Z k W1 → YieldAt F (n - 1) P l (encs k) W1 fun e W' => (e = .returned (.bool true) ∧ J (k + 1) W' ∧ KpO own n₀ W1 W') ∨ (e = .returned (.bool false) ∧ Jx k W')) →
    J 0 W →
    CallsIn F n P g (#[.func (.yield l) #[] #[]] ++ lb) W fun e W' => (∃ v, e = .returned v) ∧ ((∃ k, J k W' ∧ Ze k W') ∨ ∃ k, Jx k W')
variable {F : Fence} {n : Nat} {P : Program}
theorem wpIn_range_z {g : Operand} {ps : Array Tmp} {assign body : Code} {Q : Exit → Act → World → Prop} {a : Act} {w : World}
    (hro : F.round = none) (h1 : 1 ≤ n) {gf : Nat} {lb : Array Value} (hg : a.eval g = .func (.func gf) #[] lb) (hFg : F.fn gf) (eg : ∀ args w, (callFunc gf args).run P w = .ok (.enter gf args) w)
    {encs : Nat → Array Value} {own : World → Nat → Prop} {n₀ : Nat} {T low : Nat → Prop} {Z Ze : Nat → World → Prop} {N : Nat} {w0 : World} (hseq : SeqZ F (n - 1) P gf lb encs own n₀ T low Z Ze N w0)
    (hb0 : Below w0.heap.size w0 w) (hps : ∀ k, (encs k).size = ps.size) (hno : ∀ q, low q → ¬ own w q) (hlo : n₀ ≤ w.heap.size) (hT : ∀ q, T q → q < w.heap.size)
    (I : Nat → World → Prop) (Ix : Code → Nat → World → Prop) (hI : ∀ k A C, I k A → ButR T w.heap.size A C → I k C) (hIx : ∀ c k A C, Ix c k A → ButR (fun _ => False) w.heap.size A C → Ix c k C) (hZ : ∀ k A C, Z k A → ButR (fun _ => False) w.heap.size A C → Z k C) (hZe : ∀ k A C, Ze k A → ButR (fun _ => False) w.heap.size A C → Ze k C)
    (hst : ∀ k A, I k A → (∀ q, own A q → q < A.heap.size) ∧ ∀ C, ButR T w.heap.size A C → ∀ q, own C q → own A q) (h0 : I 0 w) (hN : ∀ k A, I k A → k < N)
    (hround : ∀ (l k : Nat) (W : World), I k W → Z k W → ∃ (a₁ : Act) (Wa : World), Below W.heap.size W Wa ∧
      (∀ K : Act → World → Prop, K a₁ Wa → assign.wpIn (F.inRound l) (n - 1 - 1) P (Exit.then K (fun _ _ _ => False)) { tmps := (ps.zip (encs k)).foldl (fun t (p, v) => t.setIfInBounds p v) a.tmps, defers := [] } W) ∧
      ∀ V : World, I k V → Z k V → (∃ (q : Nat) (o o' : Obj), Wa.heap[q]? = some o ∧ o.isCells = false ∧ V = Wa.putObj q o') → body.wpIn (F.inRound l) (n - 1 - 1) P (postL own n₀ I Ix k V) a₁ V)
    (hdone : ∀ (D k : Nat) (W : World), w.heap.size ≤ D → D < W.heap.size → Ze k W → I k W → W.heap[D]? = some (.deferred (some [])) → Q .normal { a with defers := { target := .collected D, args := #[] } :: a.defers } W)
    (hstop : ∀ (D : Nat) (c : Code) (k : Nat) (W : World), w.heap.size ≤ D → D < W.heap.size → Ix c k W → W.heap[D]? = some (.deferred (some [])) → c.wpIn F n P Q { a with defers := { target := .collected D, args := #[] } :: a.defers } W) :
    (Code.rangeFunc g ps assign body).wpIn F n P Q a w := by
  refine wpIn_rangeFunc fun fn hfn => ?_
  rw [hro]
  let rec' : LoopState → Option Code → Loop := fun st pe => { state := st, pending := pe, fn, tmps := a.tmps, params := ps, assign, body, defers := w.heap.size }
  obtain ⟨W1, hW1⟩ : ∃ W1, (w.alloc (.deferred (some []))).alloc (.loop (rec' .ready none)) = W1 := ⟨_, rfl⟩
  have hL1 : W1.heap[w.heap.size + 1]? = some (.loop (rec' .ready none)) := by
    rw [← hW1]; have := World.alloc_heap_new (w.alloc (.deferred (some []))) (.loop (rec' .ready none)); rwa [World.size_alloc] at this
  have hD1 : W1.heap[w.heap.size]? = some (.deferred (some [])) := by
    rw [← hW1]; exact (Below.heap_alloc _ _ _ (by simp)).trans (World.alloc_heap_new w _)
  have hw1 : Below w.heap.size w W1 := by
    rw [← hW1]; exact ((Below.refl _ w).alloc (Nat.le_refl _) _).alloc (by simp) _
  have hI1 : I 0 W1 := hI 0 w W1 h0 (.of_below hw1)
  have hb1 : Below w0.heap.size w0 W1 := hb0.trans (hw1.mono hb0.size)
  have hno1 : ∀ q, low q → ¬ own W1 q := fun q hq ho => hno q hq ((hst 0 w h0).2 W1 (.of_below hw1) q ho)
  refine ⟨w.heap.size + 1, [{ target := .collected w.heap.size, args := #[] }], W1, { target := .fn (.func gf) lb, args := #[.func (.yield (w.heap.size + 1)) #[] #[]] }, W1, gf,
    #[.func (.yield (w.heap.size + 1)) #[] #[]] ++ lb, W1, ?_, ?_, ?_, ?_, fun _ => h1, ?_⟩
  · rw [← hW1]; exact run_enterLoop_outer _ _ _ _ _
  · simp only [resolve, hg]
    simp [go_sem]
  · intro f' hf'; simp [Target.leads] at hf'; subst hf'; exact hFg
  · simp [invoke, go_sem, eg]
  · let Bk : LoopState → Option Code → World → Prop := fun st pe W => W.heap[w.heap.size + 1]? = some (.loop (rec' st pe)) ∧ W.heap[w.heap.size]? = some (.deferred (some []))
    have bkT : ∀ (st : LoopState) (pe : Option Code) (A C : World), Bk st pe A → But T A C → Bk st pe C := fun st pe A C h hb =>
      ⟨(hb.block _ (Array.getElem?_eq_some_iff.1 h.1).1 (fun ht => by have := hT _ ht; omega)).trans h.1, (hb.block _ (Array.getElem?_eq_some_iff.1 h.2).1 (fun ht => by have := hT _ ht; omega)).trans h.2⟩
    refine (hseq (w.heap.size + 1) (fun k W => I k W ∧ Bk .ready none W) (fun k W => ∃ c, Ix c k W ∧ Bk .done (some c) W) W1 hb1
      (fun k A C h hb => ⟨hI k A C h.1 (.of_but hb), bkT _ _ A C h.2 hb⟩)
      (fun k A h => ⟨(hst k A h.1).1, fun C hb q hq => (hst k A h.1).2 C (.of_but hb) q hq⟩) hno1 (fun k A h => hN k A h.1) ?_ ⟨hI1, hL1, hD1⟩).mono ?_
    · rintro k W ⟨hi, hl, hd⟩ hz
      have hlt : w.heap.size + 1 < W.heap.size := (Array.getElem?_eq_some_iff.1 hl).1
      obtain ⟨a₁, Wa, ba, hassign, hbody⟩ := hround (w.heap.size + 1) k W hi hz
      refine ⟨fn, _, assign, body, run_yield (P := P) (args := encs k) hl (hps k), roundIn_of_wpIn hfn (hassign _ ?_)⟩
      have hs := hst k W hi
      have kpa : KpO own n₀ W Wa := ⟨ba.size, fun q hq => .inl (hs.2 Wa (.of_below ba) q hq), fun q hq => ba.block q (by omega), fun q c t z hc _ => (ba.block q (Array.getElem?_eq_some_iff.1 hc).1).trans hc⟩
      have hia : I k Wa := hI k W Wa hi (.of_below ba)
      have hla := (ba.block _ hlt).trans hl
      have hda := (ba.block _ (by omega)).trans hd
      have sa := ba.size
      have kpp : ∀ (i : Nat) (A : World) (st : LoopState) (pe : Option Code) (o' : Obj), I i A → A.heap[w.heap.size + 1]? = some (.loop (rec' st pe)) → KpO own n₀ A (A.putObj (w.heap.size + 1) o') := fun i A st pe o' hA hlA =>
        ⟨by simp, fun q hq => .inl ((hst i A hA).2 _ (.put hlA rfl (by omega) o') q hq), fun q hq => World.putObj_heap_other (by omega), fun q c t z hc _ => (World.putObj_heap_other (fun e => by first | (subst e; rw [hlA] at hc; cases hc) | (rw [e] at hlA; rw [hlA] at hc; cases hc) | (rw [← e] at hc; rw [hlA] at hc; cases hc))).trans hc⟩
      refine ⟨_, run_beginRound hla rfl, ?_⟩
      have hl2 : (Wa.putObj (w.heap.size + 1) (.loop (rec' .busy none))).heap[w.heap.size + 1]? = some (.loop (rec' .busy none)) := World.putObj_heap_same (by omega)
      have hd2 : (Wa.putObj (w.heap.size + 1) (.loop (rec' .busy none))).heap[w.heap.size]? = some (.deferred (some [])) := (World.putObj_heap_other (by omega)).trans hda
      have hi2 : I k (Wa.putObj (w.heap.size + 1) (.loop (rec' .busy none))) := hI k Wa _ hia (.put hla rfl (by omega) _)
      have hz2 : Z k (Wa.putObj (w.heap.size + 1) (.loop (rec' .busy none))) := hZ k Wa _ (hZ k W Wa hz (.of_below ba)) (.put hla rfl (by omega) _)
      refine wpIn_mono (hbody _ hi2 hz2 ⟨_, _, _, hla, rfl, rfl⟩) ?_
      rintro e a3 W3 hp
      cases e with
      | normal =>
        obtain ⟨hk3, hkp3, hi3⟩ := hp
        have hl3 := hk3.same _ _ hl2 rfl
        have hd3 := hk3.same _ _ hd2 rfl
        have hlt3 := (Array.getElem?_eq_some_iff.1 hl3).1
        refine ⟨_, _, run_endRound (P := P) none hl3, .inl ⟨rfl, ⟨hI (k + 1) W3 _ hi3 (.put hl3 rfl (by omega) _), World.putObj_heap_same hlt3, (World.putObj_heap_other (by omega)).trans hd3⟩, ?_⟩⟩
        exact kpa.trans ((kpp k Wa _ _ _ hia hla).trans (hkp3.trans (kpp (k + 1) W3 _ _ _ hi3 hl3)))
      | exit id =>
        obtain ⟨hk3, hi3⟩ := hp
        have hl3 := hk3.same _ _ hl2 rfl
        have hd3 := hk3.same _ _ hd2 rfl
        have hlt3 := (Array.getElem?_eq_some_iff.1 hl3).1
        exact ⟨_, _, run_endRound (P := P) (some (.exit id)) hl3, .inr ⟨rfl, .exit id, hIx _ k W3 _ hi3 (.put hl3 rfl (by omega) _), World.putObj_heap_same hlt3, (World.putObj_heap_other (by omega)).trans hd3⟩⟩
      | ret => exact hp.elim
      | goto t => exact hp.elim
      | panic ch => exact hp.elim
      | outgrown => exact hp.elim
    · rintro e W2 ⟨⟨v, rfl⟩, ⟨k, ⟨hi, hl, hd⟩, hze⟩ | ⟨k, c, hi, hl, hd⟩⟩
      · have hlt2 := (Array.getElem?_eq_some_iff.1 hl).1
        exact ⟨none, _, run_endLoop (P := P) hl (by simp [rec']), hdone _ k _ (Nat.le_refl _) (by simp; omega) (hZe k W2 _ hze (.put hl rfl (by omega) _)) (hI k W2 _ hi (.put hl rfl (by omega) _)) ((World.putObj_heap_other (by omega)).trans hd)⟩
      · have hlt2 := (Array.getElem?_eq_some_iff.1 hl).1
        exact ⟨some c, _, run_endLoop (P := P) hl (by simp [rec']), hstop _ c k _ (Nat.le_refl _) (by simp; omega) (hIx c k W2 _ hi (.put hl rfl (by omega) _)) ((World.putObj_heap_other (by omega)).trans hd)⟩
end Go.Proofs.YtaejlcanccfmmaaGreatDoor
