/-
  The program's ShareFits, whole: it answers as the model does.
-/
import Derived.Test.YtomfooddehddhacZpy
import Derived.Test.YtomfooddehddhacZpt
import Derived.Test.YtomfooddehddhacZpg
import Derived.Test.YtomfooddehddhacZmi
namespace Go.Proofs.Ytomfooddehddhac
open Go.RowKit Go.Sort

theorem at_name {Bs : List DShareBatch} {x : ByteArray} {q : Nat} (h : atI Bs x = (q : Int)) (hq : q < Bs.length) : Bs[q].1 = x := by
  unfold atI idxI at h
  cases e : Bs.findIdx? (fun f => eqB f.1 x) with
  | none => rw [e] at h; simp only at h; omega
  | some i =>
    rw [e] at h
    simp only at h
    have hi : i = q := by omega
    subst hi
    obtain ⟨_, h1, _⟩ := List.findIdx?_eq_some_iff_getElem.1 e
    exact (eqB_iff _ _).1 h1

set_option maxRecDepth 100000 in
set_option maxHeartbeats 16000000 in
theorem fitsP_any (S : Nat → Prop) (T : List ByteArray) (Bs : List DShareBatch) (o0 oa : Option Addr) (n0 k0 nb kb : Nat) (SO : Nat → Prop) (O : List ByteArray) (oo : Option Addr) (no ko : Nat) (w : World) (h0 : AtL S w T (.slice o0 n0 k0)) (h1 : AtL S w Bs (.slice oa nb kb)) (hS : ∀ b, S b → b < w.heap.size) (_ : Lay.tot (α := DShareBook) (T, Bs) ≤ 1048576) (hO : AtL SO w O (.slice oo no ko)) (hSO : ∀ b, SO b → b < w.heap.size) (_ : totL O ≤ 1048576) :
    Calls Try.prog 9 #[.agg #[.slice o0 n0 k0, .slice oa nb kb], .slice oo no ko] w fun e w' => e = .returned (.bool (fitsB (T, Bs) O)) ∧ Below w.heap.size w w' := by
  have H0 : Hid (∀ u, Below w.heap.size w u → AtL S u T (.slice o0 n0 k0)) := fun u hu => h0.same (Same.of_below hu hS)
  have H1 : Hid (∀ u, Below w.heap.size w u → AtL S u Bs (.slice oa nb kb)) := fun u hu => h1.same (Same.of_below hu hS)
  have HO : Hid (∀ u, Below w.heap.size w u → AtL SO u O (.slice oo no ko)) := fun u hu => hO.same (Same.of_below hu hSO)
  have HS : Hid (∀ u, Below w.heap.size w u → ∀ b, S b → b < u.heap.size) := fun u hu b hb => Nat.lt_of_lt_of_le (hS b hb) hu.size
  have enb : Bs.length = nb := by obtain ⟨_, _, e, _⟩ := h1; cases e; rfl
  have ENB : Hid (Bs.length ≤ nb ∧ nb ≤ Bs.length) := ⟨by omega, by omega⟩
  have eno : O.length = no := by obtain ⟨_, _, e, _⟩ := hO; cases e; rfl
  have ENO : Hid (O.length ≤ no ∧ no ≤ O.length) := ⟨by omega, by omega⟩
  have hmo : no ≤ maxLen := by rw [← eno]; obtain ⟨_, _, _, h, _⟩ := hO; exact h.1
  unfold maxLen at hmo
  clear h0 h1 hO enb eno
  obtain ⟨W, hW⟩ : ∃ W, W = w.alloc (.cells #[.slice o0 n0 k0, .slice oa nb kb] 31) := ⟨_, rfl⟩
  have EW : Hid (W = w.alloc (.cells #[.slice o0 n0 k0, .slice oa nb kb] 31)) := hW
  have BW : Hid (Below w.heap.size w W) := by rw [hW]; exact (Below.refl _ _).alloc (Nat.le_refl _) _
  have RW : Hid (W.heap[w.heap.size]? = some (.cells #[.slice o0 n0 k0, .slice oa nb kb] 31 (0, 0))) := by rw [hW]; exact heap_alloc_new w _
  have sW : w.heap.size + 1 ≤ W.heap.size := by rw [hW]; simp
  clear hW
  have BOX : Hid (∀ u, Below W.heap.size W u → u.heap[w.heap.size]? = some (.cells #[.slice o0 n0 k0, .slice oa nb kb] 31 (0, 0)) ∧ Below w.heap.size w u) := fun u hu => ⟨(hu.block _ (by omega)).trans RW.out, BW.out.trans (hu.mono (by omega))⟩
  have y0 := (cell_row (BOX.out W (Below.refl _ _)).1 0 (.slice o0 n0 k0) rfl).1
  have y1 := (cell_row (BOX.out W (Below.refl _ _)).1 1 (.slice oa nb kb) rfl).1
  go_enter Try.func9, Try.ntmps9
  go_upto_region 1 with fail
  rw [← EW.out]
  go_wp2_with fail
  refine (bookP_any S T Bs _ _ _ _ _ _ W (H0.out W BW.out) (H1.out W BW.out) (HS.out W BW.out)).mono ?_; rintro e u1 ⟨rfl, hb1⟩
  have B1 : Hid (Below W.heap.size W u1) := hb1
  clear hb1 y0 y1
  cases hB : bokB (T, Bs)
  · go_wp2_with fail
    go_ret
    rw [show fitsB (T, Bs) O = false by unfold fitsB; rw [hB]; rfl]
    exact ⟨rfl, (BOX.out u1 B1.out).2⟩
  have y0 := (cell_row (BOX.out u1 B1.out).1 0 (.slice o0 n0 k0) rfl).1
  have y1 := (cell_row (BOX.out u1 B1.out).1 1 (.slice oa nb kb) rfl).1
  by_cases hlen : no = nb
  case neg =>
    have hne : ((no : Int) != (nb : Int)) = true := by simp; omega
    have EF : Hid (fitsB (T, Bs) O = false) := by
      show _ = _
      unfold fitsB
      rw [show decide (O.length = (T, Bs).2.length) = false by have := ENB.out; have := ENO.out; simp; omega]
      simp
    go_wp2_with fail
    go_ret
    rw [EF.out]
    exact ⟨rfl, (BOX.out u1 B1.out).2⟩
  have HLE : Hid (O.length = Bs.length) := by have := ENB.out; have := ENO.out; show _ = _; omega
  have hne : ((no : Int) != (nb : Int)) = false := by simp; omega
  have OK : Hid (BokP (T, Bs)) := bok_iff.1 hB
  have EB : Hid (bokB (T, Bs) = true) := hB
  clear hlen hB
  go_wp2_with fail
  refine (leavingOf_any S T Bs _ _ _ _ _ _ u1 (H0.out u1 (BOX.out u1 B1.out).2) (H1.out u1 (BOX.out u1 B1.out).2) (HS.out u1 (BOX.out u1 B1.out).2) OK.out).mono ?_; rintro e u2 ⟨g, v, rfl, hl, hb2⟩
  have L2 : Hid (Lv u1.heap.size u2 g v (lvL T Bs (O.take 0)) (freM T Bs (O.take 0))) := hl
  have B2 : Hid (Below u1.heap.size u1 u2) := hb2
  clear hl hb2 y0 y1 hne
  go_wp2_with fail
  go_loopw [24] (fun i wr => ∃ k : Nat, k ≤ no ∧ i = .int .i64 k ∧ Hid (Lv u1.heap.size wr g v (lvL T Bs (O.take k)) (freM T Bs (O.take k))) ∧ Hid (∀ j, j < k → fitB Bs O j = true) ∧ Hid (Below u1.heap.size u1 wr)) (fun i _ => no - (intOf i).toNat)
  case atStart => exact ⟨0, Nat.zero_le _, rfl, L2, fun _ h => by omega, B2⟩
  case round =>
    obtain ⟨k, hk, rfl, hlv, hall, hbel⟩ := hrel
    have BWr : Hid (Below W.heap.size W wr) := B1.out.trans (hbel.out.mono B1.out.size)
    have bwr := (BOX.out wr BWr.out).2
    by_cases hlt : k < no
    case neg =>
      go_wp2_with fail
      go_ret
      rw [fits_yes EB.out HLE.out (fun i hi => hall.out i (by have := ENO.out; omega))]
      exact ⟨rfl, bwr⟩
    have hkO : k < O.length := by have := ENO.out; omega
    obtain ⟨b1, off1, rfl, _, x0⟩ := atl_str (HO.out wr bwr) k hkO
    obtain ⟨x, ex⟩ : ∃ x, O[k] = x := ⟨_, rfl⟩
    rw [ex] at x0
    have EO : Hid (O[k]?.getD default = x) := by show _ = _; rw [List.getElem?_eq_getElem hkO, ← ex]; rfl
    have ET : Hid (O.take (k + 1) = O.take k ++ [x]) := by show _ = _; rw [List.take_succ_eq_append_getElem hkO, ex]
    clear ex
    have y0 := (cell_row (BOX.out wr BWr.out).1 0 (.slice o0 n0 k0) rfl).1
    have y1 := (cell_row (BOX.out wr BWr.out).1 1 (.slice oa nb kb) rfl).1
    have CA : Hid (Calls Try.prog 20 #[.agg #[.slice o0 n0 k0, .slice oa nb kb], .string x] wr fun e w' => e = .returned (.int .i64 (atI Bs x)) ∧ Below wr.heap.size wr w') := batchAtI_any S _ _ Bs x wr (H1.out wr bwr) (HS.out wr bwr)
    go_wp2_with fail
    refine CA.out.mono ?_; rintro e u3 ⟨rfl, hb3⟩
    have L3 : Hid (Lv u1.heap.size u3 g v (lvL T Bs (O.take k)) (freM T Bs (O.take k))) := hlv.out.below hb3
    have B3 : Hid (Below u1.heap.size u1 u3) := hbel.out.trans (hb3.mono hbel.out.size)
    clear hb3 y0 y1 x0 CA
    by_cases hneg : atI Bs x < 0
    · have EF : Hid (fitsB (T, Bs) O = false) := fits_no hkO (by unfold fitB; rw [EO.out, decide_eq_true hneg]; rfl)
      go_wp2_with fail
      go_ret
      rw [EF.out]
      exact ⟨rfl, (BOX.out u3 (B1.out.trans (B3.out.mono B1.out.size))).2⟩
    obtain ⟨q, eq, hqb⟩ := at_lt hneg
    have hnm := at_name eq hqb
    have EFB : Hid (fitB Bs O k = (!(hasB (O.take k) Bs[q].1) && canB Bs q (O.take k))) := by
      show _ = _
      unfold fitB
      rw [EO.out, decide_eq_false hneg, eq, Int.toNat_natCast, hnm]; rfl
    rw [eq]
    have hng0 : ¬ ((q : Int) < 0) := by omega
    have hqL : q < (lvL T Bs (O.take k)).length := by rw [lv_len]; exact hqb
    have eL := lv_at T (O.take k) hqb
    have N8 := (bok_things OK.out).1
    have CG : Hid (Calls Try.prog 21 #[.pointer (some ⟨g, 0, none⟩), .int .i64 q] u3 fun e w' => e = .returned (.bool (fitB Bs O k)) ∧ Below u3.heap.size u3 w') := by
      have := canGo_any _ g v _ _ q u3 L3.out hqL (by rw [eL]; exact hasM_lt N8 _) (by rw [eL]; exact hasM_lt N8 _) (freM_lt N8 _ _)
      rw [eL, go_can OK.out hqb, ← EFB.out] at this
      exact this
    clear hneg eq
    go_wp2_with fail
    refine CG.out.mono ?_; rintro e u4 ⟨rfl, hb4⟩
    have L4 : Hid (Lv u1.heap.size u4 g v (lvL T Bs (O.take k)) (freM T Bs (O.take k))) := L3.out.below hb4
    have B4 : Hid (Below u1.heap.size u1 u4) := B3.out.trans (hb4.mono B3.out.size)
    clear hb4 CG L3
    cases hfit : fitB Bs O k
    · have EF : Hid (fitsB (T, Bs) O = false) := fits_no hkO hfit
      go_wp2_with fail
      go_ret
      rw [EF.out]
      exact ⟨rfl, (BOX.out u4 (B1.out.trans (B4.out.mono B1.out.size))).2⟩
    have hgq : hasB (O.take k) Bs[q].1 = false := by
      have := EFB.out
      rw [hfit] at this
      cases e : hasB (O.take k) Bs[q].1
      · rfl
      · rw [e] at this; cases this
    have CL : Hid (Calls Try.prog 22 #[.pointer (some ⟨g, 0, none⟩), .int .i64 q] u4 fun e w' => e = .returned (.tuple #[]) ∧ Lv u1.heap.size w' g v (lvL T Bs (O.take (k + 1))) (freM T Bs (O.take (k + 1))) ∧ But (lvS g v) u4 w') := by
      refine (letGo_any _ g v _ _ q u4 L4.out hqL (by rw [eL]; exact hasM_lt N8 _) (freM_lt N8 _ _)).mono fun e w' ⟨h1, h2, h3⟩ => ⟨h1, ?_, h3⟩
      rw [eL] at h2
      rw [ET.out, ← hnm]
      exact Lv.gone OK.out hqb hgq h2
    have HFT : Hid (fitB Bs O k = true) := hfit
    clear hfit hgq eL hqL hnm
    go_wp2_with fail
    refine CL.out.mono ?_; rintro e u5 ⟨rfl, h5, hb5⟩
    have L5 : Hid (Lv u1.heap.size u5 g v (lvL T Bs (O.take (k + 1))) (freM T Bs (O.take (k + 1)))) := h5
    have B5 : Hid (Below u1.heap.size u1 u5) := B4.out.trans (hb5.below L4.out.set_low B4.out.size)
    clear h5 hb5 CL
    go_wp2_with fail
    go_roundw
    case rel => exact ⟨k + 1, by omega, by go_num, L5, fun j hj => by
      by_cases e : j = k
      · subst e; exact HFT.out
      · exact hall.out j (by omega), B5⟩
    case measure => simp [intOf]; omega

end Go.Proofs.Ytomfooddehddhac
